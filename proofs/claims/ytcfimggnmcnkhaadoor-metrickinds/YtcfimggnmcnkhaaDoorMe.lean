/-
  Each sign below 7f, by its kind.
-/
import Derived.Test.YtcfimggnmcnkhaaDoorMd
set_option linter.all false
namespace Go.Proofs.YtcfimggnmcnkhaaDoor
open Go.RowKit Go.Sort Go.Shelf
attribute [local go_sem] Oper.semAt_some

theorem buildU1m (v : Int) (w : World) : (Instr.buildSlice 30 1 #[(0, .int .u8 v)]).run Tryd.prog w = .ok (.slice (some ⟨w.heap.size, 0, none⟩) 1 1) (w.alloc (.cells #[.int .u8 v] 5)) := by kernel_rfl
theorem wpList_bU1 {ops : Array Oper} {rest : List Oper} {o : Oper} {a : Act} {w : World} {Q : Exit → Act → World → Prop} (hgd : o.guard = none) (x : Operand) (ho : o.op = .buildSlice 30 1 #[(0, x)]) (y : UInt8) (K : Int) (hy : (y.toNat : Int) = K) (hx : a.eval x = .int .u8 K)
    (h : ∀ g w', SlU w' (some ⟨g, 0, none⟩) 1 1 [y] → Keeps (fun _ => False) w w' → wpList Tryd.prog ops Q rest (a.put o.dst (.slice (some ⟨g, 0, none⟩) 1 1)) w') : wpList Tryd.prog ops Q (o :: rest) a w := by
  refine wpList_plain hgd fun K hK => ?_
  unfold Oper.wp execOp
  simp only [ho, hx, List.map_toArray, List.map_cons, List.map_nil, buildU1m, Sem.run_bind, Result.andThen_ok, Sem.run_pure]
  refine hK _ _ (h w.heap.size _ (SlU.row (l := [y]) (ty := 5) (fr := (0, 0)) ?_) (keeps_alloc w _))
  rw [heap_alloc_new w _, ← hy]
  rfl

/-- One sign's text. -/
structure One (S : ByteArray) (y : UInt8) (K N : Int) : Prop where
  s : (⟨[y].toArray⟩ : ByteArray) = S
  n : (y.toNat : Int) = K
  w : wid K = N
  one : wids (sg S.data.toList) = N
  two : wids (sg (S ++ S).data.toList) = 2 * N
  z : S.size = 1
  ne : ∀ c : UInt8, (S.toList == (⟨#[c]⟩ : ByteArray).toList) = decide (K = (c.toNat : Int))
theorem one_of {K : Int} (h0 : 0 ≤ K) (h1 : K < 127) : ∃ S y, One S y K (wid K) := by
  have hS : isS K := ⟨h0, by omega, by omega⟩
  have e : Lib.encodeRune K = [K.toNat.toUInt8] := by simp [Lib.encodeRune, Lib.encodeRuneZ_one h0 (by omega)]
  have hy : ((K.toNat.toUInt8).toNat : Int) = K := by have := u8n h0 (x := K) (by omega); omega
  have hd : encs [K] = [K.toNat.toUInt8] := by rw [encs_cons, encs_nil, List.append_nil, e]
  have hall : allS [K] := fun v hv => by obtain rfl : v = K := by simpa using hv
                                         exact hS
  obtain ⟨g1, g2⟩ := sg_encs hall
  rw [hd] at g1 g2
  refine ⟨_, _, rfl, hy, rfl, ?_, ?_, rfl, fun c => ?_⟩
  · show wids (sg [K.toNat.toUInt8]) = _
    rw [g2, wids_one]
  · rw [app_data]
    show wids (sg ([K.toNat.toUInt8] ++ [K.toNat.toUInt8])) = _
    rw [sg_app2 g1 g1, wids_app, g2, wids_one]; omega
  · rw [ByteArray.toList_eq, ByteArray.toList_eq]
    show ([K.toNat.toUInt8] == [c]) = _
    rw [Bool.eq_iff_iff, beq_iff_eq, decide_eq_true_eq]
    refine ⟨fun h => ?_, fun h => ?_⟩
    · cases h; exact hy.symm
    · rw [h]; simp

set_option maxRecDepth 100000 in
set_option maxHeartbeats 1000000 in
theorem kind_105 (w : World) (hT : Lib.Utf8Tabs 0 1 w) (v : Int) (hv : 0 ≤ v ∧ v ≤ 255) (hK : v % 127 = 105) (S : ByteArray) (y : UInt8) (h : One S y 105 3) :
    Calls Tryd.prog 5 #[.int .u8 v] w fun e w' => e = .returned (.bool true) ∧ Keeps (fun _ => False) w w' := by
  obtain ⟨hv0, hv1⟩ := hv
  obtain ⟨K, hKK⟩ : ∃ K : Int, K = 105 := ⟨_, rfl⟩
  obtain ⟨hs, hn, hw1, ho1, ho2, hz, hne⟩ := h
  have q1 := fun W => sign_at hw1 W
  have q2 := text_at ho1
  have q3 := text_at ho2
  have z1 : S.size ≤ 100000 := by omega
  have z2 : (S ++ S).size ≤ 100000 := by rw [app_sz]; omega
  have HN : Hid ((y.toNat : Int) = 105) := hn
  have HS : Hid ((⟨[y].toArray⟩ : ByteArray) = S) := hs
  obtain ⟨c105, hc105⟩ : ∃ c : ByteArray, c = ⟨#[105]⟩ := ⟨_, rfl⟩
  have e105 : (S.toList == c105.toList) = true := by rw [hc105]; have h := hne 105; rw [h]; first | rfl | (rw [decide_eq_false_iff_not]; show (105 : Int) ≠ 105; omega)
  clear hKK
  clear hs hn hw1 ho1 ho2 hz hne
  have HT : Hid (Lib.Utf8Tabs 0 1 w) := hT
  clear hT
  go_enter Tryd.func5, Tryd.ntmps5
  rw [← hc105]
  clear hc105
  go_wp2_with (first
    | (go_at_call 7; refine (q1 _).mono ?_; rintro e w' ⟨rfl, rfl⟩)
    | (refine wpList_bU1 rfl _ rfl y _ HN.out rfl ?_; intro g w1 s1 k1; have hcv := conv_su s1; rw [HS.out] at hcv)
    | (go_at_call 9; have := K2; refine (q3 _ (Tabs.keep HT.out K2) z2).mono ?_; rintro e w3 ⟨rfl, k3⟩; have K3 := K2.trans k3)
    | (go_at_call 9; refine (q2 _ (Tabs.keep HT.out k1) z1).mono ?_; rintro e w2 ⟨rfl, k2⟩; have K2 := k1.trans k2)
    | (go_at_call 6; refine (wakes6 _ (Tabs.keep HT.out K3)).mono ?_; rintro e w4 ⟨rfl, k4⟩))
  go_ret
  exact ⟨rfl, K3.trans k4⟩

set_option maxRecDepth 100000 in
set_option maxHeartbeats 1000000 in
theorem kind_106 (w : World) (hT : Lib.Utf8Tabs 0 1 w) (v : Int) (hv : 0 ≤ v ∧ v ≤ 255) (hK : v % 127 = 106) (S : ByteArray) (y : UInt8) (h : One S y 106 3) :
    Calls Tryd.prog 5 #[.int .u8 v] w fun e w' => e = .returned (.bool true) ∧ Keeps (fun _ => False) w w' := by
  obtain ⟨hv0, hv1⟩ := hv
  obtain ⟨K, hKK⟩ : ∃ K : Int, K = 106 := ⟨_, rfl⟩
  obtain ⟨hs, hn, hw1, ho1, ho2, hz, hne⟩ := h
  have q1 := fun W => sign_at hw1 W
  have q2 := text_at ho1
  have q3 := text_at ho2
  have z1 : S.size ≤ 100000 := by omega
  have z2 : (S ++ S).size ≤ 100000 := by rw [app_sz]; omega
  have HN : Hid ((y.toNat : Int) = 106) := hn
  have HS : Hid ((⟨[y].toArray⟩ : ByteArray) = S) := hs
  obtain ⟨c105, hc105⟩ : ∃ c : ByteArray, c = ⟨#[105]⟩ := ⟨_, rfl⟩
  have e105 : (S.toList == c105.toList) = false := by rw [hc105]; have h := hne 105; rw [h]; first | rfl | (rw [decide_eq_false_iff_not]; show (106 : Int) ≠ 105; omega)
  obtain ⟨c106, hc106⟩ : ∃ c : ByteArray, c = ⟨#[106]⟩ := ⟨_, rfl⟩
  have e106 : (S.toList == c106.toList) = true := by rw [hc106]; have h := hne 106; rw [h]; first | rfl | (rw [decide_eq_false_iff_not]; show (106 : Int) ≠ 106; omega)
  clear hKK
  clear hs hn hw1 ho1 ho2 hz hne
  have HT : Hid (Lib.Utf8Tabs 0 1 w) := hT
  clear hT
  go_enter Tryd.func5, Tryd.ntmps5
  rw [← hc105, ← hc106]
  clear hc105 hc106
  go_wp2_with (first
    | (go_at_call 7; refine (q1 _).mono ?_; rintro e w' ⟨rfl, rfl⟩)
    | (refine wpList_bU1 rfl _ rfl y _ HN.out rfl ?_; intro g w1 s1 k1; have hcv := conv_su s1; rw [HS.out] at hcv)
    | (go_at_call 9; have := K2; refine (q3 _ (Tabs.keep HT.out K2) z2).mono ?_; rintro e w3 ⟨rfl, k3⟩; have K3 := K2.trans k3)
    | (go_at_call 9; refine (q2 _ (Tabs.keep HT.out k1) z1).mono ?_; rintro e w2 ⟨rfl, k2⟩; have K2 := k1.trans k2)
    | (go_at_call 6; refine (wakes6 _ (Tabs.keep HT.out K3)).mono ?_; rintro e w4 ⟨rfl, k4⟩))
  go_ret
  exact ⟨rfl, K3.trans k4⟩

set_option maxRecDepth 100000 in
set_option maxHeartbeats 1000000 in
theorem kind_108 (w : World) (hT : Lib.Utf8Tabs 0 1 w) (v : Int) (hv : 0 ≤ v ∧ v ≤ 255) (hK : v % 127 = 108) (S : ByteArray) (y : UInt8) (h : One S y 108 3) :
    Calls Tryd.prog 5 #[.int .u8 v] w fun e w' => e = .returned (.bool true) ∧ Keeps (fun _ => False) w w' := by
  obtain ⟨hv0, hv1⟩ := hv
  obtain ⟨K, hKK⟩ : ∃ K : Int, K = 108 := ⟨_, rfl⟩
  obtain ⟨hs, hn, hw1, ho1, ho2, hz, hne⟩ := h
  have q1 := fun W => sign_at hw1 W
  have q2 := text_at ho1
  have q3 := text_at ho2
  have z1 : S.size ≤ 100000 := by omega
  have z2 : (S ++ S).size ≤ 100000 := by rw [app_sz]; omega
  have HN : Hid ((y.toNat : Int) = 108) := hn
  have HS : Hid ((⟨[y].toArray⟩ : ByteArray) = S) := hs
  obtain ⟨c105, hc105⟩ : ∃ c : ByteArray, c = ⟨#[105]⟩ := ⟨_, rfl⟩
  have e105 : (S.toList == c105.toList) = false := by rw [hc105]; have h := hne 105; rw [h]; first | rfl | (rw [decide_eq_false_iff_not]; show (108 : Int) ≠ 105; omega)
  obtain ⟨c106, hc106⟩ : ∃ c : ByteArray, c = ⟨#[106]⟩ := ⟨_, rfl⟩
  have e106 : (S.toList == c106.toList) = false := by rw [hc106]; have h := hne 106; rw [h]; first | rfl | (rw [decide_eq_false_iff_not]; show (108 : Int) ≠ 106; omega)
  obtain ⟨c108, hc108⟩ : ∃ c : ByteArray, c = ⟨#[108]⟩ := ⟨_, rfl⟩
  have e108 : (S.toList == c108.toList) = true := by rw [hc108]; have h := hne 108; rw [h]; first | rfl | (rw [decide_eq_false_iff_not]; show (108 : Int) ≠ 108; omega)
  clear hKK
  clear hs hn hw1 ho1 ho2 hz hne
  have HT : Hid (Lib.Utf8Tabs 0 1 w) := hT
  clear hT
  go_enter Tryd.func5, Tryd.ntmps5
  rw [← hc105, ← hc106, ← hc108]
  clear hc105 hc106 hc108
  go_wp2_with (first
    | (go_at_call 7; refine (q1 _).mono ?_; rintro e w' ⟨rfl, rfl⟩)
    | (refine wpList_bU1 rfl _ rfl y _ HN.out rfl ?_; intro g w1 s1 k1; have hcv := conv_su s1; rw [HS.out] at hcv)
    | (go_at_call 9; have := K2; refine (q3 _ (Tabs.keep HT.out K2) z2).mono ?_; rintro e w3 ⟨rfl, k3⟩; have K3 := K2.trans k3)
    | (go_at_call 9; refine (q2 _ (Tabs.keep HT.out k1) z1).mono ?_; rintro e w2 ⟨rfl, k2⟩; have K2 := k1.trans k2)
    | (go_at_call 6; refine (wakes6 _ (Tabs.keep HT.out K3)).mono ?_; rintro e w4 ⟨rfl, k4⟩))
  go_ret
  exact ⟨rfl, K3.trans k4⟩

set_option maxRecDepth 100000 in
set_option maxHeartbeats 1000000 in
theorem kind_33 (w : World) (hT : Lib.Utf8Tabs 0 1 w) (v : Int) (hv : 0 ≤ v ∧ v ≤ 255) (hK : v % 127 = 33) (S : ByteArray) (y : UInt8) (h : One S y 33 3) :
    Calls Tryd.prog 5 #[.int .u8 v] w fun e w' => e = .returned (.bool true) ∧ Keeps (fun _ => False) w w' := by
  obtain ⟨hv0, hv1⟩ := hv
  obtain ⟨K, hKK⟩ : ∃ K : Int, K = 33 := ⟨_, rfl⟩
  obtain ⟨hs, hn, hw1, ho1, ho2, hz, hne⟩ := h
  have q1 := fun W => sign_at hw1 W
  have q2 := text_at ho1
  have q3 := text_at ho2
  have z1 : S.size ≤ 100000 := by omega
  have z2 : (S ++ S).size ≤ 100000 := by rw [app_sz]; omega
  have HN : Hid ((y.toNat : Int) = 33) := hn
  have HS : Hid ((⟨[y].toArray⟩ : ByteArray) = S) := hs
  obtain ⟨c105, hc105⟩ : ∃ c : ByteArray, c = ⟨#[105]⟩ := ⟨_, rfl⟩
  have e105 : (S.toList == c105.toList) = false := by rw [hc105]; have h := hne 105; rw [h]; first | rfl | (rw [decide_eq_false_iff_not]; show (33 : Int) ≠ 105; omega)
  obtain ⟨c106, hc106⟩ : ∃ c : ByteArray, c = ⟨#[106]⟩ := ⟨_, rfl⟩
  have e106 : (S.toList == c106.toList) = false := by rw [hc106]; have h := hne 106; rw [h]; first | rfl | (rw [decide_eq_false_iff_not]; show (33 : Int) ≠ 106; omega)
  obtain ⟨c108, hc108⟩ : ∃ c : ByteArray, c = ⟨#[108]⟩ := ⟨_, rfl⟩
  have e108 : (S.toList == c108.toList) = false := by rw [hc108]; have h := hne 108; rw [h]; first | rfl | (rw [decide_eq_false_iff_not]; show (33 : Int) ≠ 108; omega)
  obtain ⟨c33, hc33⟩ : ∃ c : ByteArray, c = ⟨#[33]⟩ := ⟨_, rfl⟩
  have e33 : (S.toList == c33.toList) = true := by rw [hc33]; have h := hne 33; rw [h]; first | rfl | (rw [decide_eq_false_iff_not]; show (33 : Int) ≠ 33; omega)
  clear hKK
  clear hs hn hw1 ho1 ho2 hz hne
  have HT : Hid (Lib.Utf8Tabs 0 1 w) := hT
  clear hT
  go_enter Tryd.func5, Tryd.ntmps5
  rw [← hc105, ← hc106, ← hc108, ← hc33]
  clear hc105 hc106 hc108 hc33
  go_wp2_with (first
    | (go_at_call 7; refine (q1 _).mono ?_; rintro e w' ⟨rfl, rfl⟩)
    | (refine wpList_bU1 rfl _ rfl y _ HN.out rfl ?_; intro g w1 s1 k1; have hcv := conv_su s1; rw [HS.out] at hcv)
    | (go_at_call 9; have := K2; refine (q3 _ (Tabs.keep HT.out K2) z2).mono ?_; rintro e w3 ⟨rfl, k3⟩; have K3 := K2.trans k3)
    | (go_at_call 9; refine (q2 _ (Tabs.keep HT.out k1) z1).mono ?_; rintro e w2 ⟨rfl, k2⟩; have K2 := k1.trans k2)
    | (go_at_call 6; refine (wakes6 _ (Tabs.keep HT.out K3)).mono ?_; rintro e w4 ⟨rfl, k4⟩))
  go_ret
  exact ⟨rfl, K3.trans k4⟩

set_option maxRecDepth 100000 in
set_option maxHeartbeats 1000000 in
theorem kind_124 (w : World) (hT : Lib.Utf8Tabs 0 1 w) (v : Int) (hv : 0 ≤ v ∧ v ≤ 255) (hK : v % 127 = 124) (S : ByteArray) (y : UInt8) (h : One S y 124 3) :
    Calls Tryd.prog 5 #[.int .u8 v] w fun e w' => e = .returned (.bool true) ∧ Keeps (fun _ => False) w w' := by
  obtain ⟨hv0, hv1⟩ := hv
  obtain ⟨K, hKK⟩ : ∃ K : Int, K = 124 := ⟨_, rfl⟩
  obtain ⟨hs, hn, hw1, ho1, ho2, hz, hne⟩ := h
  have q1 := fun W => sign_at hw1 W
  have q2 := text_at ho1
  have q3 := text_at ho2
  have z1 : S.size ≤ 100000 := by omega
  have z2 : (S ++ S).size ≤ 100000 := by rw [app_sz]; omega
  have HN : Hid ((y.toNat : Int) = 124) := hn
  have HS : Hid ((⟨[y].toArray⟩ : ByteArray) = S) := hs
  obtain ⟨c105, hc105⟩ : ∃ c : ByteArray, c = ⟨#[105]⟩ := ⟨_, rfl⟩
  have e105 : (S.toList == c105.toList) = false := by rw [hc105]; have h := hne 105; rw [h]; first | rfl | (rw [decide_eq_false_iff_not]; show (124 : Int) ≠ 105; omega)
  obtain ⟨c106, hc106⟩ : ∃ c : ByteArray, c = ⟨#[106]⟩ := ⟨_, rfl⟩
  have e106 : (S.toList == c106.toList) = false := by rw [hc106]; have h := hne 106; rw [h]; first | rfl | (rw [decide_eq_false_iff_not]; show (124 : Int) ≠ 106; omega)
  obtain ⟨c108, hc108⟩ : ∃ c : ByteArray, c = ⟨#[108]⟩ := ⟨_, rfl⟩
  have e108 : (S.toList == c108.toList) = false := by rw [hc108]; have h := hne 108; rw [h]; first | rfl | (rw [decide_eq_false_iff_not]; show (124 : Int) ≠ 108; omega)
  obtain ⟨c33, hc33⟩ : ∃ c : ByteArray, c = ⟨#[33]⟩ := ⟨_, rfl⟩
  have e33 : (S.toList == c33.toList) = false := by rw [hc33]; have h := hne 33; rw [h]; first | rfl | (rw [decide_eq_false_iff_not]; show (124 : Int) ≠ 33; omega)
  obtain ⟨c124, hc124⟩ : ∃ c : ByteArray, c = ⟨#[124]⟩ := ⟨_, rfl⟩
  have e124 : (S.toList == c124.toList) = true := by rw [hc124]; have h := hne 124; rw [h]; first | rfl | (rw [decide_eq_false_iff_not]; show (124 : Int) ≠ 124; omega)
  clear hKK
  clear hs hn hw1 ho1 ho2 hz hne
  have HT : Hid (Lib.Utf8Tabs 0 1 w) := hT
  clear hT
  go_enter Tryd.func5, Tryd.ntmps5
  rw [← hc105, ← hc106, ← hc108, ← hc33, ← hc124]
  clear hc105 hc106 hc108 hc33 hc124
  go_wp2_with (first
    | (go_at_call 7; refine (q1 _).mono ?_; rintro e w' ⟨rfl, rfl⟩)
    | (refine wpList_bU1 rfl _ rfl y _ HN.out rfl ?_; intro g w1 s1 k1; have hcv := conv_su s1; rw [HS.out] at hcv)
    | (go_at_call 9; have := K2; refine (q3 _ (Tabs.keep HT.out K2) z2).mono ?_; rintro e w3 ⟨rfl, k3⟩; have K3 := K2.trans k3)
    | (go_at_call 9; refine (q2 _ (Tabs.keep HT.out k1) z1).mono ?_; rintro e w2 ⟨rfl, k2⟩; have K2 := k1.trans k2)
    | (go_at_call 6; refine (wakes6 _ (Tabs.keep HT.out K3)).mono ?_; rintro e w4 ⟨rfl, k4⟩))
  go_ret
  exact ⟨rfl, K3.trans k4⟩

set_option maxRecDepth 100000 in
set_option maxHeartbeats 1000000 in
theorem kind_46 (w : World) (hT : Lib.Utf8Tabs 0 1 w) (v : Int) (hv : 0 ≤ v ∧ v ≤ 255) (hK : v % 127 = 46) (S : ByteArray) (y : UInt8) (h : One S y 46 3) :
    Calls Tryd.prog 5 #[.int .u8 v] w fun e w' => e = .returned (.bool true) ∧ Keeps (fun _ => False) w w' := by
  obtain ⟨hv0, hv1⟩ := hv
  obtain ⟨K, hKK⟩ : ∃ K : Int, K = 46 := ⟨_, rfl⟩
  obtain ⟨hs, hn, hw1, ho1, ho2, hz, hne⟩ := h
  have q1 := fun W => sign_at hw1 W
  have q2 := text_at ho1
  have q3 := text_at ho2
  have z1 : S.size ≤ 100000 := by omega
  have z2 : (S ++ S).size ≤ 100000 := by rw [app_sz]; omega
  have HN : Hid ((y.toNat : Int) = 46) := hn
  have HS : Hid ((⟨[y].toArray⟩ : ByteArray) = S) := hs
  obtain ⟨c105, hc105⟩ : ∃ c : ByteArray, c = ⟨#[105]⟩ := ⟨_, rfl⟩
  have e105 : (S.toList == c105.toList) = false := by rw [hc105]; have h := hne 105; rw [h]; first | rfl | (rw [decide_eq_false_iff_not]; show (46 : Int) ≠ 105; omega)
  obtain ⟨c106, hc106⟩ : ∃ c : ByteArray, c = ⟨#[106]⟩ := ⟨_, rfl⟩
  have e106 : (S.toList == c106.toList) = false := by rw [hc106]; have h := hne 106; rw [h]; first | rfl | (rw [decide_eq_false_iff_not]; show (46 : Int) ≠ 106; omega)
  obtain ⟨c108, hc108⟩ : ∃ c : ByteArray, c = ⟨#[108]⟩ := ⟨_, rfl⟩
  have e108 : (S.toList == c108.toList) = false := by rw [hc108]; have h := hne 108; rw [h]; first | rfl | (rw [decide_eq_false_iff_not]; show (46 : Int) ≠ 108; omega)
  obtain ⟨c33, hc33⟩ : ∃ c : ByteArray, c = ⟨#[33]⟩ := ⟨_, rfl⟩
  have e33 : (S.toList == c33.toList) = false := by rw [hc33]; have h := hne 33; rw [h]; first | rfl | (rw [decide_eq_false_iff_not]; show (46 : Int) ≠ 33; omega)
  obtain ⟨c124, hc124⟩ : ∃ c : ByteArray, c = ⟨#[124]⟩ := ⟨_, rfl⟩
  have e124 : (S.toList == c124.toList) = false := by rw [hc124]; have h := hne 124; rw [h]; first | rfl | (rw [decide_eq_false_iff_not]; show (46 : Int) ≠ 124; omega)
  obtain ⟨c46, hc46⟩ : ∃ c : ByteArray, c = ⟨#[46]⟩ := ⟨_, rfl⟩
  have e46 : (S.toList == c46.toList) = true := by rw [hc46]; have h := hne 46; rw [h]; first | rfl | (rw [decide_eq_false_iff_not]; show (46 : Int) ≠ 46; omega)
  clear hKK
  clear hs hn hw1 ho1 ho2 hz hne
  have HT : Hid (Lib.Utf8Tabs 0 1 w) := hT
  clear hT
  go_enter Tryd.func5, Tryd.ntmps5
  rw [← hc105, ← hc106, ← hc108, ← hc33, ← hc124, ← hc46]
  clear hc105 hc106 hc108 hc33 hc124 hc46
  go_wp2_with (first
    | (go_at_call 7; refine (q1 _).mono ?_; rintro e w' ⟨rfl, rfl⟩)
    | (refine wpList_bU1 rfl _ rfl y _ HN.out rfl ?_; intro g w1 s1 k1; have hcv := conv_su s1; rw [HS.out] at hcv)
    | (go_at_call 9; have := K2; refine (q3 _ (Tabs.keep HT.out K2) z2).mono ?_; rintro e w3 ⟨rfl, k3⟩; have K3 := K2.trans k3)
    | (go_at_call 9; refine (q2 _ (Tabs.keep HT.out k1) z1).mono ?_; rintro e w2 ⟨rfl, k2⟩; have K2 := k1.trans k2)
    | (go_at_call 6; refine (wakes6 _ (Tabs.keep HT.out K3)).mono ?_; rintro e w4 ⟨rfl, k4⟩))
  go_ret
  exact ⟨rfl, K3.trans k4⟩

set_option maxRecDepth 100000 in
set_option maxHeartbeats 1000000 in
theorem kind_44 (w : World) (hT : Lib.Utf8Tabs 0 1 w) (v : Int) (hv : 0 ≤ v ∧ v ≤ 255) (hK : v % 127 = 44) (S : ByteArray) (y : UInt8) (h : One S y 44 3) :
    Calls Tryd.prog 5 #[.int .u8 v] w fun e w' => e = .returned (.bool true) ∧ Keeps (fun _ => False) w w' := by
  obtain ⟨hv0, hv1⟩ := hv
  obtain ⟨K, hKK⟩ : ∃ K : Int, K = 44 := ⟨_, rfl⟩
  obtain ⟨hs, hn, hw1, ho1, ho2, hz, hne⟩ := h
  have q1 := fun W => sign_at hw1 W
  have q2 := text_at ho1
  have q3 := text_at ho2
  have z1 : S.size ≤ 100000 := by omega
  have z2 : (S ++ S).size ≤ 100000 := by rw [app_sz]; omega
  have HN : Hid ((y.toNat : Int) = 44) := hn
  have HS : Hid ((⟨[y].toArray⟩ : ByteArray) = S) := hs
  obtain ⟨c105, hc105⟩ : ∃ c : ByteArray, c = ⟨#[105]⟩ := ⟨_, rfl⟩
  have e105 : (S.toList == c105.toList) = false := by rw [hc105]; have h := hne 105; rw [h]; first | rfl | (rw [decide_eq_false_iff_not]; show (44 : Int) ≠ 105; omega)
  obtain ⟨c106, hc106⟩ : ∃ c : ByteArray, c = ⟨#[106]⟩ := ⟨_, rfl⟩
  have e106 : (S.toList == c106.toList) = false := by rw [hc106]; have h := hne 106; rw [h]; first | rfl | (rw [decide_eq_false_iff_not]; show (44 : Int) ≠ 106; omega)
  obtain ⟨c108, hc108⟩ : ∃ c : ByteArray, c = ⟨#[108]⟩ := ⟨_, rfl⟩
  have e108 : (S.toList == c108.toList) = false := by rw [hc108]; have h := hne 108; rw [h]; first | rfl | (rw [decide_eq_false_iff_not]; show (44 : Int) ≠ 108; omega)
  obtain ⟨c33, hc33⟩ : ∃ c : ByteArray, c = ⟨#[33]⟩ := ⟨_, rfl⟩
  have e33 : (S.toList == c33.toList) = false := by rw [hc33]; have h := hne 33; rw [h]; first | rfl | (rw [decide_eq_false_iff_not]; show (44 : Int) ≠ 33; omega)
  obtain ⟨c124, hc124⟩ : ∃ c : ByteArray, c = ⟨#[124]⟩ := ⟨_, rfl⟩
  have e124 : (S.toList == c124.toList) = false := by rw [hc124]; have h := hne 124; rw [h]; first | rfl | (rw [decide_eq_false_iff_not]; show (44 : Int) ≠ 124; omega)
  obtain ⟨c46, hc46⟩ : ∃ c : ByteArray, c = ⟨#[46]⟩ := ⟨_, rfl⟩
  have e46 : (S.toList == c46.toList) = false := by rw [hc46]; have h := hne 46; rw [h]; first | rfl | (rw [decide_eq_false_iff_not]; show (44 : Int) ≠ 46; omega)
  obtain ⟨c44, hc44⟩ : ∃ c : ByteArray, c = ⟨#[44]⟩ := ⟨_, rfl⟩
  have e44 : (S.toList == c44.toList) = true := by rw [hc44]; have h := hne 44; rw [h]; first | rfl | (rw [decide_eq_false_iff_not]; show (44 : Int) ≠ 44; omega)
  clear hKK
  clear hs hn hw1 ho1 ho2 hz hne
  have HT : Hid (Lib.Utf8Tabs 0 1 w) := hT
  clear hT
  go_enter Tryd.func5, Tryd.ntmps5
  rw [← hc105, ← hc106, ← hc108, ← hc33, ← hc124, ← hc46, ← hc44]
  clear hc105 hc106 hc108 hc33 hc124 hc46 hc44
  go_wp2_with (first
    | (go_at_call 7; refine (q1 _).mono ?_; rintro e w' ⟨rfl, rfl⟩)
    | (refine wpList_bU1 rfl _ rfl y _ HN.out rfl ?_; intro g w1 s1 k1; have hcv := conv_su s1; rw [HS.out] at hcv)
    | (go_at_call 9; have := K2; refine (q3 _ (Tabs.keep HT.out K2) z2).mono ?_; rintro e w3 ⟨rfl, k3⟩; have K3 := K2.trans k3)
    | (go_at_call 9; refine (q2 _ (Tabs.keep HT.out k1) z1).mono ?_; rintro e w2 ⟨rfl, k2⟩; have K2 := k1.trans k2)
    | (go_at_call 6; refine (wakes6 _ (Tabs.keep HT.out K3)).mono ?_; rintro e w4 ⟨rfl, k4⟩))
  go_ret
  exact ⟨rfl, K3.trans k4⟩

set_option maxRecDepth 100000 in
set_option maxHeartbeats 1000000 in
theorem kind_58 (w : World) (hT : Lib.Utf8Tabs 0 1 w) (v : Int) (hv : 0 ≤ v ∧ v ≤ 255) (hK : v % 127 = 58) (S : ByteArray) (y : UInt8) (h : One S y 58 3) :
    Calls Tryd.prog 5 #[.int .u8 v] w fun e w' => e = .returned (.bool true) ∧ Keeps (fun _ => False) w w' := by
  obtain ⟨hv0, hv1⟩ := hv
  obtain ⟨K, hKK⟩ : ∃ K : Int, K = 58 := ⟨_, rfl⟩
  obtain ⟨hs, hn, hw1, ho1, ho2, hz, hne⟩ := h
  have q1 := fun W => sign_at hw1 W
  have q2 := text_at ho1
  have q3 := text_at ho2
  have z1 : S.size ≤ 100000 := by omega
  have z2 : (S ++ S).size ≤ 100000 := by rw [app_sz]; omega
  have HN : Hid ((y.toNat : Int) = 58) := hn
  have HS : Hid ((⟨[y].toArray⟩ : ByteArray) = S) := hs
  obtain ⟨c105, hc105⟩ : ∃ c : ByteArray, c = ⟨#[105]⟩ := ⟨_, rfl⟩
  have e105 : (S.toList == c105.toList) = false := by rw [hc105]; have h := hne 105; rw [h]; first | rfl | (rw [decide_eq_false_iff_not]; show (58 : Int) ≠ 105; omega)
  obtain ⟨c106, hc106⟩ : ∃ c : ByteArray, c = ⟨#[106]⟩ := ⟨_, rfl⟩
  have e106 : (S.toList == c106.toList) = false := by rw [hc106]; have h := hne 106; rw [h]; first | rfl | (rw [decide_eq_false_iff_not]; show (58 : Int) ≠ 106; omega)
  obtain ⟨c108, hc108⟩ : ∃ c : ByteArray, c = ⟨#[108]⟩ := ⟨_, rfl⟩
  have e108 : (S.toList == c108.toList) = false := by rw [hc108]; have h := hne 108; rw [h]; first | rfl | (rw [decide_eq_false_iff_not]; show (58 : Int) ≠ 108; omega)
  obtain ⟨c33, hc33⟩ : ∃ c : ByteArray, c = ⟨#[33]⟩ := ⟨_, rfl⟩
  have e33 : (S.toList == c33.toList) = false := by rw [hc33]; have h := hne 33; rw [h]; first | rfl | (rw [decide_eq_false_iff_not]; show (58 : Int) ≠ 33; omega)
  obtain ⟨c124, hc124⟩ : ∃ c : ByteArray, c = ⟨#[124]⟩ := ⟨_, rfl⟩
  have e124 : (S.toList == c124.toList) = false := by rw [hc124]; have h := hne 124; rw [h]; first | rfl | (rw [decide_eq_false_iff_not]; show (58 : Int) ≠ 124; omega)
  obtain ⟨c46, hc46⟩ : ∃ c : ByteArray, c = ⟨#[46]⟩ := ⟨_, rfl⟩
  have e46 : (S.toList == c46.toList) = false := by rw [hc46]; have h := hne 46; rw [h]; first | rfl | (rw [decide_eq_false_iff_not]; show (58 : Int) ≠ 46; omega)
  obtain ⟨c44, hc44⟩ : ∃ c : ByteArray, c = ⟨#[44]⟩ := ⟨_, rfl⟩
  have e44 : (S.toList == c44.toList) = false := by rw [hc44]; have h := hne 44; rw [h]; first | rfl | (rw [decide_eq_false_iff_not]; show (58 : Int) ≠ 44; omega)
  obtain ⟨c58, hc58⟩ : ∃ c : ByteArray, c = ⟨#[58]⟩ := ⟨_, rfl⟩
  have e58 : (S.toList == c58.toList) = true := by rw [hc58]; have h := hne 58; rw [h]; first | rfl | (rw [decide_eq_false_iff_not]; show (58 : Int) ≠ 58; omega)
  clear hKK
  clear hs hn hw1 ho1 ho2 hz hne
  have HT : Hid (Lib.Utf8Tabs 0 1 w) := hT
  clear hT
  go_enter Tryd.func5, Tryd.ntmps5
  rw [← hc105, ← hc106, ← hc108, ← hc33, ← hc124, ← hc46, ← hc44, ← hc58]
  clear hc105 hc106 hc108 hc33 hc124 hc46 hc44 hc58
  go_wp2_with (first
    | (go_at_call 7; refine (q1 _).mono ?_; rintro e w' ⟨rfl, rfl⟩)
    | (refine wpList_bU1 rfl _ rfl y _ HN.out rfl ?_; intro g w1 s1 k1; have hcv := conv_su s1; rw [HS.out] at hcv)
    | (go_at_call 9; have := K2; refine (q3 _ (Tabs.keep HT.out K2) z2).mono ?_; rintro e w3 ⟨rfl, k3⟩; have K3 := K2.trans k3)
    | (go_at_call 9; refine (q2 _ (Tabs.keep HT.out k1) z1).mono ?_; rintro e w2 ⟨rfl, k2⟩; have K2 := k1.trans k2)
    | (go_at_call 6; refine (wakes6 _ (Tabs.keep HT.out K3)).mono ?_; rintro e w4 ⟨rfl, k4⟩))
  go_ret
  exact ⟨rfl, K3.trans k4⟩

set_option maxRecDepth 100000 in
set_option maxHeartbeats 1000000 in
theorem kind_59 (w : World) (hT : Lib.Utf8Tabs 0 1 w) (v : Int) (hv : 0 ≤ v ∧ v ≤ 255) (hK : v % 127 = 59) (S : ByteArray) (y : UInt8) (h : One S y 59 3) :
    Calls Tryd.prog 5 #[.int .u8 v] w fun e w' => e = .returned (.bool true) ∧ Keeps (fun _ => False) w w' := by
  obtain ⟨hv0, hv1⟩ := hv
  obtain ⟨K, hKK⟩ : ∃ K : Int, K = 59 := ⟨_, rfl⟩
  obtain ⟨hs, hn, hw1, ho1, ho2, hz, hne⟩ := h
  have q1 := fun W => sign_at hw1 W
  have q2 := text_at ho1
  have q3 := text_at ho2
  have z1 : S.size ≤ 100000 := by omega
  have z2 : (S ++ S).size ≤ 100000 := by rw [app_sz]; omega
  have HN : Hid ((y.toNat : Int) = 59) := hn
  have HS : Hid ((⟨[y].toArray⟩ : ByteArray) = S) := hs
  obtain ⟨c105, hc105⟩ : ∃ c : ByteArray, c = ⟨#[105]⟩ := ⟨_, rfl⟩
  have e105 : (S.toList == c105.toList) = false := by rw [hc105]; have h := hne 105; rw [h]; first | rfl | (rw [decide_eq_false_iff_not]; show (59 : Int) ≠ 105; omega)
  obtain ⟨c106, hc106⟩ : ∃ c : ByteArray, c = ⟨#[106]⟩ := ⟨_, rfl⟩
  have e106 : (S.toList == c106.toList) = false := by rw [hc106]; have h := hne 106; rw [h]; first | rfl | (rw [decide_eq_false_iff_not]; show (59 : Int) ≠ 106; omega)
  obtain ⟨c108, hc108⟩ : ∃ c : ByteArray, c = ⟨#[108]⟩ := ⟨_, rfl⟩
  have e108 : (S.toList == c108.toList) = false := by rw [hc108]; have h := hne 108; rw [h]; first | rfl | (rw [decide_eq_false_iff_not]; show (59 : Int) ≠ 108; omega)
  obtain ⟨c33, hc33⟩ : ∃ c : ByteArray, c = ⟨#[33]⟩ := ⟨_, rfl⟩
  have e33 : (S.toList == c33.toList) = false := by rw [hc33]; have h := hne 33; rw [h]; first | rfl | (rw [decide_eq_false_iff_not]; show (59 : Int) ≠ 33; omega)
  obtain ⟨c124, hc124⟩ : ∃ c : ByteArray, c = ⟨#[124]⟩ := ⟨_, rfl⟩
  have e124 : (S.toList == c124.toList) = false := by rw [hc124]; have h := hne 124; rw [h]; first | rfl | (rw [decide_eq_false_iff_not]; show (59 : Int) ≠ 124; omega)
  obtain ⟨c46, hc46⟩ : ∃ c : ByteArray, c = ⟨#[46]⟩ := ⟨_, rfl⟩
  have e46 : (S.toList == c46.toList) = false := by rw [hc46]; have h := hne 46; rw [h]; first | rfl | (rw [decide_eq_false_iff_not]; show (59 : Int) ≠ 46; omega)
  obtain ⟨c44, hc44⟩ : ∃ c : ByteArray, c = ⟨#[44]⟩ := ⟨_, rfl⟩
  have e44 : (S.toList == c44.toList) = false := by rw [hc44]; have h := hne 44; rw [h]; first | rfl | (rw [decide_eq_false_iff_not]; show (59 : Int) ≠ 44; omega)
  obtain ⟨c58, hc58⟩ : ∃ c : ByteArray, c = ⟨#[58]⟩ := ⟨_, rfl⟩
  have e58 : (S.toList == c58.toList) = false := by rw [hc58]; have h := hne 58; rw [h]; first | rfl | (rw [decide_eq_false_iff_not]; show (59 : Int) ≠ 58; omega)
  obtain ⟨c59, hc59⟩ : ∃ c : ByteArray, c = ⟨#[59]⟩ := ⟨_, rfl⟩
  have e59 : (S.toList == c59.toList) = true := by rw [hc59]; have h := hne 59; rw [h]; first | rfl | (rw [decide_eq_false_iff_not]; show (59 : Int) ≠ 59; omega)
  clear hKK
  clear hs hn hw1 ho1 ho2 hz hne
  have HT : Hid (Lib.Utf8Tabs 0 1 w) := hT
  clear hT
  go_enter Tryd.func5, Tryd.ntmps5
  rw [← hc105, ← hc106, ← hc108, ← hc33, ← hc124, ← hc46, ← hc44, ← hc58, ← hc59]
  clear hc105 hc106 hc108 hc33 hc124 hc46 hc44 hc58 hc59
  go_wp2_with (first
    | (go_at_call 7; refine (q1 _).mono ?_; rintro e w' ⟨rfl, rfl⟩)
    | (refine wpList_bU1 rfl _ rfl y _ HN.out rfl ?_; intro g w1 s1 k1; have hcv := conv_su s1; rw [HS.out] at hcv)
    | (go_at_call 9; have := K2; refine (q3 _ (Tabs.keep HT.out K2) z2).mono ?_; rintro e w3 ⟨rfl, k3⟩; have K3 := K2.trans k3)
    | (go_at_call 9; refine (q2 _ (Tabs.keep HT.out k1) z1).mono ?_; rintro e w2 ⟨rfl, k2⟩; have K2 := k1.trans k2)
    | (go_at_call 6; refine (wakes6 _ (Tabs.keep HT.out K3)).mono ?_; rintro e w4 ⟨rfl, k4⟩))
  go_ret
  exact ⟨rfl, K3.trans k4⟩

set_option maxRecDepth 100000 in
set_option maxHeartbeats 1000000 in
theorem kind_39 (w : World) (hT : Lib.Utf8Tabs 0 1 w) (v : Int) (hv : 0 ≤ v ∧ v ≤ 255) (hK : v % 127 = 39) (S : ByteArray) (y : UInt8) (h : One S y 39 3) :
    Calls Tryd.prog 5 #[.int .u8 v] w fun e w' => e = .returned (.bool true) ∧ Keeps (fun _ => False) w w' := by
  obtain ⟨hv0, hv1⟩ := hv
  obtain ⟨K, hKK⟩ : ∃ K : Int, K = 39 := ⟨_, rfl⟩
  obtain ⟨hs, hn, hw1, ho1, ho2, hz, hne⟩ := h
  have q1 := fun W => sign_at hw1 W
  have q2 := text_at ho1
  have q3 := text_at ho2
  have z1 : S.size ≤ 100000 := by omega
  have z2 : (S ++ S).size ≤ 100000 := by rw [app_sz]; omega
  have HN : Hid ((y.toNat : Int) = 39) := hn
  have HS : Hid ((⟨[y].toArray⟩ : ByteArray) = S) := hs
  obtain ⟨c105, hc105⟩ : ∃ c : ByteArray, c = ⟨#[105]⟩ := ⟨_, rfl⟩
  have e105 : (S.toList == c105.toList) = false := by rw [hc105]; have h := hne 105; rw [h]; first | rfl | (rw [decide_eq_false_iff_not]; show (39 : Int) ≠ 105; omega)
  obtain ⟨c106, hc106⟩ : ∃ c : ByteArray, c = ⟨#[106]⟩ := ⟨_, rfl⟩
  have e106 : (S.toList == c106.toList) = false := by rw [hc106]; have h := hne 106; rw [h]; first | rfl | (rw [decide_eq_false_iff_not]; show (39 : Int) ≠ 106; omega)
  obtain ⟨c108, hc108⟩ : ∃ c : ByteArray, c = ⟨#[108]⟩ := ⟨_, rfl⟩
  have e108 : (S.toList == c108.toList) = false := by rw [hc108]; have h := hne 108; rw [h]; first | rfl | (rw [decide_eq_false_iff_not]; show (39 : Int) ≠ 108; omega)
  obtain ⟨c33, hc33⟩ : ∃ c : ByteArray, c = ⟨#[33]⟩ := ⟨_, rfl⟩
  have e33 : (S.toList == c33.toList) = false := by rw [hc33]; have h := hne 33; rw [h]; first | rfl | (rw [decide_eq_false_iff_not]; show (39 : Int) ≠ 33; omega)
  obtain ⟨c124, hc124⟩ : ∃ c : ByteArray, c = ⟨#[124]⟩ := ⟨_, rfl⟩
  have e124 : (S.toList == c124.toList) = false := by rw [hc124]; have h := hne 124; rw [h]; first | rfl | (rw [decide_eq_false_iff_not]; show (39 : Int) ≠ 124; omega)
  obtain ⟨c46, hc46⟩ : ∃ c : ByteArray, c = ⟨#[46]⟩ := ⟨_, rfl⟩
  have e46 : (S.toList == c46.toList) = false := by rw [hc46]; have h := hne 46; rw [h]; first | rfl | (rw [decide_eq_false_iff_not]; show (39 : Int) ≠ 46; omega)
  obtain ⟨c44, hc44⟩ : ∃ c : ByteArray, c = ⟨#[44]⟩ := ⟨_, rfl⟩
  have e44 : (S.toList == c44.toList) = false := by rw [hc44]; have h := hne 44; rw [h]; first | rfl | (rw [decide_eq_false_iff_not]; show (39 : Int) ≠ 44; omega)
  obtain ⟨c58, hc58⟩ : ∃ c : ByteArray, c = ⟨#[58]⟩ := ⟨_, rfl⟩
  have e58 : (S.toList == c58.toList) = false := by rw [hc58]; have h := hne 58; rw [h]; first | rfl | (rw [decide_eq_false_iff_not]; show (39 : Int) ≠ 58; omega)
  obtain ⟨c59, hc59⟩ : ∃ c : ByteArray, c = ⟨#[59]⟩ := ⟨_, rfl⟩
  have e59 : (S.toList == c59.toList) = false := by rw [hc59]; have h := hne 59; rw [h]; first | rfl | (rw [decide_eq_false_iff_not]; show (39 : Int) ≠ 59; omega)
  obtain ⟨c39, hc39⟩ : ∃ c : ByteArray, c = ⟨#[39]⟩ := ⟨_, rfl⟩
  have e39 : (S.toList == c39.toList) = true := by rw [hc39]; have h := hne 39; rw [h]; first | rfl | (rw [decide_eq_false_iff_not]; show (39 : Int) ≠ 39; omega)
  clear hKK
  clear hs hn hw1 ho1 ho2 hz hne
  have HT : Hid (Lib.Utf8Tabs 0 1 w) := hT
  clear hT
  go_enter Tryd.func5, Tryd.ntmps5
  rw [← hc105, ← hc106, ← hc108, ← hc33, ← hc124, ← hc46, ← hc44, ← hc58, ← hc59, ← hc39]
  clear hc105 hc106 hc108 hc33 hc124 hc46 hc44 hc58 hc59 hc39
  go_wp2_with (first
    | (go_at_call 7; refine (q1 _).mono ?_; rintro e w' ⟨rfl, rfl⟩)
    | (refine wpList_bU1 rfl _ rfl y _ HN.out rfl ?_; intro g w1 s1 k1; have hcv := conv_su s1; rw [HS.out] at hcv)
    | (go_at_call 9; have := K2; refine (q3 _ (Tabs.keep HT.out K2) z2).mono ?_; rintro e w3 ⟨rfl, k3⟩; have K3 := K2.trans k3)
    | (go_at_call 9; refine (q2 _ (Tabs.keep HT.out k1) z1).mono ?_; rintro e w2 ⟨rfl, k2⟩; have K2 := k1.trans k2)
    | (go_at_call 6; refine (wakes6 _ (Tabs.keep HT.out K3)).mono ?_; rintro e w4 ⟨rfl, k4⟩))
  go_ret
  exact ⟨rfl, K3.trans k4⟩

set_option maxRecDepth 100000 in
set_option maxHeartbeats 1000000 in
theorem kind_102 (w : World) (hT : Lib.Utf8Tabs 0 1 w) (v : Int) (hv : 0 ≤ v ∧ v ≤ 255) (hK : v % 127 = 102) (S : ByteArray) (y : UInt8) (h : One S y 102 4) :
    Calls Tryd.prog 5 #[.int .u8 v] w fun e w' => e = .returned (.bool true) ∧ Keeps (fun _ => False) w w' := by
  obtain ⟨hv0, hv1⟩ := hv
  obtain ⟨K, hKK⟩ : ∃ K : Int, K = 102 := ⟨_, rfl⟩
  obtain ⟨hs, hn, hw1, ho1, ho2, hz, hne⟩ := h
  have q1 := fun W => sign_at hw1 W
  have q2 := text_at ho1
  have q3 := text_at ho2
  have z1 : S.size ≤ 100000 := by omega
  have z2 : (S ++ S).size ≤ 100000 := by rw [app_sz]; omega
  have HN : Hid ((y.toNat : Int) = 102) := hn
  have HS : Hid ((⟨[y].toArray⟩ : ByteArray) = S) := hs
  obtain ⟨c105, hc105⟩ : ∃ c : ByteArray, c = ⟨#[105]⟩ := ⟨_, rfl⟩
  have e105 : (S.toList == c105.toList) = false := by rw [hc105]; have h := hne 105; rw [h]; first | rfl | (rw [decide_eq_false_iff_not]; show (102 : Int) ≠ 105; omega)
  obtain ⟨c106, hc106⟩ : ∃ c : ByteArray, c = ⟨#[106]⟩ := ⟨_, rfl⟩
  have e106 : (S.toList == c106.toList) = false := by rw [hc106]; have h := hne 106; rw [h]; first | rfl | (rw [decide_eq_false_iff_not]; show (102 : Int) ≠ 106; omega)
  obtain ⟨c108, hc108⟩ : ∃ c : ByteArray, c = ⟨#[108]⟩ := ⟨_, rfl⟩
  have e108 : (S.toList == c108.toList) = false := by rw [hc108]; have h := hne 108; rw [h]; first | rfl | (rw [decide_eq_false_iff_not]; show (102 : Int) ≠ 108; omega)
  obtain ⟨c33, hc33⟩ : ∃ c : ByteArray, c = ⟨#[33]⟩ := ⟨_, rfl⟩
  have e33 : (S.toList == c33.toList) = false := by rw [hc33]; have h := hne 33; rw [h]; first | rfl | (rw [decide_eq_false_iff_not]; show (102 : Int) ≠ 33; omega)
  obtain ⟨c124, hc124⟩ : ∃ c : ByteArray, c = ⟨#[124]⟩ := ⟨_, rfl⟩
  have e124 : (S.toList == c124.toList) = false := by rw [hc124]; have h := hne 124; rw [h]; first | rfl | (rw [decide_eq_false_iff_not]; show (102 : Int) ≠ 124; omega)
  obtain ⟨c46, hc46⟩ : ∃ c : ByteArray, c = ⟨#[46]⟩ := ⟨_, rfl⟩
  have e46 : (S.toList == c46.toList) = false := by rw [hc46]; have h := hne 46; rw [h]; first | rfl | (rw [decide_eq_false_iff_not]; show (102 : Int) ≠ 46; omega)
  obtain ⟨c44, hc44⟩ : ∃ c : ByteArray, c = ⟨#[44]⟩ := ⟨_, rfl⟩
  have e44 : (S.toList == c44.toList) = false := by rw [hc44]; have h := hne 44; rw [h]; first | rfl | (rw [decide_eq_false_iff_not]; show (102 : Int) ≠ 44; omega)
  obtain ⟨c58, hc58⟩ : ∃ c : ByteArray, c = ⟨#[58]⟩ := ⟨_, rfl⟩
  have e58 : (S.toList == c58.toList) = false := by rw [hc58]; have h := hne 58; rw [h]; first | rfl | (rw [decide_eq_false_iff_not]; show (102 : Int) ≠ 58; omega)
  obtain ⟨c59, hc59⟩ : ∃ c : ByteArray, c = ⟨#[59]⟩ := ⟨_, rfl⟩
  have e59 : (S.toList == c59.toList) = false := by rw [hc59]; have h := hne 59; rw [h]; first | rfl | (rw [decide_eq_false_iff_not]; show (102 : Int) ≠ 59; omega)
  obtain ⟨c39, hc39⟩ : ∃ c : ByteArray, c = ⟨#[39]⟩ := ⟨_, rfl⟩
  have e39 : (S.toList == c39.toList) = false := by rw [hc39]; have h := hne 39; rw [h]; first | rfl | (rw [decide_eq_false_iff_not]; show (102 : Int) ≠ 39; omega)
  obtain ⟨c102, hc102⟩ : ∃ c : ByteArray, c = ⟨#[102]⟩ := ⟨_, rfl⟩
  have e102 : (S.toList == c102.toList) = true := by rw [hc102]; have h := hne 102; rw [h]; first | rfl | (rw [decide_eq_false_iff_not]; show (102 : Int) ≠ 102; omega)
  clear hKK
  clear hs hn hw1 ho1 ho2 hz hne
  have HT : Hid (Lib.Utf8Tabs 0 1 w) := hT
  clear hT
  go_enter Tryd.func5, Tryd.ntmps5
  rw [← hc105, ← hc106, ← hc108, ← hc33, ← hc124, ← hc46, ← hc44, ← hc58, ← hc59, ← hc39, ← hc102]
  clear hc105 hc106 hc108 hc33 hc124 hc46 hc44 hc58 hc59 hc39 hc102
  go_wp2_with (first
    | (go_at_call 7; refine (q1 _).mono ?_; rintro e w' ⟨rfl, rfl⟩)
    | (refine wpList_bU1 rfl _ rfl y _ HN.out rfl ?_; intro g w1 s1 k1; have hcv := conv_su s1; rw [HS.out] at hcv)
    | (go_at_call 9; have := K2; refine (q3 _ (Tabs.keep HT.out K2) z2).mono ?_; rintro e w3 ⟨rfl, k3⟩; have K3 := K2.trans k3)
    | (go_at_call 9; refine (q2 _ (Tabs.keep HT.out k1) z1).mono ?_; rintro e w2 ⟨rfl, k2⟩; have K2 := k1.trans k2)
    | (go_at_call 6; refine (wakes6 _ (Tabs.keep HT.out K3)).mono ?_; rintro e w4 ⟨rfl, k4⟩))
  go_ret
  exact ⟨rfl, K3.trans k4⟩

set_option maxRecDepth 100000 in
set_option maxHeartbeats 1000000 in
theorem kind_116 (w : World) (hT : Lib.Utf8Tabs 0 1 w) (v : Int) (hv : 0 ≤ v ∧ v ≤ 255) (hK : v % 127 = 116) (S : ByteArray) (y : UInt8) (h : One S y 116 4) :
    Calls Tryd.prog 5 #[.int .u8 v] w fun e w' => e = .returned (.bool true) ∧ Keeps (fun _ => False) w w' := by
  obtain ⟨hv0, hv1⟩ := hv
  obtain ⟨K, hKK⟩ : ∃ K : Int, K = 116 := ⟨_, rfl⟩
  obtain ⟨hs, hn, hw1, ho1, ho2, hz, hne⟩ := h
  have q1 := fun W => sign_at hw1 W
  have q2 := text_at ho1
  have q3 := text_at ho2
  have z1 : S.size ≤ 100000 := by omega
  have z2 : (S ++ S).size ≤ 100000 := by rw [app_sz]; omega
  have HN : Hid ((y.toNat : Int) = 116) := hn
  have HS : Hid ((⟨[y].toArray⟩ : ByteArray) = S) := hs
  obtain ⟨c105, hc105⟩ : ∃ c : ByteArray, c = ⟨#[105]⟩ := ⟨_, rfl⟩
  have e105 : (S.toList == c105.toList) = false := by rw [hc105]; have h := hne 105; rw [h]; first | rfl | (rw [decide_eq_false_iff_not]; show (116 : Int) ≠ 105; omega)
  obtain ⟨c106, hc106⟩ : ∃ c : ByteArray, c = ⟨#[106]⟩ := ⟨_, rfl⟩
  have e106 : (S.toList == c106.toList) = false := by rw [hc106]; have h := hne 106; rw [h]; first | rfl | (rw [decide_eq_false_iff_not]; show (116 : Int) ≠ 106; omega)
  obtain ⟨c108, hc108⟩ : ∃ c : ByteArray, c = ⟨#[108]⟩ := ⟨_, rfl⟩
  have e108 : (S.toList == c108.toList) = false := by rw [hc108]; have h := hne 108; rw [h]; first | rfl | (rw [decide_eq_false_iff_not]; show (116 : Int) ≠ 108; omega)
  obtain ⟨c33, hc33⟩ : ∃ c : ByteArray, c = ⟨#[33]⟩ := ⟨_, rfl⟩
  have e33 : (S.toList == c33.toList) = false := by rw [hc33]; have h := hne 33; rw [h]; first | rfl | (rw [decide_eq_false_iff_not]; show (116 : Int) ≠ 33; omega)
  obtain ⟨c124, hc124⟩ : ∃ c : ByteArray, c = ⟨#[124]⟩ := ⟨_, rfl⟩
  have e124 : (S.toList == c124.toList) = false := by rw [hc124]; have h := hne 124; rw [h]; first | rfl | (rw [decide_eq_false_iff_not]; show (116 : Int) ≠ 124; omega)
  obtain ⟨c46, hc46⟩ : ∃ c : ByteArray, c = ⟨#[46]⟩ := ⟨_, rfl⟩
  have e46 : (S.toList == c46.toList) = false := by rw [hc46]; have h := hne 46; rw [h]; first | rfl | (rw [decide_eq_false_iff_not]; show (116 : Int) ≠ 46; omega)
  obtain ⟨c44, hc44⟩ : ∃ c : ByteArray, c = ⟨#[44]⟩ := ⟨_, rfl⟩
  have e44 : (S.toList == c44.toList) = false := by rw [hc44]; have h := hne 44; rw [h]; first | rfl | (rw [decide_eq_false_iff_not]; show (116 : Int) ≠ 44; omega)
  obtain ⟨c58, hc58⟩ : ∃ c : ByteArray, c = ⟨#[58]⟩ := ⟨_, rfl⟩
  have e58 : (S.toList == c58.toList) = false := by rw [hc58]; have h := hne 58; rw [h]; first | rfl | (rw [decide_eq_false_iff_not]; show (116 : Int) ≠ 58; omega)
  obtain ⟨c59, hc59⟩ : ∃ c : ByteArray, c = ⟨#[59]⟩ := ⟨_, rfl⟩
  have e59 : (S.toList == c59.toList) = false := by rw [hc59]; have h := hne 59; rw [h]; first | rfl | (rw [decide_eq_false_iff_not]; show (116 : Int) ≠ 59; omega)
  obtain ⟨c39, hc39⟩ : ∃ c : ByteArray, c = ⟨#[39]⟩ := ⟨_, rfl⟩
  have e39 : (S.toList == c39.toList) = false := by rw [hc39]; have h := hne 39; rw [h]; first | rfl | (rw [decide_eq_false_iff_not]; show (116 : Int) ≠ 39; omega)
  obtain ⟨c102, hc102⟩ : ∃ c : ByteArray, c = ⟨#[102]⟩ := ⟨_, rfl⟩
  have e102 : (S.toList == c102.toList) = false := by rw [hc102]; have h := hne 102; rw [h]; first | rfl | (rw [decide_eq_false_iff_not]; show (116 : Int) ≠ 102; omega)
  obtain ⟨c116, hc116⟩ : ∃ c : ByteArray, c = ⟨#[116]⟩ := ⟨_, rfl⟩
  have e116 : (S.toList == c116.toList) = true := by rw [hc116]; have h := hne 116; rw [h]; first | rfl | (rw [decide_eq_false_iff_not]; show (116 : Int) ≠ 116; omega)
  clear hKK
  clear hs hn hw1 ho1 ho2 hz hne
  have HT : Hid (Lib.Utf8Tabs 0 1 w) := hT
  clear hT
  go_enter Tryd.func5, Tryd.ntmps5
  rw [← hc105, ← hc106, ← hc108, ← hc33, ← hc124, ← hc46, ← hc44, ← hc58, ← hc59, ← hc39, ← hc102, ← hc116]
  clear hc105 hc106 hc108 hc33 hc124 hc46 hc44 hc58 hc59 hc39 hc102 hc116
  go_wp2_with (first
    | (go_at_call 7; refine (q1 _).mono ?_; rintro e w' ⟨rfl, rfl⟩)
    | (refine wpList_bU1 rfl _ rfl y _ HN.out rfl ?_; intro g w1 s1 k1; have hcv := conv_su s1; rw [HS.out] at hcv)
    | (go_at_call 9; have := K2; refine (q3 _ (Tabs.keep HT.out K2) z2).mono ?_; rintro e w3 ⟨rfl, k3⟩; have K3 := K2.trans k3)
    | (go_at_call 9; refine (q2 _ (Tabs.keep HT.out k1) z1).mono ?_; rintro e w2 ⟨rfl, k2⟩; have K2 := k1.trans k2)
    | (go_at_call 6; refine (wakes6 _ (Tabs.keep HT.out K3)).mono ?_; rintro e w4 ⟨rfl, k4⟩))
  go_ret
  exact ⟨rfl, K3.trans k4⟩

set_option maxRecDepth 100000 in
set_option maxHeartbeats 1000000 in
theorem kind_114 (w : World) (hT : Lib.Utf8Tabs 0 1 w) (v : Int) (hv : 0 ≤ v ∧ v ≤ 255) (hK : v % 127 = 114) (S : ByteArray) (y : UInt8) (h : One S y 114 4) :
    Calls Tryd.prog 5 #[.int .u8 v] w fun e w' => e = .returned (.bool true) ∧ Keeps (fun _ => False) w w' := by
  obtain ⟨hv0, hv1⟩ := hv
  obtain ⟨K, hKK⟩ : ∃ K : Int, K = 114 := ⟨_, rfl⟩
  obtain ⟨hs, hn, hw1, ho1, ho2, hz, hne⟩ := h
  have q1 := fun W => sign_at hw1 W
  have q2 := text_at ho1
  have q3 := text_at ho2
  have z1 : S.size ≤ 100000 := by omega
  have z2 : (S ++ S).size ≤ 100000 := by rw [app_sz]; omega
  have HN : Hid ((y.toNat : Int) = 114) := hn
  have HS : Hid ((⟨[y].toArray⟩ : ByteArray) = S) := hs
  obtain ⟨c105, hc105⟩ : ∃ c : ByteArray, c = ⟨#[105]⟩ := ⟨_, rfl⟩
  have e105 : (S.toList == c105.toList) = false := by rw [hc105]; have h := hne 105; rw [h]; first | rfl | (rw [decide_eq_false_iff_not]; show (114 : Int) ≠ 105; omega)
  obtain ⟨c106, hc106⟩ : ∃ c : ByteArray, c = ⟨#[106]⟩ := ⟨_, rfl⟩
  have e106 : (S.toList == c106.toList) = false := by rw [hc106]; have h := hne 106; rw [h]; first | rfl | (rw [decide_eq_false_iff_not]; show (114 : Int) ≠ 106; omega)
  obtain ⟨c108, hc108⟩ : ∃ c : ByteArray, c = ⟨#[108]⟩ := ⟨_, rfl⟩
  have e108 : (S.toList == c108.toList) = false := by rw [hc108]; have h := hne 108; rw [h]; first | rfl | (rw [decide_eq_false_iff_not]; show (114 : Int) ≠ 108; omega)
  obtain ⟨c33, hc33⟩ : ∃ c : ByteArray, c = ⟨#[33]⟩ := ⟨_, rfl⟩
  have e33 : (S.toList == c33.toList) = false := by rw [hc33]; have h := hne 33; rw [h]; first | rfl | (rw [decide_eq_false_iff_not]; show (114 : Int) ≠ 33; omega)
  obtain ⟨c124, hc124⟩ : ∃ c : ByteArray, c = ⟨#[124]⟩ := ⟨_, rfl⟩
  have e124 : (S.toList == c124.toList) = false := by rw [hc124]; have h := hne 124; rw [h]; first | rfl | (rw [decide_eq_false_iff_not]; show (114 : Int) ≠ 124; omega)
  obtain ⟨c46, hc46⟩ : ∃ c : ByteArray, c = ⟨#[46]⟩ := ⟨_, rfl⟩
  have e46 : (S.toList == c46.toList) = false := by rw [hc46]; have h := hne 46; rw [h]; first | rfl | (rw [decide_eq_false_iff_not]; show (114 : Int) ≠ 46; omega)
  obtain ⟨c44, hc44⟩ : ∃ c : ByteArray, c = ⟨#[44]⟩ := ⟨_, rfl⟩
  have e44 : (S.toList == c44.toList) = false := by rw [hc44]; have h := hne 44; rw [h]; first | rfl | (rw [decide_eq_false_iff_not]; show (114 : Int) ≠ 44; omega)
  obtain ⟨c58, hc58⟩ : ∃ c : ByteArray, c = ⟨#[58]⟩ := ⟨_, rfl⟩
  have e58 : (S.toList == c58.toList) = false := by rw [hc58]; have h := hne 58; rw [h]; first | rfl | (rw [decide_eq_false_iff_not]; show (114 : Int) ≠ 58; omega)
  obtain ⟨c59, hc59⟩ : ∃ c : ByteArray, c = ⟨#[59]⟩ := ⟨_, rfl⟩
  have e59 : (S.toList == c59.toList) = false := by rw [hc59]; have h := hne 59; rw [h]; first | rfl | (rw [decide_eq_false_iff_not]; show (114 : Int) ≠ 59; omega)
  obtain ⟨c39, hc39⟩ : ∃ c : ByteArray, c = ⟨#[39]⟩ := ⟨_, rfl⟩
  have e39 : (S.toList == c39.toList) = false := by rw [hc39]; have h := hne 39; rw [h]; first | rfl | (rw [decide_eq_false_iff_not]; show (114 : Int) ≠ 39; omega)
  obtain ⟨c102, hc102⟩ : ∃ c : ByteArray, c = ⟨#[102]⟩ := ⟨_, rfl⟩
  have e102 : (S.toList == c102.toList) = false := by rw [hc102]; have h := hne 102; rw [h]; first | rfl | (rw [decide_eq_false_iff_not]; show (114 : Int) ≠ 102; omega)
  obtain ⟨c116, hc116⟩ : ∃ c : ByteArray, c = ⟨#[116]⟩ := ⟨_, rfl⟩
  have e116 : (S.toList == c116.toList) = false := by rw [hc116]; have h := hne 116; rw [h]; first | rfl | (rw [decide_eq_false_iff_not]; show (114 : Int) ≠ 116; omega)
  obtain ⟨c114, hc114⟩ : ∃ c : ByteArray, c = ⟨#[114]⟩ := ⟨_, rfl⟩
  have e114 : (S.toList == c114.toList) = true := by rw [hc114]; have h := hne 114; rw [h]; first | rfl | (rw [decide_eq_false_iff_not]; show (114 : Int) ≠ 114; omega)
  clear hKK
  clear hs hn hw1 ho1 ho2 hz hne
  have HT : Hid (Lib.Utf8Tabs 0 1 w) := hT
  clear hT
  go_enter Tryd.func5, Tryd.ntmps5
  rw [← hc105, ← hc106, ← hc108, ← hc33, ← hc124, ← hc46, ← hc44, ← hc58, ← hc59, ← hc39, ← hc102, ← hc116, ← hc114]
  clear hc105 hc106 hc108 hc33 hc124 hc46 hc44 hc58 hc59 hc39 hc102 hc116 hc114
  go_wp2_with (first
    | (go_at_call 7; refine (q1 _).mono ?_; rintro e w' ⟨rfl, rfl⟩)
    | (refine wpList_bU1 rfl _ rfl y _ HN.out rfl ?_; intro g w1 s1 k1; have hcv := conv_su s1; rw [HS.out] at hcv)
    | (go_at_call 9; have := K2; refine (q3 _ (Tabs.keep HT.out K2) z2).mono ?_; rintro e w3 ⟨rfl, k3⟩; have K3 := K2.trans k3)
    | (go_at_call 9; refine (q2 _ (Tabs.keep HT.out k1) z1).mono ?_; rintro e w2 ⟨rfl, k2⟩; have K2 := k1.trans k2)
    | (go_at_call 6; refine (wakes6 _ (Tabs.keep HT.out K3)).mono ?_; rintro e w4 ⟨rfl, k4⟩))
  go_ret
  exact ⟨rfl, K3.trans k4⟩

set_option maxRecDepth 100000 in
set_option maxHeartbeats 1000000 in
theorem kind_40 (w : World) (hT : Lib.Utf8Tabs 0 1 w) (v : Int) (hv : 0 ≤ v ∧ v ≤ 255) (hK : v % 127 = 40) (S : ByteArray) (y : UInt8) (h : One S y 40 4) :
    Calls Tryd.prog 5 #[.int .u8 v] w fun e w' => e = .returned (.bool true) ∧ Keeps (fun _ => False) w w' := by
  obtain ⟨hv0, hv1⟩ := hv
  obtain ⟨K, hKK⟩ : ∃ K : Int, K = 40 := ⟨_, rfl⟩
  obtain ⟨hs, hn, hw1, ho1, ho2, hz, hne⟩ := h
  have q1 := fun W => sign_at hw1 W
  have q2 := text_at ho1
  have q3 := text_at ho2
  have z1 : S.size ≤ 100000 := by omega
  have z2 : (S ++ S).size ≤ 100000 := by rw [app_sz]; omega
  have HN : Hid ((y.toNat : Int) = 40) := hn
  have HS : Hid ((⟨[y].toArray⟩ : ByteArray) = S) := hs
  obtain ⟨c105, hc105⟩ : ∃ c : ByteArray, c = ⟨#[105]⟩ := ⟨_, rfl⟩
  have e105 : (S.toList == c105.toList) = false := by rw [hc105]; have h := hne 105; rw [h]; first | rfl | (rw [decide_eq_false_iff_not]; show (40 : Int) ≠ 105; omega)
  obtain ⟨c106, hc106⟩ : ∃ c : ByteArray, c = ⟨#[106]⟩ := ⟨_, rfl⟩
  have e106 : (S.toList == c106.toList) = false := by rw [hc106]; have h := hne 106; rw [h]; first | rfl | (rw [decide_eq_false_iff_not]; show (40 : Int) ≠ 106; omega)
  obtain ⟨c108, hc108⟩ : ∃ c : ByteArray, c = ⟨#[108]⟩ := ⟨_, rfl⟩
  have e108 : (S.toList == c108.toList) = false := by rw [hc108]; have h := hne 108; rw [h]; first | rfl | (rw [decide_eq_false_iff_not]; show (40 : Int) ≠ 108; omega)
  obtain ⟨c33, hc33⟩ : ∃ c : ByteArray, c = ⟨#[33]⟩ := ⟨_, rfl⟩
  have e33 : (S.toList == c33.toList) = false := by rw [hc33]; have h := hne 33; rw [h]; first | rfl | (rw [decide_eq_false_iff_not]; show (40 : Int) ≠ 33; omega)
  obtain ⟨c124, hc124⟩ : ∃ c : ByteArray, c = ⟨#[124]⟩ := ⟨_, rfl⟩
  have e124 : (S.toList == c124.toList) = false := by rw [hc124]; have h := hne 124; rw [h]; first | rfl | (rw [decide_eq_false_iff_not]; show (40 : Int) ≠ 124; omega)
  obtain ⟨c46, hc46⟩ : ∃ c : ByteArray, c = ⟨#[46]⟩ := ⟨_, rfl⟩
  have e46 : (S.toList == c46.toList) = false := by rw [hc46]; have h := hne 46; rw [h]; first | rfl | (rw [decide_eq_false_iff_not]; show (40 : Int) ≠ 46; omega)
  obtain ⟨c44, hc44⟩ : ∃ c : ByteArray, c = ⟨#[44]⟩ := ⟨_, rfl⟩
  have e44 : (S.toList == c44.toList) = false := by rw [hc44]; have h := hne 44; rw [h]; first | rfl | (rw [decide_eq_false_iff_not]; show (40 : Int) ≠ 44; omega)
  obtain ⟨c58, hc58⟩ : ∃ c : ByteArray, c = ⟨#[58]⟩ := ⟨_, rfl⟩
  have e58 : (S.toList == c58.toList) = false := by rw [hc58]; have h := hne 58; rw [h]; first | rfl | (rw [decide_eq_false_iff_not]; show (40 : Int) ≠ 58; omega)
  obtain ⟨c59, hc59⟩ : ∃ c : ByteArray, c = ⟨#[59]⟩ := ⟨_, rfl⟩
  have e59 : (S.toList == c59.toList) = false := by rw [hc59]; have h := hne 59; rw [h]; first | rfl | (rw [decide_eq_false_iff_not]; show (40 : Int) ≠ 59; omega)
  obtain ⟨c39, hc39⟩ : ∃ c : ByteArray, c = ⟨#[39]⟩ := ⟨_, rfl⟩
  have e39 : (S.toList == c39.toList) = false := by rw [hc39]; have h := hne 39; rw [h]; first | rfl | (rw [decide_eq_false_iff_not]; show (40 : Int) ≠ 39; omega)
  obtain ⟨c102, hc102⟩ : ∃ c : ByteArray, c = ⟨#[102]⟩ := ⟨_, rfl⟩
  have e102 : (S.toList == c102.toList) = false := by rw [hc102]; have h := hne 102; rw [h]; first | rfl | (rw [decide_eq_false_iff_not]; show (40 : Int) ≠ 102; omega)
  obtain ⟨c116, hc116⟩ : ∃ c : ByteArray, c = ⟨#[116]⟩ := ⟨_, rfl⟩
  have e116 : (S.toList == c116.toList) = false := by rw [hc116]; have h := hne 116; rw [h]; first | rfl | (rw [decide_eq_false_iff_not]; show (40 : Int) ≠ 116; omega)
  obtain ⟨c114, hc114⟩ : ∃ c : ByteArray, c = ⟨#[114]⟩ := ⟨_, rfl⟩
  have e114 : (S.toList == c114.toList) = false := by rw [hc114]; have h := hne 114; rw [h]; first | rfl | (rw [decide_eq_false_iff_not]; show (40 : Int) ≠ 114; omega)
  obtain ⟨c40, hc40⟩ : ∃ c : ByteArray, c = ⟨#[40]⟩ := ⟨_, rfl⟩
  have e40 : (S.toList == c40.toList) = true := by rw [hc40]; have h := hne 40; rw [h]; first | rfl | (rw [decide_eq_false_iff_not]; show (40 : Int) ≠ 40; omega)
  clear hKK
  clear hs hn hw1 ho1 ho2 hz hne
  have HT : Hid (Lib.Utf8Tabs 0 1 w) := hT
  clear hT
  go_enter Tryd.func5, Tryd.ntmps5
  rw [← hc105, ← hc106, ← hc108, ← hc33, ← hc124, ← hc46, ← hc44, ← hc58, ← hc59, ← hc39, ← hc102, ← hc116, ← hc114, ← hc40]
  clear hc105 hc106 hc108 hc33 hc124 hc46 hc44 hc58 hc59 hc39 hc102 hc116 hc114 hc40
  go_wp2_with (first
    | (go_at_call 7; refine (q1 _).mono ?_; rintro e w' ⟨rfl, rfl⟩)
    | (refine wpList_bU1 rfl _ rfl y _ HN.out rfl ?_; intro g w1 s1 k1; have hcv := conv_su s1; rw [HS.out] at hcv)
    | (go_at_call 9; have := K2; refine (q3 _ (Tabs.keep HT.out K2) z2).mono ?_; rintro e w3 ⟨rfl, k3⟩; have K3 := K2.trans k3)
    | (go_at_call 9; refine (q2 _ (Tabs.keep HT.out k1) z1).mono ?_; rintro e w2 ⟨rfl, k2⟩; have K2 := k1.trans k2)
    | (go_at_call 6; refine (wakes6 _ (Tabs.keep HT.out K3)).mono ?_; rintro e w4 ⟨rfl, k4⟩))
  go_ret
  exact ⟨rfl, K3.trans k4⟩

set_option maxRecDepth 100000 in
set_option maxHeartbeats 1000000 in
theorem kind_41 (w : World) (hT : Lib.Utf8Tabs 0 1 w) (v : Int) (hv : 0 ≤ v ∧ v ≤ 255) (hK : v % 127 = 41) (S : ByteArray) (y : UInt8) (h : One S y 41 4) :
    Calls Tryd.prog 5 #[.int .u8 v] w fun e w' => e = .returned (.bool true) ∧ Keeps (fun _ => False) w w' := by
  obtain ⟨hv0, hv1⟩ := hv
  obtain ⟨K, hKK⟩ : ∃ K : Int, K = 41 := ⟨_, rfl⟩
  obtain ⟨hs, hn, hw1, ho1, ho2, hz, hne⟩ := h
  have q1 := fun W => sign_at hw1 W
  have q2 := text_at ho1
  have q3 := text_at ho2
  have z1 : S.size ≤ 100000 := by omega
  have z2 : (S ++ S).size ≤ 100000 := by rw [app_sz]; omega
  have HN : Hid ((y.toNat : Int) = 41) := hn
  have HS : Hid ((⟨[y].toArray⟩ : ByteArray) = S) := hs
  obtain ⟨c105, hc105⟩ : ∃ c : ByteArray, c = ⟨#[105]⟩ := ⟨_, rfl⟩
  have e105 : (S.toList == c105.toList) = false := by rw [hc105]; have h := hne 105; rw [h]; first | rfl | (rw [decide_eq_false_iff_not]; show (41 : Int) ≠ 105; omega)
  obtain ⟨c106, hc106⟩ : ∃ c : ByteArray, c = ⟨#[106]⟩ := ⟨_, rfl⟩
  have e106 : (S.toList == c106.toList) = false := by rw [hc106]; have h := hne 106; rw [h]; first | rfl | (rw [decide_eq_false_iff_not]; show (41 : Int) ≠ 106; omega)
  obtain ⟨c108, hc108⟩ : ∃ c : ByteArray, c = ⟨#[108]⟩ := ⟨_, rfl⟩
  have e108 : (S.toList == c108.toList) = false := by rw [hc108]; have h := hne 108; rw [h]; first | rfl | (rw [decide_eq_false_iff_not]; show (41 : Int) ≠ 108; omega)
  obtain ⟨c33, hc33⟩ : ∃ c : ByteArray, c = ⟨#[33]⟩ := ⟨_, rfl⟩
  have e33 : (S.toList == c33.toList) = false := by rw [hc33]; have h := hne 33; rw [h]; first | rfl | (rw [decide_eq_false_iff_not]; show (41 : Int) ≠ 33; omega)
  obtain ⟨c124, hc124⟩ : ∃ c : ByteArray, c = ⟨#[124]⟩ := ⟨_, rfl⟩
  have e124 : (S.toList == c124.toList) = false := by rw [hc124]; have h := hne 124; rw [h]; first | rfl | (rw [decide_eq_false_iff_not]; show (41 : Int) ≠ 124; omega)
  obtain ⟨c46, hc46⟩ : ∃ c : ByteArray, c = ⟨#[46]⟩ := ⟨_, rfl⟩
  have e46 : (S.toList == c46.toList) = false := by rw [hc46]; have h := hne 46; rw [h]; first | rfl | (rw [decide_eq_false_iff_not]; show (41 : Int) ≠ 46; omega)
  obtain ⟨c44, hc44⟩ : ∃ c : ByteArray, c = ⟨#[44]⟩ := ⟨_, rfl⟩
  have e44 : (S.toList == c44.toList) = false := by rw [hc44]; have h := hne 44; rw [h]; first | rfl | (rw [decide_eq_false_iff_not]; show (41 : Int) ≠ 44; omega)
  obtain ⟨c58, hc58⟩ : ∃ c : ByteArray, c = ⟨#[58]⟩ := ⟨_, rfl⟩
  have e58 : (S.toList == c58.toList) = false := by rw [hc58]; have h := hne 58; rw [h]; first | rfl | (rw [decide_eq_false_iff_not]; show (41 : Int) ≠ 58; omega)
  obtain ⟨c59, hc59⟩ : ∃ c : ByteArray, c = ⟨#[59]⟩ := ⟨_, rfl⟩
  have e59 : (S.toList == c59.toList) = false := by rw [hc59]; have h := hne 59; rw [h]; first | rfl | (rw [decide_eq_false_iff_not]; show (41 : Int) ≠ 59; omega)
  obtain ⟨c39, hc39⟩ : ∃ c : ByteArray, c = ⟨#[39]⟩ := ⟨_, rfl⟩
  have e39 : (S.toList == c39.toList) = false := by rw [hc39]; have h := hne 39; rw [h]; first | rfl | (rw [decide_eq_false_iff_not]; show (41 : Int) ≠ 39; omega)
  obtain ⟨c102, hc102⟩ : ∃ c : ByteArray, c = ⟨#[102]⟩ := ⟨_, rfl⟩
  have e102 : (S.toList == c102.toList) = false := by rw [hc102]; have h := hne 102; rw [h]; first | rfl | (rw [decide_eq_false_iff_not]; show (41 : Int) ≠ 102; omega)
  obtain ⟨c116, hc116⟩ : ∃ c : ByteArray, c = ⟨#[116]⟩ := ⟨_, rfl⟩
  have e116 : (S.toList == c116.toList) = false := by rw [hc116]; have h := hne 116; rw [h]; first | rfl | (rw [decide_eq_false_iff_not]; show (41 : Int) ≠ 116; omega)
  obtain ⟨c114, hc114⟩ : ∃ c : ByteArray, c = ⟨#[114]⟩ := ⟨_, rfl⟩
  have e114 : (S.toList == c114.toList) = false := by rw [hc114]; have h := hne 114; rw [h]; first | rfl | (rw [decide_eq_false_iff_not]; show (41 : Int) ≠ 114; omega)
  obtain ⟨c40, hc40⟩ : ∃ c : ByteArray, c = ⟨#[40]⟩ := ⟨_, rfl⟩
  have e40 : (S.toList == c40.toList) = false := by rw [hc40]; have h := hne 40; rw [h]; first | rfl | (rw [decide_eq_false_iff_not]; show (41 : Int) ≠ 40; omega)
  obtain ⟨c41, hc41⟩ : ∃ c : ByteArray, c = ⟨#[41]⟩ := ⟨_, rfl⟩
  have e41 : (S.toList == c41.toList) = true := by rw [hc41]; have h := hne 41; rw [h]; first | rfl | (rw [decide_eq_false_iff_not]; show (41 : Int) ≠ 41; omega)
  clear hKK
  clear hs hn hw1 ho1 ho2 hz hne
  have HT : Hid (Lib.Utf8Tabs 0 1 w) := hT
  clear hT
  go_enter Tryd.func5, Tryd.ntmps5
  rw [← hc105, ← hc106, ← hc108, ← hc33, ← hc124, ← hc46, ← hc44, ← hc58, ← hc59, ← hc39, ← hc102, ← hc116, ← hc114, ← hc40, ← hc41]
  clear hc105 hc106 hc108 hc33 hc124 hc46 hc44 hc58 hc59 hc39 hc102 hc116 hc114 hc40 hc41
  go_wp2_with (first
    | (go_at_call 7; refine (q1 _).mono ?_; rintro e w' ⟨rfl, rfl⟩)
    | (refine wpList_bU1 rfl _ rfl y _ HN.out rfl ?_; intro g w1 s1 k1; have hcv := conv_su s1; rw [HS.out] at hcv)
    | (go_at_call 9; have := K2; refine (q3 _ (Tabs.keep HT.out K2) z2).mono ?_; rintro e w3 ⟨rfl, k3⟩; have K3 := K2.trans k3)
    | (go_at_call 9; refine (q2 _ (Tabs.keep HT.out k1) z1).mono ?_; rintro e w2 ⟨rfl, k2⟩; have K2 := k1.trans k2)
    | (go_at_call 6; refine (wakes6 _ (Tabs.keep HT.out K3)).mono ?_; rintro e w4 ⟨rfl, k4⟩))
  go_ret
  exact ⟨rfl, K3.trans k4⟩

set_option maxRecDepth 100000 in
set_option maxHeartbeats 1000000 in
theorem kind_91 (w : World) (hT : Lib.Utf8Tabs 0 1 w) (v : Int) (hv : 0 ≤ v ∧ v ≤ 255) (hK : v % 127 = 91) (S : ByteArray) (y : UInt8) (h : One S y 91 4) :
    Calls Tryd.prog 5 #[.int .u8 v] w fun e w' => e = .returned (.bool true) ∧ Keeps (fun _ => False) w w' := by
  obtain ⟨hv0, hv1⟩ := hv
  obtain ⟨K, hKK⟩ : ∃ K : Int, K = 91 := ⟨_, rfl⟩
  obtain ⟨hs, hn, hw1, ho1, ho2, hz, hne⟩ := h
  have q1 := fun W => sign_at hw1 W
  have q2 := text_at ho1
  have q3 := text_at ho2
  have z1 : S.size ≤ 100000 := by omega
  have z2 : (S ++ S).size ≤ 100000 := by rw [app_sz]; omega
  have HN : Hid ((y.toNat : Int) = 91) := hn
  have HS : Hid ((⟨[y].toArray⟩ : ByteArray) = S) := hs
  obtain ⟨c105, hc105⟩ : ∃ c : ByteArray, c = ⟨#[105]⟩ := ⟨_, rfl⟩
  have e105 : (S.toList == c105.toList) = false := by rw [hc105]; have h := hne 105; rw [h]; first | rfl | (rw [decide_eq_false_iff_not]; show (91 : Int) ≠ 105; omega)
  obtain ⟨c106, hc106⟩ : ∃ c : ByteArray, c = ⟨#[106]⟩ := ⟨_, rfl⟩
  have e106 : (S.toList == c106.toList) = false := by rw [hc106]; have h := hne 106; rw [h]; first | rfl | (rw [decide_eq_false_iff_not]; show (91 : Int) ≠ 106; omega)
  obtain ⟨c108, hc108⟩ : ∃ c : ByteArray, c = ⟨#[108]⟩ := ⟨_, rfl⟩
  have e108 : (S.toList == c108.toList) = false := by rw [hc108]; have h := hne 108; rw [h]; first | rfl | (rw [decide_eq_false_iff_not]; show (91 : Int) ≠ 108; omega)
  obtain ⟨c33, hc33⟩ : ∃ c : ByteArray, c = ⟨#[33]⟩ := ⟨_, rfl⟩
  have e33 : (S.toList == c33.toList) = false := by rw [hc33]; have h := hne 33; rw [h]; first | rfl | (rw [decide_eq_false_iff_not]; show (91 : Int) ≠ 33; omega)
  obtain ⟨c124, hc124⟩ : ∃ c : ByteArray, c = ⟨#[124]⟩ := ⟨_, rfl⟩
  have e124 : (S.toList == c124.toList) = false := by rw [hc124]; have h := hne 124; rw [h]; first | rfl | (rw [decide_eq_false_iff_not]; show (91 : Int) ≠ 124; omega)
  obtain ⟨c46, hc46⟩ : ∃ c : ByteArray, c = ⟨#[46]⟩ := ⟨_, rfl⟩
  have e46 : (S.toList == c46.toList) = false := by rw [hc46]; have h := hne 46; rw [h]; first | rfl | (rw [decide_eq_false_iff_not]; show (91 : Int) ≠ 46; omega)
  obtain ⟨c44, hc44⟩ : ∃ c : ByteArray, c = ⟨#[44]⟩ := ⟨_, rfl⟩
  have e44 : (S.toList == c44.toList) = false := by rw [hc44]; have h := hne 44; rw [h]; first | rfl | (rw [decide_eq_false_iff_not]; show (91 : Int) ≠ 44; omega)
  obtain ⟨c58, hc58⟩ : ∃ c : ByteArray, c = ⟨#[58]⟩ := ⟨_, rfl⟩
  have e58 : (S.toList == c58.toList) = false := by rw [hc58]; have h := hne 58; rw [h]; first | rfl | (rw [decide_eq_false_iff_not]; show (91 : Int) ≠ 58; omega)
  obtain ⟨c59, hc59⟩ : ∃ c : ByteArray, c = ⟨#[59]⟩ := ⟨_, rfl⟩
  have e59 : (S.toList == c59.toList) = false := by rw [hc59]; have h := hne 59; rw [h]; first | rfl | (rw [decide_eq_false_iff_not]; show (91 : Int) ≠ 59; omega)
  obtain ⟨c39, hc39⟩ : ∃ c : ByteArray, c = ⟨#[39]⟩ := ⟨_, rfl⟩
  have e39 : (S.toList == c39.toList) = false := by rw [hc39]; have h := hne 39; rw [h]; first | rfl | (rw [decide_eq_false_iff_not]; show (91 : Int) ≠ 39; omega)
  obtain ⟨c102, hc102⟩ : ∃ c : ByteArray, c = ⟨#[102]⟩ := ⟨_, rfl⟩
  have e102 : (S.toList == c102.toList) = false := by rw [hc102]; have h := hne 102; rw [h]; first | rfl | (rw [decide_eq_false_iff_not]; show (91 : Int) ≠ 102; omega)
  obtain ⟨c116, hc116⟩ : ∃ c : ByteArray, c = ⟨#[116]⟩ := ⟨_, rfl⟩
  have e116 : (S.toList == c116.toList) = false := by rw [hc116]; have h := hne 116; rw [h]; first | rfl | (rw [decide_eq_false_iff_not]; show (91 : Int) ≠ 116; omega)
  obtain ⟨c114, hc114⟩ : ∃ c : ByteArray, c = ⟨#[114]⟩ := ⟨_, rfl⟩
  have e114 : (S.toList == c114.toList) = false := by rw [hc114]; have h := hne 114; rw [h]; first | rfl | (rw [decide_eq_false_iff_not]; show (91 : Int) ≠ 114; omega)
  obtain ⟨c40, hc40⟩ : ∃ c : ByteArray, c = ⟨#[40]⟩ := ⟨_, rfl⟩
  have e40 : (S.toList == c40.toList) = false := by rw [hc40]; have h := hne 40; rw [h]; first | rfl | (rw [decide_eq_false_iff_not]; show (91 : Int) ≠ 40; omega)
  obtain ⟨c41, hc41⟩ : ∃ c : ByteArray, c = ⟨#[41]⟩ := ⟨_, rfl⟩
  have e41 : (S.toList == c41.toList) = false := by rw [hc41]; have h := hne 41; rw [h]; first | rfl | (rw [decide_eq_false_iff_not]; show (91 : Int) ≠ 41; omega)
  obtain ⟨c91, hc91⟩ : ∃ c : ByteArray, c = ⟨#[91]⟩ := ⟨_, rfl⟩
  have e91 : (S.toList == c91.toList) = true := by rw [hc91]; have h := hne 91; rw [h]; first | rfl | (rw [decide_eq_false_iff_not]; show (91 : Int) ≠ 91; omega)
  clear hKK
  clear hs hn hw1 ho1 ho2 hz hne
  have HT : Hid (Lib.Utf8Tabs 0 1 w) := hT
  clear hT
  go_enter Tryd.func5, Tryd.ntmps5
  rw [← hc105, ← hc106, ← hc108, ← hc33, ← hc124, ← hc46, ← hc44, ← hc58, ← hc59, ← hc39, ← hc102, ← hc116, ← hc114, ← hc40, ← hc41, ← hc91]
  clear hc105 hc106 hc108 hc33 hc124 hc46 hc44 hc58 hc59 hc39 hc102 hc116 hc114 hc40 hc41 hc91
  go_wp2_with (first
    | (go_at_call 7; refine (q1 _).mono ?_; rintro e w' ⟨rfl, rfl⟩)
    | (refine wpList_bU1 rfl _ rfl y _ HN.out rfl ?_; intro g w1 s1 k1; have hcv := conv_su s1; rw [HS.out] at hcv)
    | (go_at_call 9; have := K2; refine (q3 _ (Tabs.keep HT.out K2) z2).mono ?_; rintro e w3 ⟨rfl, k3⟩; have K3 := K2.trans k3)
    | (go_at_call 9; refine (q2 _ (Tabs.keep HT.out k1) z1).mono ?_; rintro e w2 ⟨rfl, k2⟩; have K2 := k1.trans k2)
    | (go_at_call 6; refine (wakes6 _ (Tabs.keep HT.out K3)).mono ?_; rintro e w4 ⟨rfl, k4⟩))
  go_ret
  exact ⟨rfl, K3.trans k4⟩

set_option maxRecDepth 100000 in
set_option maxHeartbeats 1000000 in
theorem kind_93 (w : World) (hT : Lib.Utf8Tabs 0 1 w) (v : Int) (hv : 0 ≤ v ∧ v ≤ 255) (hK : v % 127 = 93) (S : ByteArray) (y : UInt8) (h : One S y 93 4) :
    Calls Tryd.prog 5 #[.int .u8 v] w fun e w' => e = .returned (.bool true) ∧ Keeps (fun _ => False) w w' := by
  obtain ⟨hv0, hv1⟩ := hv
  obtain ⟨K, hKK⟩ : ∃ K : Int, K = 93 := ⟨_, rfl⟩
  obtain ⟨hs, hn, hw1, ho1, ho2, hz, hne⟩ := h
  have q1 := fun W => sign_at hw1 W
  have q2 := text_at ho1
  have q3 := text_at ho2
  have z1 : S.size ≤ 100000 := by omega
  have z2 : (S ++ S).size ≤ 100000 := by rw [app_sz]; omega
  have HN : Hid ((y.toNat : Int) = 93) := hn
  have HS : Hid ((⟨[y].toArray⟩ : ByteArray) = S) := hs
  obtain ⟨c105, hc105⟩ : ∃ c : ByteArray, c = ⟨#[105]⟩ := ⟨_, rfl⟩
  have e105 : (S.toList == c105.toList) = false := by rw [hc105]; have h := hne 105; rw [h]; first | rfl | (rw [decide_eq_false_iff_not]; show (93 : Int) ≠ 105; omega)
  obtain ⟨c106, hc106⟩ : ∃ c : ByteArray, c = ⟨#[106]⟩ := ⟨_, rfl⟩
  have e106 : (S.toList == c106.toList) = false := by rw [hc106]; have h := hne 106; rw [h]; first | rfl | (rw [decide_eq_false_iff_not]; show (93 : Int) ≠ 106; omega)
  obtain ⟨c108, hc108⟩ : ∃ c : ByteArray, c = ⟨#[108]⟩ := ⟨_, rfl⟩
  have e108 : (S.toList == c108.toList) = false := by rw [hc108]; have h := hne 108; rw [h]; first | rfl | (rw [decide_eq_false_iff_not]; show (93 : Int) ≠ 108; omega)
  obtain ⟨c33, hc33⟩ : ∃ c : ByteArray, c = ⟨#[33]⟩ := ⟨_, rfl⟩
  have e33 : (S.toList == c33.toList) = false := by rw [hc33]; have h := hne 33; rw [h]; first | rfl | (rw [decide_eq_false_iff_not]; show (93 : Int) ≠ 33; omega)
  obtain ⟨c124, hc124⟩ : ∃ c : ByteArray, c = ⟨#[124]⟩ := ⟨_, rfl⟩
  have e124 : (S.toList == c124.toList) = false := by rw [hc124]; have h := hne 124; rw [h]; first | rfl | (rw [decide_eq_false_iff_not]; show (93 : Int) ≠ 124; omega)
  obtain ⟨c46, hc46⟩ : ∃ c : ByteArray, c = ⟨#[46]⟩ := ⟨_, rfl⟩
  have e46 : (S.toList == c46.toList) = false := by rw [hc46]; have h := hne 46; rw [h]; first | rfl | (rw [decide_eq_false_iff_not]; show (93 : Int) ≠ 46; omega)
  obtain ⟨c44, hc44⟩ : ∃ c : ByteArray, c = ⟨#[44]⟩ := ⟨_, rfl⟩
  have e44 : (S.toList == c44.toList) = false := by rw [hc44]; have h := hne 44; rw [h]; first | rfl | (rw [decide_eq_false_iff_not]; show (93 : Int) ≠ 44; omega)
  obtain ⟨c58, hc58⟩ : ∃ c : ByteArray, c = ⟨#[58]⟩ := ⟨_, rfl⟩
  have e58 : (S.toList == c58.toList) = false := by rw [hc58]; have h := hne 58; rw [h]; first | rfl | (rw [decide_eq_false_iff_not]; show (93 : Int) ≠ 58; omega)
  obtain ⟨c59, hc59⟩ : ∃ c : ByteArray, c = ⟨#[59]⟩ := ⟨_, rfl⟩
  have e59 : (S.toList == c59.toList) = false := by rw [hc59]; have h := hne 59; rw [h]; first | rfl | (rw [decide_eq_false_iff_not]; show (93 : Int) ≠ 59; omega)
  obtain ⟨c39, hc39⟩ : ∃ c : ByteArray, c = ⟨#[39]⟩ := ⟨_, rfl⟩
  have e39 : (S.toList == c39.toList) = false := by rw [hc39]; have h := hne 39; rw [h]; first | rfl | (rw [decide_eq_false_iff_not]; show (93 : Int) ≠ 39; omega)
  obtain ⟨c102, hc102⟩ : ∃ c : ByteArray, c = ⟨#[102]⟩ := ⟨_, rfl⟩
  have e102 : (S.toList == c102.toList) = false := by rw [hc102]; have h := hne 102; rw [h]; first | rfl | (rw [decide_eq_false_iff_not]; show (93 : Int) ≠ 102; omega)
  obtain ⟨c116, hc116⟩ : ∃ c : ByteArray, c = ⟨#[116]⟩ := ⟨_, rfl⟩
  have e116 : (S.toList == c116.toList) = false := by rw [hc116]; have h := hne 116; rw [h]; first | rfl | (rw [decide_eq_false_iff_not]; show (93 : Int) ≠ 116; omega)
  obtain ⟨c114, hc114⟩ : ∃ c : ByteArray, c = ⟨#[114]⟩ := ⟨_, rfl⟩
  have e114 : (S.toList == c114.toList) = false := by rw [hc114]; have h := hne 114; rw [h]; first | rfl | (rw [decide_eq_false_iff_not]; show (93 : Int) ≠ 114; omega)
  obtain ⟨c40, hc40⟩ : ∃ c : ByteArray, c = ⟨#[40]⟩ := ⟨_, rfl⟩
  have e40 : (S.toList == c40.toList) = false := by rw [hc40]; have h := hne 40; rw [h]; first | rfl | (rw [decide_eq_false_iff_not]; show (93 : Int) ≠ 40; omega)
  obtain ⟨c41, hc41⟩ : ∃ c : ByteArray, c = ⟨#[41]⟩ := ⟨_, rfl⟩
  have e41 : (S.toList == c41.toList) = false := by rw [hc41]; have h := hne 41; rw [h]; first | rfl | (rw [decide_eq_false_iff_not]; show (93 : Int) ≠ 41; omega)
  obtain ⟨c91, hc91⟩ : ∃ c : ByteArray, c = ⟨#[91]⟩ := ⟨_, rfl⟩
  have e91 : (S.toList == c91.toList) = false := by rw [hc91]; have h := hne 91; rw [h]; first | rfl | (rw [decide_eq_false_iff_not]; show (93 : Int) ≠ 91; omega)
  obtain ⟨c93, hc93⟩ : ∃ c : ByteArray, c = ⟨#[93]⟩ := ⟨_, rfl⟩
  have e93 : (S.toList == c93.toList) = true := by rw [hc93]; have h := hne 93; rw [h]; first | rfl | (rw [decide_eq_false_iff_not]; show (93 : Int) ≠ 93; omega)
  clear hKK
  clear hs hn hw1 ho1 ho2 hz hne
  have HT : Hid (Lib.Utf8Tabs 0 1 w) := hT
  clear hT
  go_enter Tryd.func5, Tryd.ntmps5
  rw [← hc105, ← hc106, ← hc108, ← hc33, ← hc124, ← hc46, ← hc44, ← hc58, ← hc59, ← hc39, ← hc102, ← hc116, ← hc114, ← hc40, ← hc41, ← hc91, ← hc93]
  clear hc105 hc106 hc108 hc33 hc124 hc46 hc44 hc58 hc59 hc39 hc102 hc116 hc114 hc40 hc41 hc91 hc93
  go_wp2_with (first
    | (go_at_call 7; refine (q1 _).mono ?_; rintro e w' ⟨rfl, rfl⟩)
    | (refine wpList_bU1 rfl _ rfl y _ HN.out rfl ?_; intro g w1 s1 k1; have hcv := conv_su s1; rw [HS.out] at hcv)
    | (go_at_call 9; have := K2; refine (q3 _ (Tabs.keep HT.out K2) z2).mono ?_; rintro e w3 ⟨rfl, k3⟩; have K3 := K2.trans k3)
    | (go_at_call 9; refine (q2 _ (Tabs.keep HT.out k1) z1).mono ?_; rintro e w2 ⟨rfl, k2⟩; have K2 := k1.trans k2)
    | (go_at_call 6; refine (wakes6 _ (Tabs.keep HT.out K3)).mono ?_; rintro e w4 ⟨rfl, k4⟩))
  go_ret
  exact ⟨rfl, K3.trans k4⟩

set_option maxRecDepth 100000 in
set_option maxHeartbeats 1000000 in
theorem kind_45 (w : World) (hT : Lib.Utf8Tabs 0 1 w) (v : Int) (hv : 0 ≤ v ∧ v ≤ 255) (hK : v % 127 = 45) (S : ByteArray) (y : UInt8) (h : One S y 45 4) :
    Calls Tryd.prog 5 #[.int .u8 v] w fun e w' => e = .returned (.bool true) ∧ Keeps (fun _ => False) w w' := by
  obtain ⟨hv0, hv1⟩ := hv
  obtain ⟨K, hKK⟩ : ∃ K : Int, K = 45 := ⟨_, rfl⟩
  obtain ⟨hs, hn, hw1, ho1, ho2, hz, hne⟩ := h
  have q1 := fun W => sign_at hw1 W
  have q2 := text_at ho1
  have q3 := text_at ho2
  have z1 : S.size ≤ 100000 := by omega
  have z2 : (S ++ S).size ≤ 100000 := by rw [app_sz]; omega
  have HN : Hid ((y.toNat : Int) = 45) := hn
  have HS : Hid ((⟨[y].toArray⟩ : ByteArray) = S) := hs
  obtain ⟨c105, hc105⟩ : ∃ c : ByteArray, c = ⟨#[105]⟩ := ⟨_, rfl⟩
  have e105 : (S.toList == c105.toList) = false := by rw [hc105]; have h := hne 105; rw [h]; first | rfl | (rw [decide_eq_false_iff_not]; show (45 : Int) ≠ 105; omega)
  obtain ⟨c106, hc106⟩ : ∃ c : ByteArray, c = ⟨#[106]⟩ := ⟨_, rfl⟩
  have e106 : (S.toList == c106.toList) = false := by rw [hc106]; have h := hne 106; rw [h]; first | rfl | (rw [decide_eq_false_iff_not]; show (45 : Int) ≠ 106; omega)
  obtain ⟨c108, hc108⟩ : ∃ c : ByteArray, c = ⟨#[108]⟩ := ⟨_, rfl⟩
  have e108 : (S.toList == c108.toList) = false := by rw [hc108]; have h := hne 108; rw [h]; first | rfl | (rw [decide_eq_false_iff_not]; show (45 : Int) ≠ 108; omega)
  obtain ⟨c33, hc33⟩ : ∃ c : ByteArray, c = ⟨#[33]⟩ := ⟨_, rfl⟩
  have e33 : (S.toList == c33.toList) = false := by rw [hc33]; have h := hne 33; rw [h]; first | rfl | (rw [decide_eq_false_iff_not]; show (45 : Int) ≠ 33; omega)
  obtain ⟨c124, hc124⟩ : ∃ c : ByteArray, c = ⟨#[124]⟩ := ⟨_, rfl⟩
  have e124 : (S.toList == c124.toList) = false := by rw [hc124]; have h := hne 124; rw [h]; first | rfl | (rw [decide_eq_false_iff_not]; show (45 : Int) ≠ 124; omega)
  obtain ⟨c46, hc46⟩ : ∃ c : ByteArray, c = ⟨#[46]⟩ := ⟨_, rfl⟩
  have e46 : (S.toList == c46.toList) = false := by rw [hc46]; have h := hne 46; rw [h]; first | rfl | (rw [decide_eq_false_iff_not]; show (45 : Int) ≠ 46; omega)
  obtain ⟨c44, hc44⟩ : ∃ c : ByteArray, c = ⟨#[44]⟩ := ⟨_, rfl⟩
  have e44 : (S.toList == c44.toList) = false := by rw [hc44]; have h := hne 44; rw [h]; first | rfl | (rw [decide_eq_false_iff_not]; show (45 : Int) ≠ 44; omega)
  obtain ⟨c58, hc58⟩ : ∃ c : ByteArray, c = ⟨#[58]⟩ := ⟨_, rfl⟩
  have e58 : (S.toList == c58.toList) = false := by rw [hc58]; have h := hne 58; rw [h]; first | rfl | (rw [decide_eq_false_iff_not]; show (45 : Int) ≠ 58; omega)
  obtain ⟨c59, hc59⟩ : ∃ c : ByteArray, c = ⟨#[59]⟩ := ⟨_, rfl⟩
  have e59 : (S.toList == c59.toList) = false := by rw [hc59]; have h := hne 59; rw [h]; first | rfl | (rw [decide_eq_false_iff_not]; show (45 : Int) ≠ 59; omega)
  obtain ⟨c39, hc39⟩ : ∃ c : ByteArray, c = ⟨#[39]⟩ := ⟨_, rfl⟩
  have e39 : (S.toList == c39.toList) = false := by rw [hc39]; have h := hne 39; rw [h]; first | rfl | (rw [decide_eq_false_iff_not]; show (45 : Int) ≠ 39; omega)
  obtain ⟨c102, hc102⟩ : ∃ c : ByteArray, c = ⟨#[102]⟩ := ⟨_, rfl⟩
  have e102 : (S.toList == c102.toList) = false := by rw [hc102]; have h := hne 102; rw [h]; first | rfl | (rw [decide_eq_false_iff_not]; show (45 : Int) ≠ 102; omega)
  obtain ⟨c116, hc116⟩ : ∃ c : ByteArray, c = ⟨#[116]⟩ := ⟨_, rfl⟩
  have e116 : (S.toList == c116.toList) = false := by rw [hc116]; have h := hne 116; rw [h]; first | rfl | (rw [decide_eq_false_iff_not]; show (45 : Int) ≠ 116; omega)
  obtain ⟨c114, hc114⟩ : ∃ c : ByteArray, c = ⟨#[114]⟩ := ⟨_, rfl⟩
  have e114 : (S.toList == c114.toList) = false := by rw [hc114]; have h := hne 114; rw [h]; first | rfl | (rw [decide_eq_false_iff_not]; show (45 : Int) ≠ 114; omega)
  obtain ⟨c40, hc40⟩ : ∃ c : ByteArray, c = ⟨#[40]⟩ := ⟨_, rfl⟩
  have e40 : (S.toList == c40.toList) = false := by rw [hc40]; have h := hne 40; rw [h]; first | rfl | (rw [decide_eq_false_iff_not]; show (45 : Int) ≠ 40; omega)
  obtain ⟨c41, hc41⟩ : ∃ c : ByteArray, c = ⟨#[41]⟩ := ⟨_, rfl⟩
  have e41 : (S.toList == c41.toList) = false := by rw [hc41]; have h := hne 41; rw [h]; first | rfl | (rw [decide_eq_false_iff_not]; show (45 : Int) ≠ 41; omega)
  obtain ⟨c91, hc91⟩ : ∃ c : ByteArray, c = ⟨#[91]⟩ := ⟨_, rfl⟩
  have e91 : (S.toList == c91.toList) = false := by rw [hc91]; have h := hne 91; rw [h]; first | rfl | (rw [decide_eq_false_iff_not]; show (45 : Int) ≠ 91; omega)
  obtain ⟨c93, hc93⟩ : ∃ c : ByteArray, c = ⟨#[93]⟩ := ⟨_, rfl⟩
  have e93 : (S.toList == c93.toList) = false := by rw [hc93]; have h := hne 93; rw [h]; first | rfl | (rw [decide_eq_false_iff_not]; show (45 : Int) ≠ 93; omega)
  obtain ⟨c45, hc45⟩ : ∃ c : ByteArray, c = ⟨#[45]⟩ := ⟨_, rfl⟩
  have e45 : (S.toList == c45.toList) = true := by rw [hc45]; have h := hne 45; rw [h]; first | rfl | (rw [decide_eq_false_iff_not]; show (45 : Int) ≠ 45; omega)
  clear hKK
  clear hs hn hw1 ho1 ho2 hz hne
  have HT : Hid (Lib.Utf8Tabs 0 1 w) := hT
  clear hT
  go_enter Tryd.func5, Tryd.ntmps5
  rw [← hc105, ← hc106, ← hc108, ← hc33, ← hc124, ← hc46, ← hc44, ← hc58, ← hc59, ← hc39, ← hc102, ← hc116, ← hc114, ← hc40, ← hc41, ← hc91, ← hc93, ← hc45]
  clear hc105 hc106 hc108 hc33 hc124 hc46 hc44 hc58 hc59 hc39 hc102 hc116 hc114 hc40 hc41 hc91 hc93 hc45
  go_wp2_with (first
    | (go_at_call 7; refine (q1 _).mono ?_; rintro e w' ⟨rfl, rfl⟩)
    | (refine wpList_bU1 rfl _ rfl y _ HN.out rfl ?_; intro g w1 s1 k1; have hcv := conv_su s1; rw [HS.out] at hcv)
    | (go_at_call 9; have := K2; refine (q3 _ (Tabs.keep HT.out K2) z2).mono ?_; rintro e w3 ⟨rfl, k3⟩; have K3 := K2.trans k3)
    | (go_at_call 9; refine (q2 _ (Tabs.keep HT.out k1) z1).mono ?_; rintro e w2 ⟨rfl, k2⟩; have K2 := k1.trans k2)
    | (go_at_call 6; refine (wakes6 _ (Tabs.keep HT.out K3)).mono ?_; rintro e w4 ⟨rfl, k4⟩))
  go_ret
  exact ⟨rfl, K3.trans k4⟩

set_option maxRecDepth 100000 in
set_option maxHeartbeats 1000000 in
theorem kind_34 (w : World) (hT : Lib.Utf8Tabs 0 1 w) (v : Int) (hv : 0 ≤ v ∧ v ≤ 255) (hK : v % 127 = 34) (S : ByteArray) (y : UInt8) (h : One S y 34 4) :
    Calls Tryd.prog 5 #[.int .u8 v] w fun e w' => e = .returned (.bool true) ∧ Keeps (fun _ => False) w w' := by
  obtain ⟨hv0, hv1⟩ := hv
  obtain ⟨K, hKK⟩ : ∃ K : Int, K = 34 := ⟨_, rfl⟩
  obtain ⟨hs, hn, hw1, ho1, ho2, hz, hne⟩ := h
  have q1 := fun W => sign_at hw1 W
  have q2 := text_at ho1
  have q3 := text_at ho2
  have z1 : S.size ≤ 100000 := by omega
  have z2 : (S ++ S).size ≤ 100000 := by rw [app_sz]; omega
  have HN : Hid ((y.toNat : Int) = 34) := hn
  have HS : Hid ((⟨[y].toArray⟩ : ByteArray) = S) := hs
  obtain ⟨c105, hc105⟩ : ∃ c : ByteArray, c = ⟨#[105]⟩ := ⟨_, rfl⟩
  have e105 : (S.toList == c105.toList) = false := by rw [hc105]; have h := hne 105; rw [h]; first | rfl | (rw [decide_eq_false_iff_not]; show (34 : Int) ≠ 105; omega)
  obtain ⟨c106, hc106⟩ : ∃ c : ByteArray, c = ⟨#[106]⟩ := ⟨_, rfl⟩
  have e106 : (S.toList == c106.toList) = false := by rw [hc106]; have h := hne 106; rw [h]; first | rfl | (rw [decide_eq_false_iff_not]; show (34 : Int) ≠ 106; omega)
  obtain ⟨c108, hc108⟩ : ∃ c : ByteArray, c = ⟨#[108]⟩ := ⟨_, rfl⟩
  have e108 : (S.toList == c108.toList) = false := by rw [hc108]; have h := hne 108; rw [h]; first | rfl | (rw [decide_eq_false_iff_not]; show (34 : Int) ≠ 108; omega)
  obtain ⟨c33, hc33⟩ : ∃ c : ByteArray, c = ⟨#[33]⟩ := ⟨_, rfl⟩
  have e33 : (S.toList == c33.toList) = false := by rw [hc33]; have h := hne 33; rw [h]; first | rfl | (rw [decide_eq_false_iff_not]; show (34 : Int) ≠ 33; omega)
  obtain ⟨c124, hc124⟩ : ∃ c : ByteArray, c = ⟨#[124]⟩ := ⟨_, rfl⟩
  have e124 : (S.toList == c124.toList) = false := by rw [hc124]; have h := hne 124; rw [h]; first | rfl | (rw [decide_eq_false_iff_not]; show (34 : Int) ≠ 124; omega)
  obtain ⟨c46, hc46⟩ : ∃ c : ByteArray, c = ⟨#[46]⟩ := ⟨_, rfl⟩
  have e46 : (S.toList == c46.toList) = false := by rw [hc46]; have h := hne 46; rw [h]; first | rfl | (rw [decide_eq_false_iff_not]; show (34 : Int) ≠ 46; omega)
  obtain ⟨c44, hc44⟩ : ∃ c : ByteArray, c = ⟨#[44]⟩ := ⟨_, rfl⟩
  have e44 : (S.toList == c44.toList) = false := by rw [hc44]; have h := hne 44; rw [h]; first | rfl | (rw [decide_eq_false_iff_not]; show (34 : Int) ≠ 44; omega)
  obtain ⟨c58, hc58⟩ : ∃ c : ByteArray, c = ⟨#[58]⟩ := ⟨_, rfl⟩
  have e58 : (S.toList == c58.toList) = false := by rw [hc58]; have h := hne 58; rw [h]; first | rfl | (rw [decide_eq_false_iff_not]; show (34 : Int) ≠ 58; omega)
  obtain ⟨c59, hc59⟩ : ∃ c : ByteArray, c = ⟨#[59]⟩ := ⟨_, rfl⟩
  have e59 : (S.toList == c59.toList) = false := by rw [hc59]; have h := hne 59; rw [h]; first | rfl | (rw [decide_eq_false_iff_not]; show (34 : Int) ≠ 59; omega)
  obtain ⟨c39, hc39⟩ : ∃ c : ByteArray, c = ⟨#[39]⟩ := ⟨_, rfl⟩
  have e39 : (S.toList == c39.toList) = false := by rw [hc39]; have h := hne 39; rw [h]; first | rfl | (rw [decide_eq_false_iff_not]; show (34 : Int) ≠ 39; omega)
  obtain ⟨c102, hc102⟩ : ∃ c : ByteArray, c = ⟨#[102]⟩ := ⟨_, rfl⟩
  have e102 : (S.toList == c102.toList) = false := by rw [hc102]; have h := hne 102; rw [h]; first | rfl | (rw [decide_eq_false_iff_not]; show (34 : Int) ≠ 102; omega)
  obtain ⟨c116, hc116⟩ : ∃ c : ByteArray, c = ⟨#[116]⟩ := ⟨_, rfl⟩
  have e116 : (S.toList == c116.toList) = false := by rw [hc116]; have h := hne 116; rw [h]; first | rfl | (rw [decide_eq_false_iff_not]; show (34 : Int) ≠ 116; omega)
  obtain ⟨c114, hc114⟩ : ∃ c : ByteArray, c = ⟨#[114]⟩ := ⟨_, rfl⟩
  have e114 : (S.toList == c114.toList) = false := by rw [hc114]; have h := hne 114; rw [h]; first | rfl | (rw [decide_eq_false_iff_not]; show (34 : Int) ≠ 114; omega)
  obtain ⟨c40, hc40⟩ : ∃ c : ByteArray, c = ⟨#[40]⟩ := ⟨_, rfl⟩
  have e40 : (S.toList == c40.toList) = false := by rw [hc40]; have h := hne 40; rw [h]; first | rfl | (rw [decide_eq_false_iff_not]; show (34 : Int) ≠ 40; omega)
  obtain ⟨c41, hc41⟩ : ∃ c : ByteArray, c = ⟨#[41]⟩ := ⟨_, rfl⟩
  have e41 : (S.toList == c41.toList) = false := by rw [hc41]; have h := hne 41; rw [h]; first | rfl | (rw [decide_eq_false_iff_not]; show (34 : Int) ≠ 41; omega)
  obtain ⟨c91, hc91⟩ : ∃ c : ByteArray, c = ⟨#[91]⟩ := ⟨_, rfl⟩
  have e91 : (S.toList == c91.toList) = false := by rw [hc91]; have h := hne 91; rw [h]; first | rfl | (rw [decide_eq_false_iff_not]; show (34 : Int) ≠ 91; omega)
  obtain ⟨c93, hc93⟩ : ∃ c : ByteArray, c = ⟨#[93]⟩ := ⟨_, rfl⟩
  have e93 : (S.toList == c93.toList) = false := by rw [hc93]; have h := hne 93; rw [h]; first | rfl | (rw [decide_eq_false_iff_not]; show (34 : Int) ≠ 93; omega)
  obtain ⟨c45, hc45⟩ : ∃ c : ByteArray, c = ⟨#[45]⟩ := ⟨_, rfl⟩
  have e45 : (S.toList == c45.toList) = false := by rw [hc45]; have h := hne 45; rw [h]; first | rfl | (rw [decide_eq_false_iff_not]; show (34 : Int) ≠ 45; omega)
  obtain ⟨c34, hc34⟩ : ∃ c : ByteArray, c = ⟨#[34]⟩ := ⟨_, rfl⟩
  have e34 : (S.toList == c34.toList) = true := by rw [hc34]; have h := hne 34; rw [h]; first | rfl | (rw [decide_eq_false_iff_not]; show (34 : Int) ≠ 34; omega)
  clear hKK
  clear hs hn hw1 ho1 ho2 hz hne
  have HT : Hid (Lib.Utf8Tabs 0 1 w) := hT
  clear hT
  go_enter Tryd.func5, Tryd.ntmps5
  rw [← hc105, ← hc106, ← hc108, ← hc33, ← hc124, ← hc46, ← hc44, ← hc58, ← hc59, ← hc39, ← hc102, ← hc116, ← hc114, ← hc40, ← hc41, ← hc91, ← hc93, ← hc45, ← hc34]
  clear hc105 hc106 hc108 hc33 hc124 hc46 hc44 hc58 hc59 hc39 hc102 hc116 hc114 hc40 hc41 hc91 hc93 hc45 hc34
  go_wp2_with (first
    | (go_at_call 7; refine (q1 _).mono ?_; rintro e w' ⟨rfl, rfl⟩)
    | (refine wpList_bU1 rfl _ rfl y _ HN.out rfl ?_; intro g w1 s1 k1; have hcv := conv_su s1; rw [HS.out] at hcv)
    | (go_at_call 9; have := K2; refine (q3 _ (Tabs.keep HT.out K2) z2).mono ?_; rintro e w3 ⟨rfl, k3⟩; have K3 := K2.trans k3)
    | (go_at_call 9; refine (q2 _ (Tabs.keep HT.out k1) z1).mono ?_; rintro e w2 ⟨rfl, k2⟩; have K2 := k1.trans k2)
    | (go_at_call 6; refine (wakes6 _ (Tabs.keep HT.out K3)).mono ?_; rintro e w4 ⟨rfl, k4⟩))
  go_ret
  exact ⟨rfl, K3.trans k4⟩

set_option maxRecDepth 100000 in
set_option maxHeartbeats 1000000 in
theorem kind_109 (w : World) (hT : Lib.Utf8Tabs 0 1 w) (v : Int) (hv : 0 ≤ v ∧ v ≤ 255) (hK : v % 127 = 109) (S : ByteArray) (y : UInt8) (h : One S y 109 9) :
    Calls Tryd.prog 5 #[.int .u8 v] w fun e w' => e = .returned (.bool true) ∧ Keeps (fun _ => False) w w' := by
  obtain ⟨hv0, hv1⟩ := hv
  obtain ⟨K, hKK⟩ : ∃ K : Int, K = 109 := ⟨_, rfl⟩
  obtain ⟨hs, hn, hw1, ho1, ho2, hz, hne⟩ := h
  have q1 := fun W => sign_at hw1 W
  have q2 := text_at ho1
  have q3 := text_at ho2
  have z1 : S.size ≤ 100000 := by omega
  have z2 : (S ++ S).size ≤ 100000 := by rw [app_sz]; omega
  have HN : Hid ((y.toNat : Int) = 109) := hn
  have HS : Hid ((⟨[y].toArray⟩ : ByteArray) = S) := hs
  obtain ⟨c105, hc105⟩ : ∃ c : ByteArray, c = ⟨#[105]⟩ := ⟨_, rfl⟩
  have e105 : (S.toList == c105.toList) = false := by rw [hc105]; have h := hne 105; rw [h]; first | rfl | (rw [decide_eq_false_iff_not]; show (109 : Int) ≠ 105; omega)
  obtain ⟨c106, hc106⟩ : ∃ c : ByteArray, c = ⟨#[106]⟩ := ⟨_, rfl⟩
  have e106 : (S.toList == c106.toList) = false := by rw [hc106]; have h := hne 106; rw [h]; first | rfl | (rw [decide_eq_false_iff_not]; show (109 : Int) ≠ 106; omega)
  obtain ⟨c108, hc108⟩ : ∃ c : ByteArray, c = ⟨#[108]⟩ := ⟨_, rfl⟩
  have e108 : (S.toList == c108.toList) = false := by rw [hc108]; have h := hne 108; rw [h]; first | rfl | (rw [decide_eq_false_iff_not]; show (109 : Int) ≠ 108; omega)
  obtain ⟨c33, hc33⟩ : ∃ c : ByteArray, c = ⟨#[33]⟩ := ⟨_, rfl⟩
  have e33 : (S.toList == c33.toList) = false := by rw [hc33]; have h := hne 33; rw [h]; first | rfl | (rw [decide_eq_false_iff_not]; show (109 : Int) ≠ 33; omega)
  obtain ⟨c124, hc124⟩ : ∃ c : ByteArray, c = ⟨#[124]⟩ := ⟨_, rfl⟩
  have e124 : (S.toList == c124.toList) = false := by rw [hc124]; have h := hne 124; rw [h]; first | rfl | (rw [decide_eq_false_iff_not]; show (109 : Int) ≠ 124; omega)
  obtain ⟨c46, hc46⟩ : ∃ c : ByteArray, c = ⟨#[46]⟩ := ⟨_, rfl⟩
  have e46 : (S.toList == c46.toList) = false := by rw [hc46]; have h := hne 46; rw [h]; first | rfl | (rw [decide_eq_false_iff_not]; show (109 : Int) ≠ 46; omega)
  obtain ⟨c44, hc44⟩ : ∃ c : ByteArray, c = ⟨#[44]⟩ := ⟨_, rfl⟩
  have e44 : (S.toList == c44.toList) = false := by rw [hc44]; have h := hne 44; rw [h]; first | rfl | (rw [decide_eq_false_iff_not]; show (109 : Int) ≠ 44; omega)
  obtain ⟨c58, hc58⟩ : ∃ c : ByteArray, c = ⟨#[58]⟩ := ⟨_, rfl⟩
  have e58 : (S.toList == c58.toList) = false := by rw [hc58]; have h := hne 58; rw [h]; first | rfl | (rw [decide_eq_false_iff_not]; show (109 : Int) ≠ 58; omega)
  obtain ⟨c59, hc59⟩ : ∃ c : ByteArray, c = ⟨#[59]⟩ := ⟨_, rfl⟩
  have e59 : (S.toList == c59.toList) = false := by rw [hc59]; have h := hne 59; rw [h]; first | rfl | (rw [decide_eq_false_iff_not]; show (109 : Int) ≠ 59; omega)
  obtain ⟨c39, hc39⟩ : ∃ c : ByteArray, c = ⟨#[39]⟩ := ⟨_, rfl⟩
  have e39 : (S.toList == c39.toList) = false := by rw [hc39]; have h := hne 39; rw [h]; first | rfl | (rw [decide_eq_false_iff_not]; show (109 : Int) ≠ 39; omega)
  obtain ⟨c102, hc102⟩ : ∃ c : ByteArray, c = ⟨#[102]⟩ := ⟨_, rfl⟩
  have e102 : (S.toList == c102.toList) = false := by rw [hc102]; have h := hne 102; rw [h]; first | rfl | (rw [decide_eq_false_iff_not]; show (109 : Int) ≠ 102; omega)
  obtain ⟨c116, hc116⟩ : ∃ c : ByteArray, c = ⟨#[116]⟩ := ⟨_, rfl⟩
  have e116 : (S.toList == c116.toList) = false := by rw [hc116]; have h := hne 116; rw [h]; first | rfl | (rw [decide_eq_false_iff_not]; show (109 : Int) ≠ 116; omega)
  obtain ⟨c114, hc114⟩ : ∃ c : ByteArray, c = ⟨#[114]⟩ := ⟨_, rfl⟩
  have e114 : (S.toList == c114.toList) = false := by rw [hc114]; have h := hne 114; rw [h]; first | rfl | (rw [decide_eq_false_iff_not]; show (109 : Int) ≠ 114; omega)
  obtain ⟨c40, hc40⟩ : ∃ c : ByteArray, c = ⟨#[40]⟩ := ⟨_, rfl⟩
  have e40 : (S.toList == c40.toList) = false := by rw [hc40]; have h := hne 40; rw [h]; first | rfl | (rw [decide_eq_false_iff_not]; show (109 : Int) ≠ 40; omega)
  obtain ⟨c41, hc41⟩ : ∃ c : ByteArray, c = ⟨#[41]⟩ := ⟨_, rfl⟩
  have e41 : (S.toList == c41.toList) = false := by rw [hc41]; have h := hne 41; rw [h]; first | rfl | (rw [decide_eq_false_iff_not]; show (109 : Int) ≠ 41; omega)
  obtain ⟨c91, hc91⟩ : ∃ c : ByteArray, c = ⟨#[91]⟩ := ⟨_, rfl⟩
  have e91 : (S.toList == c91.toList) = false := by rw [hc91]; have h := hne 91; rw [h]; first | rfl | (rw [decide_eq_false_iff_not]; show (109 : Int) ≠ 91; omega)
  obtain ⟨c93, hc93⟩ : ∃ c : ByteArray, c = ⟨#[93]⟩ := ⟨_, rfl⟩
  have e93 : (S.toList == c93.toList) = false := by rw [hc93]; have h := hne 93; rw [h]; first | rfl | (rw [decide_eq_false_iff_not]; show (109 : Int) ≠ 93; omega)
  obtain ⟨c45, hc45⟩ : ∃ c : ByteArray, c = ⟨#[45]⟩ := ⟨_, rfl⟩
  have e45 : (S.toList == c45.toList) = false := by rw [hc45]; have h := hne 45; rw [h]; first | rfl | (rw [decide_eq_false_iff_not]; show (109 : Int) ≠ 45; omega)
  obtain ⟨c34, hc34⟩ : ∃ c : ByteArray, c = ⟨#[34]⟩ := ⟨_, rfl⟩
  have e34 : (S.toList == c34.toList) = false := by rw [hc34]; have h := hne 34; rw [h]; first | rfl | (rw [decide_eq_false_iff_not]; show (109 : Int) ≠ 34; omega)
  obtain ⟨c109, hc109⟩ : ∃ c : ByteArray, c = ⟨#[109]⟩ := ⟨_, rfl⟩
  have e109 : (S.toList == c109.toList) = true := by rw [hc109]; have h := hne 109; rw [h]; first | rfl | (rw [decide_eq_false_iff_not]; show (109 : Int) ≠ 109; omega)
  clear hKK
  clear hs hn hw1 ho1 ho2 hz hne
  have HT : Hid (Lib.Utf8Tabs 0 1 w) := hT
  clear hT
  go_enter Tryd.func5, Tryd.ntmps5
  rw [← hc105, ← hc106, ← hc108, ← hc33, ← hc124, ← hc46, ← hc44, ← hc58, ← hc59, ← hc39, ← hc102, ← hc116, ← hc114, ← hc40, ← hc41, ← hc91, ← hc93, ← hc45, ← hc34, ← hc109]
  clear hc105 hc106 hc108 hc33 hc124 hc46 hc44 hc58 hc59 hc39 hc102 hc116 hc114 hc40 hc41 hc91 hc93 hc45 hc34 hc109
  go_wp2_with (first
    | (go_at_call 7; refine (q1 _).mono ?_; rintro e w' ⟨rfl, rfl⟩)
    | (refine wpList_bU1 rfl _ rfl y _ HN.out rfl ?_; intro g w1 s1 k1; have hcv := conv_su s1; rw [HS.out] at hcv)
    | (go_at_call 9; have := K2; refine (q3 _ (Tabs.keep HT.out K2) z2).mono ?_; rintro e w3 ⟨rfl, k3⟩; have K3 := K2.trans k3)
    | (go_at_call 9; refine (q2 _ (Tabs.keep HT.out k1) z1).mono ?_; rintro e w2 ⟨rfl, k2⟩; have K2 := k1.trans k2)
    | (go_at_call 6; refine (wakes6 _ (Tabs.keep HT.out K3)).mono ?_; rintro e w4 ⟨rfl, k4⟩))
  go_ret
  exact ⟨rfl, K3.trans k4⟩

set_option maxRecDepth 100000 in
set_option maxHeartbeats 1000000 in
theorem kind_119 (w : World) (hT : Lib.Utf8Tabs 0 1 w) (v : Int) (hv : 0 ≤ v ∧ v ≤ 255) (hK : v % 127 = 119) (S : ByteArray) (y : UInt8) (h : One S y 119 9) :
    Calls Tryd.prog 5 #[.int .u8 v] w fun e w' => e = .returned (.bool true) ∧ Keeps (fun _ => False) w w' := by
  obtain ⟨hv0, hv1⟩ := hv
  obtain ⟨K, hKK⟩ : ∃ K : Int, K = 119 := ⟨_, rfl⟩
  obtain ⟨hs, hn, hw1, ho1, ho2, hz, hne⟩ := h
  have q1 := fun W => sign_at hw1 W
  have q2 := text_at ho1
  have q3 := text_at ho2
  have z1 : S.size ≤ 100000 := by omega
  have z2 : (S ++ S).size ≤ 100000 := by rw [app_sz]; omega
  have HN : Hid ((y.toNat : Int) = 119) := hn
  have HS : Hid ((⟨[y].toArray⟩ : ByteArray) = S) := hs
  obtain ⟨c105, hc105⟩ : ∃ c : ByteArray, c = ⟨#[105]⟩ := ⟨_, rfl⟩
  have e105 : (S.toList == c105.toList) = false := by rw [hc105]; have h := hne 105; rw [h]; first | rfl | (rw [decide_eq_false_iff_not]; show (119 : Int) ≠ 105; omega)
  obtain ⟨c106, hc106⟩ : ∃ c : ByteArray, c = ⟨#[106]⟩ := ⟨_, rfl⟩
  have e106 : (S.toList == c106.toList) = false := by rw [hc106]; have h := hne 106; rw [h]; first | rfl | (rw [decide_eq_false_iff_not]; show (119 : Int) ≠ 106; omega)
  obtain ⟨c108, hc108⟩ : ∃ c : ByteArray, c = ⟨#[108]⟩ := ⟨_, rfl⟩
  have e108 : (S.toList == c108.toList) = false := by rw [hc108]; have h := hne 108; rw [h]; first | rfl | (rw [decide_eq_false_iff_not]; show (119 : Int) ≠ 108; omega)
  obtain ⟨c33, hc33⟩ : ∃ c : ByteArray, c = ⟨#[33]⟩ := ⟨_, rfl⟩
  have e33 : (S.toList == c33.toList) = false := by rw [hc33]; have h := hne 33; rw [h]; first | rfl | (rw [decide_eq_false_iff_not]; show (119 : Int) ≠ 33; omega)
  obtain ⟨c124, hc124⟩ : ∃ c : ByteArray, c = ⟨#[124]⟩ := ⟨_, rfl⟩
  have e124 : (S.toList == c124.toList) = false := by rw [hc124]; have h := hne 124; rw [h]; first | rfl | (rw [decide_eq_false_iff_not]; show (119 : Int) ≠ 124; omega)
  obtain ⟨c46, hc46⟩ : ∃ c : ByteArray, c = ⟨#[46]⟩ := ⟨_, rfl⟩
  have e46 : (S.toList == c46.toList) = false := by rw [hc46]; have h := hne 46; rw [h]; first | rfl | (rw [decide_eq_false_iff_not]; show (119 : Int) ≠ 46; omega)
  obtain ⟨c44, hc44⟩ : ∃ c : ByteArray, c = ⟨#[44]⟩ := ⟨_, rfl⟩
  have e44 : (S.toList == c44.toList) = false := by rw [hc44]; have h := hne 44; rw [h]; first | rfl | (rw [decide_eq_false_iff_not]; show (119 : Int) ≠ 44; omega)
  obtain ⟨c58, hc58⟩ : ∃ c : ByteArray, c = ⟨#[58]⟩ := ⟨_, rfl⟩
  have e58 : (S.toList == c58.toList) = false := by rw [hc58]; have h := hne 58; rw [h]; first | rfl | (rw [decide_eq_false_iff_not]; show (119 : Int) ≠ 58; omega)
  obtain ⟨c59, hc59⟩ : ∃ c : ByteArray, c = ⟨#[59]⟩ := ⟨_, rfl⟩
  have e59 : (S.toList == c59.toList) = false := by rw [hc59]; have h := hne 59; rw [h]; first | rfl | (rw [decide_eq_false_iff_not]; show (119 : Int) ≠ 59; omega)
  obtain ⟨c39, hc39⟩ : ∃ c : ByteArray, c = ⟨#[39]⟩ := ⟨_, rfl⟩
  have e39 : (S.toList == c39.toList) = false := by rw [hc39]; have h := hne 39; rw [h]; first | rfl | (rw [decide_eq_false_iff_not]; show (119 : Int) ≠ 39; omega)
  obtain ⟨c102, hc102⟩ : ∃ c : ByteArray, c = ⟨#[102]⟩ := ⟨_, rfl⟩
  have e102 : (S.toList == c102.toList) = false := by rw [hc102]; have h := hne 102; rw [h]; first | rfl | (rw [decide_eq_false_iff_not]; show (119 : Int) ≠ 102; omega)
  obtain ⟨c116, hc116⟩ : ∃ c : ByteArray, c = ⟨#[116]⟩ := ⟨_, rfl⟩
  have e116 : (S.toList == c116.toList) = false := by rw [hc116]; have h := hne 116; rw [h]; first | rfl | (rw [decide_eq_false_iff_not]; show (119 : Int) ≠ 116; omega)
  obtain ⟨c114, hc114⟩ : ∃ c : ByteArray, c = ⟨#[114]⟩ := ⟨_, rfl⟩
  have e114 : (S.toList == c114.toList) = false := by rw [hc114]; have h := hne 114; rw [h]; first | rfl | (rw [decide_eq_false_iff_not]; show (119 : Int) ≠ 114; omega)
  obtain ⟨c40, hc40⟩ : ∃ c : ByteArray, c = ⟨#[40]⟩ := ⟨_, rfl⟩
  have e40 : (S.toList == c40.toList) = false := by rw [hc40]; have h := hne 40; rw [h]; first | rfl | (rw [decide_eq_false_iff_not]; show (119 : Int) ≠ 40; omega)
  obtain ⟨c41, hc41⟩ : ∃ c : ByteArray, c = ⟨#[41]⟩ := ⟨_, rfl⟩
  have e41 : (S.toList == c41.toList) = false := by rw [hc41]; have h := hne 41; rw [h]; first | rfl | (rw [decide_eq_false_iff_not]; show (119 : Int) ≠ 41; omega)
  obtain ⟨c91, hc91⟩ : ∃ c : ByteArray, c = ⟨#[91]⟩ := ⟨_, rfl⟩
  have e91 : (S.toList == c91.toList) = false := by rw [hc91]; have h := hne 91; rw [h]; first | rfl | (rw [decide_eq_false_iff_not]; show (119 : Int) ≠ 91; omega)
  obtain ⟨c93, hc93⟩ : ∃ c : ByteArray, c = ⟨#[93]⟩ := ⟨_, rfl⟩
  have e93 : (S.toList == c93.toList) = false := by rw [hc93]; have h := hne 93; rw [h]; first | rfl | (rw [decide_eq_false_iff_not]; show (119 : Int) ≠ 93; omega)
  obtain ⟨c45, hc45⟩ : ∃ c : ByteArray, c = ⟨#[45]⟩ := ⟨_, rfl⟩
  have e45 : (S.toList == c45.toList) = false := by rw [hc45]; have h := hne 45; rw [h]; first | rfl | (rw [decide_eq_false_iff_not]; show (119 : Int) ≠ 45; omega)
  obtain ⟨c34, hc34⟩ : ∃ c : ByteArray, c = ⟨#[34]⟩ := ⟨_, rfl⟩
  have e34 : (S.toList == c34.toList) = false := by rw [hc34]; have h := hne 34; rw [h]; first | rfl | (rw [decide_eq_false_iff_not]; show (119 : Int) ≠ 34; omega)
  obtain ⟨c109, hc109⟩ : ∃ c : ByteArray, c = ⟨#[109]⟩ := ⟨_, rfl⟩
  have e109 : (S.toList == c109.toList) = false := by rw [hc109]; have h := hne 109; rw [h]; first | rfl | (rw [decide_eq_false_iff_not]; show (119 : Int) ≠ 109; omega)
  obtain ⟨c119, hc119⟩ : ∃ c : ByteArray, c = ⟨#[119]⟩ := ⟨_, rfl⟩
  have e119 : (S.toList == c119.toList) = true := by rw [hc119]; have h := hne 119; rw [h]; first | rfl | (rw [decide_eq_false_iff_not]; show (119 : Int) ≠ 119; omega)
  clear hKK
  clear hs hn hw1 ho1 ho2 hz hne
  have HT : Hid (Lib.Utf8Tabs 0 1 w) := hT
  clear hT
  go_enter Tryd.func5, Tryd.ntmps5
  rw [← hc105, ← hc106, ← hc108, ← hc33, ← hc124, ← hc46, ← hc44, ← hc58, ← hc59, ← hc39, ← hc102, ← hc116, ← hc114, ← hc40, ← hc41, ← hc91, ← hc93, ← hc45, ← hc34, ← hc109, ← hc119]
  clear hc105 hc106 hc108 hc33 hc124 hc46 hc44 hc58 hc59 hc39 hc102 hc116 hc114 hc40 hc41 hc91 hc93 hc45 hc34 hc109 hc119
  go_wp2_with (first
    | (go_at_call 7; refine (q1 _).mono ?_; rintro e w' ⟨rfl, rfl⟩)
    | (refine wpList_bU1 rfl _ rfl y _ HN.out rfl ?_; intro g w1 s1 k1; have hcv := conv_su s1; rw [HS.out] at hcv)
    | (go_at_call 9; have := K2; refine (q3 _ (Tabs.keep HT.out K2) z2).mono ?_; rintro e w3 ⟨rfl, k3⟩; have K3 := K2.trans k3)
    | (go_at_call 9; refine (q2 _ (Tabs.keep HT.out k1) z1).mono ?_; rintro e w2 ⟨rfl, k2⟩; have K2 := k1.trans k2)
    | (go_at_call 6; refine (wakes6 _ (Tabs.keep HT.out K3)).mono ?_; rintro e w4 ⟨rfl, k4⟩))
  go_ret
  exact ⟨rfl, K3.trans k4⟩

set_option maxRecDepth 100000 in
set_option maxHeartbeats 1000000 in
theorem kind_77 (w : World) (hT : Lib.Utf8Tabs 0 1 w) (v : Int) (hv : 0 ≤ v ∧ v ≤ 255) (hK : v % 127 = 77) (S : ByteArray) (y : UInt8) (h : One S y 77 9) :
    Calls Tryd.prog 5 #[.int .u8 v] w fun e w' => e = .returned (.bool true) ∧ Keeps (fun _ => False) w w' := by
  obtain ⟨hv0, hv1⟩ := hv
  obtain ⟨K, hKK⟩ : ∃ K : Int, K = 77 := ⟨_, rfl⟩
  obtain ⟨hs, hn, hw1, ho1, ho2, hz, hne⟩ := h
  have q1 := fun W => sign_at hw1 W
  have q2 := text_at ho1
  have q3 := text_at ho2
  have z1 : S.size ≤ 100000 := by omega
  have z2 : (S ++ S).size ≤ 100000 := by rw [app_sz]; omega
  have HN : Hid ((y.toNat : Int) = 77) := hn
  have HS : Hid ((⟨[y].toArray⟩ : ByteArray) = S) := hs
  obtain ⟨c105, hc105⟩ : ∃ c : ByteArray, c = ⟨#[105]⟩ := ⟨_, rfl⟩
  have e105 : (S.toList == c105.toList) = false := by rw [hc105]; have h := hne 105; rw [h]; first | rfl | (rw [decide_eq_false_iff_not]; show (77 : Int) ≠ 105; omega)
  obtain ⟨c106, hc106⟩ : ∃ c : ByteArray, c = ⟨#[106]⟩ := ⟨_, rfl⟩
  have e106 : (S.toList == c106.toList) = false := by rw [hc106]; have h := hne 106; rw [h]; first | rfl | (rw [decide_eq_false_iff_not]; show (77 : Int) ≠ 106; omega)
  obtain ⟨c108, hc108⟩ : ∃ c : ByteArray, c = ⟨#[108]⟩ := ⟨_, rfl⟩
  have e108 : (S.toList == c108.toList) = false := by rw [hc108]; have h := hne 108; rw [h]; first | rfl | (rw [decide_eq_false_iff_not]; show (77 : Int) ≠ 108; omega)
  obtain ⟨c33, hc33⟩ : ∃ c : ByteArray, c = ⟨#[33]⟩ := ⟨_, rfl⟩
  have e33 : (S.toList == c33.toList) = false := by rw [hc33]; have h := hne 33; rw [h]; first | rfl | (rw [decide_eq_false_iff_not]; show (77 : Int) ≠ 33; omega)
  obtain ⟨c124, hc124⟩ : ∃ c : ByteArray, c = ⟨#[124]⟩ := ⟨_, rfl⟩
  have e124 : (S.toList == c124.toList) = false := by rw [hc124]; have h := hne 124; rw [h]; first | rfl | (rw [decide_eq_false_iff_not]; show (77 : Int) ≠ 124; omega)
  obtain ⟨c46, hc46⟩ : ∃ c : ByteArray, c = ⟨#[46]⟩ := ⟨_, rfl⟩
  have e46 : (S.toList == c46.toList) = false := by rw [hc46]; have h := hne 46; rw [h]; first | rfl | (rw [decide_eq_false_iff_not]; show (77 : Int) ≠ 46; omega)
  obtain ⟨c44, hc44⟩ : ∃ c : ByteArray, c = ⟨#[44]⟩ := ⟨_, rfl⟩
  have e44 : (S.toList == c44.toList) = false := by rw [hc44]; have h := hne 44; rw [h]; first | rfl | (rw [decide_eq_false_iff_not]; show (77 : Int) ≠ 44; omega)
  obtain ⟨c58, hc58⟩ : ∃ c : ByteArray, c = ⟨#[58]⟩ := ⟨_, rfl⟩
  have e58 : (S.toList == c58.toList) = false := by rw [hc58]; have h := hne 58; rw [h]; first | rfl | (rw [decide_eq_false_iff_not]; show (77 : Int) ≠ 58; omega)
  obtain ⟨c59, hc59⟩ : ∃ c : ByteArray, c = ⟨#[59]⟩ := ⟨_, rfl⟩
  have e59 : (S.toList == c59.toList) = false := by rw [hc59]; have h := hne 59; rw [h]; first | rfl | (rw [decide_eq_false_iff_not]; show (77 : Int) ≠ 59; omega)
  obtain ⟨c39, hc39⟩ : ∃ c : ByteArray, c = ⟨#[39]⟩ := ⟨_, rfl⟩
  have e39 : (S.toList == c39.toList) = false := by rw [hc39]; have h := hne 39; rw [h]; first | rfl | (rw [decide_eq_false_iff_not]; show (77 : Int) ≠ 39; omega)
  obtain ⟨c102, hc102⟩ : ∃ c : ByteArray, c = ⟨#[102]⟩ := ⟨_, rfl⟩
  have e102 : (S.toList == c102.toList) = false := by rw [hc102]; have h := hne 102; rw [h]; first | rfl | (rw [decide_eq_false_iff_not]; show (77 : Int) ≠ 102; omega)
  obtain ⟨c116, hc116⟩ : ∃ c : ByteArray, c = ⟨#[116]⟩ := ⟨_, rfl⟩
  have e116 : (S.toList == c116.toList) = false := by rw [hc116]; have h := hne 116; rw [h]; first | rfl | (rw [decide_eq_false_iff_not]; show (77 : Int) ≠ 116; omega)
  obtain ⟨c114, hc114⟩ : ∃ c : ByteArray, c = ⟨#[114]⟩ := ⟨_, rfl⟩
  have e114 : (S.toList == c114.toList) = false := by rw [hc114]; have h := hne 114; rw [h]; first | rfl | (rw [decide_eq_false_iff_not]; show (77 : Int) ≠ 114; omega)
  obtain ⟨c40, hc40⟩ : ∃ c : ByteArray, c = ⟨#[40]⟩ := ⟨_, rfl⟩
  have e40 : (S.toList == c40.toList) = false := by rw [hc40]; have h := hne 40; rw [h]; first | rfl | (rw [decide_eq_false_iff_not]; show (77 : Int) ≠ 40; omega)
  obtain ⟨c41, hc41⟩ : ∃ c : ByteArray, c = ⟨#[41]⟩ := ⟨_, rfl⟩
  have e41 : (S.toList == c41.toList) = false := by rw [hc41]; have h := hne 41; rw [h]; first | rfl | (rw [decide_eq_false_iff_not]; show (77 : Int) ≠ 41; omega)
  obtain ⟨c91, hc91⟩ : ∃ c : ByteArray, c = ⟨#[91]⟩ := ⟨_, rfl⟩
  have e91 : (S.toList == c91.toList) = false := by rw [hc91]; have h := hne 91; rw [h]; first | rfl | (rw [decide_eq_false_iff_not]; show (77 : Int) ≠ 91; omega)
  obtain ⟨c93, hc93⟩ : ∃ c : ByteArray, c = ⟨#[93]⟩ := ⟨_, rfl⟩
  have e93 : (S.toList == c93.toList) = false := by rw [hc93]; have h := hne 93; rw [h]; first | rfl | (rw [decide_eq_false_iff_not]; show (77 : Int) ≠ 93; omega)
  obtain ⟨c45, hc45⟩ : ∃ c : ByteArray, c = ⟨#[45]⟩ := ⟨_, rfl⟩
  have e45 : (S.toList == c45.toList) = false := by rw [hc45]; have h := hne 45; rw [h]; first | rfl | (rw [decide_eq_false_iff_not]; show (77 : Int) ≠ 45; omega)
  obtain ⟨c34, hc34⟩ : ∃ c : ByteArray, c = ⟨#[34]⟩ := ⟨_, rfl⟩
  have e34 : (S.toList == c34.toList) = false := by rw [hc34]; have h := hne 34; rw [h]; first | rfl | (rw [decide_eq_false_iff_not]; show (77 : Int) ≠ 34; omega)
  obtain ⟨c109, hc109⟩ : ∃ c : ByteArray, c = ⟨#[109]⟩ := ⟨_, rfl⟩
  have e109 : (S.toList == c109.toList) = false := by rw [hc109]; have h := hne 109; rw [h]; first | rfl | (rw [decide_eq_false_iff_not]; show (77 : Int) ≠ 109; omega)
  obtain ⟨c119, hc119⟩ : ∃ c : ByteArray, c = ⟨#[119]⟩ := ⟨_, rfl⟩
  have e119 : (S.toList == c119.toList) = false := by rw [hc119]; have h := hne 119; rw [h]; first | rfl | (rw [decide_eq_false_iff_not]; show (77 : Int) ≠ 119; omega)
  obtain ⟨c77, hc77⟩ : ∃ c : ByteArray, c = ⟨#[77]⟩ := ⟨_, rfl⟩
  have e77 : (S.toList == c77.toList) = true := by rw [hc77]; have h := hne 77; rw [h]; first | rfl | (rw [decide_eq_false_iff_not]; show (77 : Int) ≠ 77; omega)
  clear hKK
  clear hs hn hw1 ho1 ho2 hz hne
  have HT : Hid (Lib.Utf8Tabs 0 1 w) := hT
  clear hT
  go_enter Tryd.func5, Tryd.ntmps5
  rw [← hc105, ← hc106, ← hc108, ← hc33, ← hc124, ← hc46, ← hc44, ← hc58, ← hc59, ← hc39, ← hc102, ← hc116, ← hc114, ← hc40, ← hc41, ← hc91, ← hc93, ← hc45, ← hc34, ← hc109, ← hc119, ← hc77]
  clear hc105 hc106 hc108 hc33 hc124 hc46 hc44 hc58 hc59 hc39 hc102 hc116 hc114 hc40 hc41 hc91 hc93 hc45 hc34 hc109 hc119 hc77
  go_wp2_with (first
    | (go_at_call 7; refine (q1 _).mono ?_; rintro e w' ⟨rfl, rfl⟩)
    | (refine wpList_bU1 rfl _ rfl y _ HN.out rfl ?_; intro g w1 s1 k1; have hcv := conv_su s1; rw [HS.out] at hcv)
    | (go_at_call 9; have := K2; refine (q3 _ (Tabs.keep HT.out K2) z2).mono ?_; rintro e w3 ⟨rfl, k3⟩; have K3 := K2.trans k3)
    | (go_at_call 9; refine (q2 _ (Tabs.keep HT.out k1) z1).mono ?_; rintro e w2 ⟨rfl, k2⟩; have K2 := k1.trans k2)
    | (go_at_call 6; refine (wakes6 _ (Tabs.keep HT.out K3)).mono ?_; rintro e w4 ⟨rfl, k4⟩))
  go_ret
  exact ⟨rfl, K3.trans k4⟩

set_option maxRecDepth 100000 in
set_option maxHeartbeats 1000000 in
theorem kind_87 (w : World) (hT : Lib.Utf8Tabs 0 1 w) (v : Int) (hv : 0 ≤ v ∧ v ≤ 255) (hK : v % 127 = 87) (S : ByteArray) (y : UInt8) (h : One S y 87 9) :
    Calls Tryd.prog 5 #[.int .u8 v] w fun e w' => e = .returned (.bool true) ∧ Keeps (fun _ => False) w w' := by
  obtain ⟨hv0, hv1⟩ := hv
  obtain ⟨K, hKK⟩ : ∃ K : Int, K = 87 := ⟨_, rfl⟩
  obtain ⟨hs, hn, hw1, ho1, ho2, hz, hne⟩ := h
  have q1 := fun W => sign_at hw1 W
  have q2 := text_at ho1
  have q3 := text_at ho2
  have z1 : S.size ≤ 100000 := by omega
  have z2 : (S ++ S).size ≤ 100000 := by rw [app_sz]; omega
  have HN : Hid ((y.toNat : Int) = 87) := hn
  have HS : Hid ((⟨[y].toArray⟩ : ByteArray) = S) := hs
  obtain ⟨c105, hc105⟩ : ∃ c : ByteArray, c = ⟨#[105]⟩ := ⟨_, rfl⟩
  have e105 : (S.toList == c105.toList) = false := by rw [hc105]; have h := hne 105; rw [h]; first | rfl | (rw [decide_eq_false_iff_not]; show (87 : Int) ≠ 105; omega)
  obtain ⟨c106, hc106⟩ : ∃ c : ByteArray, c = ⟨#[106]⟩ := ⟨_, rfl⟩
  have e106 : (S.toList == c106.toList) = false := by rw [hc106]; have h := hne 106; rw [h]; first | rfl | (rw [decide_eq_false_iff_not]; show (87 : Int) ≠ 106; omega)
  obtain ⟨c108, hc108⟩ : ∃ c : ByteArray, c = ⟨#[108]⟩ := ⟨_, rfl⟩
  have e108 : (S.toList == c108.toList) = false := by rw [hc108]; have h := hne 108; rw [h]; first | rfl | (rw [decide_eq_false_iff_not]; show (87 : Int) ≠ 108; omega)
  obtain ⟨c33, hc33⟩ : ∃ c : ByteArray, c = ⟨#[33]⟩ := ⟨_, rfl⟩
  have e33 : (S.toList == c33.toList) = false := by rw [hc33]; have h := hne 33; rw [h]; first | rfl | (rw [decide_eq_false_iff_not]; show (87 : Int) ≠ 33; omega)
  obtain ⟨c124, hc124⟩ : ∃ c : ByteArray, c = ⟨#[124]⟩ := ⟨_, rfl⟩
  have e124 : (S.toList == c124.toList) = false := by rw [hc124]; have h := hne 124; rw [h]; first | rfl | (rw [decide_eq_false_iff_not]; show (87 : Int) ≠ 124; omega)
  obtain ⟨c46, hc46⟩ : ∃ c : ByteArray, c = ⟨#[46]⟩ := ⟨_, rfl⟩
  have e46 : (S.toList == c46.toList) = false := by rw [hc46]; have h := hne 46; rw [h]; first | rfl | (rw [decide_eq_false_iff_not]; show (87 : Int) ≠ 46; omega)
  obtain ⟨c44, hc44⟩ : ∃ c : ByteArray, c = ⟨#[44]⟩ := ⟨_, rfl⟩
  have e44 : (S.toList == c44.toList) = false := by rw [hc44]; have h := hne 44; rw [h]; first | rfl | (rw [decide_eq_false_iff_not]; show (87 : Int) ≠ 44; omega)
  obtain ⟨c58, hc58⟩ : ∃ c : ByteArray, c = ⟨#[58]⟩ := ⟨_, rfl⟩
  have e58 : (S.toList == c58.toList) = false := by rw [hc58]; have h := hne 58; rw [h]; first | rfl | (rw [decide_eq_false_iff_not]; show (87 : Int) ≠ 58; omega)
  obtain ⟨c59, hc59⟩ : ∃ c : ByteArray, c = ⟨#[59]⟩ := ⟨_, rfl⟩
  have e59 : (S.toList == c59.toList) = false := by rw [hc59]; have h := hne 59; rw [h]; first | rfl | (rw [decide_eq_false_iff_not]; show (87 : Int) ≠ 59; omega)
  obtain ⟨c39, hc39⟩ : ∃ c : ByteArray, c = ⟨#[39]⟩ := ⟨_, rfl⟩
  have e39 : (S.toList == c39.toList) = false := by rw [hc39]; have h := hne 39; rw [h]; first | rfl | (rw [decide_eq_false_iff_not]; show (87 : Int) ≠ 39; omega)
  obtain ⟨c102, hc102⟩ : ∃ c : ByteArray, c = ⟨#[102]⟩ := ⟨_, rfl⟩
  have e102 : (S.toList == c102.toList) = false := by rw [hc102]; have h := hne 102; rw [h]; first | rfl | (rw [decide_eq_false_iff_not]; show (87 : Int) ≠ 102; omega)
  obtain ⟨c116, hc116⟩ : ∃ c : ByteArray, c = ⟨#[116]⟩ := ⟨_, rfl⟩
  have e116 : (S.toList == c116.toList) = false := by rw [hc116]; have h := hne 116; rw [h]; first | rfl | (rw [decide_eq_false_iff_not]; show (87 : Int) ≠ 116; omega)
  obtain ⟨c114, hc114⟩ : ∃ c : ByteArray, c = ⟨#[114]⟩ := ⟨_, rfl⟩
  have e114 : (S.toList == c114.toList) = false := by rw [hc114]; have h := hne 114; rw [h]; first | rfl | (rw [decide_eq_false_iff_not]; show (87 : Int) ≠ 114; omega)
  obtain ⟨c40, hc40⟩ : ∃ c : ByteArray, c = ⟨#[40]⟩ := ⟨_, rfl⟩
  have e40 : (S.toList == c40.toList) = false := by rw [hc40]; have h := hne 40; rw [h]; first | rfl | (rw [decide_eq_false_iff_not]; show (87 : Int) ≠ 40; omega)
  obtain ⟨c41, hc41⟩ : ∃ c : ByteArray, c = ⟨#[41]⟩ := ⟨_, rfl⟩
  have e41 : (S.toList == c41.toList) = false := by rw [hc41]; have h := hne 41; rw [h]; first | rfl | (rw [decide_eq_false_iff_not]; show (87 : Int) ≠ 41; omega)
  obtain ⟨c91, hc91⟩ : ∃ c : ByteArray, c = ⟨#[91]⟩ := ⟨_, rfl⟩
  have e91 : (S.toList == c91.toList) = false := by rw [hc91]; have h := hne 91; rw [h]; first | rfl | (rw [decide_eq_false_iff_not]; show (87 : Int) ≠ 91; omega)
  obtain ⟨c93, hc93⟩ : ∃ c : ByteArray, c = ⟨#[93]⟩ := ⟨_, rfl⟩
  have e93 : (S.toList == c93.toList) = false := by rw [hc93]; have h := hne 93; rw [h]; first | rfl | (rw [decide_eq_false_iff_not]; show (87 : Int) ≠ 93; omega)
  obtain ⟨c45, hc45⟩ : ∃ c : ByteArray, c = ⟨#[45]⟩ := ⟨_, rfl⟩
  have e45 : (S.toList == c45.toList) = false := by rw [hc45]; have h := hne 45; rw [h]; first | rfl | (rw [decide_eq_false_iff_not]; show (87 : Int) ≠ 45; omega)
  obtain ⟨c34, hc34⟩ : ∃ c : ByteArray, c = ⟨#[34]⟩ := ⟨_, rfl⟩
  have e34 : (S.toList == c34.toList) = false := by rw [hc34]; have h := hne 34; rw [h]; first | rfl | (rw [decide_eq_false_iff_not]; show (87 : Int) ≠ 34; omega)
  obtain ⟨c109, hc109⟩ : ∃ c : ByteArray, c = ⟨#[109]⟩ := ⟨_, rfl⟩
  have e109 : (S.toList == c109.toList) = false := by rw [hc109]; have h := hne 109; rw [h]; first | rfl | (rw [decide_eq_false_iff_not]; show (87 : Int) ≠ 109; omega)
  obtain ⟨c119, hc119⟩ : ∃ c : ByteArray, c = ⟨#[119]⟩ := ⟨_, rfl⟩
  have e119 : (S.toList == c119.toList) = false := by rw [hc119]; have h := hne 119; rw [h]; first | rfl | (rw [decide_eq_false_iff_not]; show (87 : Int) ≠ 119; omega)
  obtain ⟨c77, hc77⟩ : ∃ c : ByteArray, c = ⟨#[77]⟩ := ⟨_, rfl⟩
  have e77 : (S.toList == c77.toList) = false := by rw [hc77]; have h := hne 77; rw [h]; first | rfl | (rw [decide_eq_false_iff_not]; show (87 : Int) ≠ 77; omega)
  obtain ⟨c87, hc87⟩ : ∃ c : ByteArray, c = ⟨#[87]⟩ := ⟨_, rfl⟩
  have e87 : (S.toList == c87.toList) = true := by rw [hc87]; have h := hne 87; rw [h]; first | rfl | (rw [decide_eq_false_iff_not]; show (87 : Int) ≠ 87; omega)
  clear hKK
  clear hs hn hw1 ho1 ho2 hz hne
  have HT : Hid (Lib.Utf8Tabs 0 1 w) := hT
  clear hT
  go_enter Tryd.func5, Tryd.ntmps5
  rw [← hc105, ← hc106, ← hc108, ← hc33, ← hc124, ← hc46, ← hc44, ← hc58, ← hc59, ← hc39, ← hc102, ← hc116, ← hc114, ← hc40, ← hc41, ← hc91, ← hc93, ← hc45, ← hc34, ← hc109, ← hc119, ← hc77, ← hc87]
  clear hc105 hc106 hc108 hc33 hc124 hc46 hc44 hc58 hc59 hc39 hc102 hc116 hc114 hc40 hc41 hc91 hc93 hc45 hc34 hc109 hc119 hc77 hc87
  go_wp2_with (first
    | (go_at_call 7; refine (q1 _).mono ?_; rintro e w' ⟨rfl, rfl⟩)
    | (refine wpList_bU1 rfl _ rfl y _ HN.out rfl ?_; intro g w1 s1 k1; have hcv := conv_su s1; rw [HS.out] at hcv)
    | (go_at_call 9; have := K2; refine (q3 _ (Tabs.keep HT.out K2) z2).mono ?_; rintro e w3 ⟨rfl, k3⟩; have K3 := K2.trans k3)
    | (go_at_call 9; refine (q2 _ (Tabs.keep HT.out k1) z1).mono ?_; rintro e w2 ⟨rfl, k2⟩; have K2 := k1.trans k2)
    | (go_at_call 6; refine (wakes6 _ (Tabs.keep HT.out K3)).mono ?_; rintro e w4 ⟨rfl, k4⟩))
  go_ret
  exact ⟨rfl, K3.trans k4⟩

set_option maxRecDepth 100000 in
set_option maxHeartbeats 1000000 in
theorem kind_64 (w : World) (hT : Lib.Utf8Tabs 0 1 w) (v : Int) (hv : 0 ≤ v ∧ v ≤ 255) (hK : v % 127 = 64) (S : ByteArray) (y : UInt8) (h : One S y 64 9) :
    Calls Tryd.prog 5 #[.int .u8 v] w fun e w' => e = .returned (.bool true) ∧ Keeps (fun _ => False) w w' := by
  obtain ⟨hv0, hv1⟩ := hv
  obtain ⟨K, hKK⟩ : ∃ K : Int, K = 64 := ⟨_, rfl⟩
  obtain ⟨hs, hn, hw1, ho1, ho2, hz, hne⟩ := h
  have q1 := fun W => sign_at hw1 W
  have q2 := text_at ho1
  have q3 := text_at ho2
  have z1 : S.size ≤ 100000 := by omega
  have z2 : (S ++ S).size ≤ 100000 := by rw [app_sz]; omega
  have HN : Hid ((y.toNat : Int) = 64) := hn
  have HS : Hid ((⟨[y].toArray⟩ : ByteArray) = S) := hs
  obtain ⟨c105, hc105⟩ : ∃ c : ByteArray, c = ⟨#[105]⟩ := ⟨_, rfl⟩
  have e105 : (S.toList == c105.toList) = false := by rw [hc105]; have h := hne 105; rw [h]; first | rfl | (rw [decide_eq_false_iff_not]; show (64 : Int) ≠ 105; omega)
  obtain ⟨c106, hc106⟩ : ∃ c : ByteArray, c = ⟨#[106]⟩ := ⟨_, rfl⟩
  have e106 : (S.toList == c106.toList) = false := by rw [hc106]; have h := hne 106; rw [h]; first | rfl | (rw [decide_eq_false_iff_not]; show (64 : Int) ≠ 106; omega)
  obtain ⟨c108, hc108⟩ : ∃ c : ByteArray, c = ⟨#[108]⟩ := ⟨_, rfl⟩
  have e108 : (S.toList == c108.toList) = false := by rw [hc108]; have h := hne 108; rw [h]; first | rfl | (rw [decide_eq_false_iff_not]; show (64 : Int) ≠ 108; omega)
  obtain ⟨c33, hc33⟩ : ∃ c : ByteArray, c = ⟨#[33]⟩ := ⟨_, rfl⟩
  have e33 : (S.toList == c33.toList) = false := by rw [hc33]; have h := hne 33; rw [h]; first | rfl | (rw [decide_eq_false_iff_not]; show (64 : Int) ≠ 33; omega)
  obtain ⟨c124, hc124⟩ : ∃ c : ByteArray, c = ⟨#[124]⟩ := ⟨_, rfl⟩
  have e124 : (S.toList == c124.toList) = false := by rw [hc124]; have h := hne 124; rw [h]; first | rfl | (rw [decide_eq_false_iff_not]; show (64 : Int) ≠ 124; omega)
  obtain ⟨c46, hc46⟩ : ∃ c : ByteArray, c = ⟨#[46]⟩ := ⟨_, rfl⟩
  have e46 : (S.toList == c46.toList) = false := by rw [hc46]; have h := hne 46; rw [h]; first | rfl | (rw [decide_eq_false_iff_not]; show (64 : Int) ≠ 46; omega)
  obtain ⟨c44, hc44⟩ : ∃ c : ByteArray, c = ⟨#[44]⟩ := ⟨_, rfl⟩
  have e44 : (S.toList == c44.toList) = false := by rw [hc44]; have h := hne 44; rw [h]; first | rfl | (rw [decide_eq_false_iff_not]; show (64 : Int) ≠ 44; omega)
  obtain ⟨c58, hc58⟩ : ∃ c : ByteArray, c = ⟨#[58]⟩ := ⟨_, rfl⟩
  have e58 : (S.toList == c58.toList) = false := by rw [hc58]; have h := hne 58; rw [h]; first | rfl | (rw [decide_eq_false_iff_not]; show (64 : Int) ≠ 58; omega)
  obtain ⟨c59, hc59⟩ : ∃ c : ByteArray, c = ⟨#[59]⟩ := ⟨_, rfl⟩
  have e59 : (S.toList == c59.toList) = false := by rw [hc59]; have h := hne 59; rw [h]; first | rfl | (rw [decide_eq_false_iff_not]; show (64 : Int) ≠ 59; omega)
  obtain ⟨c39, hc39⟩ : ∃ c : ByteArray, c = ⟨#[39]⟩ := ⟨_, rfl⟩
  have e39 : (S.toList == c39.toList) = false := by rw [hc39]; have h := hne 39; rw [h]; first | rfl | (rw [decide_eq_false_iff_not]; show (64 : Int) ≠ 39; omega)
  obtain ⟨c102, hc102⟩ : ∃ c : ByteArray, c = ⟨#[102]⟩ := ⟨_, rfl⟩
  have e102 : (S.toList == c102.toList) = false := by rw [hc102]; have h := hne 102; rw [h]; first | rfl | (rw [decide_eq_false_iff_not]; show (64 : Int) ≠ 102; omega)
  obtain ⟨c116, hc116⟩ : ∃ c : ByteArray, c = ⟨#[116]⟩ := ⟨_, rfl⟩
  have e116 : (S.toList == c116.toList) = false := by rw [hc116]; have h := hne 116; rw [h]; first | rfl | (rw [decide_eq_false_iff_not]; show (64 : Int) ≠ 116; omega)
  obtain ⟨c114, hc114⟩ : ∃ c : ByteArray, c = ⟨#[114]⟩ := ⟨_, rfl⟩
  have e114 : (S.toList == c114.toList) = false := by rw [hc114]; have h := hne 114; rw [h]; first | rfl | (rw [decide_eq_false_iff_not]; show (64 : Int) ≠ 114; omega)
  obtain ⟨c40, hc40⟩ : ∃ c : ByteArray, c = ⟨#[40]⟩ := ⟨_, rfl⟩
  have e40 : (S.toList == c40.toList) = false := by rw [hc40]; have h := hne 40; rw [h]; first | rfl | (rw [decide_eq_false_iff_not]; show (64 : Int) ≠ 40; omega)
  obtain ⟨c41, hc41⟩ : ∃ c : ByteArray, c = ⟨#[41]⟩ := ⟨_, rfl⟩
  have e41 : (S.toList == c41.toList) = false := by rw [hc41]; have h := hne 41; rw [h]; first | rfl | (rw [decide_eq_false_iff_not]; show (64 : Int) ≠ 41; omega)
  obtain ⟨c91, hc91⟩ : ∃ c : ByteArray, c = ⟨#[91]⟩ := ⟨_, rfl⟩
  have e91 : (S.toList == c91.toList) = false := by rw [hc91]; have h := hne 91; rw [h]; first | rfl | (rw [decide_eq_false_iff_not]; show (64 : Int) ≠ 91; omega)
  obtain ⟨c93, hc93⟩ : ∃ c : ByteArray, c = ⟨#[93]⟩ := ⟨_, rfl⟩
  have e93 : (S.toList == c93.toList) = false := by rw [hc93]; have h := hne 93; rw [h]; first | rfl | (rw [decide_eq_false_iff_not]; show (64 : Int) ≠ 93; omega)
  obtain ⟨c45, hc45⟩ : ∃ c : ByteArray, c = ⟨#[45]⟩ := ⟨_, rfl⟩
  have e45 : (S.toList == c45.toList) = false := by rw [hc45]; have h := hne 45; rw [h]; first | rfl | (rw [decide_eq_false_iff_not]; show (64 : Int) ≠ 45; omega)
  obtain ⟨c34, hc34⟩ : ∃ c : ByteArray, c = ⟨#[34]⟩ := ⟨_, rfl⟩
  have e34 : (S.toList == c34.toList) = false := by rw [hc34]; have h := hne 34; rw [h]; first | rfl | (rw [decide_eq_false_iff_not]; show (64 : Int) ≠ 34; omega)
  obtain ⟨c109, hc109⟩ : ∃ c : ByteArray, c = ⟨#[109]⟩ := ⟨_, rfl⟩
  have e109 : (S.toList == c109.toList) = false := by rw [hc109]; have h := hne 109; rw [h]; first | rfl | (rw [decide_eq_false_iff_not]; show (64 : Int) ≠ 109; omega)
  obtain ⟨c119, hc119⟩ : ∃ c : ByteArray, c = ⟨#[119]⟩ := ⟨_, rfl⟩
  have e119 : (S.toList == c119.toList) = false := by rw [hc119]; have h := hne 119; rw [h]; first | rfl | (rw [decide_eq_false_iff_not]; show (64 : Int) ≠ 119; omega)
  obtain ⟨c77, hc77⟩ : ∃ c : ByteArray, c = ⟨#[77]⟩ := ⟨_, rfl⟩
  have e77 : (S.toList == c77.toList) = false := by rw [hc77]; have h := hne 77; rw [h]; first | rfl | (rw [decide_eq_false_iff_not]; show (64 : Int) ≠ 77; omega)
  obtain ⟨c87, hc87⟩ : ∃ c : ByteArray, c = ⟨#[87]⟩ := ⟨_, rfl⟩
  have e87 : (S.toList == c87.toList) = false := by rw [hc87]; have h := hne 87; rw [h]; first | rfl | (rw [decide_eq_false_iff_not]; show (64 : Int) ≠ 87; omega)
  obtain ⟨c64, hc64⟩ : ∃ c : ByteArray, c = ⟨#[64]⟩ := ⟨_, rfl⟩
  have e64 : (S.toList == c64.toList) = true := by rw [hc64]; have h := hne 64; rw [h]; first | rfl | (rw [decide_eq_false_iff_not]; show (64 : Int) ≠ 64; omega)
  clear hKK
  clear hs hn hw1 ho1 ho2 hz hne
  have HT : Hid (Lib.Utf8Tabs 0 1 w) := hT
  clear hT
  go_enter Tryd.func5, Tryd.ntmps5
  rw [← hc105, ← hc106, ← hc108, ← hc33, ← hc124, ← hc46, ← hc44, ← hc58, ← hc59, ← hc39, ← hc102, ← hc116, ← hc114, ← hc40, ← hc41, ← hc91, ← hc93, ← hc45, ← hc34, ← hc109, ← hc119, ← hc77, ← hc87, ← hc64]
  clear hc105 hc106 hc108 hc33 hc124 hc46 hc44 hc58 hc59 hc39 hc102 hc116 hc114 hc40 hc41 hc91 hc93 hc45 hc34 hc109 hc119 hc77 hc87 hc64
  go_wp2_with (first
    | (go_at_call 7; refine (q1 _).mono ?_; rintro e w' ⟨rfl, rfl⟩)
    | (refine wpList_bU1 rfl _ rfl y _ HN.out rfl ?_; intro g w1 s1 k1; have hcv := conv_su s1; rw [HS.out] at hcv)
    | (go_at_call 9; have := K2; refine (q3 _ (Tabs.keep HT.out K2) z2).mono ?_; rintro e w3 ⟨rfl, k3⟩; have K3 := K2.trans k3)
    | (go_at_call 9; refine (q2 _ (Tabs.keep HT.out k1) z1).mono ?_; rintro e w2 ⟨rfl, k2⟩; have K2 := k1.trans k2)
    | (go_at_call 6; refine (wakes6 _ (Tabs.keep HT.out K3)).mono ?_; rintro e w4 ⟨rfl, k4⟩))
  go_ret
  exact ⟨rfl, K3.trans k4⟩

set_option maxRecDepth 100000 in
set_option maxHeartbeats 1000000 in
theorem kind_r1 (w : World) (hT : Lib.Utf8Tabs 0 1 w) (v : Int) (hv : 0 ≤ v ∧ v ≤ 255) (K : Int) (hK : v % 127 = K) (hb : 0 ≤ K ∧ K ≤ 32) (hno : True) (S : ByteArray) (y : UInt8) (h : One S y K 10) :
    Calls Tryd.prog 5 #[.int .u8 v] w fun e w' => e = .returned (.bool true) ∧ Keeps (fun _ => False) w w' := by
  obtain ⟨hv0, hv1⟩ := hv
  obtain ⟨hb0, hb1⟩ := hb
  obtain ⟨hs, hn, hw1, ho1, ho2, hz, hne⟩ := h
  have q1 := fun W => sign_at hw1 W
  have q2 := text_at ho1
  have q3 := text_at ho2
  have z1 : S.size ≤ 100000 := by omega
  have z2 : (S ++ S).size ≤ 100000 := by rw [app_sz]; omega
  have HN : Hid ((y.toNat : Int) = K) := hn
  have HS : Hid ((⟨[y].toArray⟩ : ByteArray) = S) := hs
  obtain ⟨c105, hc105⟩ : ∃ c : ByteArray, c = ⟨#[105]⟩ := ⟨_, rfl⟩
  have e105 : (S.toList == c105.toList) = false := by rw [hc105]; have h := hne 105; rw [h]; first | rfl | (rw [decide_eq_false_iff_not]; show K ≠ 105; omega)
  obtain ⟨c106, hc106⟩ : ∃ c : ByteArray, c = ⟨#[106]⟩ := ⟨_, rfl⟩
  have e106 : (S.toList == c106.toList) = false := by rw [hc106]; have h := hne 106; rw [h]; first | rfl | (rw [decide_eq_false_iff_not]; show K ≠ 106; omega)
  obtain ⟨c108, hc108⟩ : ∃ c : ByteArray, c = ⟨#[108]⟩ := ⟨_, rfl⟩
  have e108 : (S.toList == c108.toList) = false := by rw [hc108]; have h := hne 108; rw [h]; first | rfl | (rw [decide_eq_false_iff_not]; show K ≠ 108; omega)
  obtain ⟨c33, hc33⟩ : ∃ c : ByteArray, c = ⟨#[33]⟩ := ⟨_, rfl⟩
  have e33 : (S.toList == c33.toList) = false := by rw [hc33]; have h := hne 33; rw [h]; first | rfl | (rw [decide_eq_false_iff_not]; show K ≠ 33; omega)
  obtain ⟨c124, hc124⟩ : ∃ c : ByteArray, c = ⟨#[124]⟩ := ⟨_, rfl⟩
  have e124 : (S.toList == c124.toList) = false := by rw [hc124]; have h := hne 124; rw [h]; first | rfl | (rw [decide_eq_false_iff_not]; show K ≠ 124; omega)
  obtain ⟨c46, hc46⟩ : ∃ c : ByteArray, c = ⟨#[46]⟩ := ⟨_, rfl⟩
  have e46 : (S.toList == c46.toList) = false := by rw [hc46]; have h := hne 46; rw [h]; first | rfl | (rw [decide_eq_false_iff_not]; show K ≠ 46; omega)
  obtain ⟨c44, hc44⟩ : ∃ c : ByteArray, c = ⟨#[44]⟩ := ⟨_, rfl⟩
  have e44 : (S.toList == c44.toList) = false := by rw [hc44]; have h := hne 44; rw [h]; first | rfl | (rw [decide_eq_false_iff_not]; show K ≠ 44; omega)
  obtain ⟨c58, hc58⟩ : ∃ c : ByteArray, c = ⟨#[58]⟩ := ⟨_, rfl⟩
  have e58 : (S.toList == c58.toList) = false := by rw [hc58]; have h := hne 58; rw [h]; first | rfl | (rw [decide_eq_false_iff_not]; show K ≠ 58; omega)
  obtain ⟨c59, hc59⟩ : ∃ c : ByteArray, c = ⟨#[59]⟩ := ⟨_, rfl⟩
  have e59 : (S.toList == c59.toList) = false := by rw [hc59]; have h := hne 59; rw [h]; first | rfl | (rw [decide_eq_false_iff_not]; show K ≠ 59; omega)
  obtain ⟨c39, hc39⟩ : ∃ c : ByteArray, c = ⟨#[39]⟩ := ⟨_, rfl⟩
  have e39 : (S.toList == c39.toList) = false := by rw [hc39]; have h := hne 39; rw [h]; first | rfl | (rw [decide_eq_false_iff_not]; show K ≠ 39; omega)
  obtain ⟨c102, hc102⟩ : ∃ c : ByteArray, c = ⟨#[102]⟩ := ⟨_, rfl⟩
  have e102 : (S.toList == c102.toList) = false := by rw [hc102]; have h := hne 102; rw [h]; first | rfl | (rw [decide_eq_false_iff_not]; show K ≠ 102; omega)
  obtain ⟨c116, hc116⟩ : ∃ c : ByteArray, c = ⟨#[116]⟩ := ⟨_, rfl⟩
  have e116 : (S.toList == c116.toList) = false := by rw [hc116]; have h := hne 116; rw [h]; first | rfl | (rw [decide_eq_false_iff_not]; show K ≠ 116; omega)
  obtain ⟨c114, hc114⟩ : ∃ c : ByteArray, c = ⟨#[114]⟩ := ⟨_, rfl⟩
  have e114 : (S.toList == c114.toList) = false := by rw [hc114]; have h := hne 114; rw [h]; first | rfl | (rw [decide_eq_false_iff_not]; show K ≠ 114; omega)
  obtain ⟨c40, hc40⟩ : ∃ c : ByteArray, c = ⟨#[40]⟩ := ⟨_, rfl⟩
  have e40 : (S.toList == c40.toList) = false := by rw [hc40]; have h := hne 40; rw [h]; first | rfl | (rw [decide_eq_false_iff_not]; show K ≠ 40; omega)
  obtain ⟨c41, hc41⟩ : ∃ c : ByteArray, c = ⟨#[41]⟩ := ⟨_, rfl⟩
  have e41 : (S.toList == c41.toList) = false := by rw [hc41]; have h := hne 41; rw [h]; first | rfl | (rw [decide_eq_false_iff_not]; show K ≠ 41; omega)
  obtain ⟨c91, hc91⟩ : ∃ c : ByteArray, c = ⟨#[91]⟩ := ⟨_, rfl⟩
  have e91 : (S.toList == c91.toList) = false := by rw [hc91]; have h := hne 91; rw [h]; first | rfl | (rw [decide_eq_false_iff_not]; show K ≠ 91; omega)
  obtain ⟨c93, hc93⟩ : ∃ c : ByteArray, c = ⟨#[93]⟩ := ⟨_, rfl⟩
  have e93 : (S.toList == c93.toList) = false := by rw [hc93]; have h := hne 93; rw [h]; first | rfl | (rw [decide_eq_false_iff_not]; show K ≠ 93; omega)
  obtain ⟨c45, hc45⟩ : ∃ c : ByteArray, c = ⟨#[45]⟩ := ⟨_, rfl⟩
  have e45 : (S.toList == c45.toList) = false := by rw [hc45]; have h := hne 45; rw [h]; first | rfl | (rw [decide_eq_false_iff_not]; show K ≠ 45; omega)
  obtain ⟨c34, hc34⟩ : ∃ c : ByteArray, c = ⟨#[34]⟩ := ⟨_, rfl⟩
  have e34 : (S.toList == c34.toList) = false := by rw [hc34]; have h := hne 34; rw [h]; first | rfl | (rw [decide_eq_false_iff_not]; show K ≠ 34; omega)
  obtain ⟨c109, hc109⟩ : ∃ c : ByteArray, c = ⟨#[109]⟩ := ⟨_, rfl⟩
  have e109 : (S.toList == c109.toList) = false := by rw [hc109]; have h := hne 109; rw [h]; first | rfl | (rw [decide_eq_false_iff_not]; show K ≠ 109; omega)
  obtain ⟨c119, hc119⟩ : ∃ c : ByteArray, c = ⟨#[119]⟩ := ⟨_, rfl⟩
  have e119 : (S.toList == c119.toList) = false := by rw [hc119]; have h := hne 119; rw [h]; first | rfl | (rw [decide_eq_false_iff_not]; show K ≠ 119; omega)
  obtain ⟨c77, hc77⟩ : ∃ c : ByteArray, c = ⟨#[77]⟩ := ⟨_, rfl⟩
  have e77 : (S.toList == c77.toList) = false := by rw [hc77]; have h := hne 77; rw [h]; first | rfl | (rw [decide_eq_false_iff_not]; show K ≠ 77; omega)
  obtain ⟨c87, hc87⟩ : ∃ c : ByteArray, c = ⟨#[87]⟩ := ⟨_, rfl⟩
  have e87 : (S.toList == c87.toList) = false := by rw [hc87]; have h := hne 87; rw [h]; first | rfl | (rw [decide_eq_false_iff_not]; show K ≠ 87; omega)
  obtain ⟨c64, hc64⟩ : ∃ c : ByteArray, c = ⟨#[64]⟩ := ⟨_, rfl⟩
  have e64 : (S.toList == c64.toList) = false := by rw [hc64]; have h := hne 64; rw [h]; first | rfl | (rw [decide_eq_false_iff_not]; show K ≠ 64; omega)
  have f0 : ¬ (65 : Int) ≤ K := by omega
  have f1 : K ≤ (32 : Int) := by omega
  have f8 : (0 : Int) ≤ K := by omega
  have f9 : K ≤ (255 : Int) := by omega
  clear hb0 hb1 hno
  clear hs hn hw1 ho1 ho2 hz hne
  have HT : Hid (Lib.Utf8Tabs 0 1 w) := hT
  clear hT
  go_enter Tryd.func5, Tryd.ntmps5
  rw [← hc105, ← hc106, ← hc108, ← hc33, ← hc124, ← hc46, ← hc44, ← hc58, ← hc59, ← hc39, ← hc102, ← hc116, ← hc114, ← hc40, ← hc41, ← hc91, ← hc93, ← hc45, ← hc34, ← hc109, ← hc119, ← hc77, ← hc87, ← hc64]
  clear hc105 hc106 hc108 hc33 hc124 hc46 hc44 hc58 hc59 hc39 hc102 hc116 hc114 hc40 hc41 hc91 hc93 hc45 hc34 hc109 hc119 hc77 hc87 hc64
  go_wp2_with (first
    | (go_at_call 7; refine (q1 _).mono ?_; rintro e w' ⟨rfl, rfl⟩)
    | (refine wpList_bU1 rfl _ rfl y _ HN.out rfl ?_; intro g w1 s1 k1; have hcv := conv_su s1; rw [HS.out] at hcv)
    | (go_at_call 9; have := K2; refine (q3 _ (Tabs.keep HT.out K2) z2).mono ?_; rintro e w3 ⟨rfl, k3⟩; have K3 := K2.trans k3)
    | (go_at_call 9; refine (q2 _ (Tabs.keep HT.out k1) z1).mono ?_; rintro e w2 ⟨rfl, k2⟩; have K2 := k1.trans k2)
    | (go_at_call 6; refine (wakes6 _ (Tabs.keep HT.out K3)).mono ?_; rintro e w4 ⟨rfl, k4⟩))
  go_ret
  exact ⟨rfl, K3.trans k4⟩

set_option maxRecDepth 100000 in
set_option maxHeartbeats 1000000 in
theorem kind_r2 (w : World) (hT : Lib.Utf8Tabs 0 1 w) (v : Int) (hv : 0 ≤ v ∧ v ≤ 255) (K : Int) (hK : v % 127 = K) (hb : 33 ≤ K ∧ K ≤ 64) (hno : K ≠ 33 ∧ K ≠ 46 ∧ K ≠ 44 ∧ K ≠ 58 ∧ K ≠ 59 ∧ K ≠ 39 ∧ K ≠ 40 ∧ K ≠ 41 ∧ K ≠ 45 ∧ K ≠ 34 ∧ K ≠ 64) (S : ByteArray) (y : UInt8) (h : One S y K 6) :
    Calls Tryd.prog 5 #[.int .u8 v] w fun e w' => e = .returned (.bool true) ∧ Keeps (fun _ => False) w w' := by
  obtain ⟨hv0, hv1⟩ := hv
  obtain ⟨hb0, hb1⟩ := hb
  obtain ⟨hs, hn, hw1, ho1, ho2, hz, hne⟩ := h
  have q1 := fun W => sign_at hw1 W
  have q2 := text_at ho1
  have q3 := text_at ho2
  have z1 : S.size ≤ 100000 := by omega
  have z2 : (S ++ S).size ≤ 100000 := by rw [app_sz]; omega
  have HN : Hid ((y.toNat : Int) = K) := hn
  have HS : Hid ((⟨[y].toArray⟩ : ByteArray) = S) := hs
  obtain ⟨c105, hc105⟩ : ∃ c : ByteArray, c = ⟨#[105]⟩ := ⟨_, rfl⟩
  have e105 : (S.toList == c105.toList) = false := by rw [hc105]; have h := hne 105; rw [h]; first | rfl | (rw [decide_eq_false_iff_not]; show K ≠ 105; omega)
  obtain ⟨c106, hc106⟩ : ∃ c : ByteArray, c = ⟨#[106]⟩ := ⟨_, rfl⟩
  have e106 : (S.toList == c106.toList) = false := by rw [hc106]; have h := hne 106; rw [h]; first | rfl | (rw [decide_eq_false_iff_not]; show K ≠ 106; omega)
  obtain ⟨c108, hc108⟩ : ∃ c : ByteArray, c = ⟨#[108]⟩ := ⟨_, rfl⟩
  have e108 : (S.toList == c108.toList) = false := by rw [hc108]; have h := hne 108; rw [h]; first | rfl | (rw [decide_eq_false_iff_not]; show K ≠ 108; omega)
  obtain ⟨c33, hc33⟩ : ∃ c : ByteArray, c = ⟨#[33]⟩ := ⟨_, rfl⟩
  have e33 : (S.toList == c33.toList) = false := by rw [hc33]; have h := hne 33; rw [h]; first | rfl | (rw [decide_eq_false_iff_not]; show K ≠ 33; omega)
  obtain ⟨c124, hc124⟩ : ∃ c : ByteArray, c = ⟨#[124]⟩ := ⟨_, rfl⟩
  have e124 : (S.toList == c124.toList) = false := by rw [hc124]; have h := hne 124; rw [h]; first | rfl | (rw [decide_eq_false_iff_not]; show K ≠ 124; omega)
  obtain ⟨c46, hc46⟩ : ∃ c : ByteArray, c = ⟨#[46]⟩ := ⟨_, rfl⟩
  have e46 : (S.toList == c46.toList) = false := by rw [hc46]; have h := hne 46; rw [h]; first | rfl | (rw [decide_eq_false_iff_not]; show K ≠ 46; omega)
  obtain ⟨c44, hc44⟩ : ∃ c : ByteArray, c = ⟨#[44]⟩ := ⟨_, rfl⟩
  have e44 : (S.toList == c44.toList) = false := by rw [hc44]; have h := hne 44; rw [h]; first | rfl | (rw [decide_eq_false_iff_not]; show K ≠ 44; omega)
  obtain ⟨c58, hc58⟩ : ∃ c : ByteArray, c = ⟨#[58]⟩ := ⟨_, rfl⟩
  have e58 : (S.toList == c58.toList) = false := by rw [hc58]; have h := hne 58; rw [h]; first | rfl | (rw [decide_eq_false_iff_not]; show K ≠ 58; omega)
  obtain ⟨c59, hc59⟩ : ∃ c : ByteArray, c = ⟨#[59]⟩ := ⟨_, rfl⟩
  have e59 : (S.toList == c59.toList) = false := by rw [hc59]; have h := hne 59; rw [h]; first | rfl | (rw [decide_eq_false_iff_not]; show K ≠ 59; omega)
  obtain ⟨c39, hc39⟩ : ∃ c : ByteArray, c = ⟨#[39]⟩ := ⟨_, rfl⟩
  have e39 : (S.toList == c39.toList) = false := by rw [hc39]; have h := hne 39; rw [h]; first | rfl | (rw [decide_eq_false_iff_not]; show K ≠ 39; omega)
  obtain ⟨c102, hc102⟩ : ∃ c : ByteArray, c = ⟨#[102]⟩ := ⟨_, rfl⟩
  have e102 : (S.toList == c102.toList) = false := by rw [hc102]; have h := hne 102; rw [h]; first | rfl | (rw [decide_eq_false_iff_not]; show K ≠ 102; omega)
  obtain ⟨c116, hc116⟩ : ∃ c : ByteArray, c = ⟨#[116]⟩ := ⟨_, rfl⟩
  have e116 : (S.toList == c116.toList) = false := by rw [hc116]; have h := hne 116; rw [h]; first | rfl | (rw [decide_eq_false_iff_not]; show K ≠ 116; omega)
  obtain ⟨c114, hc114⟩ : ∃ c : ByteArray, c = ⟨#[114]⟩ := ⟨_, rfl⟩
  have e114 : (S.toList == c114.toList) = false := by rw [hc114]; have h := hne 114; rw [h]; first | rfl | (rw [decide_eq_false_iff_not]; show K ≠ 114; omega)
  obtain ⟨c40, hc40⟩ : ∃ c : ByteArray, c = ⟨#[40]⟩ := ⟨_, rfl⟩
  have e40 : (S.toList == c40.toList) = false := by rw [hc40]; have h := hne 40; rw [h]; first | rfl | (rw [decide_eq_false_iff_not]; show K ≠ 40; omega)
  obtain ⟨c41, hc41⟩ : ∃ c : ByteArray, c = ⟨#[41]⟩ := ⟨_, rfl⟩
  have e41 : (S.toList == c41.toList) = false := by rw [hc41]; have h := hne 41; rw [h]; first | rfl | (rw [decide_eq_false_iff_not]; show K ≠ 41; omega)
  obtain ⟨c91, hc91⟩ : ∃ c : ByteArray, c = ⟨#[91]⟩ := ⟨_, rfl⟩
  have e91 : (S.toList == c91.toList) = false := by rw [hc91]; have h := hne 91; rw [h]; first | rfl | (rw [decide_eq_false_iff_not]; show K ≠ 91; omega)
  obtain ⟨c93, hc93⟩ : ∃ c : ByteArray, c = ⟨#[93]⟩ := ⟨_, rfl⟩
  have e93 : (S.toList == c93.toList) = false := by rw [hc93]; have h := hne 93; rw [h]; first | rfl | (rw [decide_eq_false_iff_not]; show K ≠ 93; omega)
  obtain ⟨c45, hc45⟩ : ∃ c : ByteArray, c = ⟨#[45]⟩ := ⟨_, rfl⟩
  have e45 : (S.toList == c45.toList) = false := by rw [hc45]; have h := hne 45; rw [h]; first | rfl | (rw [decide_eq_false_iff_not]; show K ≠ 45; omega)
  obtain ⟨c34, hc34⟩ : ∃ c : ByteArray, c = ⟨#[34]⟩ := ⟨_, rfl⟩
  have e34 : (S.toList == c34.toList) = false := by rw [hc34]; have h := hne 34; rw [h]; first | rfl | (rw [decide_eq_false_iff_not]; show K ≠ 34; omega)
  obtain ⟨c109, hc109⟩ : ∃ c : ByteArray, c = ⟨#[109]⟩ := ⟨_, rfl⟩
  have e109 : (S.toList == c109.toList) = false := by rw [hc109]; have h := hne 109; rw [h]; first | rfl | (rw [decide_eq_false_iff_not]; show K ≠ 109; omega)
  obtain ⟨c119, hc119⟩ : ∃ c : ByteArray, c = ⟨#[119]⟩ := ⟨_, rfl⟩
  have e119 : (S.toList == c119.toList) = false := by rw [hc119]; have h := hne 119; rw [h]; first | rfl | (rw [decide_eq_false_iff_not]; show K ≠ 119; omega)
  obtain ⟨c77, hc77⟩ : ∃ c : ByteArray, c = ⟨#[77]⟩ := ⟨_, rfl⟩
  have e77 : (S.toList == c77.toList) = false := by rw [hc77]; have h := hne 77; rw [h]; first | rfl | (rw [decide_eq_false_iff_not]; show K ≠ 77; omega)
  obtain ⟨c87, hc87⟩ : ∃ c : ByteArray, c = ⟨#[87]⟩ := ⟨_, rfl⟩
  have e87 : (S.toList == c87.toList) = false := by rw [hc87]; have h := hne 87; rw [h]; first | rfl | (rw [decide_eq_false_iff_not]; show K ≠ 87; omega)
  obtain ⟨c64, hc64⟩ : ∃ c : ByteArray, c = ⟨#[64]⟩ := ⟨_, rfl⟩
  have e64 : (S.toList == c64.toList) = false := by rw [hc64]; have h := hne 64; rw [h]; first | rfl | (rw [decide_eq_false_iff_not]; show K ≠ 64; omega)
  have f0 : ¬ (65 : Int) ≤ K := by omega
  have f1 : ¬ K ≤ (32 : Int) := by omega
  have f8 : (0 : Int) ≤ K := by omega
  have f9 : K ≤ (255 : Int) := by omega
  clear hb0 hb1 hno
  clear hs hn hw1 ho1 ho2 hz hne
  have HT : Hid (Lib.Utf8Tabs 0 1 w) := hT
  clear hT
  go_enter Tryd.func5, Tryd.ntmps5
  rw [← hc105, ← hc106, ← hc108, ← hc33, ← hc124, ← hc46, ← hc44, ← hc58, ← hc59, ← hc39, ← hc102, ← hc116, ← hc114, ← hc40, ← hc41, ← hc91, ← hc93, ← hc45, ← hc34, ← hc109, ← hc119, ← hc77, ← hc87, ← hc64]
  clear hc105 hc106 hc108 hc33 hc124 hc46 hc44 hc58 hc59 hc39 hc102 hc116 hc114 hc40 hc41 hc91 hc93 hc45 hc34 hc109 hc119 hc77 hc87 hc64
  go_wp2_with (first
    | (go_at_call 7; refine (q1 _).mono ?_; rintro e w' ⟨rfl, rfl⟩)
    | (refine wpList_bU1 rfl _ rfl y _ HN.out rfl ?_; intro g w1 s1 k1; have hcv := conv_su s1; rw [HS.out] at hcv)
    | (go_at_call 9; have := K2; refine (q3 _ (Tabs.keep HT.out K2) z2).mono ?_; rintro e w3 ⟨rfl, k3⟩; have K3 := K2.trans k3)
    | (go_at_call 9; refine (q2 _ (Tabs.keep HT.out k1) z1).mono ?_; rintro e w2 ⟨rfl, k2⟩; have K2 := k1.trans k2)
    | (go_at_call 6; refine (wakes6 _ (Tabs.keep HT.out K3)).mono ?_; rintro e w4 ⟨rfl, k4⟩))
  go_ret
  exact ⟨rfl, K3.trans k4⟩

set_option maxRecDepth 100000 in
set_option maxHeartbeats 1000000 in
theorem kind_r3 (w : World) (hT : Lib.Utf8Tabs 0 1 w) (v : Int) (hv : 0 ≤ v ∧ v ≤ 255) (K : Int) (hK : v % 127 = K) (hb : 65 ≤ K ∧ K ≤ 90) (hno : K ≠ 77 ∧ K ≠ 87) (S : ByteArray) (y : UInt8) (h : One S y K 7) :
    Calls Tryd.prog 5 #[.int .u8 v] w fun e w' => e = .returned (.bool true) ∧ Keeps (fun _ => False) w w' := by
  obtain ⟨hv0, hv1⟩ := hv
  obtain ⟨hb0, hb1⟩ := hb
  obtain ⟨hs, hn, hw1, ho1, ho2, hz, hne⟩ := h
  have q1 := fun W => sign_at hw1 W
  have q2 := text_at ho1
  have q3 := text_at ho2
  have z1 : S.size ≤ 100000 := by omega
  have z2 : (S ++ S).size ≤ 100000 := by rw [app_sz]; omega
  have HN : Hid ((y.toNat : Int) = K) := hn
  have HS : Hid ((⟨[y].toArray⟩ : ByteArray) = S) := hs
  obtain ⟨c105, hc105⟩ : ∃ c : ByteArray, c = ⟨#[105]⟩ := ⟨_, rfl⟩
  have e105 : (S.toList == c105.toList) = false := by rw [hc105]; have h := hne 105; rw [h]; first | rfl | (rw [decide_eq_false_iff_not]; show K ≠ 105; omega)
  obtain ⟨c106, hc106⟩ : ∃ c : ByteArray, c = ⟨#[106]⟩ := ⟨_, rfl⟩
  have e106 : (S.toList == c106.toList) = false := by rw [hc106]; have h := hne 106; rw [h]; first | rfl | (rw [decide_eq_false_iff_not]; show K ≠ 106; omega)
  obtain ⟨c108, hc108⟩ : ∃ c : ByteArray, c = ⟨#[108]⟩ := ⟨_, rfl⟩
  have e108 : (S.toList == c108.toList) = false := by rw [hc108]; have h := hne 108; rw [h]; first | rfl | (rw [decide_eq_false_iff_not]; show K ≠ 108; omega)
  obtain ⟨c33, hc33⟩ : ∃ c : ByteArray, c = ⟨#[33]⟩ := ⟨_, rfl⟩
  have e33 : (S.toList == c33.toList) = false := by rw [hc33]; have h := hne 33; rw [h]; first | rfl | (rw [decide_eq_false_iff_not]; show K ≠ 33; omega)
  obtain ⟨c124, hc124⟩ : ∃ c : ByteArray, c = ⟨#[124]⟩ := ⟨_, rfl⟩
  have e124 : (S.toList == c124.toList) = false := by rw [hc124]; have h := hne 124; rw [h]; first | rfl | (rw [decide_eq_false_iff_not]; show K ≠ 124; omega)
  obtain ⟨c46, hc46⟩ : ∃ c : ByteArray, c = ⟨#[46]⟩ := ⟨_, rfl⟩
  have e46 : (S.toList == c46.toList) = false := by rw [hc46]; have h := hne 46; rw [h]; first | rfl | (rw [decide_eq_false_iff_not]; show K ≠ 46; omega)
  obtain ⟨c44, hc44⟩ : ∃ c : ByteArray, c = ⟨#[44]⟩ := ⟨_, rfl⟩
  have e44 : (S.toList == c44.toList) = false := by rw [hc44]; have h := hne 44; rw [h]; first | rfl | (rw [decide_eq_false_iff_not]; show K ≠ 44; omega)
  obtain ⟨c58, hc58⟩ : ∃ c : ByteArray, c = ⟨#[58]⟩ := ⟨_, rfl⟩
  have e58 : (S.toList == c58.toList) = false := by rw [hc58]; have h := hne 58; rw [h]; first | rfl | (rw [decide_eq_false_iff_not]; show K ≠ 58; omega)
  obtain ⟨c59, hc59⟩ : ∃ c : ByteArray, c = ⟨#[59]⟩ := ⟨_, rfl⟩
  have e59 : (S.toList == c59.toList) = false := by rw [hc59]; have h := hne 59; rw [h]; first | rfl | (rw [decide_eq_false_iff_not]; show K ≠ 59; omega)
  obtain ⟨c39, hc39⟩ : ∃ c : ByteArray, c = ⟨#[39]⟩ := ⟨_, rfl⟩
  have e39 : (S.toList == c39.toList) = false := by rw [hc39]; have h := hne 39; rw [h]; first | rfl | (rw [decide_eq_false_iff_not]; show K ≠ 39; omega)
  obtain ⟨c102, hc102⟩ : ∃ c : ByteArray, c = ⟨#[102]⟩ := ⟨_, rfl⟩
  have e102 : (S.toList == c102.toList) = false := by rw [hc102]; have h := hne 102; rw [h]; first | rfl | (rw [decide_eq_false_iff_not]; show K ≠ 102; omega)
  obtain ⟨c116, hc116⟩ : ∃ c : ByteArray, c = ⟨#[116]⟩ := ⟨_, rfl⟩
  have e116 : (S.toList == c116.toList) = false := by rw [hc116]; have h := hne 116; rw [h]; first | rfl | (rw [decide_eq_false_iff_not]; show K ≠ 116; omega)
  obtain ⟨c114, hc114⟩ : ∃ c : ByteArray, c = ⟨#[114]⟩ := ⟨_, rfl⟩
  have e114 : (S.toList == c114.toList) = false := by rw [hc114]; have h := hne 114; rw [h]; first | rfl | (rw [decide_eq_false_iff_not]; show K ≠ 114; omega)
  obtain ⟨c40, hc40⟩ : ∃ c : ByteArray, c = ⟨#[40]⟩ := ⟨_, rfl⟩
  have e40 : (S.toList == c40.toList) = false := by rw [hc40]; have h := hne 40; rw [h]; first | rfl | (rw [decide_eq_false_iff_not]; show K ≠ 40; omega)
  obtain ⟨c41, hc41⟩ : ∃ c : ByteArray, c = ⟨#[41]⟩ := ⟨_, rfl⟩
  have e41 : (S.toList == c41.toList) = false := by rw [hc41]; have h := hne 41; rw [h]; first | rfl | (rw [decide_eq_false_iff_not]; show K ≠ 41; omega)
  obtain ⟨c91, hc91⟩ : ∃ c : ByteArray, c = ⟨#[91]⟩ := ⟨_, rfl⟩
  have e91 : (S.toList == c91.toList) = false := by rw [hc91]; have h := hne 91; rw [h]; first | rfl | (rw [decide_eq_false_iff_not]; show K ≠ 91; omega)
  obtain ⟨c93, hc93⟩ : ∃ c : ByteArray, c = ⟨#[93]⟩ := ⟨_, rfl⟩
  have e93 : (S.toList == c93.toList) = false := by rw [hc93]; have h := hne 93; rw [h]; first | rfl | (rw [decide_eq_false_iff_not]; show K ≠ 93; omega)
  obtain ⟨c45, hc45⟩ : ∃ c : ByteArray, c = ⟨#[45]⟩ := ⟨_, rfl⟩
  have e45 : (S.toList == c45.toList) = false := by rw [hc45]; have h := hne 45; rw [h]; first | rfl | (rw [decide_eq_false_iff_not]; show K ≠ 45; omega)
  obtain ⟨c34, hc34⟩ : ∃ c : ByteArray, c = ⟨#[34]⟩ := ⟨_, rfl⟩
  have e34 : (S.toList == c34.toList) = false := by rw [hc34]; have h := hne 34; rw [h]; first | rfl | (rw [decide_eq_false_iff_not]; show K ≠ 34; omega)
  obtain ⟨c109, hc109⟩ : ∃ c : ByteArray, c = ⟨#[109]⟩ := ⟨_, rfl⟩
  have e109 : (S.toList == c109.toList) = false := by rw [hc109]; have h := hne 109; rw [h]; first | rfl | (rw [decide_eq_false_iff_not]; show K ≠ 109; omega)
  obtain ⟨c119, hc119⟩ : ∃ c : ByteArray, c = ⟨#[119]⟩ := ⟨_, rfl⟩
  have e119 : (S.toList == c119.toList) = false := by rw [hc119]; have h := hne 119; rw [h]; first | rfl | (rw [decide_eq_false_iff_not]; show K ≠ 119; omega)
  obtain ⟨c77, hc77⟩ : ∃ c : ByteArray, c = ⟨#[77]⟩ := ⟨_, rfl⟩
  have e77 : (S.toList == c77.toList) = false := by rw [hc77]; have h := hne 77; rw [h]; first | rfl | (rw [decide_eq_false_iff_not]; show K ≠ 77; omega)
  obtain ⟨c87, hc87⟩ : ∃ c : ByteArray, c = ⟨#[87]⟩ := ⟨_, rfl⟩
  have e87 : (S.toList == c87.toList) = false := by rw [hc87]; have h := hne 87; rw [h]; first | rfl | (rw [decide_eq_false_iff_not]; show K ≠ 87; omega)
  obtain ⟨c64, hc64⟩ : ∃ c : ByteArray, c = ⟨#[64]⟩ := ⟨_, rfl⟩
  have e64 : (S.toList == c64.toList) = false := by rw [hc64]; have h := hne 64; rw [h]; first | rfl | (rw [decide_eq_false_iff_not]; show K ≠ 64; omega)
  have f0 : (65 : Int) ≤ K := by omega
  have f1 : K ≤ (90 : Int) := by omega
  have f2 : ¬ K ≤ (32 : Int) := by omega
  have f8 : (0 : Int) ≤ K := by omega
  have f9 : K ≤ (255 : Int) := by omega
  clear hb0 hb1 hno
  clear hs hn hw1 ho1 ho2 hz hne
  have HT : Hid (Lib.Utf8Tabs 0 1 w) := hT
  clear hT
  go_enter Tryd.func5, Tryd.ntmps5
  rw [← hc105, ← hc106, ← hc108, ← hc33, ← hc124, ← hc46, ← hc44, ← hc58, ← hc59, ← hc39, ← hc102, ← hc116, ← hc114, ← hc40, ← hc41, ← hc91, ← hc93, ← hc45, ← hc34, ← hc109, ← hc119, ← hc77, ← hc87, ← hc64]
  clear hc105 hc106 hc108 hc33 hc124 hc46 hc44 hc58 hc59 hc39 hc102 hc116 hc114 hc40 hc41 hc91 hc93 hc45 hc34 hc109 hc119 hc77 hc87 hc64
  go_wp2_with (first
    | (go_at_call 7; refine (q1 _).mono ?_; rintro e w' ⟨rfl, rfl⟩)
    | (refine wpList_bU1 rfl _ rfl y _ HN.out rfl ?_; intro g w1 s1 k1; have hcv := conv_su s1; rw [HS.out] at hcv)
    | (go_at_call 9; have := K2; refine (q3 _ (Tabs.keep HT.out K2) z2).mono ?_; rintro e w3 ⟨rfl, k3⟩; have K3 := K2.trans k3)
    | (go_at_call 9; refine (q2 _ (Tabs.keep HT.out k1) z1).mono ?_; rintro e w2 ⟨rfl, k2⟩; have K2 := k1.trans k2)
    | (go_at_call 6; refine (wakes6 _ (Tabs.keep HT.out K3)).mono ?_; rintro e w4 ⟨rfl, k4⟩))
  go_ret
  exact ⟨rfl, K3.trans k4⟩

set_option maxRecDepth 100000 in
set_option maxHeartbeats 1000000 in
theorem kind_r4 (w : World) (hT : Lib.Utf8Tabs 0 1 w) (v : Int) (hv : 0 ≤ v ∧ v ≤ 255) (K : Int) (hK : v % 127 = K) (hb : 91 ≤ K ∧ K ≤ 126) (hno : K ≠ 105 ∧ K ≠ 106 ∧ K ≠ 108 ∧ K ≠ 124 ∧ K ≠ 102 ∧ K ≠ 116 ∧ K ≠ 114 ∧ K ≠ 91 ∧ K ≠ 93 ∧ K ≠ 109 ∧ K ≠ 119) (S : ByteArray) (y : UInt8) (h : One S y K 6) :
    Calls Tryd.prog 5 #[.int .u8 v] w fun e w' => e = .returned (.bool true) ∧ Keeps (fun _ => False) w w' := by
  obtain ⟨hv0, hv1⟩ := hv
  obtain ⟨hb0, hb1⟩ := hb
  obtain ⟨hs, hn, hw1, ho1, ho2, hz, hne⟩ := h
  have q1 := fun W => sign_at hw1 W
  have q2 := text_at ho1
  have q3 := text_at ho2
  have z1 : S.size ≤ 100000 := by omega
  have z2 : (S ++ S).size ≤ 100000 := by rw [app_sz]; omega
  have HN : Hid ((y.toNat : Int) = K) := hn
  have HS : Hid ((⟨[y].toArray⟩ : ByteArray) = S) := hs
  obtain ⟨c105, hc105⟩ : ∃ c : ByteArray, c = ⟨#[105]⟩ := ⟨_, rfl⟩
  have e105 : (S.toList == c105.toList) = false := by rw [hc105]; have h := hne 105; rw [h]; first | rfl | (rw [decide_eq_false_iff_not]; show K ≠ 105; omega)
  obtain ⟨c106, hc106⟩ : ∃ c : ByteArray, c = ⟨#[106]⟩ := ⟨_, rfl⟩
  have e106 : (S.toList == c106.toList) = false := by rw [hc106]; have h := hne 106; rw [h]; first | rfl | (rw [decide_eq_false_iff_not]; show K ≠ 106; omega)
  obtain ⟨c108, hc108⟩ : ∃ c : ByteArray, c = ⟨#[108]⟩ := ⟨_, rfl⟩
  have e108 : (S.toList == c108.toList) = false := by rw [hc108]; have h := hne 108; rw [h]; first | rfl | (rw [decide_eq_false_iff_not]; show K ≠ 108; omega)
  obtain ⟨c33, hc33⟩ : ∃ c : ByteArray, c = ⟨#[33]⟩ := ⟨_, rfl⟩
  have e33 : (S.toList == c33.toList) = false := by rw [hc33]; have h := hne 33; rw [h]; first | rfl | (rw [decide_eq_false_iff_not]; show K ≠ 33; omega)
  obtain ⟨c124, hc124⟩ : ∃ c : ByteArray, c = ⟨#[124]⟩ := ⟨_, rfl⟩
  have e124 : (S.toList == c124.toList) = false := by rw [hc124]; have h := hne 124; rw [h]; first | rfl | (rw [decide_eq_false_iff_not]; show K ≠ 124; omega)
  obtain ⟨c46, hc46⟩ : ∃ c : ByteArray, c = ⟨#[46]⟩ := ⟨_, rfl⟩
  have e46 : (S.toList == c46.toList) = false := by rw [hc46]; have h := hne 46; rw [h]; first | rfl | (rw [decide_eq_false_iff_not]; show K ≠ 46; omega)
  obtain ⟨c44, hc44⟩ : ∃ c : ByteArray, c = ⟨#[44]⟩ := ⟨_, rfl⟩
  have e44 : (S.toList == c44.toList) = false := by rw [hc44]; have h := hne 44; rw [h]; first | rfl | (rw [decide_eq_false_iff_not]; show K ≠ 44; omega)
  obtain ⟨c58, hc58⟩ : ∃ c : ByteArray, c = ⟨#[58]⟩ := ⟨_, rfl⟩
  have e58 : (S.toList == c58.toList) = false := by rw [hc58]; have h := hne 58; rw [h]; first | rfl | (rw [decide_eq_false_iff_not]; show K ≠ 58; omega)
  obtain ⟨c59, hc59⟩ : ∃ c : ByteArray, c = ⟨#[59]⟩ := ⟨_, rfl⟩
  have e59 : (S.toList == c59.toList) = false := by rw [hc59]; have h := hne 59; rw [h]; first | rfl | (rw [decide_eq_false_iff_not]; show K ≠ 59; omega)
  obtain ⟨c39, hc39⟩ : ∃ c : ByteArray, c = ⟨#[39]⟩ := ⟨_, rfl⟩
  have e39 : (S.toList == c39.toList) = false := by rw [hc39]; have h := hne 39; rw [h]; first | rfl | (rw [decide_eq_false_iff_not]; show K ≠ 39; omega)
  obtain ⟨c102, hc102⟩ : ∃ c : ByteArray, c = ⟨#[102]⟩ := ⟨_, rfl⟩
  have e102 : (S.toList == c102.toList) = false := by rw [hc102]; have h := hne 102; rw [h]; first | rfl | (rw [decide_eq_false_iff_not]; show K ≠ 102; omega)
  obtain ⟨c116, hc116⟩ : ∃ c : ByteArray, c = ⟨#[116]⟩ := ⟨_, rfl⟩
  have e116 : (S.toList == c116.toList) = false := by rw [hc116]; have h := hne 116; rw [h]; first | rfl | (rw [decide_eq_false_iff_not]; show K ≠ 116; omega)
  obtain ⟨c114, hc114⟩ : ∃ c : ByteArray, c = ⟨#[114]⟩ := ⟨_, rfl⟩
  have e114 : (S.toList == c114.toList) = false := by rw [hc114]; have h := hne 114; rw [h]; first | rfl | (rw [decide_eq_false_iff_not]; show K ≠ 114; omega)
  obtain ⟨c40, hc40⟩ : ∃ c : ByteArray, c = ⟨#[40]⟩ := ⟨_, rfl⟩
  have e40 : (S.toList == c40.toList) = false := by rw [hc40]; have h := hne 40; rw [h]; first | rfl | (rw [decide_eq_false_iff_not]; show K ≠ 40; omega)
  obtain ⟨c41, hc41⟩ : ∃ c : ByteArray, c = ⟨#[41]⟩ := ⟨_, rfl⟩
  have e41 : (S.toList == c41.toList) = false := by rw [hc41]; have h := hne 41; rw [h]; first | rfl | (rw [decide_eq_false_iff_not]; show K ≠ 41; omega)
  obtain ⟨c91, hc91⟩ : ∃ c : ByteArray, c = ⟨#[91]⟩ := ⟨_, rfl⟩
  have e91 : (S.toList == c91.toList) = false := by rw [hc91]; have h := hne 91; rw [h]; first | rfl | (rw [decide_eq_false_iff_not]; show K ≠ 91; omega)
  obtain ⟨c93, hc93⟩ : ∃ c : ByteArray, c = ⟨#[93]⟩ := ⟨_, rfl⟩
  have e93 : (S.toList == c93.toList) = false := by rw [hc93]; have h := hne 93; rw [h]; first | rfl | (rw [decide_eq_false_iff_not]; show K ≠ 93; omega)
  obtain ⟨c45, hc45⟩ : ∃ c : ByteArray, c = ⟨#[45]⟩ := ⟨_, rfl⟩
  have e45 : (S.toList == c45.toList) = false := by rw [hc45]; have h := hne 45; rw [h]; first | rfl | (rw [decide_eq_false_iff_not]; show K ≠ 45; omega)
  obtain ⟨c34, hc34⟩ : ∃ c : ByteArray, c = ⟨#[34]⟩ := ⟨_, rfl⟩
  have e34 : (S.toList == c34.toList) = false := by rw [hc34]; have h := hne 34; rw [h]; first | rfl | (rw [decide_eq_false_iff_not]; show K ≠ 34; omega)
  obtain ⟨c109, hc109⟩ : ∃ c : ByteArray, c = ⟨#[109]⟩ := ⟨_, rfl⟩
  have e109 : (S.toList == c109.toList) = false := by rw [hc109]; have h := hne 109; rw [h]; first | rfl | (rw [decide_eq_false_iff_not]; show K ≠ 109; omega)
  obtain ⟨c119, hc119⟩ : ∃ c : ByteArray, c = ⟨#[119]⟩ := ⟨_, rfl⟩
  have e119 : (S.toList == c119.toList) = false := by rw [hc119]; have h := hne 119; rw [h]; first | rfl | (rw [decide_eq_false_iff_not]; show K ≠ 119; omega)
  obtain ⟨c77, hc77⟩ : ∃ c : ByteArray, c = ⟨#[77]⟩ := ⟨_, rfl⟩
  have e77 : (S.toList == c77.toList) = false := by rw [hc77]; have h := hne 77; rw [h]; first | rfl | (rw [decide_eq_false_iff_not]; show K ≠ 77; omega)
  obtain ⟨c87, hc87⟩ : ∃ c : ByteArray, c = ⟨#[87]⟩ := ⟨_, rfl⟩
  have e87 : (S.toList == c87.toList) = false := by rw [hc87]; have h := hne 87; rw [h]; first | rfl | (rw [decide_eq_false_iff_not]; show K ≠ 87; omega)
  obtain ⟨c64, hc64⟩ : ∃ c : ByteArray, c = ⟨#[64]⟩ := ⟨_, rfl⟩
  have e64 : (S.toList == c64.toList) = false := by rw [hc64]; have h := hne 64; rw [h]; first | rfl | (rw [decide_eq_false_iff_not]; show K ≠ 64; omega)
  have f0 : (65 : Int) ≤ K := by omega
  have f1 : ¬ K ≤ (90 : Int) := by omega
  have f2 : ¬ K ≤ (32 : Int) := by omega
  have f8 : (0 : Int) ≤ K := by omega
  have f9 : K ≤ (255 : Int) := by omega
  clear hb0 hb1 hno
  clear hs hn hw1 ho1 ho2 hz hne
  have HT : Hid (Lib.Utf8Tabs 0 1 w) := hT
  clear hT
  go_enter Tryd.func5, Tryd.ntmps5
  rw [← hc105, ← hc106, ← hc108, ← hc33, ← hc124, ← hc46, ← hc44, ← hc58, ← hc59, ← hc39, ← hc102, ← hc116, ← hc114, ← hc40, ← hc41, ← hc91, ← hc93, ← hc45, ← hc34, ← hc109, ← hc119, ← hc77, ← hc87, ← hc64]
  clear hc105 hc106 hc108 hc33 hc124 hc46 hc44 hc58 hc59 hc39 hc102 hc116 hc114 hc40 hc41 hc91 hc93 hc45 hc34 hc109 hc119 hc77 hc87 hc64
  go_wp2_with (first
    | (go_at_call 7; refine (q1 _).mono ?_; rintro e w' ⟨rfl, rfl⟩)
    | (refine wpList_bU1 rfl _ rfl y _ HN.out rfl ?_; intro g w1 s1 k1; have hcv := conv_su s1; rw [HS.out] at hcv)
    | (go_at_call 9; have := K2; refine (q3 _ (Tabs.keep HT.out K2) z2).mono ?_; rintro e w3 ⟨rfl, k3⟩; have K3 := K2.trans k3)
    | (go_at_call 9; refine (q2 _ (Tabs.keep HT.out k1) z1).mono ?_; rintro e w2 ⟨rfl, k2⟩; have K2 := k1.trans k2)
    | (go_at_call 6; refine (wakes6 _ (Tabs.keep HT.out K3)).mono ?_; rintro e w4 ⟨rfl, k4⟩))
  go_ret
  exact ⟨rfl, K3.trans k4⟩


theorem byte_bounds {n : Int} (h : (Lit.int .u8 n).wf = true) : 0 ≤ n ∧ n ≤ 255 := by
  have : 0 ≤ n ∧ n ≤ 255 := by simpa [Lit.wf, IntKind.min, IntKind.max, IntKind.signed, IntKind.bits] using h
  exact this
theorem kindsL (w : World) (hT : Lib.Utf8Tabs 0 1 w) (v : Int) (hv : 0 ≤ v ∧ v ≤ 255) :
    Calls Tryd.prog 5 #[.int .u8 v] w fun e w' => e = .returned (.bool true) ∧ Keeps (fun _ => False) w w' := by
  obtain ⟨K, hK⟩ : ∃ K, v % 127 = K := ⟨_, rfl⟩
  have h0 : 0 ≤ K := by omega
  have h1 : K < 127 := by omega
  obtain ⟨S, y, h⟩ := one_of h0 h1
  by_cases c105 : K = 105
  · subst c105; exact kind_105 w hT v hv hK S y h
  by_cases c106 : K = 106
  · subst c106; exact kind_106 w hT v hv hK S y h
  by_cases c108 : K = 108
  · subst c108; exact kind_108 w hT v hv hK S y h
  by_cases c33 : K = 33
  · subst c33; exact kind_33 w hT v hv hK S y h
  by_cases c124 : K = 124
  · subst c124; exact kind_124 w hT v hv hK S y h
  by_cases c46 : K = 46
  · subst c46; exact kind_46 w hT v hv hK S y h
  by_cases c44 : K = 44
  · subst c44; exact kind_44 w hT v hv hK S y h
  by_cases c58 : K = 58
  · subst c58; exact kind_58 w hT v hv hK S y h
  by_cases c59 : K = 59
  · subst c59; exact kind_59 w hT v hv hK S y h
  by_cases c39 : K = 39
  · subst c39; exact kind_39 w hT v hv hK S y h
  by_cases c102 : K = 102
  · subst c102; exact kind_102 w hT v hv hK S y h
  by_cases c116 : K = 116
  · subst c116; exact kind_116 w hT v hv hK S y h
  by_cases c114 : K = 114
  · subst c114; exact kind_114 w hT v hv hK S y h
  by_cases c40 : K = 40
  · subst c40; exact kind_40 w hT v hv hK S y h
  by_cases c41 : K = 41
  · subst c41; exact kind_41 w hT v hv hK S y h
  by_cases c91 : K = 91
  · subst c91; exact kind_91 w hT v hv hK S y h
  by_cases c93 : K = 93
  · subst c93; exact kind_93 w hT v hv hK S y h
  by_cases c45 : K = 45
  · subst c45; exact kind_45 w hT v hv hK S y h
  by_cases c34 : K = 34
  · subst c34; exact kind_34 w hT v hv hK S y h
  by_cases c109 : K = 109
  · subst c109; exact kind_109 w hT v hv hK S y h
  by_cases c119 : K = 119
  · subst c119; exact kind_119 w hT v hv hK S y h
  by_cases c77 : K = 77
  · subst c77; exact kind_77 w hT v hv hK S y h
  by_cases c87 : K = 87
  · subst c87; exact kind_87 w hT v hv hK S y h
  by_cases c64 : K = 64
  · subst c64; exact kind_64 w hT v hv hK S y h
  have HR := wid_rest (v := K) (by refine ⟨c105, c106, c108, c46, c44, c59, c58, c33, c124, c39, c102, c116, c114, c40, c41, c91, c93, c45, c34, c109, c119, c77, c87, c64⟩)
  have cs : K ≤ 32 ∨ (33 ≤ K ∧ K ≤ 64) ∨ (65 ≤ K ∧ K ≤ 90) ∨ 91 ≤ K := by omega
  rcases cs with c | c | c | c
  · rw [HR, if_neg (by omega), if_neg (by omega)] at h
    exact kind_r1 w hT v hv K hK (by omega) trivial S y h
  · rw [HR, if_neg (by omega), if_pos (by omega)] at h
    exact kind_r2 w hT v hv K hK (by omega) ⟨c33, c46, c44, c58, c59, c39, c40, c41, c45, c34, c64⟩ S y h
  · rw [HR, if_pos (by omega)] at h
    exact kind_r3 w hT v hv K hK (by omega) ⟨c77, c87⟩ S y h
  · rw [HR, if_neg (by omega), if_pos (by omega)] at h
    exact kind_r4 w hT v hv K hK (by omega) ⟨c105, c106, c108, c124, c102, c116, c114, c91, c93, c109, c119⟩ S y h

end Go.Proofs.YtcfimggnmcnkhaaDoor
