/-
  The law of forms.
-/
import Derived.Test.YtppliejbpgkaiaaDoorUi
set_option linter.all false
namespace Go.Proofs.YtppliejbpgkaiaaDoor
open Go.RowKit Go.Sort Go.Shelf
attribute [local go_sem] Oper.semAt_some

theorem txt_one {v : Int} (h : isS v) : txt [v] = (Lib.encodeRune v, 0) := by
  unfold txt
  have ha : allS [v] := fun x hx => by
    obtain rfl : x = v := by simpa using hx
    exact h
  rw [if_pos ha, encs_cons, encs_nil, List.append_nil]
theorem txt_none {v : Int} (h : ¬ isS v) : txt [v] = ([], 11) := by
  unfold txt
  rw [if_neg (fun e => h (e v (by simp)))]
theorem wpList_bI1w {ops : Array Oper} {rest : List Oper} {o : Oper} {a : Act} {w : World} {Q : Exit → Act → World → Prop} (hgd : Region.wanted o (yielded ops a.tmps) = true) (x0 : Operand) (ho : o.op = .buildSlice 22 1 #[(0, x0)]) (p : Int) (h0 : a.eval x0 = .int .i64 p)
    (h : ∀ g w', SlI w' (some ⟨g, 0, none⟩) 1 1 [p] → w.heap.size ≤ g → Keeps (fun _ => False) w w' → wpList Tryd.prog ops Q rest (a.put o.dst (.slice (some ⟨g, 0, none⟩) 1 1)) w') : wpList Tryd.prog ops Q (o :: rest) a w := by
  unfold wpList
  rw [if_pos hgd]
  left
  unfold Oper.wp execOp
  simp only [ho, h0, List.map_toArray, List.map_cons, List.map_nil, buildI, Sem.run_bind, Result.andThen_ok, Sem.run_pure]
  exact h w.heap.size _ (buildN [p] 1 rfl w _ _ (heap_alloc_new w _)) (Nat.le_refl _) (keeps_alloc w _)
theorem ints_one (v : Int) (w : World) (a1 a2 : Option Addr) (c1 c2 : Nat) (h1 : SlI w a1 1 c1 [v]) (h2 : SlI w a2 1 c2 [v]) :
    Calls Tryd.prog 12 #[.slice a1 1 c1, .slice a2 1 c2] w fun e w' => e = .returned (.bool true) ∧ Keeps (fun _ => False) w w' := by
  have h := ints12 w a1 a2 1 c1 1 c2 [v] [v] h1 h2 (by omega)
  rw [decide_eq_true rfl] at h
  exact h
theorem ext_take (s : ByteArray) (k : Nat) (h : k ≤ s.size) : (s.extract 0 k).data.toList = s.data.toList.take k := by
  rw [ByteArray.data_extract, Array.toList_extract, List.extract_eq_take_drop]
  simp
theorem ext_sz0 (s : ByteArray) (k : Nat) (h : k ≤ s.size) : (s.extract 0 k).size = k := by
  rw [← sz_len, ext_take s k h, List.length_take, sz_len]; omega


set_option maxRecDepth 100000 in
set_option maxHeartbeats 1000000 in
theorem forms_a (w : World) (hT : Lib.Utf8Tabs 0 1 w) (v : Int) (hv : 0 ≤ v ∧ v < 128) :
    Calls Tryd.prog 5 #[.int .i64 v] w fun e w' => e = .returned (.bool true) ∧ Keeps (fun _ => False) w w' := by
  have hS : isS v := ⟨by omega, by omega, by omega⟩
  have hF := frm1 hv.1 hv.2
  obtain ⟨s, hs⟩ : ∃ s, bs (Lib.encodeRune v) = s := ⟨_, rfl⟩
  have hD : s.data.toList = Lib.encodeRune v := by rw [← hs, bs_data]
  have hsz : s.size = 1 := by rw [← hs, bs_size, hF.len]
  have htx : ∀ (W : World) (a : Option Addr), SlI W a 1 1 [v] → Calls Tryd.prog 9 #[.slice a 1 1] W fun e w' => e = .returned (.tuple #[.string s, .int .i64 0]) ∧ Keeps (fun _ => False) W w' := fun W a h => by
    have := text9 W a 1 1 [v] h (by omega)
    rw [txt_one hS, hs] at this
    exact this
  have hvd : ∀ W, Lib.Utf8Tabs 0 1 W → Calls Tryd.prog 11 #[.string s] W fun e w' => e = .returned (.bool true) ∧ Keeps (fun _ => False) W w' := fun W h => by
    have := valid11 W h s (by omega)
    rw [hD, show vd (Lib.encodeRune v) = true by have := (sg_encs (L := [v]) (fun x hx => by obtain rfl : x = v := by simpa using hx
                                                                                             exact hS)).1; rwa [encs_cons, encs_nil, List.append_nil] at this] at this
    exact this
  have hsg : ∀ W, Lib.Utf8Tabs 0 1 W → Calls Tryd.prog 13 #[.string s] W fun e w' => (∃ a c, e = .returned (.slice a 1 c) ∧ SlI w' a 1 c [v]) ∧ Keeps (fun _ => False) W w' := fun W h => by
    refine (signs_at (s := s) (l := [v]) ?_ W h (by omega)).mono ?_
    · rw [hD]
      have := (sg_encs (L := [v]) (fun x hx => by obtain rfl : x = v := by simpa using hx
                                                  exact hS)).2
      rwa [encs_cons, encs_nil, List.append_nil] at this
    · rintro e w' ⟨⟨a, c, rfl, h1, h2⟩, k⟩
      exact ⟨⟨a, c, rfl, h1⟩, k⟩
  have hcut : ∀ i : Nat, 1 ≤ i → i < 1 → vd ((s.extract 0 i).data.toList) = false := fun i h1 h2 => by
    rw [ext_take s i (by omega), hD]; exact hF.cut i h1 h2
  have hrest : ∀ i : Nat, 1 ≤ i → i < 1 → vd ((s.extract i s.size).data.toList) = false := fun i h1 h2 => by
    rw [ext_drop, hD]; exact hF.rest i h1 h2
  have htop : ∀ i : Nat, 1 ≤ i → i < 1 → (s.data.toList.getD i 0).toNat / 64 = 2 := fun i h1 h2 => by
    rw [hD]; exact hF.top i h1 h2
  have hone :  ((s.data.toList.getD 0 0).toNat < 128) := by rw [hD]; have := hF.one; omega
  have Hcut : Hid (∀ i : Nat, 1 ≤ i → i < 1 → vd ((s.extract 0 i).data.toList) = false) := hcut
  have Hrest : Hid (∀ i : Nat, 1 ≤ i → i < 1 → vd ((s.extract i s.size).data.toList) = false) := hrest
  have Htop : Hid (∀ i : Nat, 1 ≤ i → i < 1 → (s.data.toList.getD i 0).toNat / 64 = 2) := htop
  have Hone : Hid ( ((s.data.toList.getD 0 0).toNat < 128)) := hone
  clear hcut hrest htop hone hD hs hF hS
  obtain ⟨v0, v1⟩ := hv
  have f0 : (0 : Int) ≤ v := by omega
  have f1 : v ≤ (1114111 : Int) := by omega
  have g0 : ¬ (55296 : Int) ≤ v := by omega
  have g1 : ¬ (128 : Int) ≤ v := by omega
  have g2 : ¬ (2048 : Int) ≤ v := by omega
  have g3 : ¬ (65536 : Int) ≤ v := by omega
  go_enter Tryd.func5, Tryd.ntmps5
  go_wp2_with (first
    | (refine wpList_bI1 rfl _ rfl v rfl ?_; intro ga w1 s1 z1 k1)
    | (go_at_call 9; refine (htx _ _ s1).mono ?_; rintro e w2 ⟨rfl, k2⟩; have K2 := k1.trans k2)
    | (go_at_call 11; refine (hvd _ (Tabs.keep hT K2)).mono ?_; rintro e w3 ⟨rfl, k3⟩; have K3 := K2.trans k3))
  go_loopw [7] (fun t wr => ∃ i : Nat, 1 ≤ i ∧ i ≤ 1 ∧ t = .int .i64 (i : Int) ∧ Keeps (fun _ => False) w wr) (fun t _ => 1 - (intOf t).toNat)
  case atStart => exact ⟨1, by omega, by omega, rfl, K3⟩
  case round =>
    clear k1 k2 k3 K2 K3 s1
    obtain ⟨i, hi1, hi2, rfl, hk⟩ := hrel
    by_cases hlt : i < 1
    · have hlt' : (i : Int) < 1 := by omega
      have hi0 : (0 : Int) ≤ (i : Int) := by omega
      have hil : (i : Int) ≤ 1 := by omega
      have HC : Hid (vd ((s.extract 0 i).data.toList) = false) := Hcut.out i hi1 hlt
      have HR : Hid (vd ((s.extract i s.size).data.toList) = false) := Hrest.out i hi1 hlt
      have hx : i < s.size := by omega
      obtain ⟨y, hy⟩ : ∃ y : UInt8, s[i]'hx = y := ⟨_, rfl⟩
      have hy2 : Hid (y.toNat / 64 = 2) := by
        show _ = _
        rw [← hy]
        have := Htop.out i hi1 hlt
        rw [← getb, Utf8W.get!_of_lt s i hx] at this
        exact this
      have hy3 : ((y.toNat : Int) / 64 != 2) = false := by
        rw [show (y.toNat : Int) / 64 = 2 by have := hy2.out; omega]; rfl
      go_wp2_with (first
        | (go_at_call 11; have := q1; refine (valid11 _ (Tabs.keep hT K4) _ ?z2).mono ?_; rotate_left; rintro e w5 ⟨rfl, k5⟩; rw [hsz.symm, HR.out])
        | (go_at_call 11; refine (valid11 _ (Tabs.keep hT hk) _ ?z1).mono ?_; rotate_left; rintro e w4 ⟨rfl, k4⟩; rw [HC.out]; have K4 := hk.trans k4; have q1 : Hid True := trivial))
      case z1 => rw [ext_sz0 s i (by omega)]; omega
      case z2 => rw [← hsz, ext_sz]; omega
      exact ⟨⟨i + 1, by omega, by omega, rfl, K4.trans k5⟩, by simp [intOf]; omega⟩
    · obtain rfl : i = 1 := by omega
      have hx : 0 < s.size := by omega
      obtain ⟨y, hy⟩ : ∃ y : UInt8, s[0]'hx = y := ⟨_, rfl⟩
      have hy2 :  ((y.toNat : Int) < 128) := by
        have := Hone.out
        rw [← getb, Utf8W.get!_of_lt s 0 hx, hy] at this
        omega
      go_wp2_with (first
        | (go_at_call 13; refine (hsg _ (Tabs.keep hT hk)).mono ?_; rintro e w5 ⟨⟨a5, c5, rfl, s5⟩, k5⟩; have K5 := hk.trans k5)
        | (refine wpList_bI1w rfl _ rfl v rfl ?_; intro gb w6 s6 z6 k6; have K6 := K5.trans k6; have s5' := s5.keep k6)
        | (go_at_call 12; refine (ints_one v _ _ _ _ 1 s5' s6).mono ?_; rintro e w7 ⟨rfl, k7⟩; have K7 := K6.trans k7)
        | (go_at_call 7; refine (wakes7 _ (Tabs.keep hT K7)).mono ?_; rintro e w8 ⟨rfl, k8⟩))
      go_ret
      exact ⟨rfl, K7.trans k8⟩


set_option maxRecDepth 100000 in
set_option maxHeartbeats 1000000 in
theorem forms_b (w : World) (hT : Lib.Utf8Tabs 0 1 w) (v : Int) (hv : 128 ≤ v ∧ v < 2048) :
    Calls Tryd.prog 5 #[.int .i64 v] w fun e w' => e = .returned (.bool true) ∧ Keeps (fun _ => False) w w' := by
  have hS : isS v := ⟨by omega, by omega, by omega⟩
  have hF := frm2 hv.1 hv.2
  obtain ⟨s, hs⟩ : ∃ s, bs (Lib.encodeRune v) = s := ⟨_, rfl⟩
  have hD : s.data.toList = Lib.encodeRune v := by rw [← hs, bs_data]
  have hsz : s.size = 2 := by rw [← hs, bs_size, hF.len]
  have htx : ∀ (W : World) (a : Option Addr), SlI W a 1 1 [v] → Calls Tryd.prog 9 #[.slice a 1 1] W fun e w' => e = .returned (.tuple #[.string s, .int .i64 0]) ∧ Keeps (fun _ => False) W w' := fun W a h => by
    have := text9 W a 1 1 [v] h (by omega)
    rw [txt_one hS, hs] at this
    exact this
  have hvd : ∀ W, Lib.Utf8Tabs 0 1 W → Calls Tryd.prog 11 #[.string s] W fun e w' => e = .returned (.bool true) ∧ Keeps (fun _ => False) W w' := fun W h => by
    have := valid11 W h s (by omega)
    rw [hD, show vd (Lib.encodeRune v) = true by have := (sg_encs (L := [v]) (fun x hx => by obtain rfl : x = v := by simpa using hx
                                                                                             exact hS)).1; rwa [encs_cons, encs_nil, List.append_nil] at this] at this
    exact this
  have hsg : ∀ W, Lib.Utf8Tabs 0 1 W → Calls Tryd.prog 13 #[.string s] W fun e w' => (∃ a c, e = .returned (.slice a 1 c) ∧ SlI w' a 1 c [v]) ∧ Keeps (fun _ => False) W w' := fun W h => by
    refine (signs_at (s := s) (l := [v]) ?_ W h (by omega)).mono ?_
    · rw [hD]
      have := (sg_encs (L := [v]) (fun x hx => by obtain rfl : x = v := by simpa using hx
                                                  exact hS)).2
      rwa [encs_cons, encs_nil, List.append_nil] at this
    · rintro e w' ⟨⟨a, c, rfl, h1, h2⟩, k⟩
      exact ⟨⟨a, c, rfl, h1⟩, k⟩
  have hcut : ∀ i : Nat, 1 ≤ i → i < 2 → vd ((s.extract 0 i).data.toList) = false := fun i h1 h2 => by
    rw [ext_take s i (by omega), hD]; exact hF.cut i h1 h2
  have hrest : ∀ i : Nat, 1 ≤ i → i < 2 → vd ((s.extract i s.size).data.toList) = false := fun i h1 h2 => by
    rw [ext_drop, hD]; exact hF.rest i h1 h2
  have htop : ∀ i : Nat, 1 ≤ i → i < 2 → (s.data.toList.getD i 0).toNat / 64 = 2 := fun i h1 h2 => by
    rw [hD]; exact hF.top i h1 h2
  have hone : ¬ ((s.data.toList.getD 0 0).toNat < 128) := by rw [hD]; have := hF.one; omega
  have Hcut : Hid (∀ i : Nat, 1 ≤ i → i < 2 → vd ((s.extract 0 i).data.toList) = false) := hcut
  have Hrest : Hid (∀ i : Nat, 1 ≤ i → i < 2 → vd ((s.extract i s.size).data.toList) = false) := hrest
  have Htop : Hid (∀ i : Nat, 1 ≤ i → i < 2 → (s.data.toList.getD i 0).toNat / 64 = 2) := htop
  have Hone : Hid (¬ ((s.data.toList.getD 0 0).toNat < 128)) := hone
  clear hcut hrest htop hone hD hs hF hS
  obtain ⟨v0, v1⟩ := hv
  have f0 : (0 : Int) ≤ v := by omega
  have f1 : v ≤ (1114111 : Int) := by omega
  have g0 : ¬ (55296 : Int) ≤ v := by omega
  have g1 : (128 : Int) ≤ v := by omega
  have g2 : ¬ (2048 : Int) ≤ v := by omega
  have g3 : ¬ (65536 : Int) ≤ v := by omega
  go_enter Tryd.func5, Tryd.ntmps5
  go_wp2_with (first
    | (refine wpList_bI1 rfl _ rfl v rfl ?_; intro ga w1 s1 z1 k1)
    | (go_at_call 9; refine (htx _ _ s1).mono ?_; rintro e w2 ⟨rfl, k2⟩; have K2 := k1.trans k2)
    | (go_at_call 11; refine (hvd _ (Tabs.keep hT K2)).mono ?_; rintro e w3 ⟨rfl, k3⟩; have K3 := K2.trans k3))
  go_loopw [7] (fun t wr => ∃ i : Nat, 1 ≤ i ∧ i ≤ 2 ∧ t = .int .i64 (i : Int) ∧ Keeps (fun _ => False) w wr) (fun t _ => 2 - (intOf t).toNat)
  case atStart => exact ⟨1, by omega, by omega, rfl, K3⟩
  case round =>
    clear k1 k2 k3 K2 K3 s1
    obtain ⟨i, hi1, hi2, rfl, hk⟩ := hrel
    by_cases hlt : i < 2
    · have hlt' : (i : Int) < 2 := by omega
      have hi0 : (0 : Int) ≤ (i : Int) := by omega
      have hil : (i : Int) ≤ 2 := by omega
      have HC : Hid (vd ((s.extract 0 i).data.toList) = false) := Hcut.out i hi1 hlt
      have HR : Hid (vd ((s.extract i s.size).data.toList) = false) := Hrest.out i hi1 hlt
      have hx : i < s.size := by omega
      obtain ⟨y, hy⟩ : ∃ y : UInt8, s[i]'hx = y := ⟨_, rfl⟩
      have hy2 : Hid (y.toNat / 64 = 2) := by
        show _ = _
        rw [← hy]
        have := Htop.out i hi1 hlt
        rw [← getb, Utf8W.get!_of_lt s i hx] at this
        exact this
      have hy3 : ((y.toNat : Int) / 64 != 2) = false := by
        rw [show (y.toNat : Int) / 64 = 2 by have := hy2.out; omega]; rfl
      go_wp2_with (first
        | (go_at_call 11; have := q1; refine (valid11 _ (Tabs.keep hT K4) _ ?z2).mono ?_; rotate_left; rintro e w5 ⟨rfl, k5⟩; rw [hsz.symm, HR.out])
        | (go_at_call 11; refine (valid11 _ (Tabs.keep hT hk) _ ?z1).mono ?_; rotate_left; rintro e w4 ⟨rfl, k4⟩; rw [HC.out]; have K4 := hk.trans k4; have q1 : Hid True := trivial))
      case z1 => rw [ext_sz0 s i (by omega)]; omega
      case z2 => rw [← hsz, ext_sz]; omega
      exact ⟨⟨i + 1, by omega, by omega, rfl, K4.trans k5⟩, by simp [intOf]; omega⟩
    · obtain rfl : i = 2 := by omega
      have hx : 0 < s.size := by omega
      obtain ⟨y, hy⟩ : ∃ y : UInt8, s[0]'hx = y := ⟨_, rfl⟩
      have hy2 : ¬ ((y.toNat : Int) < 128) := by
        have := Hone.out
        rw [← getb, Utf8W.get!_of_lt s 0 hx, hy] at this
        omega
      go_wp2_with (first
        | (go_at_call 13; refine (hsg _ (Tabs.keep hT hk)).mono ?_; rintro e w5 ⟨⟨a5, c5, rfl, s5⟩, k5⟩; have K5 := hk.trans k5)
        | (refine wpList_bI1w rfl _ rfl v rfl ?_; intro gb w6 s6 z6 k6; have K6 := K5.trans k6; have s5' := s5.keep k6)
        | (go_at_call 12; refine (ints_one v _ _ _ _ 1 s5' s6).mono ?_; rintro e w7 ⟨rfl, k7⟩; have K7 := K6.trans k7)
        | (go_at_call 7; refine (wakes7 _ (Tabs.keep hT K7)).mono ?_; rintro e w8 ⟨rfl, k8⟩))
      go_ret
      exact ⟨rfl, K7.trans k8⟩


set_option maxRecDepth 100000 in
set_option maxHeartbeats 1000000 in
theorem forms_c (w : World) (hT : Lib.Utf8Tabs 0 1 w) (v : Int) (hv : 2048 ≤ v ∧ v < 55296) :
    Calls Tryd.prog 5 #[.int .i64 v] w fun e w' => e = .returned (.bool true) ∧ Keeps (fun _ => False) w w' := by
  have hS : isS v := ⟨by omega, by omega, by omega⟩
  have hF := frm3 (.inl hv)
  obtain ⟨s, hs⟩ : ∃ s, bs (Lib.encodeRune v) = s := ⟨_, rfl⟩
  have hD : s.data.toList = Lib.encodeRune v := by rw [← hs, bs_data]
  have hsz : s.size = 3 := by rw [← hs, bs_size, hF.len]
  have htx : ∀ (W : World) (a : Option Addr), SlI W a 1 1 [v] → Calls Tryd.prog 9 #[.slice a 1 1] W fun e w' => e = .returned (.tuple #[.string s, .int .i64 0]) ∧ Keeps (fun _ => False) W w' := fun W a h => by
    have := text9 W a 1 1 [v] h (by omega)
    rw [txt_one hS, hs] at this
    exact this
  have hvd : ∀ W, Lib.Utf8Tabs 0 1 W → Calls Tryd.prog 11 #[.string s] W fun e w' => e = .returned (.bool true) ∧ Keeps (fun _ => False) W w' := fun W h => by
    have := valid11 W h s (by omega)
    rw [hD, show vd (Lib.encodeRune v) = true by have := (sg_encs (L := [v]) (fun x hx => by obtain rfl : x = v := by simpa using hx
                                                                                             exact hS)).1; rwa [encs_cons, encs_nil, List.append_nil] at this] at this
    exact this
  have hsg : ∀ W, Lib.Utf8Tabs 0 1 W → Calls Tryd.prog 13 #[.string s] W fun e w' => (∃ a c, e = .returned (.slice a 1 c) ∧ SlI w' a 1 c [v]) ∧ Keeps (fun _ => False) W w' := fun W h => by
    refine (signs_at (s := s) (l := [v]) ?_ W h (by omega)).mono ?_
    · rw [hD]
      have := (sg_encs (L := [v]) (fun x hx => by obtain rfl : x = v := by simpa using hx
                                                  exact hS)).2
      rwa [encs_cons, encs_nil, List.append_nil] at this
    · rintro e w' ⟨⟨a, c, rfl, h1, h2⟩, k⟩
      exact ⟨⟨a, c, rfl, h1⟩, k⟩
  have hcut : ∀ i : Nat, 1 ≤ i → i < 3 → vd ((s.extract 0 i).data.toList) = false := fun i h1 h2 => by
    rw [ext_take s i (by omega), hD]; exact hF.cut i h1 h2
  have hrest : ∀ i : Nat, 1 ≤ i → i < 3 → vd ((s.extract i s.size).data.toList) = false := fun i h1 h2 => by
    rw [ext_drop, hD]; exact hF.rest i h1 h2
  have htop : ∀ i : Nat, 1 ≤ i → i < 3 → (s.data.toList.getD i 0).toNat / 64 = 2 := fun i h1 h2 => by
    rw [hD]; exact hF.top i h1 h2
  have hone : ¬ ((s.data.toList.getD 0 0).toNat < 128) := by rw [hD]; have := hF.one; omega
  have Hcut : Hid (∀ i : Nat, 1 ≤ i → i < 3 → vd ((s.extract 0 i).data.toList) = false) := hcut
  have Hrest : Hid (∀ i : Nat, 1 ≤ i → i < 3 → vd ((s.extract i s.size).data.toList) = false) := hrest
  have Htop : Hid (∀ i : Nat, 1 ≤ i → i < 3 → (s.data.toList.getD i 0).toNat / 64 = 2) := htop
  have Hone : Hid (¬ ((s.data.toList.getD 0 0).toNat < 128)) := hone
  clear hcut hrest htop hone hD hs hF hS
  obtain ⟨v0, v1⟩ := hv
  have f0 : (0 : Int) ≤ v := by omega
  have f1 : v ≤ (1114111 : Int) := by omega
  have g0 : ¬ (55296 : Int) ≤ v := by omega
  have g1 : (128 : Int) ≤ v := by omega
  have g2 : (2048 : Int) ≤ v := by omega
  have g3 : ¬ (65536 : Int) ≤ v := by omega
  go_enter Tryd.func5, Tryd.ntmps5
  go_wp2_with (first
    | (refine wpList_bI1 rfl _ rfl v rfl ?_; intro ga w1 s1 z1 k1)
    | (go_at_call 9; refine (htx _ _ s1).mono ?_; rintro e w2 ⟨rfl, k2⟩; have K2 := k1.trans k2)
    | (go_at_call 11; refine (hvd _ (Tabs.keep hT K2)).mono ?_; rintro e w3 ⟨rfl, k3⟩; have K3 := K2.trans k3))
  go_loopw [7] (fun t wr => ∃ i : Nat, 1 ≤ i ∧ i ≤ 3 ∧ t = .int .i64 (i : Int) ∧ Keeps (fun _ => False) w wr) (fun t _ => 3 - (intOf t).toNat)
  case atStart => exact ⟨1, by omega, by omega, rfl, K3⟩
  case round =>
    clear k1 k2 k3 K2 K3 s1
    obtain ⟨i, hi1, hi2, rfl, hk⟩ := hrel
    by_cases hlt : i < 3
    · have hlt' : (i : Int) < 3 := by omega
      have hi0 : (0 : Int) ≤ (i : Int) := by omega
      have hil : (i : Int) ≤ 3 := by omega
      have HC : Hid (vd ((s.extract 0 i).data.toList) = false) := Hcut.out i hi1 hlt
      have HR : Hid (vd ((s.extract i s.size).data.toList) = false) := Hrest.out i hi1 hlt
      have hx : i < s.size := by omega
      obtain ⟨y, hy⟩ : ∃ y : UInt8, s[i]'hx = y := ⟨_, rfl⟩
      have hy2 : Hid (y.toNat / 64 = 2) := by
        show _ = _
        rw [← hy]
        have := Htop.out i hi1 hlt
        rw [← getb, Utf8W.get!_of_lt s i hx] at this
        exact this
      have hy3 : ((y.toNat : Int) / 64 != 2) = false := by
        rw [show (y.toNat : Int) / 64 = 2 by have := hy2.out; omega]; rfl
      go_wp2_with (first
        | (go_at_call 11; have := q1; refine (valid11 _ (Tabs.keep hT K4) _ ?z2).mono ?_; rotate_left; rintro e w5 ⟨rfl, k5⟩; rw [hsz.symm, HR.out])
        | (go_at_call 11; refine (valid11 _ (Tabs.keep hT hk) _ ?z1).mono ?_; rotate_left; rintro e w4 ⟨rfl, k4⟩; rw [HC.out]; have K4 := hk.trans k4; have q1 : Hid True := trivial))
      case z1 => rw [ext_sz0 s i (by omega)]; omega
      case z2 => rw [← hsz, ext_sz]; omega
      exact ⟨⟨i + 1, by omega, by omega, rfl, K4.trans k5⟩, by simp [intOf]; omega⟩
    · obtain rfl : i = 3 := by omega
      have hx : 0 < s.size := by omega
      obtain ⟨y, hy⟩ : ∃ y : UInt8, s[0]'hx = y := ⟨_, rfl⟩
      have hy2 : ¬ ((y.toNat : Int) < 128) := by
        have := Hone.out
        rw [← getb, Utf8W.get!_of_lt s 0 hx, hy] at this
        omega
      go_wp2_with (first
        | (go_at_call 13; refine (hsg _ (Tabs.keep hT hk)).mono ?_; rintro e w5 ⟨⟨a5, c5, rfl, s5⟩, k5⟩; have K5 := hk.trans k5)
        | (refine wpList_bI1w rfl _ rfl v rfl ?_; intro gb w6 s6 z6 k6; have K6 := K5.trans k6; have s5' := s5.keep k6)
        | (go_at_call 12; refine (ints_one v _ _ _ _ 1 s5' s6).mono ?_; rintro e w7 ⟨rfl, k7⟩; have K7 := K6.trans k7)
        | (go_at_call 7; refine (wakes7 _ (Tabs.keep hT K7)).mono ?_; rintro e w8 ⟨rfl, k8⟩))
      go_ret
      exact ⟨rfl, K7.trans k8⟩


set_option maxRecDepth 100000 in
set_option maxHeartbeats 1000000 in
theorem forms_d (w : World) (hT : Lib.Utf8Tabs 0 1 w) (v : Int) (hv : 57343 < v ∧ v ≤ 65535) :
    Calls Tryd.prog 5 #[.int .i64 v] w fun e w' => e = .returned (.bool true) ∧ Keeps (fun _ => False) w w' := by
  have hS : isS v := ⟨by omega, by omega, by omega⟩
  have hF := frm3 (.inr hv)
  obtain ⟨s, hs⟩ : ∃ s, bs (Lib.encodeRune v) = s := ⟨_, rfl⟩
  have hD : s.data.toList = Lib.encodeRune v := by rw [← hs, bs_data]
  have hsz : s.size = 3 := by rw [← hs, bs_size, hF.len]
  have htx : ∀ (W : World) (a : Option Addr), SlI W a 1 1 [v] → Calls Tryd.prog 9 #[.slice a 1 1] W fun e w' => e = .returned (.tuple #[.string s, .int .i64 0]) ∧ Keeps (fun _ => False) W w' := fun W a h => by
    have := text9 W a 1 1 [v] h (by omega)
    rw [txt_one hS, hs] at this
    exact this
  have hvd : ∀ W, Lib.Utf8Tabs 0 1 W → Calls Tryd.prog 11 #[.string s] W fun e w' => e = .returned (.bool true) ∧ Keeps (fun _ => False) W w' := fun W h => by
    have := valid11 W h s (by omega)
    rw [hD, show vd (Lib.encodeRune v) = true by have := (sg_encs (L := [v]) (fun x hx => by obtain rfl : x = v := by simpa using hx
                                                                                             exact hS)).1; rwa [encs_cons, encs_nil, List.append_nil] at this] at this
    exact this
  have hsg : ∀ W, Lib.Utf8Tabs 0 1 W → Calls Tryd.prog 13 #[.string s] W fun e w' => (∃ a c, e = .returned (.slice a 1 c) ∧ SlI w' a 1 c [v]) ∧ Keeps (fun _ => False) W w' := fun W h => by
    refine (signs_at (s := s) (l := [v]) ?_ W h (by omega)).mono ?_
    · rw [hD]
      have := (sg_encs (L := [v]) (fun x hx => by obtain rfl : x = v := by simpa using hx
                                                  exact hS)).2
      rwa [encs_cons, encs_nil, List.append_nil] at this
    · rintro e w' ⟨⟨a, c, rfl, h1, h2⟩, k⟩
      exact ⟨⟨a, c, rfl, h1⟩, k⟩
  have hcut : ∀ i : Nat, 1 ≤ i → i < 3 → vd ((s.extract 0 i).data.toList) = false := fun i h1 h2 => by
    rw [ext_take s i (by omega), hD]; exact hF.cut i h1 h2
  have hrest : ∀ i : Nat, 1 ≤ i → i < 3 → vd ((s.extract i s.size).data.toList) = false := fun i h1 h2 => by
    rw [ext_drop, hD]; exact hF.rest i h1 h2
  have htop : ∀ i : Nat, 1 ≤ i → i < 3 → (s.data.toList.getD i 0).toNat / 64 = 2 := fun i h1 h2 => by
    rw [hD]; exact hF.top i h1 h2
  have hone : ¬ ((s.data.toList.getD 0 0).toNat < 128) := by rw [hD]; have := hF.one; omega
  have Hcut : Hid (∀ i : Nat, 1 ≤ i → i < 3 → vd ((s.extract 0 i).data.toList) = false) := hcut
  have Hrest : Hid (∀ i : Nat, 1 ≤ i → i < 3 → vd ((s.extract i s.size).data.toList) = false) := hrest
  have Htop : Hid (∀ i : Nat, 1 ≤ i → i < 3 → (s.data.toList.getD i 0).toNat / 64 = 2) := htop
  have Hone : Hid (¬ ((s.data.toList.getD 0 0).toNat < 128)) := hone
  clear hcut hrest htop hone hD hs hF hS
  obtain ⟨v0, v1⟩ := hv
  have f0 : (0 : Int) ≤ v := by omega
  have f1 : v ≤ (1114111 : Int) := by omega
  have g0 : (55296 : Int) ≤ v := by omega
  have g1 : ¬ v ≤ (57343 : Int) := by omega
  have g2 : (128 : Int) ≤ v := by omega
  have g3 : (2048 : Int) ≤ v := by omega
  have g4 : ¬ (65536 : Int) ≤ v := by omega
  go_enter Tryd.func5, Tryd.ntmps5
  go_wp2_with (first
    | (refine wpList_bI1 rfl _ rfl v rfl ?_; intro ga w1 s1 z1 k1)
    | (go_at_call 9; refine (htx _ _ s1).mono ?_; rintro e w2 ⟨rfl, k2⟩; have K2 := k1.trans k2)
    | (go_at_call 11; refine (hvd _ (Tabs.keep hT K2)).mono ?_; rintro e w3 ⟨rfl, k3⟩; have K3 := K2.trans k3))
  go_loopw [7] (fun t wr => ∃ i : Nat, 1 ≤ i ∧ i ≤ 3 ∧ t = .int .i64 (i : Int) ∧ Keeps (fun _ => False) w wr) (fun t _ => 3 - (intOf t).toNat)
  case atStart => exact ⟨1, by omega, by omega, rfl, K3⟩
  case round =>
    clear k1 k2 k3 K2 K3 s1
    obtain ⟨i, hi1, hi2, rfl, hk⟩ := hrel
    by_cases hlt : i < 3
    · have hlt' : (i : Int) < 3 := by omega
      have hi0 : (0 : Int) ≤ (i : Int) := by omega
      have hil : (i : Int) ≤ 3 := by omega
      have HC : Hid (vd ((s.extract 0 i).data.toList) = false) := Hcut.out i hi1 hlt
      have HR : Hid (vd ((s.extract i s.size).data.toList) = false) := Hrest.out i hi1 hlt
      have hx : i < s.size := by omega
      obtain ⟨y, hy⟩ : ∃ y : UInt8, s[i]'hx = y := ⟨_, rfl⟩
      have hy2 : Hid (y.toNat / 64 = 2) := by
        show _ = _
        rw [← hy]
        have := Htop.out i hi1 hlt
        rw [← getb, Utf8W.get!_of_lt s i hx] at this
        exact this
      have hy3 : ((y.toNat : Int) / 64 != 2) = false := by
        rw [show (y.toNat : Int) / 64 = 2 by have := hy2.out; omega]; rfl
      go_wp2_with (first
        | (go_at_call 11; have := q1; refine (valid11 _ (Tabs.keep hT K4) _ ?z2).mono ?_; rotate_left; rintro e w5 ⟨rfl, k5⟩; rw [hsz.symm, HR.out])
        | (go_at_call 11; refine (valid11 _ (Tabs.keep hT hk) _ ?z1).mono ?_; rotate_left; rintro e w4 ⟨rfl, k4⟩; rw [HC.out]; have K4 := hk.trans k4; have q1 : Hid True := trivial))
      case z1 => rw [ext_sz0 s i (by omega)]; omega
      case z2 => rw [← hsz, ext_sz]; omega
      exact ⟨⟨i + 1, by omega, by omega, rfl, K4.trans k5⟩, by simp [intOf]; omega⟩
    · obtain rfl : i = 3 := by omega
      have hx : 0 < s.size := by omega
      obtain ⟨y, hy⟩ : ∃ y : UInt8, s[0]'hx = y := ⟨_, rfl⟩
      have hy2 : ¬ ((y.toNat : Int) < 128) := by
        have := Hone.out
        rw [← getb, Utf8W.get!_of_lt s 0 hx, hy] at this
        omega
      go_wp2_with (first
        | (go_at_call 13; refine (hsg _ (Tabs.keep hT hk)).mono ?_; rintro e w5 ⟨⟨a5, c5, rfl, s5⟩, k5⟩; have K5 := hk.trans k5)
        | (refine wpList_bI1w rfl _ rfl v rfl ?_; intro gb w6 s6 z6 k6; have K6 := K5.trans k6; have s5' := s5.keep k6)
        | (go_at_call 12; refine (ints_one v _ _ _ _ 1 s5' s6).mono ?_; rintro e w7 ⟨rfl, k7⟩; have K7 := K6.trans k7)
        | (go_at_call 7; refine (wakes7 _ (Tabs.keep hT K7)).mono ?_; rintro e w8 ⟨rfl, k8⟩))
      go_ret
      exact ⟨rfl, K7.trans k8⟩


set_option maxRecDepth 100000 in
set_option maxHeartbeats 1000000 in
theorem forms_e (w : World) (hT : Lib.Utf8Tabs 0 1 w) (v : Int) (hv : 65536 ≤ v ∧ v ≤ 1114111) :
    Calls Tryd.prog 5 #[.int .i64 v] w fun e w' => e = .returned (.bool true) ∧ Keeps (fun _ => False) w w' := by
  have hS : isS v := ⟨by omega, by omega, by omega⟩
  have hF := frm4 hv.1 hv.2
  obtain ⟨s, hs⟩ : ∃ s, bs (Lib.encodeRune v) = s := ⟨_, rfl⟩
  have hD : s.data.toList = Lib.encodeRune v := by rw [← hs, bs_data]
  have hsz : s.size = 4 := by rw [← hs, bs_size, hF.len]
  have htx : ∀ (W : World) (a : Option Addr), SlI W a 1 1 [v] → Calls Tryd.prog 9 #[.slice a 1 1] W fun e w' => e = .returned (.tuple #[.string s, .int .i64 0]) ∧ Keeps (fun _ => False) W w' := fun W a h => by
    have := text9 W a 1 1 [v] h (by omega)
    rw [txt_one hS, hs] at this
    exact this
  have hvd : ∀ W, Lib.Utf8Tabs 0 1 W → Calls Tryd.prog 11 #[.string s] W fun e w' => e = .returned (.bool true) ∧ Keeps (fun _ => False) W w' := fun W h => by
    have := valid11 W h s (by omega)
    rw [hD, show vd (Lib.encodeRune v) = true by have := (sg_encs (L := [v]) (fun x hx => by obtain rfl : x = v := by simpa using hx
                                                                                             exact hS)).1; rwa [encs_cons, encs_nil, List.append_nil] at this] at this
    exact this
  have hsg : ∀ W, Lib.Utf8Tabs 0 1 W → Calls Tryd.prog 13 #[.string s] W fun e w' => (∃ a c, e = .returned (.slice a 1 c) ∧ SlI w' a 1 c [v]) ∧ Keeps (fun _ => False) W w' := fun W h => by
    refine (signs_at (s := s) (l := [v]) ?_ W h (by omega)).mono ?_
    · rw [hD]
      have := (sg_encs (L := [v]) (fun x hx => by obtain rfl : x = v := by simpa using hx
                                                  exact hS)).2
      rwa [encs_cons, encs_nil, List.append_nil] at this
    · rintro e w' ⟨⟨a, c, rfl, h1, h2⟩, k⟩
      exact ⟨⟨a, c, rfl, h1⟩, k⟩
  have hcut : ∀ i : Nat, 1 ≤ i → i < 4 → vd ((s.extract 0 i).data.toList) = false := fun i h1 h2 => by
    rw [ext_take s i (by omega), hD]; exact hF.cut i h1 h2
  have hrest : ∀ i : Nat, 1 ≤ i → i < 4 → vd ((s.extract i s.size).data.toList) = false := fun i h1 h2 => by
    rw [ext_drop, hD]; exact hF.rest i h1 h2
  have htop : ∀ i : Nat, 1 ≤ i → i < 4 → (s.data.toList.getD i 0).toNat / 64 = 2 := fun i h1 h2 => by
    rw [hD]; exact hF.top i h1 h2
  have hone : ¬ ((s.data.toList.getD 0 0).toNat < 128) := by rw [hD]; have := hF.one; omega
  have Hcut : Hid (∀ i : Nat, 1 ≤ i → i < 4 → vd ((s.extract 0 i).data.toList) = false) := hcut
  have Hrest : Hid (∀ i : Nat, 1 ≤ i → i < 4 → vd ((s.extract i s.size).data.toList) = false) := hrest
  have Htop : Hid (∀ i : Nat, 1 ≤ i → i < 4 → (s.data.toList.getD i 0).toNat / 64 = 2) := htop
  have Hone : Hid (¬ ((s.data.toList.getD 0 0).toNat < 128)) := hone
  clear hcut hrest htop hone hD hs hF hS
  obtain ⟨v0, v1⟩ := hv
  have f0 : (0 : Int) ≤ v := by omega
  have f1 : v ≤ (1114111 : Int) := by omega
  have g0 : (55296 : Int) ≤ v := by omega
  have g1 : ¬ v ≤ (57343 : Int) := by omega
  have g2 : (128 : Int) ≤ v := by omega
  have g3 : (2048 : Int) ≤ v := by omega
  have g4 : (65536 : Int) ≤ v := by omega
  go_enter Tryd.func5, Tryd.ntmps5
  go_wp2_with (first
    | (refine wpList_bI1 rfl _ rfl v rfl ?_; intro ga w1 s1 z1 k1)
    | (go_at_call 9; refine (htx _ _ s1).mono ?_; rintro e w2 ⟨rfl, k2⟩; have K2 := k1.trans k2)
    | (go_at_call 11; refine (hvd _ (Tabs.keep hT K2)).mono ?_; rintro e w3 ⟨rfl, k3⟩; have K3 := K2.trans k3))
  go_loopw [7] (fun t wr => ∃ i : Nat, 1 ≤ i ∧ i ≤ 4 ∧ t = .int .i64 (i : Int) ∧ Keeps (fun _ => False) w wr) (fun t _ => 4 - (intOf t).toNat)
  case atStart => exact ⟨1, by omega, by omega, rfl, K3⟩
  case round =>
    clear k1 k2 k3 K2 K3 s1
    obtain ⟨i, hi1, hi2, rfl, hk⟩ := hrel
    by_cases hlt : i < 4
    · have hlt' : (i : Int) < 4 := by omega
      have hi0 : (0 : Int) ≤ (i : Int) := by omega
      have hil : (i : Int) ≤ 4 := by omega
      have HC : Hid (vd ((s.extract 0 i).data.toList) = false) := Hcut.out i hi1 hlt
      have HR : Hid (vd ((s.extract i s.size).data.toList) = false) := Hrest.out i hi1 hlt
      have hx : i < s.size := by omega
      obtain ⟨y, hy⟩ : ∃ y : UInt8, s[i]'hx = y := ⟨_, rfl⟩
      have hy2 : Hid (y.toNat / 64 = 2) := by
        show _ = _
        rw [← hy]
        have := Htop.out i hi1 hlt
        rw [← getb, Utf8W.get!_of_lt s i hx] at this
        exact this
      have hy3 : ((y.toNat : Int) / 64 != 2) = false := by
        rw [show (y.toNat : Int) / 64 = 2 by have := hy2.out; omega]; rfl
      go_wp2_with (first
        | (go_at_call 11; have := q1; refine (valid11 _ (Tabs.keep hT K4) _ ?z2).mono ?_; rotate_left; rintro e w5 ⟨rfl, k5⟩; rw [hsz.symm, HR.out])
        | (go_at_call 11; refine (valid11 _ (Tabs.keep hT hk) _ ?z1).mono ?_; rotate_left; rintro e w4 ⟨rfl, k4⟩; rw [HC.out]; have K4 := hk.trans k4; have q1 : Hid True := trivial))
      case z1 => rw [ext_sz0 s i (by omega)]; omega
      case z2 => rw [← hsz, ext_sz]; omega
      exact ⟨⟨i + 1, by omega, by omega, rfl, K4.trans k5⟩, by simp [intOf]; omega⟩
    · obtain rfl : i = 4 := by omega
      have hx : 0 < s.size := by omega
      obtain ⟨y, hy⟩ : ∃ y : UInt8, s[0]'hx = y := ⟨_, rfl⟩
      have hy2 : ¬ ((y.toNat : Int) < 128) := by
        have := Hone.out
        rw [← getb, Utf8W.get!_of_lt s 0 hx, hy] at this
        omega
      go_wp2_with (first
        | (go_at_call 13; refine (hsg _ (Tabs.keep hT hk)).mono ?_; rintro e w5 ⟨⟨a5, c5, rfl, s5⟩, k5⟩; have K5 := hk.trans k5)
        | (refine wpList_bI1w rfl _ rfl v rfl ?_; intro gb w6 s6 z6 k6; have K6 := K5.trans k6; have s5' := s5.keep k6)
        | (go_at_call 12; refine (ints_one v _ _ _ _ 1 s5' s6).mono ?_; rintro e w7 ⟨rfl, k7⟩; have K7 := K6.trans k7)
        | (go_at_call 7; refine (wakes7 _ (Tabs.keep hT K7)).mono ?_; rintro e w8 ⟨rfl, k8⟩))
      go_ret
      exact ⟨rfl, K7.trans k8⟩


set_option maxRecDepth 100000 in
set_option maxHeartbeats 1000000 in
theorem forms_x (w : World) (hT : Lib.Utf8Tabs 0 1 w) (v : Int) (hv : v < 0) :
    Calls Tryd.prog 5 #[.int .i64 v] w fun e w' => e = .returned (.bool true) ∧ Keeps (fun _ => False) w w' := by
  have hS : ¬ isS v := fun h => by have := h.1; have := h.2.1; have := h.2.2; omega
  have htx : ∀ (W : World) (a : Option Addr), SlI W a 1 1 [v] → Calls Tryd.prog 9 #[.slice a 1 1] W fun e w' => e = .returned (.tuple #[.string ⟨#[]⟩, .int .i64 11]) ∧ Keeps (fun _ => False) W w' := fun W a h => by
    have := text9 W a 1 1 [v] h (by omega)
    rw [txt_none hS] at this
    exact this
  clear hS
  have g0 : v < (0 : Int) := by omega
  have g1 : ¬ (55296 : Int) ≤ v := by omega
  clear hv
  go_enter Tryd.func5, Tryd.ntmps5
  go_wp2_with (first
    | (refine wpList_bI1 rfl _ rfl v rfl ?_; intro ga w1 s1 z1 k1)
    | (go_at_call 9; refine (htx _ _ s1).mono ?_; rintro e w2 ⟨rfl, k2⟩; have K2 := k1.trans k2)
    | (go_at_call 7; refine (wakes7 _ (Tabs.keep hT K2)).mono ?_; rintro e w3 ⟨rfl, k3⟩; have K3 := K2.trans k3))
  go_ret
  exact ⟨rfl, K3⟩


set_option maxRecDepth 100000 in
set_option maxHeartbeats 1000000 in
theorem forms_y (w : World) (hT : Lib.Utf8Tabs 0 1 w) (v : Int) (hv : 1114111 < v) :
    Calls Tryd.prog 5 #[.int .i64 v] w fun e w' => e = .returned (.bool true) ∧ Keeps (fun _ => False) w w' := by
  have hS : ¬ isS v := fun h => by have := h.1; have := h.2.1; have := h.2.2; omega
  have htx : ∀ (W : World) (a : Option Addr), SlI W a 1 1 [v] → Calls Tryd.prog 9 #[.slice a 1 1] W fun e w' => e = .returned (.tuple #[.string ⟨#[]⟩, .int .i64 11]) ∧ Keeps (fun _ => False) W w' := fun W a h => by
    have := text9 W a 1 1 [v] h (by omega)
    rw [txt_none hS] at this
    exact this
  clear hS
  have g0 : ¬ v < (0 : Int) := by omega
  have g1 : (1114111 : Int) < v := by omega
  have g2 : (55296 : Int) ≤ v := by omega
  have g3 : ¬ v ≤ (57343 : Int) := by omega
  clear hv
  go_enter Tryd.func5, Tryd.ntmps5
  go_wp2_with (first
    | (refine wpList_bI1 rfl _ rfl v rfl ?_; intro ga w1 s1 z1 k1)
    | (go_at_call 9; refine (htx _ _ s1).mono ?_; rintro e w2 ⟨rfl, k2⟩; have K2 := k1.trans k2)
    | (go_at_call 7; refine (wakes7 _ (Tabs.keep hT K2)).mono ?_; rintro e w3 ⟨rfl, k3⟩; have K3 := K2.trans k3))
  go_ret
  exact ⟨rfl, K3⟩


set_option maxRecDepth 100000 in
set_option maxHeartbeats 1000000 in
theorem forms_z (w : World) (hT : Lib.Utf8Tabs 0 1 w) (v : Int) (hv : 55296 ≤ v ∧ v ≤ 57343) :
    Calls Tryd.prog 5 #[.int .i64 v] w fun e w' => e = .returned (.bool true) ∧ Keeps (fun _ => False) w w' := by
  have hS : ¬ isS v := fun h => by have := h.1; have := h.2.1; have := h.2.2; omega
  have htx : ∀ (W : World) (a : Option Addr), SlI W a 1 1 [v] → Calls Tryd.prog 9 #[.slice a 1 1] W fun e w' => e = .returned (.tuple #[.string ⟨#[]⟩, .int .i64 11]) ∧ Keeps (fun _ => False) W w' := fun W a h => by
    have := text9 W a 1 1 [v] h (by omega)
    rw [txt_none hS] at this
    exact this
  clear hS
  have g0 : ¬ v < (0 : Int) := by omega
  have g1 : ¬ (1114111 : Int) < v := by omega
  have g2 : (55296 : Int) ≤ v := by omega
  have g3 : v ≤ (57343 : Int) := by omega
  clear hv
  go_enter Tryd.func5, Tryd.ntmps5
  go_wp2_with (first
    | (refine wpList_bI1 rfl _ rfl v rfl ?_; intro ga w1 s1 z1 k1)
    | (go_at_call 9; refine (htx _ _ s1).mono ?_; rintro e w2 ⟨rfl, k2⟩; have K2 := k1.trans k2)
    | (go_at_call 7; refine (wakes7 _ (Tabs.keep hT K2)).mono ?_; rintro e w3 ⟨rfl, k3⟩; have K3 := K2.trans k3))
  go_ret
  exact ⟨rfl, K3⟩


theorem formsL (w : World) (hT : Lib.Utf8Tabs 0 1 w) (v : Int) :
    Calls Tryd.prog 5 #[.int .i64 v] w fun e w' => e = .returned (.bool true) ∧ Keeps (fun _ => False) w w' := by
  have cs : v < 0 ∨ 1114111 < v ∨ (55296 ≤ v ∧ v ≤ 57343) ∨ (0 ≤ v ∧ v < 128) ∨ (128 ≤ v ∧ v < 2048) ∨ (2048 ≤ v ∧ v < 55296) ∨ (57343 < v ∧ v ≤ 65535) ∨ (65536 ≤ v ∧ v ≤ 1114111) := by omega
  rcases cs with h | h | h | h | h | h | h | h
  · exact forms_x w hT v h
  · exact forms_y w hT v h
  · exact forms_z w hT v h
  · exact forms_a w hT v h
  · exact forms_b w hT v h
  · exact forms_c w hT v h
  · exact forms_d w hT v h
  · exact forms_e w hT v h

end Go.Proofs.YtppliejbpgkaiaaDoor
