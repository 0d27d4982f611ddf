/-
  SuperUsed: the walk.
-/
import Derived.Test.YtdgnjpdjohibeaaDoorKx
import Derived.Test.YtdgnjpdjohibeaaDoorKd
set_option linter.all false
set_option maxRecDepth 100000
namespace Go.Proofs.YtdgnjpdjohibeaaDoor
open Go.RowKit Go.Sort Go.Shelf

def togb (L : List B) (b : Nat) : List B := L.set (b / 8) (L.getD (b / 8) 0 ^^^ (1#8 <<< (b % 8)))
theorem togb_len (L : List B) (b : Nat) : (togb L b).length = L.length := by simp [togb]
theorem shl_bit {m n : Nat} (hm : m < 8) (hn : n < 8) : (1#8 <<< m).getLsbD n = decide (n = m) := by
  have : ∀ a b : Fin 8, (1#8 <<< a.val).getLsbD b.val = decide (b.val = a.val) := by decide
  exact this ⟨m, hm⟩ ⟨n, hn⟩
theorem bit_togb {L : List B} (hL : L.length = 16) {b : Nat} (hb : b < 128) (c : Nat) : bit (togb L b) c = (bit L c ^^ decide (c = b)) := by
  unfold bit togb
  by_cases h : c / 8 = b / 8
  · rw [h]
    have hlt : b / 8 < L.length := by omega
    simp only [List.getD_eq_getElem?_getD, List.getElem?_set_self' , List.getElem?_eq_getElem hlt]
    simp only [Option.map_eq_map, Option.map_some, Option.getD_some]
    rw [show BitVec.getLsbD (Function.const B (L[b / 8] ^^^ 1#8 <<< (b % 8)) L[b / 8]) (c % 8) = (L[b / 8] ^^^ 1#8 <<< (b % 8)).getLsbD (c % 8) from rfl, BitVec.getLsbD_xor, shl_bit (by omega) (by omega)]
    congr 1
    apply decide_eq_decide.2
    omega
  · have e : c ≠ b := by rintro rfl; exact h rfl
    simp only [List.getD_eq_getElem?_getD, List.getElem?_set_ne (Ne.symm h), e, decide_false, Bool.xor_false]
theorem cnt_tog_lo {L : List B} (hL : L.length = 16) {b : Nat} (hb : b < 128) : ∀ n, n ≤ b → cnt (togb L b) n = cnt L n
  | 0, _ => rfl
  | n + 1, h => by
    rw [cnt, cnt, cnt_tog_lo hL hb n (by omega), bit_togb hL hb, decide_eq_false (by omega), Bool.xor_false]
theorem cnt_tog_hi {L : List B} (hL : L.length = 16) {b : Nat} (hb : b < 128) : ∀ n, b < n → cnt (togb L b) n + (bit L b).toNat = cnt L n + (!bit L b).toNat
  | 0, h => by omega
  | n + 1, h => by
    rw [cnt, cnt, bit_togb hL hb]
    by_cases e : n = b
    · subst e
      rw [cnt_tog_lo hL hb n (Nat.le_refl _), decide_eq_true rfl, Bool.xor_true]
      omega
    · have := cnt_tog_hi hL hb n (by omega)
      rw [decide_eq_false e, Bool.xor_false]
      omega
theorem cnt_two' {L : List B} (h : cnt L 2 = 2) : bit L 0 = true ∧ bit L 1 = true := by
  have h' : (0 + (bit L 0).toNat) + (bit L 1).toNat = 2 := h
  cases h0 : bit L 0 <;> cases h1 : bit L 1 <;> rw [h0, h1] at h' <;> simp at h' ⊢
theorem good_tog {s : Su} (hs : s.Ok) (hg : s.good = true) {k : Nat} (hk : k < 128) : ({ s with used := togb s.used k } : Su).good = decide (2 ≤ k ∧ (k : Int) < s.blocks) := by
  have hL := hs.used
  obtain ⟨h1, h2, h3, h4, h5⟩ := good_bounds hg
  unfold Su.good gu at hg ⊢
  simp only [Bool.and_eq_true, decide_eq_true_eq] at hg
  obtain ⟨_, hc2, hcb⟩ := hg
  dsimp only
  rw [decide_eq_true (show 1 ≤ s.gen ∧ s.gen ≤ 1073741823 ∧ 16 ≤ s.blocks ∧ s.blocks ≤ 128 ∧ (s.root = 0 ∨ 2 ≤ s.root ∧ s.root < s.blocks) from ⟨h1, h2, h3, h4, h5⟩), Bool.true_and]
  have hm : min s.blocks.toNat 128 = s.blocks.toNat := by omega
  rw [hm] at hcb ⊢
  obtain ⟨b0, b1⟩ := cnt_two' hc2
  by_cases hk2 : k < 2
  · have h := cnt_tog_hi hL hk 2 hk2
    have hb : bit s.used k = true := by
      have : k = 0 ∨ k = 1 := by omega
      rcases this with rfl | rfl
      · exact b0
      · exact b1
    rw [hb] at h
    simp only [Bool.not_true, Bool.toNat_true, Bool.toNat_false] at h
    rw [decide_eq_false (show ¬ cnt (togb s.used k) 2 = 2 by omega), Bool.false_and, decide_eq_false (by omega)]
  · have e2 := cnt_tog_lo hL hk 2 (by omega)
    rw [e2, decide_eq_true hc2, Bool.true_and]
    have e8 := cnt_tog_hi hL hk 128 hk
    by_cases hkb : k < s.blocks.toNat
    · have eb := cnt_tog_hi hL hk s.blocks.toNat hkb
      rw [decide_eq_true (show 2 ≤ k ∧ (k : Int) < s.blocks from ⟨by omega, by omega⟩), decide_eq_true (by omega)]
    · have eb := cnt_tog_lo hL hk s.blocks.toNat (by omega)
      rw [decide_eq_false (show ¬ (2 ≤ k ∧ (k : Int) < s.blocks) by omega), decide_eq_false]
      rw [eb, ← hcb]
      cases hbk : bit s.used k <;> rw [hbk] at e8 <;> simp only [Bool.not_true, Bool.not_false, Bool.toNat_true, Bool.toNat_false] at e8 <;> omega
theorem bits_xor8 (x y : B) : bits .xor .u8 (nb x) (nb y) = nb (x ^^^ y) := by
  show IntKind.u8.wrap ((BitVec.ofInt 8 (nb x) ^^^ BitVec.ofInt 8 (nb y)).toNat : Int) = _
  have e : ∀ b : B, BitVec.ofInt 8 (nb b) = b := fun b => kb_nb b
  rw [e, e]
  have := nb_lt (x ^^^ y)
  unfold nb at *
  have hw : ∀ z : Int, 0 ≤ z → z < 256 → IntKind.u8.wrap z = z := fun z h0 h1 => by
    simp [IntKind.wrap, IntKind.signed, IntKind.bits]; omega
  exact hw _ this.1 this.2
theorem good_root {s : Su} (hs : s.Ok) (hg : s.good = true) (r : Int) : ({ s with root := r } : Su).good = decide (r = 0 ∨ 2 ≤ r ∧ r < s.blocks) := by
  obtain ⟨h1, h2, h3, h4, h5⟩ := good_bounds hg
  unfold Su.good at hg ⊢
  simp only [Bool.and_eq_true, decide_eq_true_eq] at hg
  dsimp only
  rw [hg.2, Bool.and_true]
  apply decide_eq_decide.2
  exact ⟨fun h => h.2.2.2.2, fun h => ⟨h1, h2, h3, h4, h⟩⟩

theorem wakes_cls {w0 w1 : World} (hT : Tabs w0) (hw : ∃ p : Regrown, w1 = grow (redrawn w0 p.d) p.os) :
    Calls Tryd.prog 16 #[] w1 fun e w'' => e = .returned (.bool true) ∧ ∃ p : Regrown, w'' = grow (redrawn w0 p.d) p.os :=
  call_cls (wakes16 w1 (hT.keeps (keeps_cls hw) (fun h => h) (fun h => h))) hw
set_option maxHeartbeats 4000000 in
theorem usedL_no (w : World) (hT : Tabs w) (s : Su) (hs : s.Ok) (x r : Int) (hg : s.good = false) :
    Calls Tryd.prog 9 #[.agg s.cells, .int .u8 x, .int .i64 r] w fun e w' => e = .returned (.bool true) ∧ Keeps (fun _ => False) w w' := by
  have Hg : Hid (s.good = false) := hg
  clear hg
  have T0 : Hid True := trivial
  go_enter Tryd.func9, Tryd.ntmps9
  go_wp2_with (first
    | (have := T0; refine boxS_at (.tmp 0) rfl rfl s rfl ?_; intro g3 w1 b1 z1 k1; clear T0; have T1 : Hid True := trivial)
    | (have := T1; refine wpList_loadS rfl (.tmp 3) rfl g3 rfl s hs b1 ?_; clear T1; have T2 : Hid True := trivial)
    | (have := T2; go_at_call 15; refine (good15 _ s hs Hg.out).mono ?_; rintro e w2 ⟨rfl, k2⟩; have b2 := RoAt.keep b1 k2; have K2 := k1.trans k2; clear T2; have T3 : Hid True := trivial)
    | (have := T3; refine wpList_loadS rfl (.tmp 3) rfl g3 rfl s hs b2 ?_; clear T3; have T4 : Hid True := trivial)
    | (have := T4; go_at_call 14; refine (good14 _ s hs Hg.out).mono ?_; rintro e w3 ⟨rfl, k3⟩; have K3 := K2.trans k3; clear T4; have T5 : Hid True := trivial)
    | (have := T5; go_at_call 16; refine (wakes16 _ (hT.keeps K3 (fun h => h) (fun h => h))).mono ?_; rintro e w4 ⟨rfl, k4⟩; have K4 := K3.trans k4; clear T5))
  go_ret
  exact ⟨rfl, K4⟩

set_option maxHeartbeats 4000000 in
theorem usedL_yes (w : World) (hT : Tabs w) (s t u : Su) (hs : s.Ok) (x r : Int) (hx : 0 ≤ x ∧ x < 256) (hr : -9223372036854775808 ≤ r ∧ r ≤ 9223372036854775807) (Hg : Hid (s.good = true)) (k q m : Nat) (hk : x % 128 = (k : Int)) (hq : (k : Int) / 8 = (q : Int)) (hm : (k : Int) % 8 = (m : Int)) (hq16 : (q : Int) < 16) (hm8 : (m : Int) < 8) (y : B) (Hy : Hid (bits BinOp.xor IntKind.u8 (nb (s.used.getD q 0)) (2 ^ m % 256) = nb y)) (ht : t.Ok) (Ht : Hid (over s.cells (35 + q) #[.int .u8 (nb y)] = t.cells)) (Htg : Hid (t.good = decide (2 ≤ k ∧ (k : Int) < s.blocks))) (hu : u.Ok) (Hu : Hid (over s.cells 2 #[.int .i64 r] = u.cells)) (Hug : Hid (u.good = decide (r = 0 ∨ 2 ≤ r ∧ r < s.blocks))) :
    Calls Tryd.prog 9 #[.agg s.cells, .int .u8 x, .int .i64 r] w fun e w' => e = .returned (.bool true) ∧ Keeps (fun _ => False) w w' := by
  have hbk := hs.blocks
  have hq0 : (0 : Int) ≤ (q : Int) := by omega
  have hm0 : (0 : Int) ≤ (m : Int) := by omega
  have hk0 : (0 : Int) ≤ (k : Int) := by omega
  have T0 : Hid True := trivial
  go_enter Tryd.func9, Tryd.ntmps9
  go_wp2_with (first
    | (have tt := T0; refine boxS_at (.tmp 0) rfl rfl s rfl ?_; intro g3 w1 b1 z1 k1; clear T0 tt; have T1 : Hid True := trivial)
    | (have tt := T1; refine wpList_loadS rfl (.tmp 3) rfl g3 rfl s hs b1 ?_; clear T1 tt; have T2 : Hid True := trivial)
    | (have tt := T2; go_at_call 15; refine (good15 _ s hs Hg.out).mono ?_; rintro e w2 ⟨rfl, k2⟩; have b2 := RoAt.keep b1 k2; have K2 := k1.trans k2; clear T2 tt; have T3 : Hid True := trivial)
    | (have tt := T3; refine wpList_loadS rfl (.tmp 3) rfl g3 rfl s hs b2 ?_; clear T3 tt; have T4 : Hid True := trivial)
    | (have tt := T4; refine wpList_allocS rfl rfl ?_; intro g8 w3 c3 z3 k3; have b3 := RoAt.keep b2 k3; have K3 := K2.trans k3; have z3' : w.heap.size ≤ g8 := (by have := K2.size; omega); have n38 : g3 ≠ g8 := (by have := RoAt.lt b2; omega); clear T4 tt; have T5 : Hid True := trivial)
    | (have tt := T5; refine wpList_storeS rfl _ _ rfl g8 rfl s hs rfl su0 su0_ok c3 ?_; intro w4 c4 k4; have b4 := RoAt.keeps b3 k4 n38; have K4 : Keeps (fun _ => False) w w4 := K3.trans' k4 (fun i e => .inr (by omega)); have cu : w4.cell? ⟨g8, 35 + q, none⟩ = some (.int .u8 (nb (s.used.getD q 0))) := SuAt.ucell c4 hs q (by omega); clear T5 tt; refine Stop.out ?_))
  refine ⟨?_⟩
  have hql : q < 16 := by omega
  generalize s.used.getD q 0 = b0 at *
  have T5 : Hid True := trivial
  go_wp2_with (first
    | (have tt := T5; refine wpList_storeF rfl 5 _ _ rfl g8 (35 + q) rfl (.int .u8 (nb y)) (congrArg (Value.int .u8) Hy.out) #[.int .u8 (nb y)] rfl (by kernel_rfl) (one_int .u8 (nb y)) 28 s.cells c4 (by rw [hs.size]; show 35 + q + 1 ≤ 51; omega) ?_; intro w5 c5 k5; rw [Ht.out] at c5; clear T5 tt; refine Stop.out ?_))
  refine ⟨?_⟩
  have b5 := RoAt.keeps b4 k5 n38
  have K5 : Keeps (fun _ => False) w w5 := K4.trans' k5 (fun i e => .inr (by omega))
  have T6 : Hid True := trivial
  clear k1 k2 b1 b2 K2 c3 z3 k3 b3 K3 k4 b4 K4 cu c4 k5
  go_wp2_with (first
    | (have tt := T6; refine wpList_loadS rfl (.tmp 3) rfl g3 rfl s hs b5 ?_; clear T6 tt; have T7 : Hid True := trivial)
    | (have tt := T7; refine wpList_allocS rfl rfl ?_; intro g9 w6 e6 z6 k6; have b6 := RoAt.keep b5 k6; have c6 := RoAt.keep c5 k6; have K6 := K5.trans k6; have z6' : w.heap.size ≤ g9 := (by have := K5.size; omega); have n39 : g3 ≠ g9 := (by have := RoAt.lt b5; omega); have n89 : g8 ≠ g9 := (by have := RoAt.lt c5; omega); clear T7 tt; have T8 : Hid True := trivial)
    | (have tt := T8; refine wpList_storeS rfl _ _ rfl g9 rfl s hs rfl su0 su0_ok e6 ?_; intro w7 e7 k7; have b7 := RoAt.keeps b6 k7 n39; have c7 := RoAt.keeps c6 k7 n89; have K7 : Keeps (fun _ => False) w w7 := K6.trans' k7 (fun i e => .inr (by omega)); clear T8 tt; have T9 : Hid True := trivial)
    | (have tt := T9; refine wpList_storeF rfl 3 _ _ rfl g9 2 rfl (.int .i64 r) rfl #[.int .i64 r] rfl (by kernel_rfl) (one_int .i64 r) 28 s.cells e7 (by rw [hs.size]; show 2 + 1 ≤ 51; omega) ?_; intro w8 e8 k8; rw [Hu.out] at e8; have b8 := RoAt.keeps b7 k8 n39; have c8 := RoAt.keeps c7 k8 n89; have K8 : Keeps (fun _ => False) w w8 := K7.trans' k8 (fun i e => .inr (by omega)); clear T9 tt; refine Stop.out ?_))
  refine ⟨?_⟩
  have hT8 := hT.keeps K8 (fun h => h) (fun h => h)
  have p8 : ∀ d os, (grow (redrawn w8 d) os).cell? ⟨g3, 1, none⟩ = some (.int .i64 s.blocks) := fun d os => (SuAt.parts (RoAt.cls b8 ⟨{ d := d, os := os }, rfl⟩)).2.1
  clear b5 c5 K5 k6 b6 c6 K6 e6 z6 k7 b7 c7 K7 e7 k8
  refine list_of_quiet (C := fun w' => ∃ p : Regrown, w' = grow (redrawn w8 p.d) p.os) _ _ _ (cls_keeps (Keeps.refl _ _)) ?_
  refine wpQuiet_nil ?_
  intro w9 hw9
  rename_i Kn hKn
  refine hKn _ _ ?_
  by_cases k2 : (2 : Int) ≤ (k : Int)
  · by_cases kb : (k : Int) < s.blocks
    · by_cases r0 : r = 0
      · have r0' : (r == 0) = true := by simpa using r0
        have HT : Hid (t.good = true) := by show _ = _; rw [Htg.out]; exact decide_eq_true (by omega)
        have HU : Hid (u.good = true) := by show _ = _; rw [Hug.out]; exact decide_eq_true (by omega)
        repeat (refine wp_seq ?_)
        refine plain_quiet (C := fun w' => ∃ p : Regrown, w' = grow (redrawn w8 p.d) p.os) hw9 ?_
        repeat (first
          | go_big_quiet_skip
          | (have := L2; go_big_quiet_want; refine quiet_loadS (.tmp 9) rfl g9 rfl u hu (fun w' hp => RoAt.cls e8 hp) ?_; simp only [Act.put, List.setIfInBounds_toArray, List.set_cons_zero, List.set_cons_succ]; go_big_quiet_on)
          | (go_big_quiet_want; refine quiet_loadS (.tmp 8) rfl g8 rfl t ht (fun w' hp => RoAt.cls c8 hp) ?_; simp only [Act.put, List.setIfInBounds_toArray, List.set_cons_zero, List.set_cons_succ]; go_big_quiet_on; have L2 : Hid True := trivial)
          | go_big_quiet_step (fail)
          | (have := Q2; go_big_quiet_want; go_big_quiet_op; apply Exists.intro; refine ⟨fun q => wakes_cls hT8 ⟨q, rfl⟩, ?_⟩; go_big_quiet_on)
          | (have := Q1; go_big_quiet_want; go_big_quiet_op; apply Exists.intro; refine ⟨fun q => call_cls (good14 _ u hu HU.out) ⟨q, rfl⟩, ?_⟩; go_big_quiet_on; have Q2 : Hid True := trivial)
          | (go_big_quiet_want; go_big_quiet_op; apply Exists.intro; refine ⟨fun q => call_cls (good14 _ t ht HT.out) ⟨q, rfl⟩, ?_⟩; go_big_quiet_on; have Q1 : Hid True := trivial))
        refine wpQuiet_nil ?_
        intro w10 hw10
        go_wp2
        go_ret
        exact ⟨rfl, K8.trans (keeps_cls hw10)⟩
      · have r0' : (r == 0) = false := by simpa using r0
        by_cases r2 : (2 : Int) ≤ r
        · by_cases rb : r < s.blocks
          · have HT : Hid (t.good = true) := by show _ = _; rw [Htg.out]; exact decide_eq_true (by omega)
            have HU : Hid (u.good = true) := by show _ = _; rw [Hug.out]; exact decide_eq_true (by omega)
            repeat (refine wp_seq ?_)
            refine plain_quiet (C := fun w' => ∃ p : Regrown, w' = grow (redrawn w8 p.d) p.os) hw9 ?_
            repeat (first
              | go_big_quiet_skip
              | (have := L2; go_big_quiet_want; refine quiet_loadS (.tmp 9) rfl g9 rfl u hu (fun w' hp => RoAt.cls e8 hp) ?_; simp only [Act.put, List.setIfInBounds_toArray, List.set_cons_zero, List.set_cons_succ]; go_big_quiet_on)
              | (go_big_quiet_want; refine quiet_loadS (.tmp 8) rfl g8 rfl t ht (fun w' hp => RoAt.cls c8 hp) ?_; simp only [Act.put, List.setIfInBounds_toArray, List.set_cons_zero, List.set_cons_succ]; go_big_quiet_on; have L2 : Hid True := trivial)
              | go_big_quiet_step (fail)
              | (have := Q2; go_big_quiet_want; go_big_quiet_op; apply Exists.intro; refine ⟨fun q => wakes_cls hT8 ⟨q, rfl⟩, ?_⟩; go_big_quiet_on)
              | (have := Q1; go_big_quiet_want; go_big_quiet_op; apply Exists.intro; refine ⟨fun q => call_cls (good14 _ u hu HU.out) ⟨q, rfl⟩, ?_⟩; go_big_quiet_on; have Q2 : Hid True := trivial)
              | (go_big_quiet_want; go_big_quiet_op; apply Exists.intro; refine ⟨fun q => call_cls (good14 _ t ht HT.out) ⟨q, rfl⟩, ?_⟩; go_big_quiet_on; have Q1 : Hid True := trivial))
            refine wpQuiet_nil ?_
            intro w10 hw10
            go_wp2
            go_ret
            exact ⟨rfl, K8.trans (keeps_cls hw10)⟩
          · have HT : Hid (t.good = true) := by show _ = _; rw [Htg.out]; exact decide_eq_true (by omega)
            have HU : Hid (u.good = false) := by show _ = _; rw [Hug.out]; exact decide_eq_false (by omega)
            repeat (refine wp_seq ?_)
            refine plain_quiet (C := fun w' => ∃ p : Regrown, w' = grow (redrawn w8 p.d) p.os) hw9 ?_
            repeat (first
              | go_big_quiet_skip
              | (have := L2; go_big_quiet_want; refine quiet_loadS (.tmp 9) rfl g9 rfl u hu (fun w' hp => RoAt.cls e8 hp) ?_; simp only [Act.put, List.setIfInBounds_toArray, List.set_cons_zero, List.set_cons_succ]; go_big_quiet_on)
              | (go_big_quiet_want; refine quiet_loadS (.tmp 8) rfl g8 rfl t ht (fun w' hp => RoAt.cls c8 hp) ?_; simp only [Act.put, List.setIfInBounds_toArray, List.set_cons_zero, List.set_cons_succ]; go_big_quiet_on; have L2 : Hid True := trivial)
              | go_big_quiet_step (fail)
              | (have := Q2; go_big_quiet_want; go_big_quiet_op; apply Exists.intro; refine ⟨fun q => wakes_cls hT8 ⟨q, rfl⟩, ?_⟩; go_big_quiet_on)
              | (have := Q1; go_big_quiet_want; go_big_quiet_op; apply Exists.intro; refine ⟨fun q => call_cls (good14 _ u hu HU.out) ⟨q, rfl⟩, ?_⟩; go_big_quiet_on; have Q2 : Hid True := trivial)
              | (go_big_quiet_want; go_big_quiet_op; apply Exists.intro; refine ⟨fun q => call_cls (good14 _ t ht HT.out) ⟨q, rfl⟩, ?_⟩; go_big_quiet_on; have Q1 : Hid True := trivial))
            refine wpQuiet_nil ?_
            intro w10 hw10
            go_wp2
            go_ret
            exact ⟨rfl, K8.trans (keeps_cls hw10)⟩
        · have HT : Hid (t.good = true) := by show _ = _; rw [Htg.out]; exact decide_eq_true (by omega)
          have HU : Hid (u.good = false) := by show _ = _; rw [Hug.out]; exact decide_eq_false (by omega)
          repeat (refine wp_seq ?_)
          refine plain_quiet (C := fun w' => ∃ p : Regrown, w' = grow (redrawn w8 p.d) p.os) hw9 ?_
          repeat (first
            | go_big_quiet_skip
            | (have := L2; go_big_quiet_want; refine quiet_loadS (.tmp 9) rfl g9 rfl u hu (fun w' hp => RoAt.cls e8 hp) ?_; simp only [Act.put, List.setIfInBounds_toArray, List.set_cons_zero, List.set_cons_succ]; go_big_quiet_on)
            | (go_big_quiet_want; refine quiet_loadS (.tmp 8) rfl g8 rfl t ht (fun w' hp => RoAt.cls c8 hp) ?_; simp only [Act.put, List.setIfInBounds_toArray, List.set_cons_zero, List.set_cons_succ]; go_big_quiet_on; have L2 : Hid True := trivial)
            | go_big_quiet_step (fail)
            | (have := Q2; go_big_quiet_want; go_big_quiet_op; apply Exists.intro; refine ⟨fun q => wakes_cls hT8 ⟨q, rfl⟩, ?_⟩; go_big_quiet_on)
            | (have := Q1; go_big_quiet_want; go_big_quiet_op; apply Exists.intro; refine ⟨fun q => call_cls (good14 _ u hu HU.out) ⟨q, rfl⟩, ?_⟩; go_big_quiet_on; have Q2 : Hid True := trivial)
            | (go_big_quiet_want; go_big_quiet_op; apply Exists.intro; refine ⟨fun q => call_cls (good14 _ t ht HT.out) ⟨q, rfl⟩, ?_⟩; go_big_quiet_on; have Q1 : Hid True := trivial))
          refine wpQuiet_nil ?_
          intro w10 hw10
          go_wp2
          go_ret
          exact ⟨rfl, K8.trans (keeps_cls hw10)⟩
    · by_cases r0 : r = 0
      · have r0' : (r == 0) = true := by simpa using r0
        have HT : Hid (t.good = false) := by show _ = _; rw [Htg.out]; exact decide_eq_false (by omega)
        have HU : Hid (u.good = true) := by show _ = _; rw [Hug.out]; exact decide_eq_true (by omega)
        repeat (refine wp_seq ?_)
        refine plain_quiet (C := fun w' => ∃ p : Regrown, w' = grow (redrawn w8 p.d) p.os) hw9 ?_
        repeat (first
          | go_big_quiet_skip
          | (have := L2; go_big_quiet_want; refine quiet_loadS (.tmp 9) rfl g9 rfl u hu (fun w' hp => RoAt.cls e8 hp) ?_; simp only [Act.put, List.setIfInBounds_toArray, List.set_cons_zero, List.set_cons_succ]; go_big_quiet_on)
          | (go_big_quiet_want; refine quiet_loadS (.tmp 8) rfl g8 rfl t ht (fun w' hp => RoAt.cls c8 hp) ?_; simp only [Act.put, List.setIfInBounds_toArray, List.set_cons_zero, List.set_cons_succ]; go_big_quiet_on; have L2 : Hid True := trivial)
          | go_big_quiet_step (fail)
          | (have := Q2; go_big_quiet_want; go_big_quiet_op; apply Exists.intro; refine ⟨fun q => wakes_cls hT8 ⟨q, rfl⟩, ?_⟩; go_big_quiet_on)
          | (have := Q1; go_big_quiet_want; go_big_quiet_op; apply Exists.intro; refine ⟨fun q => call_cls (good14 _ u hu HU.out) ⟨q, rfl⟩, ?_⟩; go_big_quiet_on; have Q2 : Hid True := trivial)
          | (go_big_quiet_want; go_big_quiet_op; apply Exists.intro; refine ⟨fun q => call_cls (good14 _ t ht HT.out) ⟨q, rfl⟩, ?_⟩; go_big_quiet_on; have Q1 : Hid True := trivial))
        refine wpQuiet_nil ?_
        intro w10 hw10
        go_wp2
        go_ret
        exact ⟨rfl, K8.trans (keeps_cls hw10)⟩
      · have r0' : (r == 0) = false := by simpa using r0
        by_cases r2 : (2 : Int) ≤ r
        · by_cases rb : r < s.blocks
          · have HT : Hid (t.good = false) := by show _ = _; rw [Htg.out]; exact decide_eq_false (by omega)
            have HU : Hid (u.good = true) := by show _ = _; rw [Hug.out]; exact decide_eq_true (by omega)
            repeat (refine wp_seq ?_)
            refine plain_quiet (C := fun w' => ∃ p : Regrown, w' = grow (redrawn w8 p.d) p.os) hw9 ?_
            repeat (first
              | go_big_quiet_skip
              | (have := L2; go_big_quiet_want; refine quiet_loadS (.tmp 9) rfl g9 rfl u hu (fun w' hp => RoAt.cls e8 hp) ?_; simp only [Act.put, List.setIfInBounds_toArray, List.set_cons_zero, List.set_cons_succ]; go_big_quiet_on)
              | (go_big_quiet_want; refine quiet_loadS (.tmp 8) rfl g8 rfl t ht (fun w' hp => RoAt.cls c8 hp) ?_; simp only [Act.put, List.setIfInBounds_toArray, List.set_cons_zero, List.set_cons_succ]; go_big_quiet_on; have L2 : Hid True := trivial)
              | go_big_quiet_step (fail)
              | (have := Q2; go_big_quiet_want; go_big_quiet_op; apply Exists.intro; refine ⟨fun q => wakes_cls hT8 ⟨q, rfl⟩, ?_⟩; go_big_quiet_on)
              | (have := Q1; go_big_quiet_want; go_big_quiet_op; apply Exists.intro; refine ⟨fun q => call_cls (good14 _ u hu HU.out) ⟨q, rfl⟩, ?_⟩; go_big_quiet_on; have Q2 : Hid True := trivial)
              | (go_big_quiet_want; go_big_quiet_op; apply Exists.intro; refine ⟨fun q => call_cls (good14 _ t ht HT.out) ⟨q, rfl⟩, ?_⟩; go_big_quiet_on; have Q1 : Hid True := trivial))
            refine wpQuiet_nil ?_
            intro w10 hw10
            go_wp2
            go_ret
            exact ⟨rfl, K8.trans (keeps_cls hw10)⟩
          · have HT : Hid (t.good = false) := by show _ = _; rw [Htg.out]; exact decide_eq_false (by omega)
            have HU : Hid (u.good = false) := by show _ = _; rw [Hug.out]; exact decide_eq_false (by omega)
            repeat (refine wp_seq ?_)
            refine plain_quiet (C := fun w' => ∃ p : Regrown, w' = grow (redrawn w8 p.d) p.os) hw9 ?_
            repeat (first
              | go_big_quiet_skip
              | (have := L2; go_big_quiet_want; refine quiet_loadS (.tmp 9) rfl g9 rfl u hu (fun w' hp => RoAt.cls e8 hp) ?_; simp only [Act.put, List.setIfInBounds_toArray, List.set_cons_zero, List.set_cons_succ]; go_big_quiet_on)
              | (go_big_quiet_want; refine quiet_loadS (.tmp 8) rfl g8 rfl t ht (fun w' hp => RoAt.cls c8 hp) ?_; simp only [Act.put, List.setIfInBounds_toArray, List.set_cons_zero, List.set_cons_succ]; go_big_quiet_on; have L2 : Hid True := trivial)
              | go_big_quiet_step (fail)
              | (have := Q2; go_big_quiet_want; go_big_quiet_op; apply Exists.intro; refine ⟨fun q => wakes_cls hT8 ⟨q, rfl⟩, ?_⟩; go_big_quiet_on)
              | (have := Q1; go_big_quiet_want; go_big_quiet_op; apply Exists.intro; refine ⟨fun q => call_cls (good14 _ u hu HU.out) ⟨q, rfl⟩, ?_⟩; go_big_quiet_on; have Q2 : Hid True := trivial)
              | (go_big_quiet_want; go_big_quiet_op; apply Exists.intro; refine ⟨fun q => call_cls (good14 _ t ht HT.out) ⟨q, rfl⟩, ?_⟩; go_big_quiet_on; have Q1 : Hid True := trivial))
            refine wpQuiet_nil ?_
            intro w10 hw10
            go_wp2
            go_ret
            exact ⟨rfl, K8.trans (keeps_cls hw10)⟩
        · have HT : Hid (t.good = false) := by show _ = _; rw [Htg.out]; exact decide_eq_false (by omega)
          have HU : Hid (u.good = false) := by show _ = _; rw [Hug.out]; exact decide_eq_false (by omega)
          repeat (refine wp_seq ?_)
          refine plain_quiet (C := fun w' => ∃ p : Regrown, w' = grow (redrawn w8 p.d) p.os) hw9 ?_
          repeat (first
            | go_big_quiet_skip
            | (have := L2; go_big_quiet_want; refine quiet_loadS (.tmp 9) rfl g9 rfl u hu (fun w' hp => RoAt.cls e8 hp) ?_; simp only [Act.put, List.setIfInBounds_toArray, List.set_cons_zero, List.set_cons_succ]; go_big_quiet_on)
            | (go_big_quiet_want; refine quiet_loadS (.tmp 8) rfl g8 rfl t ht (fun w' hp => RoAt.cls c8 hp) ?_; simp only [Act.put, List.setIfInBounds_toArray, List.set_cons_zero, List.set_cons_succ]; go_big_quiet_on; have L2 : Hid True := trivial)
            | go_big_quiet_step (fail)
            | (have := Q2; go_big_quiet_want; go_big_quiet_op; apply Exists.intro; refine ⟨fun q => wakes_cls hT8 ⟨q, rfl⟩, ?_⟩; go_big_quiet_on)
            | (have := Q1; go_big_quiet_want; go_big_quiet_op; apply Exists.intro; refine ⟨fun q => call_cls (good14 _ u hu HU.out) ⟨q, rfl⟩, ?_⟩; go_big_quiet_on; have Q2 : Hid True := trivial)
            | (go_big_quiet_want; go_big_quiet_op; apply Exists.intro; refine ⟨fun q => call_cls (good14 _ t ht HT.out) ⟨q, rfl⟩, ?_⟩; go_big_quiet_on; have Q1 : Hid True := trivial))
          refine wpQuiet_nil ?_
          intro w10 hw10
          go_wp2
          go_ret
          exact ⟨rfl, K8.trans (keeps_cls hw10)⟩
  · by_cases r0 : r = 0
    · have r0' : (r == 0) = true := by simpa using r0
      have HT : Hid (t.good = false) := by show _ = _; rw [Htg.out]; exact decide_eq_false (by omega)
      have HU : Hid (u.good = true) := by show _ = _; rw [Hug.out]; exact decide_eq_true (by omega)
      repeat (refine wp_seq ?_)
      refine plain_quiet (C := fun w' => ∃ p : Regrown, w' = grow (redrawn w8 p.d) p.os) hw9 ?_
      repeat (first
        | go_big_quiet_skip
        | (have := L2; go_big_quiet_want; refine quiet_loadS (.tmp 9) rfl g9 rfl u hu (fun w' hp => RoAt.cls e8 hp) ?_; simp only [Act.put, List.setIfInBounds_toArray, List.set_cons_zero, List.set_cons_succ]; go_big_quiet_on)
        | (go_big_quiet_want; refine quiet_loadS (.tmp 8) rfl g8 rfl t ht (fun w' hp => RoAt.cls c8 hp) ?_; simp only [Act.put, List.setIfInBounds_toArray, List.set_cons_zero, List.set_cons_succ]; go_big_quiet_on; have L2 : Hid True := trivial)
        | go_big_quiet_step (fail)
        | (have := Q2; go_big_quiet_want; go_big_quiet_op; apply Exists.intro; refine ⟨fun q => wakes_cls hT8 ⟨q, rfl⟩, ?_⟩; go_big_quiet_on)
        | (have := Q1; go_big_quiet_want; go_big_quiet_op; apply Exists.intro; refine ⟨fun q => call_cls (good14 _ u hu HU.out) ⟨q, rfl⟩, ?_⟩; go_big_quiet_on; have Q2 : Hid True := trivial)
        | (go_big_quiet_want; go_big_quiet_op; apply Exists.intro; refine ⟨fun q => call_cls (good14 _ t ht HT.out) ⟨q, rfl⟩, ?_⟩; go_big_quiet_on; have Q1 : Hid True := trivial))
      refine wpQuiet_nil ?_
      intro w10 hw10
      go_wp2
      go_ret
      exact ⟨rfl, K8.trans (keeps_cls hw10)⟩
    · have r0' : (r == 0) = false := by simpa using r0
      by_cases r2 : (2 : Int) ≤ r
      · by_cases rb : r < s.blocks
        · have HT : Hid (t.good = false) := by show _ = _; rw [Htg.out]; exact decide_eq_false (by omega)
          have HU : Hid (u.good = true) := by show _ = _; rw [Hug.out]; exact decide_eq_true (by omega)
          repeat (refine wp_seq ?_)
          refine plain_quiet (C := fun w' => ∃ p : Regrown, w' = grow (redrawn w8 p.d) p.os) hw9 ?_
          repeat (first
            | go_big_quiet_skip
            | (have := L2; go_big_quiet_want; refine quiet_loadS (.tmp 9) rfl g9 rfl u hu (fun w' hp => RoAt.cls e8 hp) ?_; simp only [Act.put, List.setIfInBounds_toArray, List.set_cons_zero, List.set_cons_succ]; go_big_quiet_on)
            | (go_big_quiet_want; refine quiet_loadS (.tmp 8) rfl g8 rfl t ht (fun w' hp => RoAt.cls c8 hp) ?_; simp only [Act.put, List.setIfInBounds_toArray, List.set_cons_zero, List.set_cons_succ]; go_big_quiet_on; have L2 : Hid True := trivial)
            | go_big_quiet_step (fail)
            | (have := Q2; go_big_quiet_want; go_big_quiet_op; apply Exists.intro; refine ⟨fun q => wakes_cls hT8 ⟨q, rfl⟩, ?_⟩; go_big_quiet_on)
            | (have := Q1; go_big_quiet_want; go_big_quiet_op; apply Exists.intro; refine ⟨fun q => call_cls (good14 _ u hu HU.out) ⟨q, rfl⟩, ?_⟩; go_big_quiet_on; have Q2 : Hid True := trivial)
            | (go_big_quiet_want; go_big_quiet_op; apply Exists.intro; refine ⟨fun q => call_cls (good14 _ t ht HT.out) ⟨q, rfl⟩, ?_⟩; go_big_quiet_on; have Q1 : Hid True := trivial))
          refine wpQuiet_nil ?_
          intro w10 hw10
          go_wp2
          go_ret
          exact ⟨rfl, K8.trans (keeps_cls hw10)⟩
        · have HT : Hid (t.good = false) := by show _ = _; rw [Htg.out]; exact decide_eq_false (by omega)
          have HU : Hid (u.good = false) := by show _ = _; rw [Hug.out]; exact decide_eq_false (by omega)
          repeat (refine wp_seq ?_)
          refine plain_quiet (C := fun w' => ∃ p : Regrown, w' = grow (redrawn w8 p.d) p.os) hw9 ?_
          repeat (first
            | go_big_quiet_skip
            | (have := L2; go_big_quiet_want; refine quiet_loadS (.tmp 9) rfl g9 rfl u hu (fun w' hp => RoAt.cls e8 hp) ?_; simp only [Act.put, List.setIfInBounds_toArray, List.set_cons_zero, List.set_cons_succ]; go_big_quiet_on)
            | (go_big_quiet_want; refine quiet_loadS (.tmp 8) rfl g8 rfl t ht (fun w' hp => RoAt.cls c8 hp) ?_; simp only [Act.put, List.setIfInBounds_toArray, List.set_cons_zero, List.set_cons_succ]; go_big_quiet_on; have L2 : Hid True := trivial)
            | go_big_quiet_step (fail)
            | (have := Q2; go_big_quiet_want; go_big_quiet_op; apply Exists.intro; refine ⟨fun q => wakes_cls hT8 ⟨q, rfl⟩, ?_⟩; go_big_quiet_on)
            | (have := Q1; go_big_quiet_want; go_big_quiet_op; apply Exists.intro; refine ⟨fun q => call_cls (good14 _ u hu HU.out) ⟨q, rfl⟩, ?_⟩; go_big_quiet_on; have Q2 : Hid True := trivial)
            | (go_big_quiet_want; go_big_quiet_op; apply Exists.intro; refine ⟨fun q => call_cls (good14 _ t ht HT.out) ⟨q, rfl⟩, ?_⟩; go_big_quiet_on; have Q1 : Hid True := trivial))
          refine wpQuiet_nil ?_
          intro w10 hw10
          go_wp2
          go_ret
          exact ⟨rfl, K8.trans (keeps_cls hw10)⟩
      · have HT : Hid (t.good = false) := by show _ = _; rw [Htg.out]; exact decide_eq_false (by omega)
        have HU : Hid (u.good = false) := by show _ = _; rw [Hug.out]; exact decide_eq_false (by omega)
        repeat (refine wp_seq ?_)
        refine plain_quiet (C := fun w' => ∃ p : Regrown, w' = grow (redrawn w8 p.d) p.os) hw9 ?_
        repeat (first
          | go_big_quiet_skip
          | (have := L2; go_big_quiet_want; refine quiet_loadS (.tmp 9) rfl g9 rfl u hu (fun w' hp => RoAt.cls e8 hp) ?_; simp only [Act.put, List.setIfInBounds_toArray, List.set_cons_zero, List.set_cons_succ]; go_big_quiet_on)
          | (go_big_quiet_want; refine quiet_loadS (.tmp 8) rfl g8 rfl t ht (fun w' hp => RoAt.cls c8 hp) ?_; simp only [Act.put, List.setIfInBounds_toArray, List.set_cons_zero, List.set_cons_succ]; go_big_quiet_on; have L2 : Hid True := trivial)
          | go_big_quiet_step (fail)
          | (have := Q2; go_big_quiet_want; go_big_quiet_op; apply Exists.intro; refine ⟨fun q => wakes_cls hT8 ⟨q, rfl⟩, ?_⟩; go_big_quiet_on)
          | (have := Q1; go_big_quiet_want; go_big_quiet_op; apply Exists.intro; refine ⟨fun q => call_cls (good14 _ u hu HU.out) ⟨q, rfl⟩, ?_⟩; go_big_quiet_on; have Q2 : Hid True := trivial)
          | (go_big_quiet_want; go_big_quiet_op; apply Exists.intro; refine ⟨fun q => call_cls (good14 _ t ht HT.out) ⟨q, rfl⟩, ?_⟩; go_big_quiet_on; have Q1 : Hid True := trivial))
        refine wpQuiet_nil ?_
        intro w10 hw10
        go_wp2
        go_ret
        exact ⟨rfl, K8.trans (keeps_cls hw10)⟩

theorem usedL (w : World) (hT : Tabs w) (s : Su) (hs : s.Ok) (x : Int) (hx : 0 ≤ x ∧ x < 256) (r : Int) (hr : -9223372036854775808 ≤ r ∧ r ≤ 9223372036854775807) :
    Calls Tryd.prog 9 #[.agg s.cells, .int .u8 x, .int .i64 r] w fun e w' => e = .returned (.bool true) ∧ Keeps (fun _ => False) w w' := by
  cases hg : s.good with
  | false => exact usedL_no w hT s hs x r hg
  | true =>
    obtain ⟨k, hk⟩ : ∃ k : Nat, x % 128 = (k : Int) := ⟨(x % 128).toNat, by omega⟩
    have hk1 : k < 128 := by omega
    have hl := hs.used
    have h2 : (2 : Int) ^ (k % 8) % 256 = nb (1#8 <<< (k % 8)) := by
      have : ∀ m : Fin 8, (2 : Int) ^ m.val % 256 = nb (1#8 <<< m.val) := by decide
      exact this ⟨k % 8, by omega⟩
    exact usedL_yes w hT s { s with used := togb s.used k } { s with root := r } hs x r hx hr hg k (k / 8) (k % 8) hk (by omega) (by omega) (by omega) (by omega) (s.used.getD (k / 8) 0 ^^^ (1#8 <<< (k % 8))) (by show _ = _; rw [h2, bits_xor8]) ⟨hs.gen, hs.blocks, hs.root, hs.log, by rw [togb_len]; exact hs.used⟩ (over_ucell s hs (k / 8) (by omega) _) (good_tog hs hg hk1) ⟨hs.gen, hs.blocks, hr, hs.log, hs.used⟩ (over_root s r) (good_root hs hg r)
end Go.Proofs.YtdgnjpdjohibeaaDoor
