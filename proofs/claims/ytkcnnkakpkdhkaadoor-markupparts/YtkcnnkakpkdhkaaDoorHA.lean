/-
  Packed texts: Xf, Xg, Xh, Xi, Xj, Xk.
-/
import Derived.Test.YtkcnnkakpkdhkaaDoorXe
set_option linter.all false
set_option maxRecDepth 100000
namespace Go.Proofs.YtkcnnkakpkdhkaaDoor

/-! Xf: The program's Words. -/
section
open Go.RowKit Go.Sort Go.Shelf
attribute [local go_sem] Oper.semAt_some

/-- What the slice has taken in. -/
structure ApI (b2 B : Nat) (w : World) (pre : List (List UInt8)) (V : World) : Prop where
  own : ∃ v, Ce V b2 37 v ∧ OwnT V B v pre
  keeps : Keeps (fun _ => False) w V
  size : B ≤ V.heap.size

set_option maxHeartbeats 4000000 in
theorem append46 (w : World) (bl : Nat) (s : ByteArray) (hs : s.size ≤ 90000) (hn : Ce w bl 9 (.string s)) :
    Calls Tryd.prog 46 #[.slice none 0 0, .func (.func 47) #[] #[.pointer (some ⟨bl, 0, none⟩)]] w fun e w' => (∃ v, e = .returned v ∧ OwnT w' w.heap.size v (wds s.data.toList)) ∧ Keeps (fun _ => False) w w' := by
  obtain ⟨XS, hXS⟩ : ∃ XS, wds s.data.toList = XS := ⟨_, rfl⟩
  have HX : Hid (wds s.data.toList = XS) := hXS
  have HL : Hid (XS.length ≤ 90001) := by show _ ≤ _; rw [← hXS]; have := wds_len s.data.toList; rw [sz_len] at this; omega
  rw [hXS]
  clear hXS
  refine (callsIn_wide (n := 9)).1 ?_
  refine callsIn_of_wp_marks Tryd.func46 rfl trivial ?_ rfl
  simp only [Tryd.ntmps46, List.size_toArray, List.length_cons, List.length_nil, Nat.reduceAdd, Nat.reduceSub, Array.replicate_succ, Array.replicate_zero, List.push_toArray, List.append_toArray, List.nil_append, List.cons_append]
  have hbl := hn.lt
  gi_wp2
  have y1 := ce_alloc w 37 (.slice none 0 0)
  have k1 := keeps_alloc w (.cells #[.slice none 0 0] 37)
  obtain ⟨W1, hW1⟩ : ∃ W1, w.alloc (.cells #[.slice none 0 0] 37) = W1 := ⟨_, rfl⟩
  have s1 : W1.heap.size = w.heap.size + 1 := by rw [← hW1]; simp
  rw [hW1] at y1 k1
  simp only [hW1]
  have hn1 := hn.keep k1
  clear hW1
  have hseq := words47 (fun k => k ≠ bl) W1 bl s (by omega) hn1 (fun h => h rfl)
  rw [HX.out] at hseq
  refine range_n (gf := 47) (lb := #[.pointer (some ⟨bl, 0, none⟩)]) rfl (enters_of Tryd.func47 (by kernel_rfl) rfl) hseq _ rfl (RowKit.Below.refl _ _) (fun _ => rfl)
    (fun pre V => ApI w.heap.size (W1.heap.size + 2 + 4) w pre V ∨ (pre = [] ∧ Ce V w.heap.size 37 (.slice none 0 0) ∧ Keeps (fun _ => False) w V))
    (fun cd pre V => False) ?hI ?hIw ?hIx (.inr ⟨rfl, y1, k1⟩)
    (fun pre x a' V => (∃ v, Ce V w.heap.size 37 v ∧ OwnT V (W1.heap.size + 2 + 4) v pre ∧ Keeps (fun _ => False) w V) ∧ a' = { tmps := #[.slice none 0 0, .func (.func 47) #[] #[.pointer (some ⟨bl, 0, none⟩)], .pointer (some ⟨w.heap.size, 0, none⟩), undef, .slice none 0 0, .string (bs x), .func (.func 47) #[] #[.pointer (some ⟨bl, 0, none⟩)], .string (bs x), undef, undef, undef, undef, undef], defers := [] }) ?hAx ?assign ?body ?done ?stop
  case hI =>
    rintro pre A B row h hg hr
    rcases h with ⟨⟨v, h2, h3⟩, h4, h5⟩ | ⟨h1, h2, h4⟩
    · exact .inl ⟨⟨v, ⟨own_cells hg hr h2.row⟩, h3.turn hg hr⟩, own_keeps hg hr h4 (by omega), Nat.le_trans h5 hg.size⟩
    · exact .inr ⟨h1, ⟨own_cells hg hr h2.row⟩, own_keeps hg hr h4 (by omega)⟩
  case hIw =>
    rintro pre A k u hk1 hk2 h
    rcases h with ⟨⟨v, h2, h3⟩, h4, h5⟩ | ⟨h1, h2, h4⟩
    · exact .inl ⟨⟨v, h2.set_other (by omega) u, h3.keeps ((Keeps.refl (· = k) _).setCell (p := ⟨k, 0, none⟩) (.inl rfl) u) (fun i _ e => by omega)⟩, h4.setCell (p := ⟨k, 0, none⟩) (.inr (by show w.heap.size ≤ k; omega)) u, by simpa using h5⟩
    · exact .inr ⟨h1, h2.set_other (by omega) u, h4.setCell (p := ⟨k, 0, none⟩) (.inr (by show w.heap.size ≤ k; omega)) u⟩
  case hIx => rintro cd s A B row h hg hr; exact h.elim
  case hAx =>
    rintro pre x a' _ A B row ⟨⟨v, h2, h3, h4⟩, h5⟩ hg hr
    exact ⟨⟨v, ⟨own_cells hg hr h2.row⟩, h3.turn hg hr, own_keeps hg hr h4 (by omega)⟩, h5⟩
  case assign =>
    rintro l' pre x rest V K hx hms h1 hK'
    have HK : Hid (∀ a' W', _ → _ → _ → K a' W') := hK'
    have h2 : ∃ v, Ce V w.heap.size 37 v ∧ OwnT V (W1.heap.size + 2 + 4) v pre ∧ Keeps (fun _ => False) w V := by
      rcases h1 with ⟨⟨v, h2, h3⟩, h4, h5⟩ | ⟨rfl, h2, h4⟩
      · exact ⟨v, h2, h3, h4⟩
      · exact ⟨_, h2, OwnT.nil _ _, h4⟩
    clear hK' hx h1
    simp only [encW]
    gi_wp2
    have k0 := Keeps.refl (fun _ => False) V
    exact HK.out _ _ (k0.from (fun _ _ h => h.elim)) (k0.kpx (fun _ h => h.elim)) ⟨h2, rfl⟩
  case body =>
    rintro l' pre x rest a' V hl' hx hms ⟨⟨v, h2, h3, h4⟩, rfl⟩
    have hpl : pre.length ≤ 100000 := by have := HL.out; rw [hx] at this; simp at this; omega
    have f3 := h2.live
    have q3 := h2.cell
    have z2 := h2.lt
    clear hx hseq
    gi_wp2_with (first
      | (refine in_round (fun _ h => by cases h) ?_; refine wpList_build1T rfl _ rfl x rfl ?_; intro g9 w6 b6 z6 k6; refine OnlyN.go ?_; have o6 := h3.keeps k6 (fun i _ h => h.elim); have c6 := h2.keep k6)
      | (refine in_round (fun _ h => by cases h) ?_; refine wpList_appT rfl _ _ rfl (W1.heap.size + 2 + 4) v _ rfl o6 g9 rfl x b6 hpl (by have := k6.size; omega) ?_; intro v' w7 o7 k7; obtain ⟨aa, nn, cc, rfl⟩ := o7.shape; refine OnlyN.go ?_; have c7 := c6.keeps k7 (fun e => by have := OwnT.from o6 e; omega); have q7 := c7.cell; have f7 := c7.live))
    have kA : Keeps (fun k => k = w.heap.size ∨ v.ownBlock = some k) V (w7.setCell ⟨w.heap.size, 0, none⟩ (.slice aa nn cc)) := ((k6.mono (fun _ _ h => h.elim)).trans (k7.mono (fun _ _ h => .inr h))).setCell (p := ⟨w.heap.size, 0, none⟩) (.inl (.inl rfl)) _
    refine ⟨kA.from (fun k hk e => by rcases e with rfl | e; omega; exact h3.cells e), kA.kpx (fun k e => ?_), .inl ⟨⟨_, c7.set (.slice aa nn cc), ?_⟩, ?_, ?_⟩⟩
    · rcases e with rfl | e
      · exact .inl ⟨by omega, by omega⟩
      · have := OwnT.from h3 e
        exact .inl ⟨by omega, by omega⟩
    · exact o7.keeps ((Keeps.refl (· = w.heap.size) _).setCell (p := ⟨w.heap.size, 0, none⟩) (.inl rfl) (.slice aa nn cc)) (fun i _ e => by omega)
    · refine h4.trans' kA (fun k e => ?_)
      rcases e with rfl | e
      · exact .inr (Nat.le_refl _)
      · have := OwnT.from h3 e; exact .inr (by omega)
    · have := kA.size; omega
  case done =>
    rintro D V hD' h1 hd
    have h2 : ∃ v, Ce V w.heap.size 37 v ∧ OwnT V (W1.heap.size + 2 + 4) v XS ∧ Keeps (fun _ => False) w V := by
      rcases h1 with ⟨⟨v, h2, h3⟩, h4, h5⟩ | ⟨h0, h2, h4⟩
      · exact ⟨v, h2, h3, h4⟩
      · exact ⟨_, h2, by rw [h0]; exact OwnT.nil _ _, h4⟩
    obtain ⟨v, h2, h3, h4⟩ := h2
    have q3 := h2.cell
    obtain ⟨aa, nn, cc, rfl⟩ := h3.shape
    clear h1 hseq
    gi_wp2
    refine ⟨by simp, .inl ⟨_, _, rfl, run_takeDeferred hd, ?_⟩⟩
    refine ⟨_, results_tmp rfl _ _ _, ⟨_, rfl, ?_⟩, ?_⟩
    · exact ((h3.turn (B := W1.heap.size) (grownBy_putObj' _ D _) (fun r e => by cases e; exact ⟨hD', _, hd, rfl⟩))).down (by omega)
    · exact h4.grown (grownBy_putObj' _ D _) (fun k e => by cases e; exact .inr (by omega))
  case stop =>
    rintro D cd pre x rest V hD' hx h hd
    exact h.elim

theorem collect34 (w : World) (bl : Nat) (s : ByteArray) (hs : s.size ≤ 90000) (hn : Ce w bl 9 (.string s)) :
    Calls Tryd.prog 34 #[.func (.func 47) #[] #[.pointer (some ⟨bl, 0, none⟩)]] w fun e w' => (∃ v, e = .returned v ∧ OwnT w' w.heap.size v (wds s.data.toList)) ∧ Keeps (fun _ => False) w w' := by
  have hq := append46 w bl s hs hn
  go_enter Tryd.func34, Tryd.ntmps34
  go_wp2_with (go_at_call 46; refine hq.mono ?_; rintro e w1 ⟨⟨v1, rfl, o1⟩, k1⟩)
  go_ret
  exact ⟨⟨_, rfl, o1⟩, k1⟩

/-- The program's Words. -/
theorem pwords19 (w : World) (s : ByteArray) (hs : s.size ≤ 90000) :
    Calls Tryd.prog 19 #[.string s] w fun e w' => (∃ v, e = .returned v ∧ OwnT w' w.heap.size v (wds s.data.toList)) ∧ Keeps (fun _ => False) w w' := by
  go_enter Tryd.func19, Tryd.ntmps19
  go_wp2_with (first
    | (go_at_call 34; refine (collect34 _ _ s hs c1).mono ?_; rintro e w2 ⟨⟨v2, rfl, o2⟩, k2⟩)
    | (go_at_call 35; refine (words35 w s).mono ?_; rintro e w1 ⟨rfl, c1, z1, k1⟩))
  go_ret
  exact ⟨⟨_, rfl, o2.down (by omega)⟩, k1.trans k2⟩
end

/-! Xg: Marks, kinds, words: the program's questions. -/
section
open Go.RowKit Go.Sort Go.Shelf
attribute [local go_sem] Oper.semAt_some

theorem mark41 (w : World) (k : Int) : Calls Tryd.prog 41 #[.int .i64 k] w fun e w' => e = .returned (.string (bs (mk k))) ∧ w' = w := by
  by_cases h2 : k = 2
  · subst h2
    go_enter Tryd.func41, Tryd.ntmps41
    go_wp2
    go_ret
    exact ⟨rfl, rfl⟩
  · have t2 : (k == (2 : Int)) = false := by simpa using h2
    by_cases h3 : k = 3
    · subst h3
      clear t2
      go_enter Tryd.func41, Tryd.ntmps41
      go_wp2
      go_ret
      exact ⟨rfl, rfl⟩
    · have t3 : (k == (3 : Int)) = false := by simpa using h3
      by_cases h4 : k = 4
      · subst h4
        clear t2 t3
        go_enter Tryd.func41, Tryd.ntmps41
        go_wp2
        go_ret
        exact ⟨rfl, rfl⟩
      · have t4 : (k == (4 : Int)) = false := by simpa using h4
        have HM : Hid (mk k = []) := by show _ = _; unfold mk; rw [if_neg h2, if_neg h3, if_neg h4]
        clear h2 h3 h4
        go_enter Tryd.func41, Tryd.ntmps41
        go_wp2
        go_ret
        exact ⟨by rw [HM.out]; rfl, rfl⟩

theorem kind40 (w : World) (s : ByteArray) : Calls Tryd.prog 40 #[.string s] w fun e w' => e = .returned (.int .i64 (knd s.data.toList)) ∧ w' = w := by
  obtain ⟨E4, hE4⟩ : ∃ E, bs (mk 4) = E := ⟨_, rfl⟩
  obtain ⟨E2, hE2⟩ : ∃ E, bs (mk 2) = E := ⟨_, rfl⟩
  obtain ⟨E3, hE3⟩ : ∃ E, bs (mk 3) = E := ⟨_, rfl⟩
  have m4 := fun w => mark41 w 4
  have m2 := fun w => mark41 w 2
  have m3 := fun w => mark41 w 3
  have p2 := fun w => Tryd.strings_HasPrefix s E2 w
  have p3 := fun w => Tryd.strings_HasPrefix s E3 w
  have t4 : (s.toList == E4.toList) = decide (s.data.toList = [45, 45, 45]) := by
    have := bs_eq (x := s.data.toList) (y := [45, 45, 45]) E4 (by rw [← hE4]; rfl)
    rw [bs_self] at this
    exact this
  rw [show E2.data.toList = [61, 32] by rw [← hE2]; rfl] at p2
  rw [show E3.data.toList = [45, 32] by rw [← hE3]; rfl] at p3
  rw [hE4] at m4
  rw [hE2] at m2
  rw [hE3] at m3
  obtain ⟨b2, hb2⟩ : ∃ b, Lib.hasPrefix s.data.toList [61, 32] = b := ⟨_, rfl⟩
  obtain ⟨b3, hb3⟩ : ∃ b, Lib.hasPrefix s.data.toList [45, 32] = b := ⟨_, rfl⟩
  obtain ⟨R, hR⟩ : ∃ R, knd s.data.toList = R := ⟨_, rfl⟩
  have HR : Hid ((if s.data.toList = [45, 45, 45] then (4 : Int) else if b2 = true then 2 else if b3 = true then 3 else 1) = R) := by
    show _ = _; rw [← hR, ← hb2, ← hb3]; rfl
  rw [hb2] at p2
  rw [hb3] at p3
  rw [hR]
  clear hE2 hE3 hE4 hb2 hb3 hR
  by_cases h4 : s.data.toList = [45, 45, 45]
  · have HR2 : Hid (R = 4) := by show _ = _; rw [← HR.out, if_pos h4]
    rw [decide_eq_true h4] at t4
    clear HR h4
    go_enter Tryd.func40, Tryd.ntmps40
    go_wp2_with (go_at_call 41; refine (m4 _).mono ?_; rintro e w' ⟨rfl, rfl⟩)
    go_ret
    exact ⟨by rw [HR2.out]; rfl, rfl⟩
  · rw [decide_eq_false h4] at t4
    cases b2 with
    | true =>
      have HR2 : Hid (R = 2) := by show _ = _; rw [← HR.out, if_neg h4]; rfl
      clear HR h4
      go_enter Tryd.func40, Tryd.ntmps40
      go_wp2_with (first
        | (have hh := q2; clear q2; go_at_call 52; refine (p2 _).mono ?_; rintro e w' ⟨rfl, rfl⟩)
        | (have hh := q4; clear q4; go_at_call 41; refine (m2 _).mono ?_; rintro e w' ⟨rfl, rfl⟩; have q2 : Hid True := trivial)
        | (go_at_call 41; refine (m4 _).mono ?_; rintro e w' ⟨rfl, rfl⟩; have q4 : Hid True := trivial))
      go_ret
      exact ⟨by rw [HR2.out]; rfl, rfl⟩
    | false =>
      cases b3 with
      | true =>
        have HR2 : Hid (R = 3) := by show _ = _; rw [← HR.out, if_neg h4]; rfl
        clear HR h4
        go_enter Tryd.func40, Tryd.ntmps40
        go_wp2_with (first
          | (have hh := q3; clear q3; go_at_call 52; refine (p3 _).mono ?_; rintro e w' ⟨rfl, rfl⟩)
          | (have hh := q6; clear q6; go_at_call 41; refine (m3 _).mono ?_; rintro e w' ⟨rfl, rfl⟩; have q3 : Hid True := trivial)
          | (have hh := q2; clear q2; go_at_call 52; refine (p2 _).mono ?_; rintro e w' ⟨rfl, rfl⟩; have q6 : Hid True := trivial)
          | (have hh := q4; clear q4; go_at_call 41; refine (m2 _).mono ?_; rintro e w' ⟨rfl, rfl⟩; have q2 : Hid True := trivial)
          | (go_at_call 41; refine (m4 _).mono ?_; rintro e w' ⟨rfl, rfl⟩; have q4 : Hid True := trivial))
        go_ret
        exact ⟨by rw [HR2.out]; rfl, rfl⟩
      | false =>
        have HR2 : Hid (R = 1) := by show _ = _; rw [← HR.out, if_neg h4]; rfl
        clear HR h4
        go_enter Tryd.func40, Tryd.ntmps40
        go_wp2_with (first
          | (have hh := q3; clear q3; go_at_call 52; refine (p3 _).mono ?_; rintro e w' ⟨rfl, rfl⟩)
          | (have hh := q6; clear q6; go_at_call 41; refine (m3 _).mono ?_; rintro e w' ⟨rfl, rfl⟩; have q3 : Hid True := trivial)
          | (have hh := q2; clear q2; go_at_call 52; refine (p2 _).mono ?_; rintro e w' ⟨rfl, rfl⟩; have q6 : Hid True := trivial)
          | (have hh := q4; clear q4; go_at_call 41; refine (m2 _).mono ?_; rintro e w' ⟨rfl, rfl⟩; have q2 : Hid True := trivial)
          | (go_at_call 41; refine (m4 _).mono ?_; rintro e w' ⟨rfl, rfl⟩; have q4 : Hid True := trivial))
        go_ret
        exact ⟨by rw [HR2.out]; rfl, rfl⟩

theorem breaks38 (w : World) (x : Nat) (hx : x ≤ 1114111) : Calls Tryd.prog 38 #[.int .i32 (x : Int)] w fun e w' => e = .returned (.bool (brk x)) ∧ w' = w := by
  by_cases h1 : x ≤ 32
  · have HR : Hid (brk x = true) := by show _ = _; unfold brk; simp [h1]
    have t1 : (x : Int) ≤ (32 : Int) := by omega
    clear h1
    go_enter Tryd.func38, Tryd.ntmps38
    go_wp2
    go_ret
    exact ⟨by rw [HR.out]; rfl, rfl⟩
  · have t1 : ¬ (x : Int) ≤ (32 : Int) := by omega
    by_cases h2 : x = 127
    · subst h2
      clear t1 h1 hx
      go_enter Tryd.func38, Tryd.ntmps38
      go_wp2
      go_ret
      exact ⟨rfl, rfl⟩
    · have HR : Hid (brk x = false) := by show _ = _; unfold brk; simp [h1, h2]
      have t2 : ((x : Int) == (127 : Int)) = false := by simp; omega
      clear h1 h2
      go_enter Tryd.func38, Tryd.ntmps38
      go_wp2
      go_ret
      exact ⟨by rw [HR.out]; rfl, rfl⟩
theorem strange24 (w : World) (x : Nat) (hx : x ≤ 1114111) : Calls Tryd.prog 24 #[.int .i32 (x : Int)] w fun e w' => e = .returned (.bool (strg x)) ∧ w' = w := by
  have hq := fun w => breaks38 w x hx
  obtain ⟨B, hB⟩ : ∃ B, brk x = B := ⟨_, rfl⟩
  rw [hB] at hq
  cases B with
  | false =>
    have HR : Hid (strg x = false) := by show _ = _; unfold strg; rw [hB]; rfl
    clear hB
    go_enter Tryd.func24, Tryd.ntmps24
    go_wp2_with (go_at_call 38; refine (hq _).mono ?_; rintro e w' ⟨rfl, rfl⟩)
    go_ret
    exact ⟨by rw [HR.out]; rfl, rfl⟩
  | true =>
    by_cases h1 : x = 32
    · subst h1
      clear hB hx
      go_enter Tryd.func24, Tryd.ntmps24
      go_wp2_with (go_at_call 38; refine (hq _).mono ?_; rintro e w' ⟨rfl, rfl⟩)
      go_ret
      exact ⟨rfl, rfl⟩
    · have t1 : ((x : Int) != (32 : Int)) = true := by simp; omega
      by_cases h2 : x = 10
      · subst h2
        clear hB hx h1 t1
        go_enter Tryd.func24, Tryd.ntmps24
        go_wp2_with (go_at_call 38; refine (hq _).mono ?_; rintro e w' ⟨rfl, rfl⟩)
        go_ret
        exact ⟨rfl, rfl⟩
      · have t2 : ((x : Int) != (10 : Int)) = true := by simp; omega
        have HR : Hid (strg x = true) := by show _ = _; unfold strg; rw [hB]; simp [h1, h2]
        clear hB h1 h2
        go_enter Tryd.func24, Tryd.ntmps24
        go_wp2_with (go_at_call 38; refine (hq _).mono ?_; rintro e w' ⟨rfl, rfl⟩)
        go_ret
        exact ⟨by rw [HR.out]; rfl, rfl⟩

/-- Has it a sign of such a kind? -/
theorem contains_brk (w : World) (s : ByteArray) (hv : vd s.data.toList = true) : Calls Tryd.prog 23 #[.string s, .func (.func 38) #[] #[]] w fun e w' => e = .returned (.bool ((sg s.data.toList).any (fun v => brk v.toNat))) ∧ Keeps (fun _ => False) w w' := by
  refine (Tryd.strings_ContainsFunc_grows 38 #[] (enters_of Tryd.func38 (by kernel_rfl) rfl) brk s w ?_).mono ?_
  · intro W x hx hb
    refine (breaks38 W x hx).mono ?_
    rintro e w' ⟨rfl, rfl⟩
    exact ⟨rfl, RowKit.Below.refl _ _⟩
  · rintro e w' ⟨rfl, hb⟩
    exact ⟨by rw [idx_any brk s hv], Keeps.ofBelow hb⟩
theorem contains_strg (w : World) (s : ByteArray) (hv : vd s.data.toList = true) : Calls Tryd.prog 23 #[.string s, .func (.func 24) #[] #[]] w fun e w' => e = .returned (.bool (!pln true s.data.toList)) ∧ Keeps (fun _ => False) w w' := by
  refine (Tryd.strings_ContainsFunc_grows 24 #[] (enters_of Tryd.func24 (by kernel_rfl) rfl) strg s w ?_).mono ?_
  · intro W x hx hb
    refine (strange24 W x hx).mono ?_
    rintro e w' ⟨rfl, rfl⟩
    exact ⟨rfl, RowKit.Below.refl _ _⟩
  · rintro e w' ⟨rfl, hb⟩
    exact ⟨by rw [← strange_iff hv, idx_any strg s hv], Keeps.ofBelow hb⟩

theorem isWord45 (w : World) (hT : Lib.Utf8Tabs 0 1 w) (s : ByteArray) (hs : s.size ≤ 9223372036854775807) :
    Calls Tryd.prog 45 #[.string s] w fun e w' => e = .returned (.bool (gdW s.data.toList)) ∧ Keeps (fun _ => False) w w' := by
  obtain ⟨E0, hE0⟩ : ∃ E0 : ByteArray, E0 = ⟨#[]⟩ := ⟨_, rfl⟩
  obtain ⟨R, hR⟩ : ∃ R, gdW s.data.toList = R := ⟨_, rfl⟩
  have hg := gdW_eq s.data.toList
  rw [hR] at hg ⊢
  have hv := valid11 w hT s hs
  obtain ⟨V, hV⟩ : ∃ V, vd s.data.toList = V := ⟨_, rfl⟩
  rw [hV] at hv hg
  by_cases h0 : s.data.toList = []
  · have t0 : (s.toList == E0.toList) = true := by
      have := bs_eq (x := s.data.toList) (y := []) E0 (by rw [hE0]; rfl)
      rw [bs_self, decide_eq_true h0] at this; exact this
    have HR : Hid (R = false) := by show _ = _; rw [hg]; simp [h0]
    clear hg hR hV h0 hv
    go_enter Tryd.func45, Tryd.ntmps45
    rw [← hE0]
    clear hE0
    go_wp2
    go_ret
    exact ⟨by rw [HR.out]; rfl, Keeps.refl _ _⟩
  · have t0 : (s.toList == E0.toList) = false := by
      have := bs_ne h0 E0 hE0
      rw [bs_self] at this; exact this
    cases V with
    | false =>
      have HR : Hid (R = false) := by show _ = _; rw [hg]; simp
      clear hg hR hV h0
      go_enter Tryd.func45, Tryd.ntmps45
      rw [← hE0]
      clear hE0
      go_wp2_with (go_at_call 22; refine hv.mono ?_; rintro e w1 ⟨rfl, k1⟩)
      go_ret
      exact ⟨by rw [HR.out]; rfl, k1⟩
    | true =>
      have hc := fun w => contains_brk w s hV
      obtain ⟨C, hC⟩ : ∃ C, (sg s.data.toList).any (fun v => brk v.toNat) = C := ⟨_, rfl⟩
      rw [hC] at hg hc
      have HR : Hid (R = !C) := by show _ = _; rw [hg]; simp [h0]
      clear hg hR hV h0 hC
      cases C
      all_goals
        go_enter Tryd.func45, Tryd.ntmps45
        rw [← hE0]
        clear hE0
        go_wp2_with (first
          | (have hh := q2; clear q2; go_at_call 23; refine (hc _).mono ?_; rintro e w2 ⟨rfl, k2⟩)
          | (go_at_call 22; refine hv.mono ?_; rintro e w1 ⟨rfl, k1⟩; have q2 : Hid True := trivial))
        go_ret
        exact ⟨by rw [HR.out]; rfl, k1.trans k2⟩
end

/-! Xh: Parts as lines; may parts be: the program's side. -/
section
open Go.RowKit Go.Sort Go.Shelf
attribute [local go_sem] Oper.semAt_some

theorem wpList_box41 {ops : Array Oper} {rest : List Oper} {o : Oper} {a : Act} {w : World} {Q : Exit → Act → World → Prop} (hgd : o.guard = none) (x : Operand) (ho : o.op = .box 41 x) (k : Int) (ad : Option Addr) (n c : Nat) (hx : a.eval x = .agg #[.int .i64 k, .slice ad n c])
    (h : ∀ g w', PrAt w' g (k, .slice ad n c) → w.heap.size ≤ g → Keeps (fun _ => False) w w' → wpList Tryd.prog ops Q rest (a.put o.dst (.pointer (some ⟨g, 0, none⟩))) w') : wpList Tryd.prog ops Q (o :: rest) a w := by
  refine wpList_plain hgd fun K hK => ?_
  unfold Oper.wp execOp
  simp only [ho, hx, newVar, newRow, Sem.run_bind, Result.andThen_ok, Sem.run_pure]
  exact hK _ _ (h w.heap.size _ ⟨heap_alloc_new w _⟩ (Nat.le_refl _) (keeps_alloc w _))

theorem bs_app (x y : List UInt8) : bs x ++ bs y = bs (x ++ y) := by
  rw [← bs_self (bs x ++ bs y), ByteArray.data_append, Array.toList_append, bs_data, bs_data]
theorem join_len (M : Nat) (sep : List UInt8) : ∀ (ws : List (List UInt8)), (∀ x ∈ ws, x.length ≤ M) → (Lib.join ws sep).length ≤ ws.length * (M + sep.length)
  | [], _ => by rw [Lib.join_nil]; simp
  | [x], h => by rw [Lib.join_one]; have := h x (by simp); simp; omega
  | x :: y :: r, h => by
    rw [join_cons2]
    have h1 := join_len M sep (y :: r) (fun z hz => h z (by simp [hz]))
    have h2 := h x (by simp)
    simp only [List.length_append, List.length_cons] at h1 ⊢
    have e : (r.length + 1 + 1) * (M + sep.length) = (r.length + 1) * (M + sep.length) + (M + sep.length) := by rw [Nat.succ_mul]
    omega

theorem join44 (w : World) (a : Option Addr) (m c : Nat) (ws : List (List UInt8)) (h : SlT w a m c ws) (hm : m ≤ 90000) (hw : ∀ x ∈ ws, x.length ≤ 90000) (e : UInt8) :
    Calls Tryd.prog 44 #[.slice a m c, .string ⟨#[e]⟩] w fun z w' => z = .returned (.string (bs (Lib.join ws [e]))) ∧ Keeps (fun _ => False) w w' := by
  by_cases h0 : m = 0
  · subst h0
    obtain rfl : ws = [] := List.eq_nil_of_length_eq_zero h.len
    refine (Tryd.strings_Join_none a c ⟨#[e]⟩ w).mono ?_
    rintro z w' ⟨rfl, rfl⟩
    exact ⟨by rw [Lib.join_nil]; rfl, Keeps.refl _ _⟩
  · obtain ⟨b, o, rfl, hb, hc⟩ := h.ent (by omega)
    have hl := h.len
    have hM : (ws.map bs).map (·.data.toList) = ws := by
      rw [List.map_map]
      conv => rhs; rw [← List.map_id ws]
      refine List.map_congr_left (fun x _ => ?_)
      show (bs x).data.toList = x
      rw [bs_data]
    have hj := join_len 90000 [e] ws hw
    have hq := Tryd.strings_Join b o c (ws.map bs) ⟨#[e]⟩ w (fun j x hx => by
      rw [List.getElem?_map] at hx
      cases hq : ws[j]? with
      | none => rw [hq] at hx; cases hx
      | some y =>
        rw [hq] at hx
        cases hx
        obtain ⟨b', o', e', hc'⟩ := h.at_ j y hq
        cases e'
        exact hc') hb (by rw [List.length_map, hl]; omega) (by rw [List.length_map, hl]; exact h.cap) (by
      rw [hM]
      refine Nat.le_trans hj ?_
      rw [hl]
      refine Nat.le_trans (Nat.mul_le_mul_right _ hm) ?_
      show 90000 * (90000 + 1) ≤ _
      omega)
    rw [List.length_map, hl, hM] at hq
    refine hq.mono ?_
    rintro z w' ⟨rfl, hk⟩
    exact ⟨rfl, Keeps.ofBelow hk⟩

set_option maxHeartbeats 4000000 in
/-- A part's line. -/
theorem written30 (w : World) (k : Int) (a : Option Addr) (m c : Nat) (ws : List (List UInt8)) (h : SlT w a m c ws) (hm : m ≤ 90000) (hw : ∀ x ∈ ws, x.length ≤ 90000) :
    Calls Tryd.prog 30 #[.agg #[.int .i64 k, .slice a m c]] w fun z w' => z = .returned (.string (bs (lineP (k, ws)))) ∧ Keeps (fun _ => False) w w' := by
  obtain ⟨A, hA⟩ : ∃ A, bs (mk k) = A := ⟨_, rfl⟩
  obtain ⟨B, hB⟩ : ∃ B, bs (Lib.join ws [32]) = B := ⟨_, rfl⟩
  have HR : Hid (bs (lineP (k, ws)) = A ++ B) := by show _ = _; rw [← hA, ← hB, bs_app]; rfl
  have hj := fun W (hW : Keeps (fun _ => False) w W) => join44 W a m c ws (h.keep hW) hm hw 32
  have hk := fun W => mark41 W k
  rw [hA] at hk
  rw [hB] at hj
  obtain ⟨E, hE⟩ : ∃ E : ByteArray, E = ⟨#[32]⟩ := ⟨_, rfl⟩
  rw [← hE] at hj
  have hAB : A.size + B.size ≤ 9223372036854775807 := by
    have h1 := join_len 90000 [32] ws hw
    have h2 : ws.length * (90000 + [(32 : UInt8)].length) ≤ 90000 * 90001 := Nat.mul_le_mul (by rw [h.len]; exact hm) (by simp)
    have h3 : (mk k).length ≤ 3 := by unfold mk; repeat' split
                                      all_goals simp
    rw [← hA, ← hB, bs_size, bs_size]
    omega
  clear hA hB
  go_enter Tryd.func30, Tryd.ntmps30
  rw [← hE]
  clear hE
  go_wp2_with (refine wpList_box41 rfl _ rfl k a m c rfl ?_; intro g w1 r1 z1 k1)
  have c0 : ∀ dd os, (grow (redrawn w1 dd) os).cell? ⟨g, 0, none⟩ = some (.int .i64 k) := fun dd os => cell_keeps (keeps_cls ⟨⟨dd, os⟩, rfl⟩) (by rw [cell_of_row w1 g 0 _ _ _ r1.row]; rfl) (fun h => h)
  have c1 : ∀ dd os, (grow (redrawn w1 dd) os).cell? ⟨g, 1, none⟩ = some (.slice a m c) := fun dd os => cell_keeps (keeps_cls ⟨⟨dd, os⟩, rfl⟩) (by rw [cell_of_row w1 g 1 _ _ _ r1.row]; rfl) (fun h => h)
  refine region_plan (S := fun w' => ∃ q : Regrown, w' = grow (redrawn w1 q.d) q.os) [([0, 1, 3, 4], 2), ([], 5), ([], 6)] [7] (by kernel_rfl) (by kernel_rfl) (by kernel_rfl) (by kernel_rfl) (cls_keeps ((Keeps.refl _ _).drew)) ?_
  have kd : Keeps (fun _ => False) w1 w1.drew := (Keeps.refl _ _).drew
  simp only [wpPlan, opsAt, pick]
  repeat (go_big_quiet_step (fail))
  refine wpQuiet_nil ?_
  go_wp2_with (go_at_call 41; refine (hk _).mono ?_; rintro e w' ⟨rfl, rfl⟩)
  refine ⟨cls_keeps kd, ?_⟩
  simp only [wpPlan, opsAt, pick]
  repeat (go_big_quiet_step (fail))
  refine wpQuiet_nil ?_
  go_wp2_with (go_at_call 44; refine (hj _ (k1.trans kd)).mono ?_; rintro e w3 ⟨rfl, k3⟩)
  have K3 := kd.trans k3
  refine ⟨cls_keeps K3, ?_⟩
  simp only [wpPlan, opsAt, pick]
  repeat (go_big_quiet_step (fail))
  refine wpQuiet_nil ?_
  go_wp2
  refine ⟨cls_keeps K3, ?_⟩
  simp only [wpPlan, opsAt, pick]
  repeat (go_big_quiet_step (fail))
  refine wpQuiet_nil ?_
  refine NoPanic.normal ?_
  go_wp2
  go_ret
  exact ⟨by rw [HR.out]; rfl, k1.trans K3⟩
end

/-! Xi: The program's Good. -/
section
open Go.RowKit Go.Sort Go.Shelf
attribute [local go_sem] Oper.semAt_some

theorem gdP_bad {k : Int} {ws : List (List UInt8)} (h : ws.all gdW = false) : gdP (k, ws) = false := by
  unfold gdP
  simp only
  rw [h]; simp
theorem gdP_eq {k : Int} {ws : List (List UInt8)} (h : ws.all gdW = true) : gdP (k, ws) = (!(decide (ws.length = 0) && decide (k ≠ 4)) && decide (knd (lineP (k, ws)) = k)) := by
  rw [part_eq k ws h]
  unfold gdP
  simp only
  rw [h, Bool.and_true]

set_option maxHeartbeats 8000000 in
theorem isPart33 (w : World) (hT : Lib.Utf8Tabs 0 1 w) (k : Int) (a : Option Addr) (m c : Nat) (ws : List (List UInt8)) (h : SlT w a m c ws) (hm : m ≤ 90000) (hw : ∀ x ∈ ws, x.length ≤ 90000) :
    Calls Tryd.prog 33 #[.agg #[.int .i64 k, .slice a m c]] w fun z w' => z = .returned (.bool (gdP (k, ws))) ∧ Keeps (fun _ => False) w w' := by
  obtain ⟨R, hR⟩ : ∃ R, gdP (k, ws) = R := ⟨_, rfl⟩
  have HR : Hid (gdP (k, ws) = R) := hR
  have HW := Hid.mk' hw
  have HM : Hid (ws.length = m) := h.len
  have hj := Hid.mk' (fun W (hW : Keeps (fun _ => False) w W) => written30 W k a m c ws (h.keep hW) hm hw)
  rw [hR]
  clear hR hw
  go_enter Tryd.func33, Tryd.ntmps33
  go_wp2_with (refine wpList_box41 rfl _ rfl k a m c rfl ?_; intro g w1 r1 z1 k1; have d0 : w1.cell? ⟨g, 0, none⟩ = some (.int .i64 k) := (by rw [cell_of_row w1 g 0 _ _ _ r1.row]; rfl); have d1 : w1.cell? ⟨g, 1, none⟩ = some (.slice a m c) := (by rw [cell_of_row w1 g 1 _ _ _ r1.row]; rfl))
  have K1 := Hid.mk' k1
  have D0 := Hid.mk' d0
  have D1 := Hid.mk' d1
  clear r1 z1 k1
  clear d0 d1
  go_loopw [8] (fun t wr => ∃ j : Nat, t = .int .i64 (j : Int) ∧ j ≤ m ∧ (ws.take j).all gdW = true ∧ Keeps (fun _ => False) w1 wr) (fun t _ => m - (intOf t).toNat)
  case atStart => exact ⟨0, rfl, by omega, by simp, Keeps.refl _ _⟩
  case round =>
    obtain ⟨j, rfl, hjm, hall, hk⟩ := hrel
    have Hall := Hid.mk' hall
    have HK := Hid.mk' hk
    have d0 := cell_keeps hk D0.out (fun h => h)
    have d1 := cell_keeps hk D1.out (fun h => h)
    clear hall
    by_cases hlt : j < m
    · have hlt' : (j : Int) < (m : Int) := by omega
      have hj0 : (0 : Int) ≤ (j : Int) := by omega
      obtain ⟨b, o, rfl, _, hcx⟩ := (h.keep (K1.out.trans hk)).ent2 hlt
      obtain ⟨x, hx⟩ : ∃ x, ws.getD j [] = x := ⟨_, rfl⟩
      rw [hx] at hcx
      have Hx := Hid.mk' hx
      have hxl : x.length ≤ 90000 := by
        rw [← hx, List.getD_eq_getElem?_getD, List.getElem?_eq_getElem (by rw [HM.out]; exact hlt)]
        exact HW.out _ (List.getElem_mem _)
      have hq := isWord45 wr (Tabs.keep (Tabs.keep hT K1.out) hk) (bs x) (by rw [bs_size]; omega)
      rw [bs_data] at hq
      obtain ⟨G, hG⟩ : ∃ G, gdW x = G := ⟨_, rfl⟩
      rw [hG] at hq
      obtain ⟨X, hX⟩ : ∃ X, bs x = X := ⟨_, rfl⟩
      rw [hX] at hcx hq
      cases G with
      | false =>
        have HR0 : Hid (R = false) := by
          show _ = _
          rw [← HR.out, gdP_bad (all_badW (by rw [HM.out]; exact hlt) (by rw [hx]; exact hG))]
        clear hx hX hxl hG hk d0 d1
        go_wp2_with (go_at_call 45; refine hq.mono ?_; rintro e w2 ⟨rfl, k2⟩)
        go_ret
        exact ⟨by rw [HR0.out]; rfl, (K1.out.trans HK.out).trans k2⟩
      | true =>
        have HA : Hid ((ws.take (j + 1)).all gdW = true) := by
          show _ = _
          rw [all_snocW (by rw [HM.out]; exact hlt), Hall.out, hx, hG]; rfl
        clear hx hX hxl hG hk d0 d1
        go_wp2_with (go_at_call 45; refine hq.mono ?_; rintro e w2 ⟨rfl, k2⟩)
        exact ⟨⟨j + 1, rfl, by omega, HA.out, HK.out.trans k2⟩, by simp [intOf]; omega⟩
    · obtain rfl : m = j := by omega
      have hlt' : ¬ (m : Int) < (m : Int) := by omega
      have hg := gdP_eq (k := k) (ws := ws) (by have := Hall.out; rwa [List.take_of_length_le (by rw [HM.out]; exact Nat.le_refl _)] at this)
      rw [HR.out, HM.out] at hg
      clear hlt hjm Hall hk
      by_cases hm0 : m = 0
      · have t0 : ((m : Int) == (0 : Int)) = true := by simp [hm0]
        by_cases hk4 : k = 4
        · have t1 : (k != (4 : Int)) = false := by simp [hk4]
          have HG : Hid (R = decide (knd (lineP (k, ws)) = k)) := by show _ = _; rw [hg]; simp [hk4]
          have Hjj := Hid.mk' (fun W (hW : Keeps (fun _ => False) wr W) => hj.out W ((K1.out.trans HK.out).trans hW))
          clear hg hj hm0 hk4
          have hq := fun W => kind40 W (bs (lineP (k, ws)))
          rw [bs_data] at hq
          obtain ⟨X, hX⟩ : ∃ X, bs (lineP (k, ws)) = X := ⟨_, rfl⟩
          obtain ⟨q, hqq⟩ : ∃ q, knd (lineP (k, ws)) = q := ⟨_, rfl⟩
          rw [hX, hqq] at hq
          have HX := Hid.mk' hX
          rw [hqq] at HG
          obtain ⟨r, hr, HR1⟩ : ∃ r, (q == k) = r ∧ Hid (R = r) := ⟨_, rfl, by show _ = _; rw [HG.out]; rfl⟩
          have f0 : ∀ dd os, (grow (redrawn wr dd) os).cell? ⟨g, 0, none⟩ = some (.int .i64 k) := fun dd os => cell_keeps (keeps_cls ⟨⟨dd, os⟩, rfl⟩) d0 (fun h => h)
          have kd : Keeps (fun _ => False) wr wr.drew := (Keeps.refl _ _).drew
          have c0 := cell_keeps kd d0 (fun h => h)
          have c1 := cell_keeps kd d1 (fun h => h)
          have Hjj2 : Hid (∀ W, Keeps (fun _ => False) wr W → _) := fun W hW => hX ▸ Hjj.out W hW
          clear HG hX hqq Hjj
          go_wp2_with fail
          refine region_plan (S := fun w' => ∃ q : Regrown, w' = grow (redrawn wr q.d) q.os) [([3, 4], 0), ([], 1), ([], 2)] [5, 6] (by kernel_rfl) (by kernel_rfl) (by kernel_rfl) (by kernel_rfl) (cls_keeps kd) ?_
          simp only [wpPlan, opsAt, pick]
          repeat (go_big_quiet_step (fail))
          refine wpQuiet_nil ?_
          go_wp2_with (refine wpList_load41 rfl _ rfl g 0 rfl _ _ c0 c1 ?_)
          refine ⟨cls_keeps kd, ?_⟩
          simp only [wpPlan, opsAt, pick]
          repeat (go_big_quiet_step (fail))
          refine wpQuiet_nil ?_
          go_wp2_with (go_at_call 30; refine (Hjj2.out _ kd).mono ?_; rintro e w2 ⟨rfl, k2⟩)
          have K2 := kd.trans k2
          refine ⟨cls_keeps K2, ?_⟩
          simp only [wpPlan, opsAt, pick]
          repeat (go_big_quiet_step (fail))
          refine wpQuiet_nil ?_
          go_wp2_with (go_at_call 40; refine (hq _).mono ?_; rintro e w' ⟨rfl, rfl⟩)
          refine ⟨cls_keeps K2, ?_⟩
          simp only [wpPlan, opsAt, pick]
          repeat (go_big_quiet_step (fail))
          refine wpQuiet_nil ?_
          refine NoPanic.normal ?_
          go_wp2
          go_ret
          exact ⟨by rw [HR1.out]; rfl, (K1.out.trans HK.out).trans K2⟩
        · have t1 : (k != (4 : Int)) = true := by simp [hk4]
          have HR0 : Hid (R = false) := by show _ = _; rw [hg]; simp [hk4, hm0]
          clear hg hj hm0 hk4
          go_wp2
          go_ret
          exact ⟨by rw [HR0.out]; rfl, K1.out.trans HK.out⟩
      · have t0 : ((m : Int) == (0 : Int)) = false := by simp; exact hm0
        have HG : Hid (R = decide (knd (lineP (k, ws)) = k)) := by show _ = _; rw [hg]; simp [hm0]
        have Hjj := Hid.mk' (fun W (hW : Keeps (fun _ => False) wr W) => hj.out W ((K1.out.trans HK.out).trans hW))
        clear hg hj hm0
        have hq := fun W => kind40 W (bs (lineP (k, ws)))
        rw [bs_data] at hq
        obtain ⟨X, hX⟩ : ∃ X, bs (lineP (k, ws)) = X := ⟨_, rfl⟩
        obtain ⟨q, hqq⟩ : ∃ q, knd (lineP (k, ws)) = q := ⟨_, rfl⟩
        rw [hX, hqq] at hq
        have HX := Hid.mk' hX
        rw [hqq] at HG
        obtain ⟨r, hr, HR1⟩ : ∃ r, (q == k) = r ∧ Hid (R = r) := ⟨_, rfl, by show _ = _; rw [HG.out]; rfl⟩
        have f0 : ∀ dd os, (grow (redrawn wr dd) os).cell? ⟨g, 0, none⟩ = some (.int .i64 k) := fun dd os => cell_keeps (keeps_cls ⟨⟨dd, os⟩, rfl⟩) d0 (fun h => h)
        have kd : Keeps (fun _ => False) wr wr.drew := (Keeps.refl _ _).drew
        have c0 := cell_keeps kd d0 (fun h => h)
        have c1 := cell_keeps kd d1 (fun h => h)
        have Hjj2 : Hid (∀ W, Keeps (fun _ => False) wr W → _) := fun W hW => hX ▸ Hjj.out W hW
        clear HG hX hqq Hjj
        go_wp2_with fail
        refine region_plan (S := fun w' => ∃ q : Regrown, w' = grow (redrawn wr q.d) q.os) [([3, 4], 0), ([], 1), ([], 2)] [5, 6] (by kernel_rfl) (by kernel_rfl) (by kernel_rfl) (by kernel_rfl) (cls_keeps kd) ?_
        simp only [wpPlan, opsAt, pick]
        repeat (go_big_quiet_step (fail))
        refine wpQuiet_nil ?_
        go_wp2_with (refine wpList_load41 rfl _ rfl g 0 rfl _ _ c0 c1 ?_)
        refine ⟨cls_keeps kd, ?_⟩
        simp only [wpPlan, opsAt, pick]
        repeat (go_big_quiet_step (fail))
        refine wpQuiet_nil ?_
        go_wp2_with (go_at_call 30; refine (Hjj2.out _ kd).mono ?_; rintro e w2 ⟨rfl, k2⟩)
        have K2 := kd.trans k2
        refine ⟨cls_keeps K2, ?_⟩
        simp only [wpPlan, opsAt, pick]
        repeat (go_big_quiet_step (fail))
        refine wpQuiet_nil ?_
        go_wp2_with (go_at_call 40; refine (hq _).mono ?_; rintro e w' ⟨rfl, rfl⟩)
        refine ⟨cls_keeps K2, ?_⟩
        simp only [wpPlan, opsAt, pick]
        repeat (go_big_quiet_step (fail))
        refine wpQuiet_nil ?_
        refine NoPanic.normal ?_
        go_wp2
        go_ret
        exact ⟨by rw [HR1.out]; rfl, (K1.out.trans HK.out).trans K2⟩
end

/-! Xj: The program's Good and Source. -/
section
open Go.RowKit Go.Sort Go.Shelf
attribute [local go_sem] Oper.semAt_some

set_option maxHeartbeats 8000000 in
theorem pgood16 (w : World) (hT : Lib.Utf8Tabs 0 1 w) (a : Option Addr) (n c : Nat) (P : List Pt) (hl : SlP w a n c P) (hn : n ≤ 100000) (hP : ∀ p ∈ P, p.2.length ≤ 90000 ∧ ∀ x ∈ p.2, x.length ≤ 90000) :
    Calls Tryd.prog 16 #[.slice a n c] w fun e w' => e = .returned (.bool (gdL P)) ∧ Keeps (fun _ => False) w w' := by
  obtain ⟨R, hR⟩ : ∃ R, gdL P = R := ⟨_, rfl⟩
  have HR : Hid (P.all gdP = R) := hR
  have HP := Hid.mk' hP
  have HL : Hid (P.length = n) := hl.len
  rw [hR]
  clear hR hP
  go_enter Tryd.func16, Tryd.ntmps16
  go_wp2
  go_loopw [7] (fun t wr => ∃ i : Nat, t = .int .i64 (i : Int) ∧ i ≤ n ∧ (P.take i).all gdP = true ∧ Keeps (fun _ => False) w wr) (fun t _ => n - (intOf t).toNat)
  case atStart => exact ⟨0, rfl, by omega, by simp, Keeps.refl _ _⟩
  case round =>
    obtain ⟨i, rfl, hi, hall, hk⟩ := hrel
    have Hall := Hid.mk' hall
    have HK := Hid.mk' hk
    clear hall
    by_cases hlt : i < n
    · have hlt' : (i : Int) < (n : Int) := by omega
      have hi0 : (0 : Int) ≤ (i : Int) := by omega
      obtain ⟨p, hp⟩ : ∃ p, P[i]? = some p := ⟨_, List.getElem?_eq_getElem (by rw [hl.len]; exact hlt)⟩
      have Hp : Hid (P.getD i (0, []) = p) := by show _ = _; rw [List.getD_eq_getElem?_getD, hp]; rfl
      obtain ⟨hp1, hp2⟩ := HP.out p (List.mem_of_getElem? hp)
      obtain ⟨b1, o1, rfl, h1, a1, m, c1, h2, s1, _⟩ := (hl.keep hk).at_ i p hp
      obtain ⟨k, ws⟩ := p
      simp only at h1 h2 s1 hp1 hp2
      have hm9 : m ≤ 90000 := by rw [← s1.len]; exact hp1
      have hq := Hid.mk' (fun W (hW : Keeps (fun _ => False) wr W) => isPart33 W (Tabs.keep (Tabs.keep hT hk) hW) k a1 m c1 ws (s1.keep hW) hm9 hp2)
      obtain ⟨G, hG⟩ : ∃ G, gdP (k, ws) = G := ⟨_, rfl⟩
      rw [hG] at hq
      have HF : Hid (G = false → R = false) := fun h => by rw [← HR.out]; exact all_badP (by rw [HL.out]; exact hlt) (by rw [Hp.out, hG]; exact h)
      have HA : Hid (G = true → (P.take (i + 1)).all gdP = true) := fun h => by rw [all_snocP (by rw [HL.out]; exact hlt), Hall.out, Hp.out, hG, h]; rfl
      clear hp hp1 hp2 s1 hG hm9 hk
      cases G with
      | false =>
        have HR0 : Hid (R = false) := HF.out rfl
        clear HF HA
        go_wp2_with (first
          | (have hh := h1; clear h1; refine wpList_load41 rfl _ rfl b1 (o1 + i * 2) rfl _ _ hh h2 ?_; clear hh; have hL : Hid True := trivial)
          | (have hh := hL; clear hL; refine wpList_alloc41 rfl rfl ?_; intro g w2 r2 z2 k2)
          | (have hh := r2; clear r2; refine wpList_store41 rfl _ _ rfl g rfl k a1 m c1 rfl _ hh ?_; intro w3 r3 k3; clear hh; have q0 : w3.cell? ⟨g, 0, none⟩ = some (.int .i64 k) := (by rw [cell_of_row w3 g 0 _ _ _ r3.row]; rfl); have q1 : w3.cell? ⟨g, 1, none⟩ = some (.slice a1 m c1) := (by rw [cell_of_row w3 g 1 _ _ _ r3.row]; rfl); have K3 : Hid (Keeps (fun _ => False) wr w3) := k2.trans' k3 (fun k e => .inr (by omega)))
          | (have hh := q0; clear q0; refine wpList_load41 rfl _ rfl g 0 rfl _ _ hh q1 ?_; have hC : Hid True := trivial)
          | (have hh := hC; clear hC; go_at_call 33; refine (hq.out _ K3.out).mono ?_; rintro e w4 ⟨rfl, k4⟩))
        go_ret
        exact ⟨by rw [HR0.out]; rfl, (HK.out.trans K3.out).trans k4⟩
      | true =>
        have HA0 := Hid.mk' (HA.out rfl)
        clear HF HA
        go_wp2_with (first
          | (have hh := h1; clear h1; refine wpList_load41 rfl _ rfl b1 (o1 + i * 2) rfl _ _ hh h2 ?_; clear hh; have hL : Hid True := trivial)
          | (have hh := hL; clear hL; refine wpList_alloc41 rfl rfl ?_; intro g w2 r2 z2 k2)
          | (have hh := r2; clear r2; refine wpList_store41 rfl _ _ rfl g rfl k a1 m c1 rfl _ hh ?_; intro w3 r3 k3; clear hh; have q0 : w3.cell? ⟨g, 0, none⟩ = some (.int .i64 k) := (by rw [cell_of_row w3 g 0 _ _ _ r3.row]; rfl); have q1 : w3.cell? ⟨g, 1, none⟩ = some (.slice a1 m c1) := (by rw [cell_of_row w3 g 1 _ _ _ r3.row]; rfl); have K3 : Hid (Keeps (fun _ => False) wr w3) := k2.trans' k3 (fun k e => .inr (by omega)))
          | (have hh := q0; clear q0; refine wpList_load41 rfl _ rfl g 0 rfl _ _ hh q1 ?_; have hC : Hid True := trivial)
          | (have hh := hC; clear hC; go_at_call 33; refine (hq.out _ K3.out).mono ?_; rintro e w4 ⟨rfl, k4⟩))
        exact ⟨⟨i + 1, rfl, by omega, HA0.out, (HK.out.trans K3.out).trans k4⟩, by simp [intOf]; omega⟩
    · obtain rfl : i = n := by omega
      have hlt' : ¬ (i : Int) < (i : Int) := by omega
      have HR0 : Hid (R = true) := by
        show _ = _
        have h := Hall.out
        rw [List.take_of_length_le (by rw [HL.out]; exact Nat.le_refl _)] at h
        rw [← HR.out, h]
      clear hk hlt hi Hall
      go_wp2
      go_ret
      exact ⟨by rw [HR0.out]; rfl, HK.out⟩

/-! A strings.Builder. -/
/-- In block b, the builder that has the text l; what is its own lies from B on. -/
structure Bd (w : World) (B b : Nat) (l : List UInt8) : Prop where
  is : Lib.IsBuilderF 58 5 B b (Lib.byteCells l) w
theorem Bd.keep {w w' : World} {B b : Nat} {l : List UInt8} (h : Bd w B b l) (k : Keeps (fun _ => False) w w') : Bd w' B b l := by
  have key : ∀ p, Lib.BuilderAtF 58 5 B b p (Lib.byteCells l) w → Lib.BuilderAtF 58 5 B b p (Lib.byteCells l) w' := by
    rintro p ⟨hB, v, h1, h2, h3⟩
    refine ⟨hB, v, k.row h1 (fun h => h), h2.kept (grown_of_keeps k) ?_, h3⟩
    cases v.ownBlock with
    | none => exact .inl rfl
    | some g => exact .inr (by simp)
  exact ⟨h.is.elim (fun x => .inl (key _ x)) (fun x => .inr (key _ x))⟩
theorem Bd.new {w : World} {b : Nat} (h : w.heap[b]? = some (.cells #[.pointer none, .slice none 0 0] 58 (0, 0))) {B : Nat} (hB : B ≤ b) : Bd w B b [] :=
  ⟨.inl ⟨hB, _, h, World.ownsRowF_nil w B 5 1, by simp [Value.ownBlock]⟩⟩
theorem zero58 (w : World) : (zeroValue 58).run Tryd.prog w = .ok (.agg #[.pointer none, .slice none 0 0]) w := by kernel_rfl
theorem wpList_alloc58 {ops : Array Oper} {rest : List Oper} {o : Oper} {a : Act} {w : World} {Q : Exit → Act → World → Prop} (hgd : o.guard = none) (ho : o.op = .alloc 58)
    (h : ∀ g w', Bd w' w.heap.size g [] → w.heap.size ≤ g → Keeps (fun _ => False) w w' → wpList Tryd.prog ops Q rest (a.put o.dst (.pointer (some ⟨g, 0, none⟩))) w') : wpList Tryd.prog ops Q (o :: rest) a w := by
  refine wpList_plain hgd fun K hK => ?_
  unfold Oper.wp execOp
  simp only [ho, Instr.alloc, zero58, newVar, newRow, Sem.run_bind, Result.andThen_ok, Sem.run_pure]
  exact hK _ _ (h w.heap.size _ (Bd.new (heap_alloc_new w _) (Nat.le_refl _)) (Nat.le_refl _) (keeps_alloc w _))
theorem bwrite29 (w : World) (B b : Nat) (l : List UInt8) (x : List UInt8) (h : Bd w B b l) (hB : B ≤ w.heap.size) (hl : l.length + x.length ≤ 140737488355328) :
    Calls Tryd.prog 29 #[.pointer (some ⟨b, 0, none⟩), .string (bs x)] w fun e w' => (∃ v, e = .returned v) ∧ Bd w' B b (l ++ x) ∧ Keeps (fun k => B ≤ k) w w' ∧ ∀ g z, PrAt w g z → PrAt w' g z := by
  refine (Tryd.Builder_WriteString_k B b _ (bs x) w h.is (by rw [Lib.byteCells_length, bs_size]; exact hl) hB).mono ?_
  rintro e w' ⟨rfl, h1, h2, h3⟩
  refine ⟨⟨_, rfl⟩, ⟨.inr (by rw [Lib.byteCells_append]; rw [Lib.strCells_eq, bs_data] at h1; exact h1)⟩, ⟨h2.os, h2.tape, h2.output, h2.size, fun k hk hs => h2.block k (Nat.lt_of_not_le hs)⟩, fun g z hg => ⟨?_⟩⟩
  refine h3 g _ hg.row (fun e => ?_) (fun c fz e => by cases e)
  obtain ⟨q, _, v, hv, _⟩ : ∃ q, Lib.BuilderAtF 58 5 B b q (Lib.byteCells l) w := h.is.elim (fun x => ⟨_, x⟩) (fun x => ⟨_, x⟩)
  cases e
  have := hg.row
  rw [hv] at this
  simp at this
theorem blen31 (w : World) (B b : Nat) (l : List UInt8) (h : Bd w B b l) : Calls Tryd.prog 31 #[.pointer (some ⟨b, 0, none⟩)] w fun e w' => e = .returned (.int .i64 (l.length : Int)) ∧ w' = w := by
  have := Tryd.Builder_Len_f B b _ w h.is
  rw [Lib.byteCells_length] at this
  exact this
theorem bstr32 (w : World) (B b : Nat) (l : List UInt8) (h : Bd w B b l) (hB : B ≤ w.heap.size) :
    Calls Tryd.prog 32 #[.pointer (some ⟨b, 0, none⟩)] w fun e w' => e = .returned (.string (bs l)) ∧ Keeps (fun k => B ≤ k) w w' := by
  refine (Tryd.Builder_String_any_k B b l w h.is hB).mono ?_
  rintro e w' ⟨rfl, _, h2, _⟩
  exact ⟨rfl, ⟨h2.os, h2.tape, h2.output, h2.size, fun k hk hs => h2.block k (Nat.lt_of_not_le hs)⟩⟩

/-- What Source tells. -/
def srcR (P : List Pt) : List UInt8 × Int := if gdL P = true ∧ (srcL P).length ≤ 240 then (srcL P, 0) else ([], 11)
theorem srcL_snoc {P : List Pt} {i : Nat} (hi : i < P.length) : srcL (P.take (i + 1)) = srcL (P.take i) ++ ((if i = 0 then [] else [10, 10]) ++ lineP (P.getD i (0, []))) := by
  unfold srcL
  rw [List.take_succ, List.getElem?_eq_getElem hi, List.getD_eq_getElem?_getD, List.getElem?_eq_getElem hi, List.map_append]
  show Lib.join (List.map lineP (List.take i P) ++ [lineP P[i]]) _ = _
  rw [join_snoc]
  congr 2
  by_cases h0 : i = 0
  · subst h0; rfl
  · rw [if_neg h0, if_neg]
    intro e
    have := congrArg List.length e
    rw [List.length_map, List.length_take, List.length_nil] at this
    omega
theorem srcL_mono {P : List Pt} : ∀ (d i : Nat), i + d = P.length → (srcL (P.take i)).length ≤ (srcL P).length
  | 0, i, h => by rw [List.take_of_length_le (by omega)]; exact Nat.le_refl _
  | d + 1, i, h => by
    refine Nat.le_trans ?_ (srcL_mono d (i + 1) (by omega))
    rw [srcL_snoc (by omega), List.length_append]
    omega
end

/-! Xk: The program's Source. -/
section
open Go.RowKit Go.Sort Go.Shelf
attribute [local go_sem] Oper.semAt_some

set_option maxHeartbeats 8000000 in
theorem psource13 (w : World) (hT : Lib.Utf8Tabs 0 1 w) (a : Option Addr) (n c : Nat) (P : List Pt) (hl : SlP w a n c P) (hn : n ≤ 100000) (hP : ∀ p ∈ P, p.2.length ≤ 90000 ∧ ∀ x ∈ p.2, x.length ≤ 90000) :
    Calls Tryd.prog 13 #[.slice a n c] w fun e w' => e = .returned (.tuple #[.string (bs (srcR P).1), .int .i64 (srcR P).2]) ∧ Keeps (fun _ => False) w w' := by
  have hg := pgood16 w hT a n c P hl hn hP
  obtain ⟨G, hG⟩ : ∃ G, gdL P = G := ⟨_, rfl⟩
  rw [hG] at hg
  have HP := Hid.mk' hP
  have HL : Hid (P.length = n) := hl.len
  obtain ⟨E0, hE0⟩ : ∃ E0 : ByteArray, E0 = ⟨#[]⟩ := ⟨_, rfl⟩
  obtain ⟨E1, hE1⟩ : ∃ E1 : ByteArray, E1 = ⟨#[10, 10]⟩ := ⟨_, rfl⟩
  cases G with
  | false =>
    have HR : Hid (srcR P = ([], 11)) := by show _ = _; unfold srcR; rw [if_neg (by rw [hG]; simp)]
    rw [HR.out]
    clear hG hP hE1
    go_enter Tryd.func13, Tryd.ntmps13
    rw [← hE0]
    go_wp2_with (go_at_call 16; refine hg.mono ?_; rintro e w1 ⟨rfl, k1⟩)
    go_ret2
    exact ⟨by rw [hE0]; rfl, k1⟩
  | true =>
    have HR : Hid (srcR P = if (srcL P).length ≤ 240 then (srcL P, 0) else ([], 11)) := by show _ = _; unfold srcR; simp [hG]
    clear hG hP
    go_enter Tryd.func13, Tryd.ntmps13
    rw [← hE0, ← hE1]
    go_wp2_with (first
      | (have hh := h1; clear h1; refine wpList_alloc58 rfl rfl ?_; intro b w2 b2 z2 k2)
      | (go_at_call 16; refine hg.mono ?_; rintro e w1 ⟨rfl, k1⟩; have h1 : Hid True := trivial))
    obtain ⟨B, hB⟩ : ∃ B, w1.heap.size = B := ⟨_, rfl⟩
    rw [hB] at b2 z2
    have HwB : Hid (w.heap.size ≤ B) := by show _ ≤ _; rw [← hB]; exact k1.size
    have HK2 : Hid (Keeps (fun _ => False) w w2) := k1.trans k2
    have HB2 : Hid (B ≤ w2.heap.size) := by show _ ≤ _; rw [← hB]; exact k2.size
    have hw1 := fun W l (h : Bd W B b l) (hB : B ≤ W.heap.size) h2 => bwrite29 W B b l [10, 10] h hB h2
    rw [show bs [10, 10] = E1 by rw [hE1]; rfl] at hw1
    have hs2 : Bd w2 B b (srcL (P.take 0)) := b2
    clear hh k1 k2 hB z2 hg hE1 b2
    go_loopw [12] (fun t wr => ∃ i : Nat, t = .int .i64 (i : Int) ∧ i ≤ n ∧ Bd wr B b (srcL (P.take i)) ∧ (srcL (P.take i)).length ≤ 240 ∧ Keeps (fun _ => False) w wr ∧ B ≤ wr.heap.size) (fun t _ => n - (intOf t).toNat)
    case atStart => exact ⟨0, rfl, by omega, hs2, by show 0 ≤ 240; omega, HK2.out, HB2.out⟩
    case round =>
    clear hs2
    obtain ⟨i, rfl, hi, hb, hl240, hk, hBr⟩ := hrel
    by_cases hlt : i < n
    · have hlt' : (i : Int) < (n : Int) := by omega
      have hi0' : (0 : Int) ≤ (i : Int) := by omega
      obtain ⟨p, hp⟩ : ∃ p, P[i]? = some p := ⟨_, List.getElem?_eq_getElem (by rw [hl.len]; exact hlt)⟩
      have hpp : P.getD i (0, []) = p := by rw [List.getD_eq_getElem?_getD, hp]; rfl
      obtain ⟨hp1, hp2⟩ := HP.out p (List.mem_of_getElem? hp)
      obtain ⟨b1, o1, rfl, h1w, a1, m, c1, h2w, s1, _⟩ := hl.at_ i p hp
      obtain ⟨k, ws⟩ := p
      simp only at h1w h2w s1 hp1 hp2
      have h1 := cell_keeps hk h1w (fun h => h)
      have h2 := cell_keeps hk h2w (fun h => h)
      have hm9 : m ≤ 90000 := by rw [← s1.len]; exact hp1
      have hq := Hid.mk' (fun W (hW : Keeps (fun _ => False) w W) => written30 W k a1 m c1 ws (s1.keep hW) hm9 hp2)
      obtain ⟨L, hL⟩ : ∃ L, srcL (P.take i) = L := ⟨_, rfl⟩
      obtain ⟨N, hN⟩ : ∃ N, srcL (P.take (i + 1)) = N := ⟨_, rfl⟩
      obtain ⟨X, hX⟩ : ∃ X, lineP (k, ws) = X := ⟨_, rfl⟩
      have hXl : X.length ≤ 8200000000 := by
        rw [← hX]
        have e1 := join_len 90000 [32] ws hp2
        have e2 : ws.length * (90000 + [(32 : UInt8)].length) ≤ 90000 * 90001 := Nat.mul_le_mul hp1 (by simp)
        have e3 : (mk k).length ≤ 3 := by
          unfold mk
          repeat' split
          all_goals simp
        unfold lineP
        simp only [List.length_append]
        omega
      have HN : Hid (N = L ++ ((if i = 0 then [] else [10, 10]) ++ X)) := by show _ = _; rw [← hN, srcL_snoc (by rw [HL.out]; exact hlt), hL, hpp, hX]
      have HM : Hid (N.length ≤ (srcL P).length) := by show _ ≤ _; rw [← hN]; exact srcL_mono (P.length - (i + 1)) (i + 1) (by have := HL.out; omega)
      rw [hX] at hq
      rw [hL] at hb hl240
      clear hp hpp hp1 hp2 s1 hm9 h1w h2w hX
      by_cases hN240 : N.length ≤ 240
      · have hN240' : ¬ (240 : Int) < (N.length : Int) := by omega
        by_cases hi0 : i = 0
        · have t0 : ¬ (0 : Int) < (i : Int) := by omega
          have HN2 : Hid (L ++ X = N) := by show _ = _; rw [HN.out, if_pos hi0, List.nil_append]
          have HLl : Hid (L.length + X.length ≤ 140737488355328) := by show _ ≤ _; omega
          clear HN hi0
          go_wp2_with (first
        | (have hh := y8; clear y8; go_at_call 31; refine (blen31 _ B b _ b6).mono ?_; rintro e w' ⟨rfl, rfl⟩)
        | (have hh := y7; clear y7; go_at_call 29; refine (bwrite29 _ B b _ X b5 zB5 HLl.out).mono ?_; rintro e w6 ⟨⟨v6, rfl⟩, b6, k6, _⟩; rw [HN2.out] at b6; have K6 : Hid (Keeps (fun _ => False) w w6) := K5.out.trans' k6 (fun k e => .inr (Nat.le_trans HwB.out e)); have zB6 : B ≤ w6.heap.size := Nat.le_trans zB5 k6.size; have y8 : Hid True := trivial)
        | (have hh := y6; clear y6; go_at_call 30; refine (hq.out _ K3.out).mono ?_; rintro e w5 ⟨rfl, k5⟩; have b5 := b4.keep k5; have K5 : Hid (Keeps (fun _ => False) w w5) := K3.out.trans k5; have zB5 : B ≤ w5.heap.size := Nat.le_trans zB4 k5.size; have y7 : Hid True := trivial)
        | (have hh := q0; clear q0; refine wpList_load41 rfl _ rfl g 0 rfl _ _ hh q1 ?_; have y6 : Hid True := trivial)
        | (have hh := r2; clear r2; refine wpList_store41 rfl _ _ rfl g rfl k a1 m c1 rfl _ hh ?_; intro w3 r3 k3; clear hh; have kk3 : Keeps (fun _ => False) wr w3 := k2.trans' k3 (fun k e => .inr (by omega)); have K3 : Hid (Keeps (fun _ => False) w w3) := hk.trans kk3; have b3 := hb.keep kk3; have zB3 : B ≤ w3.heap.size := Nat.le_trans hBr kk3.size; have b4 := b3; have zB4 := zB3; have q0 : w3.cell? ⟨g, 0, none⟩ = some (.int .i64 k) := (by rw [cell_of_row w3 g 0 _ _ _ r3.row]; rfl); have q1 : w3.cell? ⟨g, 1, none⟩ = some (.slice a1 m c1) := (by rw [cell_of_row w3 g 1 _ _ _ r3.row]; rfl))
        | (have hh := y1; clear y1; refine wpList_alloc41 rfl rfl ?_; intro g w2 r2 z2 k2)
        | (have hh := h1; clear h1; refine wpList_load41 rfl _ rfl b1 (o1 + i * 2) rfl _ _ hh h2 ?_; clear hh; have y1 : Hid True := trivial))
          exact ⟨⟨i + 1, rfl, by omega, by rw [hN]; exact b6, by rw [hN]; exact hN240, K6.out, zB6⟩, by simp [intOf]; omega⟩
        · have t0 : (0 : Int) < (i : Int) := by omega
          have HN2 : Hid ((L ++ [10, 10]) ++ X = N) := by show _ = _; rw [HN.out, if_neg hi0, List.append_assoc]
          have HLl : Hid ((L ++ [10, 10]).length + X.length ≤ 140737488355328) := by show _ ≤ _; simp; omega
          have H2l : Hid (L.length + ([10, 10] : List UInt8).length ≤ 140737488355328) := by show _ ≤ _; simp; omega
          clear HN hi0
          go_wp2_with (first
        | (have hh := y8; clear y8; go_at_call 31; refine (blen31 _ B b _ b6).mono ?_; rintro e w' ⟨rfl, rfl⟩)
        | (have hh := y7; clear y7; go_at_call 29; refine (bwrite29 _ B b _ X b5 zB5 HLl.out).mono ?_; rintro e w6 ⟨⟨v6, rfl⟩, b6, k6, _⟩; rw [HN2.out] at b6; have K6 : Hid (Keeps (fun _ => False) w w6) := K5.out.trans' k6 (fun k e => .inr (Nat.le_trans HwB.out e)); have zB6 : B ≤ w6.heap.size := Nat.le_trans zB5 k6.size; have y8 : Hid True := trivial)
        | (have hh := y6; clear y6; go_at_call 30; refine (hq.out _ K4.out).mono ?_; rintro e w5 ⟨rfl, k5⟩; have b5 := b4.keep k5; have K5 : Hid (Keeps (fun _ => False) w w5) := K4.out.trans k5; have zB5 : B ≤ w5.heap.size := Nat.le_trans zB4 k5.size; have y7 : Hid True := trivial)
        | (have hh := q0; clear q0; refine wpList_load41 rfl _ rfl g 0 rfl _ _ hh q1 ?_; have y6 : Hid True := trivial)
        | (have hh := y4; clear y4; go_at_call 29; refine (hw1 w3 L b3 zB3 H2l.out).mono ?_; rintro e w4 ⟨⟨v4, rfl⟩, b4, k4, p4⟩; have r4 := p4 g _ r3; have K4 : Hid (Keeps (fun _ => False) w w4) := K3.out.trans' k4 (fun k e => .inr (Nat.le_trans HwB.out e)); have zB4 : B ≤ w4.heap.size := Nat.le_trans zB3 k4.size; have q0 : w4.cell? ⟨g, 0, none⟩ = some (.int .i64 k) := (by rw [cell_of_row w4 g 0 _ _ _ r4.row]; rfl); have q1 : w4.cell? ⟨g, 1, none⟩ = some (.slice a1 m c1) := (by rw [cell_of_row w4 g 1 _ _ _ r4.row]; rfl))
        | (have hh := r2; clear r2; refine wpList_store41 rfl _ _ rfl g rfl k a1 m c1 rfl _ hh ?_; intro w3 r3 k3; clear hh; have kk3 : Keeps (fun _ => False) wr w3 := k2.trans' k3 (fun k e => .inr (by omega)); have K3 : Hid (Keeps (fun _ => False) w w3) := hk.trans kk3; have b3 := hb.keep kk3; have zB3 : B ≤ w3.heap.size := Nat.le_trans hBr kk3.size; have y4 : Hid True := trivial)
        | (have hh := y1; clear y1; refine wpList_alloc41 rfl rfl ?_; intro g w2 r2 z2 k2)
        | (have hh := h1; clear h1; refine wpList_load41 rfl _ rfl b1 (o1 + i * 2) rfl _ _ hh h2 ?_; clear hh; have y1 : Hid True := trivial))
          exact ⟨⟨i + 1, rfl, by omega, by rw [hN]; exact b6, by rw [hN]; exact hN240, K6.out, zB6⟩, by simp [intOf]; omega⟩
      · have HR0 : Hid (srcR P = ([], 11)) := by show _ = _; rw [HR.out, if_neg (by have := HM.out; omega)]
        have hN240' : (240 : Int) < (N.length : Int) := by omega
        by_cases hi0 : i = 0
        · have t0 : ¬ (0 : Int) < (i : Int) := by omega
          have HN2 : Hid (L ++ X = N) := by show _ = _; rw [HN.out, if_pos hi0, List.nil_append]
          have HLl : Hid (L.length + X.length ≤ 140737488355328) := by show _ ≤ _; omega
          clear HN hi0
          clear hN
          go_wp2_with (first
        | (have hh := y8; clear y8; go_at_call 31; refine (blen31 _ B b _ b6).mono ?_; rintro e w' ⟨rfl, rfl⟩)
        | (have hh := y7; clear y7; go_at_call 29; refine (bwrite29 _ B b _ X b5 zB5 HLl.out).mono ?_; rintro e w6 ⟨⟨v6, rfl⟩, b6, k6, _⟩; rw [HN2.out] at b6; have K6 : Hid (Keeps (fun _ => False) w w6) := K5.out.trans' k6 (fun k e => .inr (Nat.le_trans HwB.out e)); have zB6 : B ≤ w6.heap.size := Nat.le_trans zB5 k6.size; have y8 : Hid True := trivial)
        | (have hh := y6; clear y6; go_at_call 30; refine (hq.out _ K3.out).mono ?_; rintro e w5 ⟨rfl, k5⟩; have b5 := b4.keep k5; have K5 : Hid (Keeps (fun _ => False) w w5) := K3.out.trans k5; have zB5 : B ≤ w5.heap.size := Nat.le_trans zB4 k5.size; have y7 : Hid True := trivial)
        | (have hh := q0; clear q0; refine wpList_load41 rfl _ rfl g 0 rfl _ _ hh q1 ?_; have y6 : Hid True := trivial)
        | (have hh := r2; clear r2; refine wpList_store41 rfl _ _ rfl g rfl k a1 m c1 rfl _ hh ?_; intro w3 r3 k3; clear hh; have kk3 : Keeps (fun _ => False) wr w3 := k2.trans' k3 (fun k e => .inr (by omega)); have K3 : Hid (Keeps (fun _ => False) w w3) := hk.trans kk3; have b3 := hb.keep kk3; have zB3 : B ≤ w3.heap.size := Nat.le_trans hBr kk3.size; have b4 := b3; have zB4 := zB3; have q0 : w3.cell? ⟨g, 0, none⟩ = some (.int .i64 k) := (by rw [cell_of_row w3 g 0 _ _ _ r3.row]; rfl); have q1 : w3.cell? ⟨g, 1, none⟩ = some (.slice a1 m c1) := (by rw [cell_of_row w3 g 1 _ _ _ r3.row]; rfl))
        | (have hh := y1; clear y1; refine wpList_alloc41 rfl rfl ?_; intro g w2 r2 z2 k2)
        | (have hh := h1; clear h1; refine wpList_load41 rfl _ rfl b1 (o1 + i * 2) rfl _ _ hh h2 ?_; clear hh; have y1 : Hid True := trivial))
          go_ret2
          exact ⟨by rw [HR0.out, hE0]; rfl, K6.out⟩
        · have t0 : (0 : Int) < (i : Int) := by omega
          have HN2 : Hid ((L ++ [10, 10]) ++ X = N) := by show _ = _; rw [HN.out, if_neg hi0, List.append_assoc]
          have HLl : Hid ((L ++ [10, 10]).length + X.length ≤ 140737488355328) := by show _ ≤ _; simp; omega
          have H2l : Hid (L.length + ([10, 10] : List UInt8).length ≤ 140737488355328) := by show _ ≤ _; simp; omega
          clear HN hi0
          clear hN
          go_wp2_with (first
        | (have hh := y8; clear y8; go_at_call 31; refine (blen31 _ B b _ b6).mono ?_; rintro e w' ⟨rfl, rfl⟩)
        | (have hh := y7; clear y7; go_at_call 29; refine (bwrite29 _ B b _ X b5 zB5 HLl.out).mono ?_; rintro e w6 ⟨⟨v6, rfl⟩, b6, k6, _⟩; rw [HN2.out] at b6; have K6 : Hid (Keeps (fun _ => False) w w6) := K5.out.trans' k6 (fun k e => .inr (Nat.le_trans HwB.out e)); have zB6 : B ≤ w6.heap.size := Nat.le_trans zB5 k6.size; have y8 : Hid True := trivial)
        | (have hh := y6; clear y6; go_at_call 30; refine (hq.out _ K4.out).mono ?_; rintro e w5 ⟨rfl, k5⟩; have b5 := b4.keep k5; have K5 : Hid (Keeps (fun _ => False) w w5) := K4.out.trans k5; have zB5 : B ≤ w5.heap.size := Nat.le_trans zB4 k5.size; have y7 : Hid True := trivial)
        | (have hh := q0; clear q0; refine wpList_load41 rfl _ rfl g 0 rfl _ _ hh q1 ?_; have y6 : Hid True := trivial)
        | (have hh := y4; clear y4; go_at_call 29; refine (hw1 w3 L b3 zB3 H2l.out).mono ?_; rintro e w4 ⟨⟨v4, rfl⟩, b4, k4, p4⟩; have r4 := p4 g _ r3; have K4 : Hid (Keeps (fun _ => False) w w4) := K3.out.trans' k4 (fun k e => .inr (Nat.le_trans HwB.out e)); have zB4 : B ≤ w4.heap.size := Nat.le_trans zB3 k4.size; have q0 : w4.cell? ⟨g, 0, none⟩ = some (.int .i64 k) := (by rw [cell_of_row w4 g 0 _ _ _ r4.row]; rfl); have q1 : w4.cell? ⟨g, 1, none⟩ = some (.slice a1 m c1) := (by rw [cell_of_row w4 g 1 _ _ _ r4.row]; rfl))
        | (have hh := r2; clear r2; refine wpList_store41 rfl _ _ rfl g rfl k a1 m c1 rfl _ hh ?_; intro w3 r3 k3; clear hh; have kk3 : Keeps (fun _ => False) wr w3 := k2.trans' k3 (fun k e => .inr (by omega)); have K3 : Hid (Keeps (fun _ => False) w w3) := hk.trans kk3; have b3 := hb.keep kk3; have zB3 : B ≤ w3.heap.size := Nat.le_trans hBr kk3.size; have y4 : Hid True := trivial)
        | (have hh := y1; clear y1; refine wpList_alloc41 rfl rfl ?_; intro g w2 r2 z2 k2)
        | (have hh := h1; clear h1; refine wpList_load41 rfl _ rfl b1 (o1 + i * 2) rfl _ _ hh h2 ?_; clear hh; have y1 : Hid True := trivial))
          go_ret2
          exact ⟨by rw [HR0.out, hE0]; rfl, K6.out⟩
    · obtain rfl : i = n := by omega
      have hlt' : ¬ (i : Int) < (i : Int) := by omega
      rw [List.take_of_length_le (by rw [HL.out]; exact Nat.le_refl _)] at hb hl240
      have HR0 : Hid (srcR P = (srcL P, 0)) := by show _ = _; rw [HR.out, if_pos hl240]
      have HK := Hid.mk' hk
      clear hlt hi hl240 hk
      go_wp2_with (go_at_call 32; refine (bstr32 _ B b _ hb hBr).mono ?_; rintro e w3 ⟨rfl, k3⟩)
      go_ret2
      exact ⟨by rw [HR0.out]; rfl, HK.out.trans' k3 (fun k e => .inr (Nat.le_trans HwB.out e))⟩
end

end Go.Proofs.YtkcnnkakpkdhkaaDoor
