/-
  Marks, kinds, words: the program's questions.
-/
import Derived.Test.YtkcnnkakpkdhkaaDoorXf
set_option linter.all false
set_option maxRecDepth 100000
namespace Go.Proofs.YtkcnnkakpkdhkaaDoor
open Go.RowKit Go.Sort Go.Shelf
attribute [local go_sem] Oper.semAt_some

theorem mark41 (w : World) (k : Int) : Calls Tryd.prog 41 #[.int .i64 k] w fun e w' => e = .returned (.string (bs (mk k))) ∧ w' = w := by
  by_cases h2 : k = 2
  · subst h2
    go_enter Tryd.func41, Tryd.ntmps41
    go_wp2
    go_ret
    exact ⟨rfl, rfl⟩
  · have t2 : (k == (2 : Int)) = false := by simpa using h2
    by_cases h3 : k = 3
    · subst h3
      clear t2
      go_enter Tryd.func41, Tryd.ntmps41
      go_wp2
      go_ret
      exact ⟨rfl, rfl⟩
    · have t3 : (k == (3 : Int)) = false := by simpa using h3
      by_cases h4 : k = 4
      · subst h4
        clear t2 t3
        go_enter Tryd.func41, Tryd.ntmps41
        go_wp2
        go_ret
        exact ⟨rfl, rfl⟩
      · have t4 : (k == (4 : Int)) = false := by simpa using h4
        have HM : Hid (mk k = []) := by show _ = _; unfold mk; rw [if_neg h2, if_neg h3, if_neg h4]
        clear h2 h3 h4
        go_enter Tryd.func41, Tryd.ntmps41
        go_wp2
        go_ret
        exact ⟨by rw [HM.out]; rfl, rfl⟩

theorem kind40 (w : World) (s : ByteArray) : Calls Tryd.prog 40 #[.string s] w fun e w' => e = .returned (.int .i64 (knd s.data.toList)) ∧ w' = w := by
  obtain ⟨E4, hE4⟩ : ∃ E, bs (mk 4) = E := ⟨_, rfl⟩
  obtain ⟨E2, hE2⟩ : ∃ E, bs (mk 2) = E := ⟨_, rfl⟩
  obtain ⟨E3, hE3⟩ : ∃ E, bs (mk 3) = E := ⟨_, rfl⟩
  have m4 := fun w => mark41 w 4
  have m2 := fun w => mark41 w 2
  have m3 := fun w => mark41 w 3
  have p2 := fun w => Tryd.strings_HasPrefix s E2 w
  have p3 := fun w => Tryd.strings_HasPrefix s E3 w
  have t4 : (s.toList == E4.toList) = decide (s.data.toList = [45, 45, 45]) := by
    have := bs_eq (x := s.data.toList) (y := [45, 45, 45]) E4 (by rw [← hE4]; rfl)
    rw [bs_self] at this
    exact this
  rw [show E2.data.toList = [61, 32] by rw [← hE2]; rfl] at p2
  rw [show E3.data.toList = [45, 32] by rw [← hE3]; rfl] at p3
  rw [hE4] at m4
  rw [hE2] at m2
  rw [hE3] at m3
  obtain ⟨b2, hb2⟩ : ∃ b, Lib.hasPrefix s.data.toList [61, 32] = b := ⟨_, rfl⟩
  obtain ⟨b3, hb3⟩ : ∃ b, Lib.hasPrefix s.data.toList [45, 32] = b := ⟨_, rfl⟩
  obtain ⟨R, hR⟩ : ∃ R, knd s.data.toList = R := ⟨_, rfl⟩
  have HR : Hid ((if s.data.toList = [45, 45, 45] then (4 : Int) else if b2 = true then 2 else if b3 = true then 3 else 1) = R) := by
    show _ = _; rw [← hR, ← hb2, ← hb3]; rfl
  rw [hb2] at p2
  rw [hb3] at p3
  rw [hR]
  clear hE2 hE3 hE4 hb2 hb3 hR
  by_cases h4 : s.data.toList = [45, 45, 45]
  · have HR2 : Hid (R = 4) := by show _ = _; rw [← HR.out, if_pos h4]
    rw [decide_eq_true h4] at t4
    clear HR h4
    go_enter Tryd.func40, Tryd.ntmps40
    go_wp2_with (go_at_call 41; refine (m4 _).mono ?_; rintro e w' ⟨rfl, rfl⟩)
    go_ret
    exact ⟨by rw [HR2.out]; rfl, rfl⟩
  · rw [decide_eq_false h4] at t4
    cases b2 with
    | true =>
      have HR2 : Hid (R = 2) := by show _ = _; rw [← HR.out, if_neg h4]; rfl
      clear HR h4
      go_enter Tryd.func40, Tryd.ntmps40
      go_wp2_with (first
        | (have hh := q2; clear q2; go_at_call 52; refine (p2 _).mono ?_; rintro e w' ⟨rfl, rfl⟩)
        | (have hh := q4; clear q4; go_at_call 41; refine (m2 _).mono ?_; rintro e w' ⟨rfl, rfl⟩; have q2 : Hid True := trivial)
        | (go_at_call 41; refine (m4 _).mono ?_; rintro e w' ⟨rfl, rfl⟩; have q4 : Hid True := trivial))
      go_ret
      exact ⟨by rw [HR2.out]; rfl, rfl⟩
    | false =>
      cases b3 with
      | true =>
        have HR2 : Hid (R = 3) := by show _ = _; rw [← HR.out, if_neg h4]; rfl
        clear HR h4
        go_enter Tryd.func40, Tryd.ntmps40
        go_wp2_with (first
          | (have hh := q3; clear q3; go_at_call 52; refine (p3 _).mono ?_; rintro e w' ⟨rfl, rfl⟩)
          | (have hh := q6; clear q6; go_at_call 41; refine (m3 _).mono ?_; rintro e w' ⟨rfl, rfl⟩; have q3 : Hid True := trivial)
          | (have hh := q2; clear q2; go_at_call 52; refine (p2 _).mono ?_; rintro e w' ⟨rfl, rfl⟩; have q6 : Hid True := trivial)
          | (have hh := q4; clear q4; go_at_call 41; refine (m2 _).mono ?_; rintro e w' ⟨rfl, rfl⟩; have q2 : Hid True := trivial)
          | (go_at_call 41; refine (m4 _).mono ?_; rintro e w' ⟨rfl, rfl⟩; have q4 : Hid True := trivial))
        go_ret
        exact ⟨by rw [HR2.out]; rfl, rfl⟩
      | false =>
        have HR2 : Hid (R = 1) := by show _ = _; rw [← HR.out, if_neg h4]; rfl
        clear HR h4
        go_enter Tryd.func40, Tryd.ntmps40
        go_wp2_with (first
          | (have hh := q3; clear q3; go_at_call 52; refine (p3 _).mono ?_; rintro e w' ⟨rfl, rfl⟩)
          | (have hh := q6; clear q6; go_at_call 41; refine (m3 _).mono ?_; rintro e w' ⟨rfl, rfl⟩; have q3 : Hid True := trivial)
          | (have hh := q2; clear q2; go_at_call 52; refine (p2 _).mono ?_; rintro e w' ⟨rfl, rfl⟩; have q6 : Hid True := trivial)
          | (have hh := q4; clear q4; go_at_call 41; refine (m2 _).mono ?_; rintro e w' ⟨rfl, rfl⟩; have q2 : Hid True := trivial)
          | (go_at_call 41; refine (m4 _).mono ?_; rintro e w' ⟨rfl, rfl⟩; have q4 : Hid True := trivial))
        go_ret
        exact ⟨by rw [HR2.out]; rfl, rfl⟩

theorem breaks38 (w : World) (x : Nat) (hx : x ≤ 1114111) : Calls Tryd.prog 38 #[.int .i32 (x : Int)] w fun e w' => e = .returned (.bool (brk x)) ∧ w' = w := by
  by_cases h1 : x ≤ 32
  · have HR : Hid (brk x = true) := by show _ = _; unfold brk; simp [h1]
    have t1 : (x : Int) ≤ (32 : Int) := by omega
    clear h1
    go_enter Tryd.func38, Tryd.ntmps38
    go_wp2
    go_ret
    exact ⟨by rw [HR.out]; rfl, rfl⟩
  · have t1 : ¬ (x : Int) ≤ (32 : Int) := by omega
    by_cases h2 : x = 127
    · subst h2
      clear t1 h1 hx
      go_enter Tryd.func38, Tryd.ntmps38
      go_wp2
      go_ret
      exact ⟨rfl, rfl⟩
    · have HR : Hid (brk x = false) := by show _ = _; unfold brk; simp [h1, h2]
      have t2 : ((x : Int) == (127 : Int)) = false := by simp; omega
      clear h1 h2
      go_enter Tryd.func38, Tryd.ntmps38
      go_wp2
      go_ret
      exact ⟨by rw [HR.out]; rfl, rfl⟩
theorem strange24 (w : World) (x : Nat) (hx : x ≤ 1114111) : Calls Tryd.prog 24 #[.int .i32 (x : Int)] w fun e w' => e = .returned (.bool (strg x)) ∧ w' = w := by
  have hq := fun w => breaks38 w x hx
  obtain ⟨B, hB⟩ : ∃ B, brk x = B := ⟨_, rfl⟩
  rw [hB] at hq
  cases B with
  | false =>
    have HR : Hid (strg x = false) := by show _ = _; unfold strg; rw [hB]; rfl
    clear hB
    go_enter Tryd.func24, Tryd.ntmps24
    go_wp2_with (go_at_call 38; refine (hq _).mono ?_; rintro e w' ⟨rfl, rfl⟩)
    go_ret
    exact ⟨by rw [HR.out]; rfl, rfl⟩
  | true =>
    by_cases h1 : x = 32
    · subst h1
      clear hB hx
      go_enter Tryd.func24, Tryd.ntmps24
      go_wp2_with (go_at_call 38; refine (hq _).mono ?_; rintro e w' ⟨rfl, rfl⟩)
      go_ret
      exact ⟨rfl, rfl⟩
    · have t1 : ((x : Int) != (32 : Int)) = true := by simp; omega
      by_cases h2 : x = 10
      · subst h2
        clear hB hx h1 t1
        go_enter Tryd.func24, Tryd.ntmps24
        go_wp2_with (go_at_call 38; refine (hq _).mono ?_; rintro e w' ⟨rfl, rfl⟩)
        go_ret
        exact ⟨rfl, rfl⟩
      · have t2 : ((x : Int) != (10 : Int)) = true := by simp; omega
        have HR : Hid (strg x = true) := by show _ = _; unfold strg; rw [hB]; simp [h1, h2]
        clear hB h1 h2
        go_enter Tryd.func24, Tryd.ntmps24
        go_wp2_with (go_at_call 38; refine (hq _).mono ?_; rintro e w' ⟨rfl, rfl⟩)
        go_ret
        exact ⟨by rw [HR.out]; rfl, rfl⟩

/-- Has it a sign of such a kind? -/
theorem contains_brk (w : World) (s : ByteArray) (hv : vd s.data.toList = true) : Calls Tryd.prog 23 #[.string s, .func (.func 38) #[] #[]] w fun e w' => e = .returned (.bool ((sg s.data.toList).any (fun v => brk v.toNat))) ∧ Keeps (fun _ => False) w w' := by
  refine (Tryd.strings_ContainsFunc_grows 38 #[] (enters_of Tryd.func38 (by kernel_rfl) rfl) brk s w ?_).mono ?_
  · intro W x hx hb
    refine (breaks38 W x hx).mono ?_
    rintro e w' ⟨rfl, rfl⟩
    exact ⟨rfl, RowKit.Below.refl _ _⟩
  · rintro e w' ⟨rfl, hb⟩
    exact ⟨by rw [idx_any brk s hv], Keeps.ofBelow hb⟩
theorem contains_strg (w : World) (s : ByteArray) (hv : vd s.data.toList = true) : Calls Tryd.prog 23 #[.string s, .func (.func 24) #[] #[]] w fun e w' => e = .returned (.bool (!pln true s.data.toList)) ∧ Keeps (fun _ => False) w w' := by
  refine (Tryd.strings_ContainsFunc_grows 24 #[] (enters_of Tryd.func24 (by kernel_rfl) rfl) strg s w ?_).mono ?_
  · intro W x hx hb
    refine (strange24 W x hx).mono ?_
    rintro e w' ⟨rfl, rfl⟩
    exact ⟨rfl, RowKit.Below.refl _ _⟩
  · rintro e w' ⟨rfl, hb⟩
    exact ⟨by rw [← strange_iff hv, idx_any strg s hv], Keeps.ofBelow hb⟩

theorem isWord45 (w : World) (hT : Lib.Utf8Tabs 0 1 w) (s : ByteArray) (hs : s.size ≤ 9223372036854775807) :
    Calls Tryd.prog 45 #[.string s] w fun e w' => e = .returned (.bool (gdW s.data.toList)) ∧ Keeps (fun _ => False) w w' := by
  obtain ⟨E0, hE0⟩ : ∃ E0 : ByteArray, E0 = ⟨#[]⟩ := ⟨_, rfl⟩
  obtain ⟨R, hR⟩ : ∃ R, gdW s.data.toList = R := ⟨_, rfl⟩
  have hg := gdW_eq s.data.toList
  rw [hR] at hg ⊢
  have hv := valid11 w hT s hs
  obtain ⟨V, hV⟩ : ∃ V, vd s.data.toList = V := ⟨_, rfl⟩
  rw [hV] at hv hg
  by_cases h0 : s.data.toList = []
  · have t0 : (s.toList == E0.toList) = true := by
      have := bs_eq (x := s.data.toList) (y := []) E0 (by rw [hE0]; rfl)
      rw [bs_self, decide_eq_true h0] at this; exact this
    have HR : Hid (R = false) := by show _ = _; rw [hg]; simp [h0]
    clear hg hR hV h0 hv
    go_enter Tryd.func45, Tryd.ntmps45
    rw [← hE0]
    clear hE0
    go_wp2
    go_ret
    exact ⟨by rw [HR.out]; rfl, Keeps.refl _ _⟩
  · have t0 : (s.toList == E0.toList) = false := by
      have := bs_ne h0 E0 hE0
      rw [bs_self] at this; exact this
    cases V with
    | false =>
      have HR : Hid (R = false) := by show _ = _; rw [hg]; simp
      clear hg hR hV h0
      go_enter Tryd.func45, Tryd.ntmps45
      rw [← hE0]
      clear hE0
      go_wp2_with (go_at_call 22; refine hv.mono ?_; rintro e w1 ⟨rfl, k1⟩)
      go_ret
      exact ⟨by rw [HR.out]; rfl, k1⟩
    | true =>
      have hc := fun w => contains_brk w s hV
      obtain ⟨C, hC⟩ : ∃ C, (sg s.data.toList).any (fun v => brk v.toNat) = C := ⟨_, rfl⟩
      rw [hC] at hg hc
      have HR : Hid (R = !C) := by show _ = _; rw [hg]; simp [h0]
      clear hg hR hV h0 hC
      cases C
      all_goals
        go_enter Tryd.func45, Tryd.ntmps45
        rw [← hE0]
        clear hE0
        go_wp2_with (first
          | (have hh := q2; clear q2; go_at_call 23; refine (hc _).mono ?_; rintro e w2 ⟨rfl, k2⟩)
          | (go_at_call 22; refine hv.mono ?_; rintro e w1 ⟨rfl, k1⟩; have q2 : Hid True := trivial))
        go_ret
        exact ⟨by rw [HR.out]; rfl, k1.trans k2⟩

end Go.Proofs.YtkcnnkakpkdhkaaDoor
