/-
  ObjectKinds: the walk.
-/
import Derived.Test.YtanmopbhglokmaaDoorWl
set_option linter.all false
namespace Go.Proofs.YtanmopbhglokmaaDoor
open Go.RowKit Go.Sort

theorem fr_kinds {a b : Int} {l : List B} (ha : 1 ≤ a ∧ a ≤ 6) (hb : 1 ≤ b ∧ b ≤ 6) : decide (fr a l = fr b l) = decide (a = b) := by
  by_cases h : a = b
  · subst h; rw [decide_eq_true rfl, decide_eq_true rfl]
  · rw [decide_eq_false h, decide_eq_false]
    intro e
    have h1 := fr_kind a l
    rw [e, fr_kind] at h1
    omega

theorem frame_ok (w : World) (hT : Tabs w) {k : Int} {l L : List B} (a : Option Addr) (n c : Nat) (hk : 1 ≤ k ∧ k ≤ 6) (hn : n ≤ 1000) (hl : SlB w a n c l) (hnc : a = none → c = 0) (HL : Hid (fr k l = L)) :
    Calls Tryd.prog 9 #[.int .i64 k, .slice a n c] w fun e w' => ∃ a' c', e = .returned (.tuple #[.slice a' ((n + 134) / 128) c', .int .i64 0]) ∧ SlB w' a' ((n + 134) / 128 * 128) (c' * 128) L ∧ Keeps (fun _ => False) w w' := by
  refine (frame9_ok w hT k a n c l hk hn hl hnc HL).mono ?_
  rintro e w2 ⟨v2, rfl, O2, k2⟩
  obtain ⟨a2, c2, rfl, s2, b2, _⟩ := O2.slice
  exact ⟨a2, c2, rfl, s2, k2⟩

theorem blocks_at {x y : List B} {b : Bool} (Hb : Hid (decide (x = y) = b)) (w : World) (a1 a2 : Option Addr) (n1 c1 n2 c2 : Nat) (h1 : SlB w a1 (n1 * 128) (c1 * 128) x) (h2 : SlB w a2 (n2 * 128) (c2 * 128) y) (hn : n1 < 1000000) :
    Calls Tryd.prog 13 #[.slice a1 n1 c1, .slice a2 n2 c2] w fun e w' => e = .returned (.bool b) ∧ Keeps (fun _ => False) w w' := by
  rw [← Hb.out]; exact blocks13 w a1 a2 n1 c1 n2 c2 x y h1 h2 hn

set_option maxRecDepth 100000 in
set_option maxHeartbeats 1000000 in
theorem kinds7 (w : World) (hT : Tabs w) (x y : Int) (a : Option Addr) (n c : Nat) (l : List B) (hl : SlB w a n c l) (hnc : a = none → c = 0) :
    Calls Tryd.prog 7 #[.int .i64 x, .int .i64 y, .slice a n c] w fun e w' => e = .returned (.bool true) ∧ Keeps (fun _ => False) w w' := by
  by_cases hn : n ≤ 1000
  · have hn' : ¬ (1000 : Int) < (n : Int) := by omega
    obtain ⟨m, hm⟩ : ∃ m, (n + 134) / 128 = m := ⟨_, rfl⟩
    have hm9 : m ≤ 9 := by omega
    have hfx : 1 ≤ x ∧ x ≤ 6 → ∀ w', Keeps (fun _ => False) w w' → Calls Tryd.prog 9 #[.int .i64 x, .slice a n c] w' fun e w'' => ∃ a' c', e = .returned (.tuple #[.slice a' m c', .int .i64 0]) ∧ SlB w'' a' (m * 128) (c' * 128) (fr x l) ∧ Keeps (fun _ => False) w' w'' := fun hx w' hk => by
      rw [← hm]; exact frame_ok w' (hT.keeps hk (fun h => h) (fun h => h)) a n c hx hn (hl.keeps hk (fun _ _ _ _ h => h)) hnc (show _ = _ from rfl)
    have hfy : 1 ≤ y ∧ y ≤ 6 → ∀ w', Keeps (fun _ => False) w w' → Calls Tryd.prog 9 #[.int .i64 y, .slice a n c] w' fun e w'' => ∃ a' c', e = .returned (.tuple #[.slice a' m c', .int .i64 0]) ∧ SlB w'' a' (m * 128) (c' * 128) (fr y l) ∧ Keeps (fun _ => False) w' w'' := fun hx w' hk => by
      rw [← hm]; exact frame_ok w' (hT.keeps hk (fun h => h) (fun h => h)) a n c hx hn (hl.keeps hk (fun _ _ _ _ h => h)) hnc (show _ = _ from rfl)
    have HX : Hid (1 ≤ x ∧ x ≤ 6 → _) := hfx
    have HY : Hid (1 ≤ y ∧ y ≤ 6 → _) := hfy
    have HB : Hid (1 ≤ x ∧ x ≤ 6 → 1 ≤ y ∧ y ≤ 6 → decide (fr x l = fr y l) = decide (x = y)) := fun h1 h2 => fr_kinds h1 h2
    obtain ⟨X, hX⟩ : ∃ X, fr x l = X := ⟨_, rfl⟩
    obtain ⟨Y, hY⟩ : ∃ Y, fr y l = Y := ⟨_, rfl⟩
    rw [hX] at HX HB
    rw [hY] at HY HB
    clear hfx hfy hm hX hY hn
    by_cases hx : 1 ≤ x ∧ x ≤ 6
    · have hx1 := hx.1
      have hx6 := hx.2
      by_cases hy : 1 ≤ y ∧ y ≤ 6
      · have hy1 := hy.1
        have hy6 := hy.2
        by_cases hxy : x = y
        · have Hb : Hid (decide (X = Y) = true) := by show _ = _; rw [HB.out hx hy]; exact decide_eq_true hxy
          subst hxy
          have Hx : Hid (1 ≤ x ∧ x ≤ 6) := hx
          have Hy : Hid (1 ≤ x ∧ x ≤ 6) := hy
          clear hx hy
          go_enter Tryd.func7, Tryd.ntmps7
          go_wp2_with (first
            | (go_at_call 8; refine (wakes8 _ (hT.keeps K3 (fun h => h) (fun h => h))).mono ?_; rintro e w4 ⟨rfl, k4⟩)
            | (go_at_call 13; refine (blocks_at Hb w2 _ _ _ _ _ _ (s1.keeps k2 (fun _ _ _ _ h => h)) s2 (by omega)).mono ?_; rintro e w3 ⟨rfl, k3⟩; have K3 := K2.trans k3)
            | (go_at_call 9; refine (HY.out Hy.out w1 k1).mono ?_; rintro e w2 ⟨a2, c2, rfl, s2, k2⟩; have K2 := k1.trans k2)
            | (go_at_call 9; refine (HX.out Hx.out w (Keeps.refl _ _)).mono ?_; rintro e w1 ⟨a1, c1, rfl, s1, k1⟩))
          go_ret
          exact ⟨rfl, K3.trans k4⟩
        · have Hb : Hid (decide (X = Y) = false) := by show _ = _; rw [HB.out hx hy]; exact decide_eq_false hxy
          have Hx : Hid (1 ≤ x ∧ x ≤ 6) := hx
          have Hy : Hid (1 ≤ y ∧ y ≤ 6) := hy
          have hxyb : (x == y) = false := by simpa using hxy
          clear hx hy
          go_enter Tryd.func7, Tryd.ntmps7
          go_wp2_with (first
            | (go_at_call 8; refine (wakes8 _ (hT.keeps K3 (fun h => h) (fun h => h))).mono ?_; rintro e w4 ⟨rfl, k4⟩)
            | (go_at_call 13; refine (blocks_at Hb w2 _ _ _ _ _ _ (s1.keeps k2 (fun _ _ _ _ h => h)) s2 (by omega)).mono ?_; rintro e w3 ⟨rfl, k3⟩; have K3 := K2.trans k3)
            | (go_at_call 9; refine (HY.out Hy.out w1 k1).mono ?_; rintro e w2 ⟨a2, c2, rfl, s2, k2⟩; have K2 := k1.trans k2)
            | (go_at_call 9; refine (HX.out Hx.out w (Keeps.refl _ _)).mono ?_; rintro e w1 ⟨a1, c1, rfl, s1, k1⟩))
          go_ret
          exact ⟨rfl, K3.trans k4⟩
      · have Hx : Hid (1 ≤ x ∧ x ≤ 6) := hx
        have Hy : Hid (¬ (1 ≤ y ∧ y ≤ 6)) := hy
        have hy2 : y < 1 ∨ 6 < y := by omega
        clear hx hy
        rcases hy2 with hy2 | hy2
        all_goals
          have hyy : ¬ (1 ≤ y ∧ y ≤ 6) := Hy.out
          clear hyy
          go_enter Tryd.func7, Tryd.ntmps7
          go_wp2_with (first
            | (go_at_call 8; refine (wakes8 _ (hT.keeps k1 (fun h => h) (fun h => h))).mono ?_; rintro e w4 ⟨rfl, k4⟩)
            | (go_at_call 9; refine (frame9_err w1 y a n c (.inl Hy.out)).mono ?_; rintro e w2 ⟨rfl, h2⟩; rw [h2]; clear h2)
            | (go_at_call 9; refine (HX.out Hx.out w (Keeps.refl _ _)).mono ?_; rintro e w1 ⟨a1, c1, rfl, s1, k1⟩))
          go_ret
          exact ⟨rfl, k1.trans k4⟩
    · have Hx : Hid (¬ (1 ≤ x ∧ x ≤ 6)) := hx
      have hx2 : x < 1 ∨ 6 < x := by omega
      clear hx
      by_cases hy : 1 ≤ y ∧ y ≤ 6
      · have hy1 := hy.1
        have hy6 := hy.2
        have Hy : Hid (1 ≤ y ∧ y ≤ 6) := hy
        clear hy
        rcases hx2 with hx2 | hx2
        all_goals
          go_enter Tryd.func7, Tryd.ntmps7
          go_wp2_with (first
            | (go_at_call 8; refine (wakes8 _ (hT.keeps k2 (fun h => h) (fun h => h))).mono ?_; rintro e w4 ⟨rfl, k4⟩)
            | (go_at_call 9; have hmark := H1; refine (HY.out Hy.out w (Keeps.refl _ _)).mono ?_; rintro e w2 ⟨a2, c2, rfl, s2, k2⟩)
            | (go_at_call 9; refine (frame9_err w x a n c (.inl Hx.out)).mono ?_; rintro e w1 ⟨rfl, h2⟩; rw [h2]; clear h2 w1; have H1 : Hid True := trivial))
          go_ret
          exact ⟨rfl, k2.trans k4⟩
      · have Hy : Hid (¬ (1 ≤ y ∧ y ≤ 6)) := hy
        have hy2 : y < 1 ∨ 6 < y := by omega
        clear hy
        rcases hx2 with hx2 | hx2
        all_goals rcases hy2 with hy2 | hy2
        all_goals
          go_enter Tryd.func7, Tryd.ntmps7
          go_wp2_with (first
            | (go_at_call 8; refine (wakes8 _ hT).mono ?_; rintro e w4 ⟨rfl, k4⟩)
            | (go_at_call 9; have hmark := H1; refine (frame9_err w y a n c (.inl Hy.out)).mono ?_; rintro e w1 ⟨rfl, h2⟩; rw [h2]; clear h2 w1)
            | (go_at_call 9; refine (frame9_err w x a n c (.inl Hx.out)).mono ?_; rintro e w1 ⟨rfl, h2⟩; rw [h2]; clear h2 w1; have H1 : Hid True := trivial))
          go_ret
          exact ⟨rfl, k4⟩
  · have hn' : (1000 : Int) < (n : Int) := by omega
    go_enter Tryd.func7, Tryd.ntmps7
    go_wp2_with (go_at_call 8; refine (wakes8 _ hT).mono ?_; rintro e w1 ⟨rfl, hk1⟩)
    go_ret
    exact ⟨rfl, hk1⟩

end Go.Proofs.YtanmopbhglokmaaDoor
