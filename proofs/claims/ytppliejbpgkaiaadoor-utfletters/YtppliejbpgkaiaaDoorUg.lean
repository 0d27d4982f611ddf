/-
  The law of letters.
-/
import Derived.Test.YtppliejbpgkaiaaDoorUf
set_option linter.all false
namespace Go.Proofs.YtppliejbpgkaiaaDoor
open Go.RowKit Go.Sort Go.Shelf
attribute [local go_sem] Oper.semAt_some

set_option maxRecDepth 100000 in
set_option maxHeartbeats 1000000 in
theorem lettersL (w : World) (hT : Lib.Utf8Tabs 0 1 w) (v : Int) (hv : -9223372036854775808 ≤ v ∧ v ≤ 9223372036854775807) :
    Calls Tryd.prog 6 #[.int .i64 v] w fun e w' => e = .returned (.bool true) ∧ Keeps (fun _ => False) w w' := by
  obtain ⟨hv0, hv1⟩ := hv
  have cs : (65 ≤ v ∧ v ≤ 90) ∨ (97 ≤ v ∧ v ≤ 122) ∨ v < 65 ∨ (90 < v ∧ v < 97) ∨ 122 < v := by omega
  have hw := wakes7 w hT
  rcases cs with ⟨h1, h2⟩ | h
  · obtain ⟨u, hu⟩ : ∃ u, u = v + 32 := ⟨_, rfl⟩
    have l1 := fun W => lower14 W v (by omega)
    have l2 := fun W => lower14 W u (by omega)
    have t1 := fun W => letter16 W v
    have t2 := fun W => letter16 W u
    rw [show low v = u by unfold low; rw [if_pos ⟨h1, h2⟩, hu]] at l1
    rw [show low u = u by unfold low; rw [if_neg (by omega)]] at l2
    rw [show isL v = true by unfold isL; rw [decide_eq_true_eq]; omega] at t1
    rw [show isL u = true by unfold isL; rw [decide_eq_true_eq]; omega] at t2
    have hne : (u == v + 32) = true := by rw [hu]; simp
    have hne2 : (u != v) = true := by rw [hu]; simp; omega
    have ha : ¬ (97 : Int) ≤ v := by omega
    clear hu
    go_enter Tryd.func6, Tryd.ntmps6
    go_wp2_with (first
      | (go_at_call 14; have := q1; refine (l2 _).mono ?_; rintro e w' ⟨rfl, rfl⟩)
      | (go_at_call 14; refine (l1 _).mono ?_; rintro e w' ⟨rfl, rfl⟩; have q1 : Hid True := trivial)
      | (go_at_call 16; have := q3; refine (t1 _).mono ?_; rintro e w' ⟨rfl, rfl⟩)
      | (go_at_call 16; have := q2; refine (t2 _).mono ?_; rintro e w' ⟨rfl, rfl⟩; have q3 : Hid True := trivial)
      | (go_at_call 16; refine (t1 _).mono ?_; rintro e w' ⟨rfl, rfl⟩; have q2 : Hid True := trivial)
      | (go_at_call 7; refine hw.mono ?_; rintro e w2 ⟨rfl, k2⟩))
    go_ret
    exact ⟨rfl, k2⟩
  · have l1 := fun W => lower14 W v (by omega)
    rw [show low v = v by unfold low; rw [if_neg (by omega)]] at l1
    rcases h with ⟨h1, h2⟩ | h | ⟨h, h'⟩ | h
    all_goals
      have t1 := fun W => letter16 W v
    · rw [show isL v = true by unfold isL; rw [decide_eq_true_eq]; omega] at t1
      have ha : ¬ v ≤ (90 : Int) := by omega
      have hb : (65 : Int) ≤ v := by omega
      go_enter Tryd.func6, Tryd.ntmps6
      go_wp2_with (first
        | (go_at_call 14; refine (l1 _).mono ?_; rintro e w' ⟨rfl, rfl⟩)
        | (go_at_call 16; refine (t1 _).mono ?_; rintro e w' ⟨rfl, rfl⟩)
        | (go_at_call 7; refine hw.mono ?_; rintro e w2 ⟨rfl, k2⟩))
      go_ret
      exact ⟨rfl, k2⟩
    · rw [show isL v = false by unfold isL; rw [decide_eq_false_iff_not]; omega] at t1
      have ha : ¬ (65 : Int) ≤ v := by omega
      have hb : ¬ (97 : Int) ≤ v := by omega
      go_enter Tryd.func6, Tryd.ntmps6
      go_wp2_with (first
        | (go_at_call 14; refine (l1 _).mono ?_; rintro e w' ⟨rfl, rfl⟩)
        | (go_at_call 16; refine (t1 _).mono ?_; rintro e w' ⟨rfl, rfl⟩)
        | (go_at_call 7; refine hw.mono ?_; rintro e w2 ⟨rfl, k2⟩))
      go_ret
      exact ⟨rfl, k2⟩
    · rw [show isL v = false by unfold isL; rw [decide_eq_false_iff_not]; omega] at t1
      have ha : (65 : Int) ≤ v := by omega
      have hc : ¬ v ≤ (90 : Int) := by omega
      have hb : ¬ (97 : Int) ≤ v := by omega
      go_enter Tryd.func6, Tryd.ntmps6
      go_wp2_with (first
        | (go_at_call 14; refine (l1 _).mono ?_; rintro e w' ⟨rfl, rfl⟩)
        | (go_at_call 16; refine (t1 _).mono ?_; rintro e w' ⟨rfl, rfl⟩)
        | (go_at_call 7; refine hw.mono ?_; rintro e w2 ⟨rfl, k2⟩))
      go_ret
      exact ⟨rfl, k2⟩
    · rw [show isL v = false by unfold isL; rw [decide_eq_false_iff_not]; omega] at t1
      have ha : (65 : Int) ≤ v := by omega
      have hc : ¬ v ≤ (90 : Int) := by omega
      have hb : (97 : Int) ≤ v := by omega
      have hd : Hid (decide (v ≤ (122 : Int)) = false) := decide_eq_false (by omega)
      go_enter Tryd.func6, Tryd.ntmps6
      go_wp2_with (first
        | (go_at_call 14; refine (l1 _).mono ?_; rintro e w' ⟨rfl, rfl⟩)
        | (go_at_call 16; refine (t1 _).mono ?_; rintro e w' ⟨rfl, rfl⟩)
        | (go_at_call 7; refine hw.mono ?_; rintro e w2 ⟨rfl, k2⟩))
      go_ret
      refine ⟨?_, k2⟩
      simp only [hd.out]
      rfl

end Go.Proofs.YtppliejbpgkaiaaDoor
