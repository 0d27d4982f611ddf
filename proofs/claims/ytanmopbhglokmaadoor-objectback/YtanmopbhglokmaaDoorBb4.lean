/-
  ObjectBack: the walk.
-/
import Derived.Test.YtanmopbhglokmaaDoorBa4
set_option linter.all false
namespace Go.Proofs.YtanmopbhglokmaaDoor
open Go.RowKit Go.Sort

set_option maxHeartbeats 400000 in
theorem back4_err (w : World) (hT : Tabs w) (k : Int) (a : Option Addr) (n c : Nat) (hn : n ≤ 2000) (h : ¬ (1 ≤ k ∧ k ≤ 6) ∨ 1000 < n) :
    Calls Tryd.prog 4 #[.int .i64 k, .slice a n c] w fun e w' => e = .returned (.bool true) ∧ Keeps (fun _ => False) w w' := by
  have hn' : ¬ (2000 : Int) < (n : Int) := by omega
  have HF : Hid (¬ (1 ≤ k ∧ k ≤ 6) ∨ 1000 < n) := h
  have hw : k < 1 ∨ (¬ k < 1 ∧ 6 < k) ∨ (¬ k < 1 ∧ ¬ 6 < k ∧ (1000 : Int) < (n : Int)) := by omega
  clear h
  rcases hw with h1 | ⟨h1, h2⟩ | ⟨h1, h2, h3⟩
  all_goals
    go_enter Tryd.func4, Tryd.ntmps4
    go_wp2_with (first | (go_at_call 9; refine (frame9_err w k a n c HF.out).mono ?_; rintro e w1 ⟨rfl, h2⟩; rw [h2]; clear h2 w1) | (go_at_call 8; refine (wakes8 _ hT).mono ?_; rintro e w4 ⟨rfl, k4⟩))
    go_ret
    exact ⟨rfl, k4⟩

end Go.Proofs.YtanmopbhglokmaaDoor
