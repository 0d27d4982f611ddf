/-
  ObjectBack: the walk, whole.
-/
import Derived.Test.YtanmopbhglokmaaDoorBb4
import Derived.Test.YtanmopbhglokmaaDoorBc4
set_option linter.all false
namespace Go.Proofs.YtanmopbhglokmaaDoor
open Go.RowKit Go.Sort

theorem back4 (w : World) (hT : Tabs w) (k : Int) (a : Option Addr) (n c : Nat) (l : List B) (hl : SlB w a n c l) (hnc : a = none → c = 0) :
    Calls Tryd.prog 4 #[.int .i64 k, .slice a n c] w fun e w' => e = .returned (.bool true) ∧ Keeps (fun _ => False) w w' := by
  by_cases hn : n ≤ 2000
  · by_cases h : (1 ≤ k ∧ k ≤ 6) ∧ n ≤ 1000
    · exact back4_ok w hT k a n c l hl hnc h.2 h.1
    · exact back4_err w hT k a n c hn (by omega)
  · have hn' : (2000 : Int) < (n : Int) := by omega
    go_enter Tryd.func4, Tryd.ntmps4
    go_wp2_with (go_at_call 8; refine (wakes8 _ hT).mono ?_; rintro e w1 ⟨rfl, hk1⟩)
    go_ret
    exact ⟨rfl, hk1⟩

end Go.Proofs.YtanmopbhglokmaaDoor
