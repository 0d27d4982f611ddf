/-
  Small functions: isKind, Blocks of both; the text up to the check.
-/
import Derived.Test.YtanmopbhglokmaaDoorOm
import Derived.Test.YtanmopbhglokmaaDoorRc
set_option linter.all false
namespace Go.Proofs.YtanmopbhglokmaaDoor
open Go.RowKit Go.Sort

theorem isKind18 (w : World) (k : Int) : Calls Tryd.prog 18 #[.int .i64 k] w fun e w' => e = .returned (.bool (decide (1 ≤ k ∧ k ≤ 6))) ∧ w' = w := by
  go_enter Tryd.func18, Tryd.ntmps18
  by_cases h1 : 1 ≤ k
  · by_cases h6 : k ≤ 6
    · go_wp2
      go_ret
      exact ⟨by simp [h1, h6], rfl⟩
    · go_wp2
      go_ret
      exact ⟨by simp [h1, h6], rfl⟩
  · go_wp2
    go_ret
    exact ⟨by simp; omega, rfl⟩

theorem nblk15 (w : World) (n : Int) : Calls Tryd.prog 15 #[.int .i64 n] w fun e w' => e = .returned (.int .i64 (nblk n)) ∧ w' = w := by
  by_cases h1 : n < 0
  · rw [show nblk n = 0 from if_neg (by omega)]
    go_enter Tryd.func15, Tryd.ntmps15
    go_wp2
    go_ret
    exact ⟨rfl, rfl⟩
  · by_cases h6 : 1000 < n
    · rw [show nblk n = 0 from if_neg (by omega)]
      go_enter Tryd.func15, Tryd.ntmps15
      go_wp2
      go_ret
      exact ⟨rfl, rfl⟩
    · have e : nblk n = (n + 134) / 128 := if_pos (by omega)
      go_enter Tryd.func15, Tryd.ntmps15
      go_wp2
      go_ret
      exact ⟨congrArg (fun z => Ending.returned (.int .i64 z)) (by omega), rfl⟩

theorem nblk16 (w : World) (n : Int) : Calls Tryd.prog 16 #[.int .i64 n] w fun e w' => e = .returned (.int .i64 (nblk n)) ∧ w' = w := by
  by_cases h1 : n < 0
  · rw [show nblk n = 0 from if_neg (by omega)]
    go_enter Tryd.func16, Tryd.ntmps16
    go_wp2
    go_ret
    exact ⟨rfl, rfl⟩
  · by_cases h6 : 1000 < n
    · rw [show nblk n = 0 from if_neg (by omega)]
      go_enter Tryd.func16, Tryd.ntmps16
      go_wp2
      go_ret
      exact ⟨rfl, rfl⟩
    · have e : nblk n = (n + 134) / 128 := if_pos (by omega)
      go_enter Tryd.func16, Tryd.ntmps16
      go_wp2
      go_ret
      exact ⟨congrArg (fun z => Ending.returned (.int .i64 z)) (by omega), rfl⟩

end Go.Proofs.YtanmopbhglokmaaDoor
