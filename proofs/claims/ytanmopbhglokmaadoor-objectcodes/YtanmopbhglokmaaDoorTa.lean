
/-
  turn, of both sides.
-/
import Derived.Test.YtanmopbhglokmaaDoorMa
import Derived.Test.YtanmopbhglokmaaDoorRows
import Derived.WalkKit
import Derived.WalkSpells
import Derived.WalkLawsBesides
set_option linter.all false
namespace Go.Proofs.YtanmopbhglokmaaDoor
open Go.RowKit

theorem turn23 (w : World) (x : W) (n : Nat) (h0 : 0 < n) (h1 : n < 32) :
    Calls Tryd.prog 34 #[.int .u32 (nw x), .int .i64 n] w fun e w' => e = .returned (.int .u32 (nw (rotr x n))) ∧ w' = w := by
  have b := nw_lt x
  go_enter Tryd.func34, Tryd.ntmps34
  go_wp2
  go_ret
  exact ⟨by rw [or_nw]; rfl, rfl⟩
theorem rot29 (w : World) (x : W) (n : Nat) (h0 : 0 < n) (h1 : n < 32) :
    Calls Tryd.prog 39 #[.int .u32 (nw x), .int .i64 (-n)] w fun e w' => e = .returned (.int .u32 (nw (rotr x n))) ∧ w' = w := by
  have b := nw_lt x
  have hm := mask31 n h0 h1
  go_enter Tryd.func39, Tryd.ntmps39
  go_wp2
  go_ret
  exact ⟨by rw [or_nw', show 32 - (32 - n) = n by omega]; rfl, rfl⟩
theorem turn27 (w : World) (x : W) (n : Nat) (h0 : 0 < n) (h1 : n < 32) :
    Calls Tryd.prog 37 #[.int .u32 (nw x), .int .i64 n] w fun e w' => e = .returned (.int .u32 (nw (rotr x n))) ∧ w' = w := by
  go_enter Tryd.func37, Tryd.ntmps37
  go_wp2_with (go_at_call 39; refine (rot29 _ x n h0 h1).mono ?_; rintro e w' ⟨rfl, rfl⟩)
  go_ret
  exact ⟨rfl, rfl⟩
theorem turn27i (w : World) (x : W) (m : Int) (h0 : 0 < m) (h1 : m < 32) :
    Calls Tryd.prog 37 #[.int .u32 (nw x), .int .i64 m] w fun e w' => e = .returned (.int .u32 (nw (rotr x m.toNat))) ∧ w' = w := by
  obtain ⟨n, rfl⟩ := Int.eq_ofNat_of_zero_le (Int.le_of_lt h0)
  exact turn27 w x n (by omega) (by omega)
theorem turn23i (w : World) (x : W) (m : Int) (h0 : 0 < m) (h1 : m < 32) :
    Calls Tryd.prog 34 #[.int .u32 (nw x), .int .i64 m] w fun e w' => e = .returned (.int .u32 (nw (rotr x m.toNat))) ∧ w' = w := by
  obtain ⟨n, rfl⟩ := Int.eq_ofNat_of_zero_le (Int.le_of_lt h0)
  exact turn23 w x n (by omega) (by omega)
end Go.Proofs.YtanmopbhglokmaaDoor
