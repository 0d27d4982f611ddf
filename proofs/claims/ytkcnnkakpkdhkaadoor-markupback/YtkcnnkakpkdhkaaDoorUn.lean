
/-
  The reference's letters, its text.
-/
import Derived.Test.YtkcnnkakpkdhkaaDoorUm
set_option linter.all false
namespace Go.Proofs.YtkcnnkakpkdhkaaDoor
open Go.RowKit Go.Sort Go.Shelf
attribute [local go_sem] Oper.semAt_some

theorem low_isL (v : Int) : isL v = decide (97 ≤ low v ∧ low v ≤ 122) := by
  unfold isL low
  by_cases h : 65 ≤ v ∧ v ≤ 90
  · rw [if_pos h, decide_eq_true (.inl h), decide_eq_true (by omega)]
  · rw [if_neg h]
    simp only [h, false_or]

/-- What the reference's Text tells. -/
def rtx (l : List Int) : List UInt8 × Bool := if allS l then (encs l, true) else ([], false)
theorem encs_take {l : List Int} {i : Nat} (hi : i < l.length) : encs (l.take (i + 1)) = encs (l.take i) ++ Lib.encodeRune (l.getD i 0) := by
  rw [take_snoc hi, encs_app, encs_cons, encs_nil, List.append_nil]
theorem OwnU.from {w : World} {base g : Nat} {v : Value} {l : List UInt8} (h : OwnU w base v l) (e : v.ownBlock = some g) : base ≤ g ∧ g < w.heap.size := h.owns.lt g e

end Go.Proofs.YtkcnnkakpkdhkaaDoor
