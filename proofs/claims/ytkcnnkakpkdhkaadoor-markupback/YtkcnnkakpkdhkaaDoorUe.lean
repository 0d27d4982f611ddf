
/-
  Text.
-/
import Derived.Test.YtkcnnkakpkdhkaaDoorUd
set_option linter.all false
namespace Go.Proofs.YtkcnnkakpkdhkaaDoor
open Go.RowKit Go.Sort Go.Shelf
attribute [local go_sem] Oper.semAt_some

instance (L : List Int) : Decidable (allS L) := by unfold allS; infer_instance
/-- What Text tells. -/
def txt (l : List Int) : List UInt8 × Int := if allS l then (encs l, 0) else ([], 11)
def bs (l : List UInt8) : ByteArray := ⟨l.toArray⟩
theorem bs_data (l : List UInt8) : (bs l).data.toList = l := by simp [bs]
theorem bs_size (l : List UInt8) : (bs l).size = l.length := by rw [← sz_len, bs_data]
theorem bs_of (s : ByteArray) : bs s.data.toList = s := by cases s; simp [bs]

theorem take_snoc {l : List Int} {i : Nat} (hi : i < l.length) : l.take (i + 1) = l.take i ++ [l.getD i 0] := by
  rw [List.take_succ_eq_append_getElem hi, List.getD_eq_getElem?_getD, List.getElem?_eq_getElem hi]; rfl
theorem encs_snoc {l : List Int} {i : Nat} (hi : i < l.length) : Lib.byteCells (encs (l.take (i + 1))) = Lib.byteCells (encs (l.take i)) ++ Lib.runeCells (l.getD i 0) := by
  rw [take_snoc hi, encs_app, Lib.byteCells_append, encs_cons, encs_nil, List.append_nil, Lib.byteCells_encodeRune]
theorem getD_mem {l : List Int} {i : Nat} (hi : i < l.length) : l.getD i 0 ∈ l := by
  rw [List.getD_eq_getElem?_getD, List.getElem?_eq_getElem hi]; exact List.getElem_mem hi

end Go.Proofs.YtkcnnkakpkdhkaaDoor
