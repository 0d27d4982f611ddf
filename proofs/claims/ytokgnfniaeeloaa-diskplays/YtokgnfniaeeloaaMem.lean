/-
  Long rows by value: rules at the level of one operation: the row that is read stands as a function of the world.
-/
import Derived.Test.YtokgnfniaeeloaaDb
set_option linter.all false
namespace Go.Proofs.Ytokgnfniaeeloaa
open Go.RowKit

def addrOf : Value → Addr
  | .pointer (some a) => a
  | _ => ⟨0, 0, none⟩

/-- The cells of block q. -/
def rowOf (w : World) (q : Nat) : Array Value :=
  match w.heap[q]? with
  | some (.cells cs _ _) => cs
  | _ => #[]

/-- n cells of block q from o on. -/
def cellsAt (w : World) (q o n : Nat) : Array Value := (rowOf w q).extract o (o + n)

theorem rowOf_of {w : World} {q : Nat} {cs : Array Value} {t : TypeId} {fr : Nat × Nat} (h : w.heap[q]? = some (.cells cs t fr)) : rowOf w q = cs := by simp [rowOf, h]
theorem rowOf_block {w w' : World} {q : Nat} (h : w'.heap[q]? = w.heap[q]?) : rowOf w' q = rowOf w q := by simp [rowOf, h]
theorem cellsAt_block {w w' : World} {q : Nat} (h : w'.heap[q]? = w.heap[q]?) (o n : Nat) : cellsAt w' q o n = cellsAt w q o n := by simp [cellsAt, rowOf_block h]
theorem cellsAt_drew (w : World) (q o n : Nat) : cellsAt w.drew q o n = cellsAt w q o n := rfl
theorem cellsAt_drewN (w : World) (j q o n : Nat) : cellsAt (w.drewN j) q o n = cellsAt w q o n := by
  refine cellsAt_block ?_ o n
  simp
theorem cellsAt_alloc (w : World) (ob : Obj) (q o n : Nat) (h : q < w.heap.size) : cellsAt (w.alloc ob) q o n = cellsAt w q o n := cellsAt_block (Below.heap_alloc w ob q h) o n

theorem rangeAt_cellsAt (w : World) (q o n : Nat) : w.rangeAt q o (cellsAt w q o n).toList := fun j v hv => by
  unfold cellsAt rowOf at hv
  cases hq : w.heap[q]? with
  | none => simp [hq] at hv
  | some ob =>
    cases ob with
    | cells cs t fr =>
      simp only [hq] at hv
      rw [cell_of_row w q (o + j) cs t fr hq]
      simp only [Array.getElem?_toList, Array.getElem?_extract] at hv
      split at hv
      · exact hv
      · cases hv
    | _ => simp [hq] at hv

theorem wp_load_cells (ty : TypeId) (n : Nat) (td : TypeDesc) (hu : Try.prog.underlying ty = some td) (hd : td.isRow = true) (hi : (Try.prog.info? ty).map (·.size) = some n)
    {d : Option Tmp} {x : Operand} {tt : TypeId} {ps : String} {af : Array Edge} {a : Act} {w : World} {K : Act → World → Prop} {Q : Exit → Act → World → Prop}
    (h1 : a.eval x = .pointer (some ⟨(addrOf (a.eval x)).block, (addrOf (a.eval x)).off, none⟩)) (h2 : (cellsAt w (addrOf (a.eval x)).block (addrOf (a.eval x)).off n).size = n) :
    Oper.wp Try.prog { dst := d, op := .load ty x, type := tt, pos := ps, after := af, guard := none } a w K Q =
      K (a.put d (.agg (cellsAt w (addrOf (a.eval x)).block (addrOf (a.eval x)).off n))) w := by
  have hr := run_loadVar_mid (P := Try.prog) w (addrOf (a.eval x)).block (addrOf (a.eval x)).off ty _ td (rangeAt_cellsAt w _ _ n) hu hd (by rw [hi, Array.length_toList, h2])
  rw [Array.toArray_toList] at hr
  unfold Oper.wp execOp
  dsimp only
  rw [h1]
  simp only [Instr.loadAt, Instr.sureAddr, Sem.run_bind, Sem.run_pure, Result.andThen_ok]
  simp only [addrOf] at hr ⊢
  rw [hr]
  rfl

theorem wp_load37 {d : Option Tmp} {x : Operand} {tt : TypeId} {ps : String} {af : Array Edge} {a : Act} {w : World} {K : Act → World → Prop} {Q : Exit → Act → World → Prop}
    (h1 : a.eval x = .pointer (some ⟨(addrOf (a.eval x)).block, (addrOf (a.eval x)).off, none⟩)) (h2 : (cellsAt w (addrOf (a.eval x)).block (addrOf (a.eval x)).off 128).size = 128) :
    Oper.wp Try.prog { dst := d, op := .load 37 x, type := tt, pos := ps, after := af, guard := none } a w K Q =
      K (a.put d (.agg (cellsAt w (addrOf (a.eval x)).block (addrOf (a.eval x)).off 128))) w :=
  wp_load_cells 37 128 _ Try.underlying37 rfl size37 h1 h2

end Go.Proofs.Ytokgnfniaeeloaa
