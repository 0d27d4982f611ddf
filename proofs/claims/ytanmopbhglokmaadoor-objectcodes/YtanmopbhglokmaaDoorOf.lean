
/-
  Of, Check.
-/
import Derived.Test.YtanmopbhglokmaaDoorSu
set_option linter.all false
namespace Go.Proofs.YtanmopbhglokmaaDoor
open Go.RowKit

/-- A kind's byte. -/
def kb (k : Int) : B := BitVec.ofInt 8 k
theorem nb_kb (k : Int) : nb (kb k) = k % 256 := by
  unfold nb kb
  rw [BitVec.toNat_ofInt]
  have : (0 : Int) ≤ k % 256 := Int.emod_nonneg _ (by decide)
  omega
theorem slb_one {w : World} {q : Nat} (x : B) (c : Nat) (hc : 1 ≤ c) (h : w.cell? ⟨q, 0, none⟩ = some (.int .u8 (nb x))) : SlB w (some ⟨q, 0, none⟩) 1 c [x] :=
  ⟨rfl, hc, fun j y hy => by
    cases j with
    | zero => simp at hy; subst hy; exact ⟨q, 0, rfl, h⟩
    | succ j => simp at hy⟩

theorem buildSlice1 (x : Int) (w : World) : (Instr.buildSlice 22 1 #[(0, .int .u8 x)]).run Tryd.prog w = .ok (.slice (some ⟨w.heap.size, 0, none⟩) 1 1) (w.alloc (.cells #[.int .u8 x] 5)) := by kernel_rfl
theorem buildSlice0 (w : World) : (Instr.buildSlice 22 0 #[]).run Tryd.prog w = .ok (.slice (some ⟨w.heap.size, 0, none⟩) 0 0) (w.alloc (.cells #[] 5)) := by kernel_rfl

theorem wpList_buildSlice1 {ops : Array Oper} {rest : List Oper} {o : Oper} {a : Act} {w : World} {Q : Exit → Act → World → Prop} (hgd : o.guard = none) (x : Operand) (ho : o.op = .buildSlice 22 1 #[(0, x)]) (y : Int) (hx : a.eval x = .int .u8 y)
    (h : wpList Tryd.prog ops Q rest (a.put o.dst (.slice (some ⟨w.heap.size, 0, none⟩) 1 1)) (w.alloc (.cells #[.int .u8 y] 5))) : wpList Tryd.prog ops Q (o :: rest) a w := by
  refine wpList_plain hgd fun K hK => ?_
  unfold Oper.wp execOp
  simp only [ho, hx, List.map_toArray, List.map_cons, List.map_nil, buildSlice1, Sem.run_bind, Result.andThen_ok, Sem.run_pure]
  exact hK _ _ h

theorem cell_new1 (w : World) (v : Value) (t : TypeId) : (w.alloc (.cells #[v] t)).cell? ⟨w.heap.size, 0, none⟩ = some v := by
  rw [cell_of_row _ _ 0 _ _ _ (heap_alloc_new _ _)]; rfl
theorem keeps_alloc (w : World) (o : Obj) : Keeps (fun _ => False) w (w.alloc o) := (Keeps.refl _ _).alloc _

end Go.Proofs.YtanmopbhglokmaaDoor
