/-
  In the fenced walk, at the level of one operation: a long row loaded, stored into the midst of a block, copied.
-/
import Derived.Test.YtokgnfniaeeloaaRk
set_option linter.all false
namespace Go.Proofs.Ytokgnfniaeeloaa
open Go.RowKit Go.Shelf

theorem wpIn_at_zero {F : Fence} {n : Nat} {P : Program} {o : Oper} {l : List Oper} {h : 0 < (o :: l).toArray.size} {a : Act} {w : World} {K : Act → World → Prop} {Q : Exit → Act → World → Prop} :
    Oper.wpIn F n P ((o :: l).toArray[0]'h) a w K Q = Oper.wpIn F n P o a w K Q := rfl
theorem wpIn_at_succ {F : Fence} {n : Nat} {P : Program} {o : Oper} {l : List Oper} {j : Nat} {h : j + 1 < (o :: l).toArray.size} {a : Act} {w : World} {K : Act → World → Prop} {Q : Exit → Act → World → Prop} :
    Oper.wpIn F n P ((o :: l).toArray[j + 1]'h) a w K Q = Oper.wpIn F n P (l.toArray[j]'(by simpa using h)) a w K Q := rfl

/-- cs laid over the row from o on. -/
def over (row : Array Value) (o : Nat) (cs : Array Value) : Array Value := (row.toList.take o ++ cs.toList ++ row.toList.drop (o + cs.size)).toArray

theorem size_over {row cs : Array Value} {o : Nat} (h : o + cs.size ≤ row.size) : (over row o cs).size = row.size := by
  simp [over]; omega

/-- Block g may be written, and has n cells at least. -/
def RoomRow (w : World) (g n : Nat) : Prop := ∃ cs t, w.heap[g]? = some (.cells cs t (0, 0)) ∧ n ≤ cs.size
/-- n cells lie in block g from o on, each one cell. -/
def SrcRow (w : World) (g o n : Nat) : Prop := (cellsAt w g o n).size = n ∧ AllOne (cellsAt w g o n)

theorem wpIn_load37 {F : Fence} {m : Nat} {d : Option Tmp} {x : Operand} {tt : TypeId} {ps : String} {af : Array Edge} {a : Act} {w : World} {K : Act → World → Prop} {Q : Exit → Act → World → Prop}
    (h1 : a.eval x = .pointer (some ⟨(addrOf (a.eval x)).block, (addrOf (a.eval x)).off, none⟩)) (h2 : SrcRow w (addrOf (a.eval x)).block (addrOf (a.eval x)).off 128) :
    Oper.wpIn F m Try.prog { dst := d, op := .load 37 x, type := tt, pos := ps, after := af, guard := none } a w K Q =
      K (a.put d (.agg (cellsAt w (addrOf (a.eval x)).block (addrOf (a.eval x)).off 128))) w := by
  have hr := run_loadVar_mid (P := Try.prog) w (addrOf (a.eval x)).block (addrOf (a.eval x)).off 37 _ _ (rangeAt_cellsAt w _ _ 128) Try.underlying37 rfl (by rw [size37, Array.length_toList, h2.1])
  rw [Array.toArray_toList] at hr
  unfold Oper.wpIn
  rw [semAt_load _ _ _ 37 x rfl]
  unfold execOp
  dsimp only
  rw [h1]
  simp only [Instr.loadAt, Instr.sureAddr, Sem.run_bind, Sem.run_pure, Result.andThen_ok]
  simp only [addrOf] at hr ⊢
  rw [hr]
  simp [Oper.about, Oper.uponIn, Result.andThen]

theorem run_storeVar_over (w : World) (g o : Nat) (t ty : TypeId) (cur new : Array Value) (hg : w.heap[g]? = some (.cells cur t (0, 0))) (hi : (Try.prog.info? ty).map (·.size) = some new.size) (hfit : o + new.size ≤ cur.size) (h1 : AllOne new) :
    (storeVar ty ⟨g, o, none⟩ (.agg new)).run Try.prog w = .ok () (w.setRow g (over cur o new)) := by
  have hst := run_storeCells_at Try.prog g o t new.toList 0 cur w hg (by simpa using hfit) (fun v hv => (Array.all_eq_true_iff_forall_mem.1 h1) v (by simpa using hv))
  cases hq : Try.prog.info? ty with
  | none => simp [hq] at hi
  | some i =>
    have hs : new.size = i.size := by simp [hq] at hi; omega
    simp only [Nat.add_zero, Array.length_toList] at hst
    simp [storeVar, sizeOf, typeInfo, hq, Value.cells, hs]
    exact hst

theorem wpIn_store37 {F : Fence} {m : Nat} {d : Option Tmp} {x y : Operand} {tt : TypeId} {ps : String} {af : Array Edge} {a : Act} {w : World} {K : Act → World → Prop} {Q : Exit → Act → World → Prop}
    (h1 : a.eval x = .pointer (some ⟨(addrOf (a.eval x)).block, (addrOf (a.eval x)).off, none⟩)) (h2 : a.eval y = .agg (aggOf (a.eval y))) (h3 : (aggOf (a.eval y)).size = 128) (h4 : AllOne (aggOf (a.eval y))) (h5 : RoomRow w (addrOf (a.eval x)).block ((addrOf (a.eval x)).off + 128)) :
    Oper.wpIn F m Try.prog { dst := d, op := .store 37 x y, type := tt, pos := ps, after := af, guard := none } a w K Q =
      K (a.put d undef) (w.setRow (addrOf (a.eval x)).block (over (rowOf w (addrOf (a.eval x)).block) (addrOf (a.eval x)).off (aggOf (a.eval y)))) := by
  obtain ⟨cs, t, hg, hs⟩ := h5
  have hr := run_storeVar_over w (addrOf (a.eval x)).block (addrOf (a.eval x)).off t 37 cs (aggOf (a.eval y)) hg (by rw [h3]; exact size37) (by rw [h3]; exact hs) h4
  rw [← rowOf_of hg] at hr
  unfold Oper.wpIn
  rw [semAt_store _ _ _ 37 x y rfl]
  unfold execOp
  dsimp only
  rw [h1, h2]
  simp only [Instr.storeAt, Instr.sureAddr, Sem.run_bind, Sem.run_pure, Result.andThen_ok]
  simp only [addrOf, aggOf] at hr ⊢
  rw [hr]
  simp [Oper.about, Oper.uponIn, Result.andThen]

def slAddr : Value → Addr
  | .slice (some a) _ _ => a
  | _ => ⟨0, 0, none⟩
def slLen : Value → Nat
  | .slice _ n _ => n
  | _ => 0
def slCap : Value → Nat
  | .slice _ _ c => c
  | _ => 0

theorem semAt_call (ro : Option Nat) (ρ : Operand → Value) (o : Oper) (c : Call) (ho : o.op = .call c) : Oper.semAt ro ρ o = execOp ρ o := by
  unfold Oper.semAt; cases ro <;> simp [ho]

theorem size5 : (Try.prog.info? 5).map (·.size) = some 1 := by kernel_rfl

theorem wpIn_copy {F : Fence} {m : Nat} {d : Option Tmp} {x y : Operand} {tt : TypeId} {ps : String} {af : Array Edge} {a : Act} {w : World} {K : Act → World → Prop} {Q : Exit → Act → World → Prop}
    (h1 : a.eval x = .slice (some ⟨(slAddr (a.eval x)).block, (slAddr (a.eval x)).off, none⟩) (slLen (a.eval x)) (slCap (a.eval x)))
    (h2 : a.eval y = .slice (some ⟨(slAddr (a.eval y)).block, (slAddr (a.eval y)).off, none⟩) (slLen (a.eval y)) (slCap (a.eval y)))
    (h3 : slLen (a.eval y) = slLen (a.eval x)) (h4 : RoomRow w (slAddr (a.eval x)).block ((slAddr (a.eval x)).off + slLen (a.eval x)))
    (h5 : SrcRow w (slAddr (a.eval y)).block (slAddr (a.eval y)).off (slLen (a.eval y))) :
    Oper.wpIn F m Try.prog { dst := d, op := .call { callee := .builtin .copy, args := #[x, y], argTypes := #[32, 32] }, type := tt, pos := ps, after := af, guard := none } a w K Q =
      K (a.put d (goInt (slLen (a.eval y)))) (w.setRow (slAddr (a.eval x)).block (over (rowOf w (slAddr (a.eval x)).block) (slAddr (a.eval x)).off (cellsAt w (slAddr (a.eval y)).block (slAddr (a.eval y)).off (slLen (a.eval y))))) := by
  obtain ⟨cs, t, hg, hs⟩ := h4
  have hr := run_copy_row Try.prog w 32 32 tt 5 (slAddr (a.eval x)).block (slAddr (a.eval x)).off (slLen (a.eval x)) (slCap (a.eval x)) ⟨(slAddr (a.eval y)).block, (slAddr (a.eval y)).off, none⟩ (slLen (a.eval y)) (slCap (a.eval y)) cs t
    (cellsAt w (slAddr (a.eval y)).block (slAddr (a.eval y)).off (slLen (a.eval y))).toList Try.underlying32 size5 hg (by rw [Array.length_toList, h5.1, h3]; exact (Nat.min_self _).symm)
    (fun j v hv => by rw [Addr.add_mid]; exact rangeAt_cellsAt w _ _ _ j v hv) (by rw [Array.length_toList, h5.1, h3]; exact hs) (fun v hv => (Array.all_eq_true_iff_forall_mem.1 h5.2) v (by simpa using hv))
  rw [Array.length_toList] at hr
  have hlen := h5.1
  unfold Oper.wpIn
  rw [semAt_call _ _ _ _ rfl]
  unfold execOp
  simp only [resolve, invoke, builtin, Sem.run_bind, Sem.run_pure, Result.andThen_ok, List.map_toArray, List.map_cons, List.map_nil]
  rw [← h1, ← h2] at hr
  rw [hr]
  simp [Oper.about, resolve, Oper.uponIn, Result.andThen, Target.leads, hlen, over, rowOf_of hg]

end Go.Proofs.Ytokgnfniaeeloaa
