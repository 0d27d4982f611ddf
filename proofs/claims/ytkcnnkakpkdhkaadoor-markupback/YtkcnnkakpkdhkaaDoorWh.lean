
/-
  Rows that are read whole, worlds that only grow, texts' bytes.
-/
import Derived.Test.YtkcnnkakpkdhkaaDoorEq
import Derived.Test.YtkcnnkakpkdhkaaDoorPl
import Derived.Deep.RegionHeld3
import Derived.Deep.DrawnRows
set_option linter.all false
namespace Go.Proofs.YtkcnnkakpkdhkaaDoor
open Go.RowKit Go.Sort

theorem keeps_new5 {w w1 : World} {o : Obj} (h : Keeps (· = w.heap.size) (w.alloc o) w1) : Keeps (fun _ => False) w w1 := ((Keeps.refl _ _).alloc _).trans' h (fun i e => .inr (by omega))
theorem Keeps.trans2 {S T : Nat → Prop} {a b c : World} (h : Keeps S a b) (k : Keeps T b c) : Keeps (fun i => S i ∨ T i) a c :=
  (h.mono (fun _ _ e => .inl e)).trans (k.mono (fun _ _ e => .inr e))


theorem range_row {w : World} {g : Nat} {l : List B} {t : TypeId} {fr : Nat × Nat} (h : w.heap[g]? = some (.cells (brow l) t fr)) : w.rangeAt g 0 (l.map vb) := fun j v hv => by
  rw [cell_of_row w _ _ _ _ _ h, Nat.zero_add]
  simpa [brow] using hv
theorem cell_row {w : World} {g : Nat} {l : List B} {t : TypeId} {fr : Nat × Nat} (h : w.heap[g]? = some (.cells (brow l) t fr)) (j : Nat) (x : B) (hx : l[j]? = some x) : w.cell? ⟨g, j, none⟩ = some (.int .u8 (nb x)) := by
  rw [cell_of_row w _ _ _ _ _ h, brow_get, hx]; rfl

theorem keeps_cls {w w' : World} (h : ∃ p : Regrown, w' = grow (redrawn w p.d) p.os) : Keeps (fun _ => False) w w' := by
  obtain ⟨p, rfl⟩ := h
  have b := below_regrown w p.d p.os
  exact ⟨b.os, b.tape, b.output, b.size, fun k hk _ => b.block k hk⟩
theorem cls_keeps {w w' : World} (h : Keeps (fun _ => False) w w') : ∃ p : Regrown, w' = grow (redrawn w p.d) p.os := regrown_of_below (h.below (Nat.le_refl _) (fun _ _ h => h))
theorem range4 {w : World} {g : Nat} {a b c d : Value} (h0 : w.cell? ⟨g, 0, none⟩ = some a) (h1 : w.cell? ⟨g, 1, none⟩ = some b) (h2 : w.cell? ⟨g, 2, none⟩ = some c) (h3 : w.cell? ⟨g, 3, none⟩ = some d) : w.rangeAt g 0 [a, b, c, d] := fun j v hv => by
  match j, hv with
  | 0, hv => simp at hv; rw [← hv]; exact h0
  | 1, hv => simp at hv; rw [← hv]; exact h1
  | 2, hv => simp at hv; rw [← hv]; exact h2
  | 3, hv => simp at hv; rw [← hv]; exact h3
  | j + 4, hv => simp at hv
/-- A whole row is read in a region that only reads. -/
theorem quiet_rows {o : Oper} {a : Act} {C : World → Prop} {K : Act → Prop} (ty : TypeId) (x : Operand) (ho : o.op = .load ty x) (g : Nat) (hx : a.eval x = .pointer (some ⟨g, 0, none⟩)) (cs : List Value) (hc : ∀ w, C w → w.rangeAt g 0 cs) {u : TypeDesc} (hu : Tryd.prog.underlying ty = some u) (hd : u.isRow = true)
    (hi : (Tryd.prog.info? ty).map (·.size) = some cs.length) (hk : K (a.put o.dst (.agg cs.toArray))) : o.quiet Tryd.prog a C K := by
  refine ⟨.agg cs.toArray, fun w hw => ?_, hk⟩
  have hr := run_loadVar_mid (P := Tryd.prog) w g 0 ty cs _ (hc w hw) hu hd hi
  unfold Oper.quietAt execOp
  simp only [ho, hx, Instr.loadAt, Instr.sureAddr, Sem.run_bind, Sem.run_pure, Result.andThen_ok, hr]
  exact ⟨rfl, rfl⟩

end Go.Proofs.YtkcnnkakpkdhkaaDoor
