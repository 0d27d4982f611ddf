
/-
  Variables that hold a row of any type.
-/
import Derived.Test.YtdgnjpdjohibeaaDoorPz
set_option linter.all false
set_option maxRecDepth 100000
namespace Go.Proofs.YtdgnjpdjohibeaaDoor
open Go.RowKit Go.Sort Go.Shelf

/-- In block g lies a row of type t. -/
structure RoAt (w : World) (g : Nat) (t : TypeId) (cs : Array Value) : Prop where
  row : w.heap[g]? = some (.cells cs t (0, 0))
theorem RoAt.lt {w : World} {g : Nat} {t : TypeId} {cs : Array Value} (h : RoAt w g t cs) : g < w.heap.size := lt_of_row h.row
theorem RoAt.keeps {S : Nat → Prop} {a w : World} {g : Nat} {t : TypeId} {cs : Array Value} (h : RoAt a g t cs) (hk : Keeps S a w) (hs : ¬ S g) : RoAt w g t cs := ⟨hk.row h.row hs⟩
theorem RoAt.keep {a w : World} {g : Nat} {t : TypeId} {cs : Array Value} (h : RoAt a g t cs) (hk : Keeps (fun _ => False) a w) : RoAt w g t cs := h.keeps hk (fun h => h)
theorem RoAt.cls {a w : World} {g : Nat} {t : TypeId} {cs : Array Value} (h : RoAt a g t cs) (hk : ∃ p : Regrown, w = grow (redrawn a p.d) p.os) : RoAt w g t cs := h.keep (keeps_cls hk)
theorem RoAt.cell {w : World} {g : Nat} {t : TypeId} {cs : Array Value} (h : RoAt w g t cs) (j : Nat) : w.cell? ⟨g, j, none⟩ = cs[j]? := cell_of_row w _ _ _ _ _ h.row
/-- What is known of a row's type. -/
structure RowTy (t : TypeId) (k : Nat) : Prop where
  under : ∃ u, Tryd.prog.underlying t = some u ∧ (match u with | .struct _ | .array _ _ => true | _ => false) = true
  size : (Tryd.prog.info? t).map (·.size) = some k
theorem wpList_allocR {ops : Array Oper} {rest : List Oper} {o : Oper} {a : Act} {w : World} {Q : Exit → Act → World → Prop} (hgd : o.guard = none) (t : TypeId) (ho : o.op = .alloc t) (cs : Array Value) (hz : ∀ w, (zeroValue t).run Tryd.prog w = .ok (.agg cs) w)
    (h : ∀ g w', RoAt w' g t cs → w.heap.size ≤ g → Keeps (fun _ => False) w w' → wpList Tryd.prog ops Q rest (a.put o.dst (.pointer (some ⟨g, 0, none⟩))) w') : wpList Tryd.prog ops Q (o :: rest) a w := by
  refine wpList_plain hgd fun K hK => ?_
  unfold Oper.wp execOp
  simp only [ho, Instr.alloc, hz, newVar, newRow, Sem.run_bind, Result.andThen_ok, Sem.run_pure]
  exact hK _ _ (h w.heap.size _ ⟨heap_alloc_new w _⟩ (Nat.le_refl _) (keeps_alloc w _))
theorem wpList_boxR {ops : Array Oper} {rest : List Oper} {o : Oper} {a : Act} {w : World} {Q : Exit → Act → World → Prop} (hgd : o.guard = none) (t : TypeId) (x : Operand) (ho : o.op = .box t x) (cs : Array Value) (hx : a.eval x = .agg cs)
    (h : ∀ g w', RoAt w' g t cs → w.heap.size ≤ g → Keeps (fun _ => False) w w' → wpList Tryd.prog ops Q rest (a.put o.dst (.pointer (some ⟨g, 0, none⟩))) w') : wpList Tryd.prog ops Q (o :: rest) a w := by
  refine wpList_plain hgd fun K hK => ?_
  unfold Oper.wp execOp
  simp only [ho, hx, newVar, newRow, Sem.run_bind, Result.andThen_ok, Sem.run_pure]
  exact hK _ _ (h w.heap.size _ ⟨heap_alloc_new w _⟩ (Nat.le_refl _) (keeps_alloc w _))
theorem wpList_storeR {ops : Array Oper} {rest : List Oper} {o : Oper} {a : Act} {w : World} {Q : Exit → Act → World → Prop} (hgd : o.guard = none) (t : TypeId) (x y : Operand) (ho : o.op = .store t x y) (g : Nat) (hx : a.eval x = .pointer (some ⟨g, 0, none⟩)) (cs : Array Value) (hy : a.eval y = .agg cs)
    (hs : RowTy t cs.size) (h1 : cs.all (·.oneCell') = true) (old : Array Value) (hb : RoAt w g t old) (he : old.size = cs.size) (h : ∀ w', RoAt w' g t cs → Keeps (· = g) w w' → wpList Tryd.prog ops Q rest (a.put o.dst undef) w') : wpList Tryd.prog ops Q (o :: rest) a w := by
  refine wpList_plain hgd fun K hK => ?_
  unfold Oper.wp execOp
  simp only [ho, hx, hy, Instr.storeAt, Instr.sureAddr, Sem.run_bind, Sem.run_pure, Result.andThen_ok, run_storeVar_row w g t t old cs hb.row hs.size he h1]
  exact hK _ _ (h _ ⟨setRow_heap w g _ _ _ _ hb.row⟩ ((Keeps.refl (· = g) w).setRow (.inl rfl) _))
theorem run_loadR {w : World} {g : Nat} {t : TypeId} {cs : Array Value} (h : RoAt w g t cs) (hs : RowTy t cs.size) : (loadVar t ⟨g, 0, none⟩).run Tryd.prog w = .ok (.agg cs) w := by
  obtain ⟨u, hu, hr⟩ := hs.under
  exact run_loadVar_row w g t t cs _ _ h.row hu (by cases u <;> first | rfl | cases hr) hs.size
theorem results_ro {fn : Func} {p : Tmp} {t : TypeId} (h : fn.results = #[.cell p t]) (tmps : Array Value) (w : World) (g : Nat) (cs : Array Value) (hp : tmps.getD p undef = .pointer (some ⟨g, 0, none⟩)) (hb : RoAt w g t cs) (hs : RowTy t cs.size) :
    (results fn tmps).run Tryd.prog w = .ok (.agg cs) w := by
  have hp' : tmps[p]?.getD undef = .pointer (some ⟨g, 0, none⟩) := by simpa using hp
  simp [results, h, hp', asAddr, run_loadR hb hs]
theorem rowTy52 : RowTy 24 32 := ⟨⟨_, Tryd.underlying24, rfl⟩, by kernel_rfl⟩
theorem zero52 (w : World) : (zeroValue 24).run Tryd.prog w = .ok (.agg (brow (zb 32))) w := by kernel_rfl
end Go.Proofs.YtdgnjpdjohibeaaDoor
