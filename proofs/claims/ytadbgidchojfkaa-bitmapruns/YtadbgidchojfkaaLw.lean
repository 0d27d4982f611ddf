/-
  Laws for bitmaps in memory: what is made gets a letter.
-/
import Derived.Test.YtadbgidchojfkaaHa
import Derived.Test.YtadbgidchojfkaaEq
set_option linter.all false
namespace Go.Proofs.Ytadbgidchojfkaa
open Go.RowKit Go.Sort

theorem keeps_alloc (w : World) (o : Obj) : Keeps (fun _ => False) w (w.alloc o) := (Keeps.refl _ _).alloc _
theorem info23 : (Try.prog.info? 23).map (fun i => (i.zero, i.size)) = some (some (.agg (brow (zb 16))), 16) := by kernel_rfl
theorem zero23 (w : World) : (zeroValue 23).run Try.prog w = .ok (.agg (brow (zb 16))) w := (zero_of_info info23).1 w
theorem size23 : (Try.prog.info? 23).map (·.size) = some 16 := (zero_of_info info23).2

/-- In block g lies the bitmap L. -/
structure BmAt (w : World) (g : Nat) (L : List B) : Prop where
  row : w.heap[g]? = some (.cells (brow L) 23 (0, 0))
  len : L.length = 16
theorem BmAt.lt {w : World} {g : Nat} {L : List B} (h : BmAt w g L) : g < w.heap.size := lt_of_row h.row
theorem BmAt.keeps {S : Nat → Prop} {a w : World} {g : Nat} {L : List B} (h : BmAt a g L) (hk : Keeps S a w) (hs : ¬ S g) : BmAt w g L := ⟨hk.row h.row hs, h.len⟩
theorem BmAt.keep {a w : World} {g : Nat} {L : List B} (h : BmAt a g L) (hk : Keeps (fun _ => False) a w) : BmAt w g L := h.keeps hk (fun h => h)
theorem BmAt.cls {a w : World} {g : Nat} {L : List B} (h : BmAt a g L) (hk : ∃ p : Regrown, w = grow (redrawn a p.d) p.os) : BmAt w g L := h.keep (keeps_cls hk)
theorem BmAt.size {w : World} {g : Nat} {L : List B} (h : BmAt w g L) : (brow L).size = 16 := by rw [size_brow, h.len]
theorem BmAt.cell {w : World} {g : Nat} {L : List B} (h : BmAt w g L) {j : Nat} (hj : j < 16) : w.cell? ⟨g, j, none⟩ = some (.int .u8 (nb (L.getD j 0))) := by
  have hl := h.len
  rw [cell_of_row w _ _ _ _ _ h.row, brow_get, List.getElem?_eq_getElem (by omega), getD_lt (by omega)]; rfl
theorem BmAt.live {w : World} {g : Nat} {L : List B} (h : BmAt w g L) (j : Nat) : w.frozen? ⟨g, j, none⟩ = false := frozen_of_row w g j _ _ h.row
theorem BmAt.range {w : World} {g : Nat} {L : List B} (h : BmAt w g L) : w.rangeAt g 0 (brow L).toList := fun j v hv => by
  rw [cell_of_row w _ _ _ _ _ h.row, Nat.zero_add]
  simpa using hv
theorem BmAt.set {w : World} {g : Nat} {L : List B} (h : BmAt w g L) (j : Nat) (x : B) : BmAt (w.setCell ⟨g, j, none⟩ (.int .u8 (nb x))) g (L.set j x) :=
  ⟨by rw [heap_setCell_same w _ _ _ _ _ h.row, brow_set], by rw [List.length_set, h.len]⟩

theorem wpList_box23 {ops : Array Oper} {rest : List Oper} {o : Oper} {a : Act} {w : World} {Q : Exit → Act → World → Prop} (hgd : o.guard = none) (x : Operand) (ho : o.op = .box 23 x) (L : List B) (hL : L.length = 16) (hx : a.eval x = .agg (brow L))
    (h : ∀ g w', BmAt w' g L → w.heap.size ≤ g → Keeps (fun _ => False) w w' → wpList Try.prog ops Q rest (a.put o.dst (.pointer (some ⟨g, 0, none⟩))) w') : wpList Try.prog ops Q (o :: rest) a w := by
  refine wpList_plain hgd fun K hK => ?_
  unfold Oper.wp execOp
  simp only [ho, hx, newVar, newRow, Sem.run_bind, Result.andThen_ok, Sem.run_pure]
  exact hK _ _ (h w.heap.size _ ⟨heap_alloc_new w _, hL⟩ (Nat.le_refl _) (keeps_alloc w _))

theorem wpList_alloc23 {ops : Array Oper} {rest : List Oper} {o : Oper} {a : Act} {w : World} {Q : Exit → Act → World → Prop} (hgd : o.guard = none) (ho : o.op = .alloc 23)
    (h : ∀ g w', BmAt w' g (zb 16) → w.heap.size ≤ g → Keeps (fun _ => False) w w' → wpList Try.prog ops Q rest (a.put o.dst (.pointer (some ⟨g, 0, none⟩))) w') : wpList Try.prog ops Q (o :: rest) a w := by
  refine wpList_plain hgd fun K hK => ?_
  unfold Oper.wp execOp
  simp only [ho, Instr.alloc, zero23, newVar, newRow, Sem.run_bind, Result.andThen_ok, Sem.run_pure]
  exact hK _ _ (h w.heap.size _ ⟨heap_alloc_new w _, zb_len _⟩ (Nat.le_refl _) (keeps_alloc w _))

theorem build23 (w : World) : (Instr.build 23 #[]).run Try.prog w = .ok (.agg (brow (zb 16))) w := by
  unfold Instr.build
  simp only [Sem.run_bind, zero23, Result.andThen_ok, run_underlying Try.underlying23]
  have hs5 : (sizeOf 5).run Try.prog w = .ok 1 w := by simp [go_sem]
  simp [Instr.fill, Value.cells, hs5]
theorem wpList_build23 {ops : Array Oper} {rest : List Oper} {o : Oper} {a : Act} {w : World} {Q : Exit → Act → World → Prop} (hgd : o.guard = none) (ho : o.op = .build 23 #[])
    (h : wpList Try.prog ops Q rest (a.put o.dst (.agg (brow (zb 16)))) w) : wpList Try.prog ops Q (o :: rest) a w := by
  refine wpList_plain hgd fun K hK => ?_
  unfold Oper.wp execOp
  simp only [ho, List.map_toArray, List.map_nil, build23, Sem.run_bind, Result.andThen_ok, Sem.run_pure]
  exact hK _ _ h

theorem run_load23 {w : World} {g : Nat} {L : List B} (h : BmAt w g L) : (loadVar 23 ⟨g, 0, none⟩).run Try.prog w = .ok (.agg (brow L)) w :=
  run_loadVar_row w g 23 23 (brow L) _ _ h.row Try.underlying23 rfl (by rw [h.size]; exact size23)
theorem wpList_load23 {ops : Array Oper} {rest : List Oper} {o : Oper} {a : Act} {w : World} {Q : Exit → Act → World → Prop} (hw : Region.wanted o (yielded ops a.tmps) = true) (x : Operand) (ho : o.op = .load 23 x) (g : Nat) (hx : a.eval x = .pointer (some ⟨g, 0, none⟩)) (L : List B) (hb : BmAt w g L)
    (h : wpList Try.prog ops Q rest (a.put o.dst (.agg (brow L))) w) : wpList Try.prog ops Q (o :: rest) a w := by
  unfold wpList
  rw [if_pos hw]
  left
  unfold Oper.wp execOp
  simp only [ho, hx, Instr.loadAt, Instr.sureAddr, Sem.run_bind, Sem.run_pure, Result.andThen_ok, run_load23 hb]
  exact h
theorem quiet_load23 {o : Oper} {a : Act} {C : World → Prop} {K : Act → Prop} (x : Operand) (ho : o.op = .load 23 x) (g : Nat) (hx : a.eval x = .pointer (some ⟨g, 0, none⟩)) (L : List B) (hb : ∀ w, C w → BmAt w g L) (hk : K (a.put o.dst (.agg (brow L)))) : o.quiet Try.prog a C K := by
  refine ⟨.agg (brow L), fun w hw => ?_, hk⟩
  unfold Oper.quietAt execOp
  simp only [ho, hx, Instr.loadAt, Instr.sureAddr, Sem.run_bind, Sem.run_pure, Result.andThen_ok, run_load23 (hb w hw)]
  exact ⟨rfl, rfl⟩

theorem wpList_store23 {ops : Array Oper} {rest : List Oper} {o : Oper} {a : Act} {w : World} {Q : Exit → Act → World → Prop} (hgd : o.guard = none) (x y : Operand) (ho : o.op = .store 23 x y) (g : Nat) (hx : a.eval x = .pointer (some ⟨g, 0, none⟩)) (L : List B) (hy : a.eval y = .agg (brow L)) (hL : L.length = 16)
    (L' : List B) (hb : BmAt w g L') (h : ∀ w', BmAt w' g L → Keeps (· = g) w w' → wpList Try.prog ops Q rest (a.put o.dst undef) w') : wpList Try.prog ops Q (o :: rest) a w := by
  refine wpList_plain hgd fun K hK => ?_
  unfold Oper.wp execOp
  simp only [ho, hx, hy, Instr.storeAt, Instr.sureAddr, Sem.run_bind, Sem.run_pure, Result.andThen_ok, run_storeVar_row w g 23 23 (brow L') (brow L) hb.row (by rw [size_brow, hL]; exact size23) (by rw [size_brow, size_brow, hL, hb.len]) (brow_one L)]
  exact hK _ _ (h _ ⟨setRow_heap w g _ _ _ _ hb.row, hL⟩ ((Keeps.refl (· = g) w).setRow (.inl rfl) _))

/-- A bitmap and a number are told. -/
theorem results_row_slot {fn : Func} {p q : Tmp} (h : fn.results = #[.cell p 23, .tmp q]) (tmps : Array Value) (w : World) (g : Nat) (L : List B) (v : Value) (hp : tmps.getD p undef = .pointer (some ⟨g, 0, none⟩)) (hq : tmps.getD q undef = v) (hb : BmAt w g L) :
    (results fn tmps).run Try.prog w = .ok (.tuple #[.agg (brow L), v]) w := by
  have hp' : tmps[p]?.getD undef = .pointer (some ⟨g, 0, none⟩) := by simpa using hp
  have hq' : tmps[q]?.getD undef = v := by simpa using hq
  simp [results, h, hp', hq', asAddr, run_load23 hb]

theorem eq23 {x y : List B} (hx : x.length = 16) (hy : y.length = 16) (w : World) : (Op.equalIn 10000 23 (.agg (brow x)) (.agg (brow y))).run Try.prog w = .ok (decide (x = y)) w :=
  run_equalIn_row 9998 23 16 Try.underlying23 x y hx hy w

end Go.Proofs.Ytadbgidchojfkaa
