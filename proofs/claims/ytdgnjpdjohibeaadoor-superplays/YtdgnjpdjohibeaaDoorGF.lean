
/-
  Packed texts: Em, Ls, Gd, Bq, Bc.
-/
import Derived.Test.YtdgnjpdjohibeaaDoorGE
import Derived.Test.YtdgnjpdjohibeaaDoorGD
import Derived.Test.YtdgnjpdjohibeaaDoorGC
set_option linter.all false
set_option maxRecDepth 100000
namespace Go.Proofs.YtdgnjpdjohibeaaDoor

/-! Em: Entries in memory; One and Good of the reference. -/
section
open Go.RowKit Go.Sort

/-- An entry's cells. -/
def En.cells (e : En) : List Value := e.key.map vb ++ [.int .i64 e.place, .int .i64 e.blocks, .int .i64 e.refs]
theorem En.cells_len {e : En} (h : e.key.length = 32) : e.cells.length = 35 := by simp [En.cells, h]
def ecs (l : List En) : List Value := l.flatMap En.cells
theorem flatMap_drop {α β : Type} {f : α → List β} {k : Nat} {l : List α} (h : ∀ e ∈ l, (f e).length = k) : ∀ i, (l.flatMap f).drop (k * i) = (l.drop i).flatMap f := by
  induction l with
  | nil => intro i; simp
  | cons e l ih =>
    intro i
    cases i with
    | zero => simp
    | succ i =>
      have h1 := h e (by simp)
      have h2 := ih (fun x hx => h x (by simp [hx])) i
      rw [List.flatMap_cons, List.drop_succ_cons, ← h2, List.drop_append, List.drop_of_length_le (by rw [h1, Nat.mul_succ]; omega), List.nil_append, h1]
      congr 1
      rw [Nat.mul_succ]; omega
theorem ecs_len {l : List En} (h : Keyed l) : (ecs l).length = l.length * 35 := by
  induction l with
  | nil => rfl
  | cons e l ih =>
    have h1 := En.cells_len (h e (by simp))
    have h2 := ih (fun x hx => h x (by simp [hx]))
    unfold ecs at *
    rw [List.flatMap_cons, List.length_append, h1, h2, List.length_cons]; omega
theorem getD_mem {l : List En} {i : Nat} (hi : i < l.length) : l.getD i default ∈ l := by
  rw [List.getD_eq_getElem?_getD, List.getElem?_eq_getElem hi]; exact List.getElem_mem _
theorem ecs_get {l : List En} (h : Keyed l) {i j : Nat} (hi : i < l.length) (hj : j < 35) : (ecs l)[i * 35 + j]? = (l.getD i default).cells[j]? := by
  have h1 := flatMap_drop (f := En.cells) (k := 35) (l := l) (fun e he => En.cells_len (h e he)) i
  have h2 : (ecs l)[i * 35 + j]? = ((ecs l).drop (35 * i))[j]? := by rw [List.getElem?_drop, Nat.mul_comm]
  rw [h2]
  unfold ecs
  rw [h1, List.drop_eq_getElem_cons hi, List.flatMap_cons, List.getElem?_append_left (by rw [En.cells_len (h _ (List.getElem_mem _))]; exact hj), List.getD_eq_getElem?_getD, List.getElem?_eq_getElem hi]
  rfl
theorem cells_key {e : En} (h : e.key.length = 32) {j : Nat} (hj : j < 32) : e.cells[j]? = (e.key[j]?).map vb := by
  unfold En.cells
  rw [List.getElem?_append_left (by simp [h]; exact hj), List.getElem?_map]
theorem cells_num {e : En} (h : e.key.length = 32) (j : Nat) : e.cells[32 + j]? = [Value.int .i64 e.place, .int .i64 e.blocks, .int .i64 e.refs][j]? := by
  unfold En.cells
  rw [List.getElem?_append_right (by simp [h]), List.length_map, h, Nat.add_sub_cancel_left]

/-- An entry that lies at b, o. -/
structure EnAt (w : World) (b o : Nat) (e : En) : Prop where
  len : e.key.length = 32
  at_ : w.rangeAt b o e.cells
theorem EnAt.keeps {S : Nat → Prop} {w w' : World} {b o : Nat} {e : En} (h : EnAt w b o e) (hk : Keeps S w w') (hs : ¬ S b) : EnAt w' b o e := ⟨h.len, fun j v hv => cell_keeps hk (h.at_ j v hv) hs⟩
theorem EnAt.keep {w w' : World} {b o : Nat} {e : En} (h : EnAt w b o e) (hk : Keeps (fun _ => False) w w') : EnAt w' b o e := h.keeps hk (fun h => h)
theorem EnAt.cls {w w' : World} {b o : Nat} {e : En} (h : EnAt w b o e) (hk : ∃ p : Regrown, w' = grow (redrawn w p.d) p.os) : EnAt w' b o e := h.keep (keeps_cls hk)
theorem EnAt.place {w : World} {b o : Nat} {e : En} (h : EnAt w b o e) : w.cell? ⟨b, o + 32, none⟩ = some (.int .i64 e.place) := h.at_ 32 _ (cells_num h.len 0)
theorem EnAt.blocks {w : World} {b o : Nat} {e : En} (h : EnAt w b o e) : w.cell? ⟨b, o + 33, none⟩ = some (.int .i64 e.blocks) := h.at_ 33 _ (cells_num h.len 1)
theorem EnAt.refs {w : World} {b o : Nat} {e : En} (h : EnAt w b o e) : w.cell? ⟨b, o + 34, none⟩ = some (.int .i64 e.refs) := h.at_ 34 _ (cells_num h.len 2)
theorem EnAt.key {w : World} {b o : Nat} {e : En} (h : EnAt w b o e) : w.rangeAt b o (brow e.key).toList := fun j v hv => by
  have hj : j < 32 := by have := (List.getElem?_eq_some_iff.1 hv).1; rw [Array.length_toList, size_brow, h.len] at this; exact this
  refine h.at_ j v ?_
  rw [cells_key h.len hj]
  simpa [brow] using hv

/-- A slice of n entries. -/
structure SlE (w : World) (a : Option Addr) (n c : Nat) (l : List En) : Prop where
  len : l.length = n
  cap : n ≤ c
  keyed : Keyed l
  at_ : ∀ j v, (ecs l)[j]? = some v → ∃ b o, a = some ⟨b, o, none⟩ ∧ w.cell? ⟨b, o + j, none⟩ = some v
theorem SlE.keeps {S : Nat → Prop} {w w' : World} {a : Option Addr} {n c : Nat} {l : List En} (h : SlE w a n c l) (hk : Keeps S w w') (hs : 0 < n → ∀ b o, a = some ⟨b, o, none⟩ → ¬ S b) : SlE w' a n c l :=
  ⟨h.len, h.cap, h.keyed, fun j x hx => by
    obtain ⟨b, o, e, hc⟩ := h.at_ j x hx
    refine ⟨b, o, e, cell_keeps hk hc (hs ?_ b o e)⟩
    have h1 := (List.getElem?_eq_some_iff.1 hx).1
    rw [ecs_len h.keyed, h.len] at h1
    omega⟩
theorem SlE.keep {w w' : World} {a : Option Addr} {n c : Nat} {l : List En} (h : SlE w a n c l) (hk : Keeps (fun _ => False) w w') : SlE w' a n c l := h.keeps hk (fun _ _ _ _ h => h)
theorem SlE.nil (w : World) : SlE w none 0 0 [] := ⟨rfl, Nat.le_refl _, (fun e he => by cases he), fun j x hx => by simp [ecs] at hx⟩
theorem SlE.ent {w : World} {a : Option Addr} {n c : Nat} {l : List En} (h : SlE w a n c l) {i : Nat} (hi : i < n) : ∃ b o, a = some ⟨b, o, none⟩ ∧ EnAt w b (o + i * 35) (l.getD i default) := by
  have hl := h.len
  have hk := h.keyed _ (getD_mem (l := l) (i := i) (by omega))
  have h0 := ecs_get h.keyed (i := i) (j := 32) (by omega) (by omega)
  rw [show (32 : Nat) = 32 + 0 from rfl, cells_num hk 0] at h0
  obtain ⟨b, o, rfl, _⟩ := h.at_ _ _ h0
  refine ⟨b, o, rfl, hk, fun j v hv => ?_⟩
  have hj : j < 35 := by have := (List.getElem?_eq_some_iff.1 hv).1; rw [En.cells_len hk] at this; exact this
  rw [← ecs_get h.keyed (i := i) (by omega) hj] at hv
  obtain ⟨b', o', e, hc⟩ := h.at_ _ _ hv
  cases e
  rw [Nat.add_assoc]; exact hc

theorem sizeKey : (Tryd.prog.info? 24).map (·.size) = some 32 := by kernel_rfl
theorem quiet_key {o : Oper} {a : Act} {C : World → Prop} {K : Act → Prop} (x : Operand) (ho : o.op = .load 24 x) (b of : Nat) (hx : a.eval x = .pointer (some ⟨b, of, none⟩)) (e : En) (hb : ∀ w, C w → EnAt w b of e) (he : e.key.length = 32) (hk : K (a.put o.dst (.agg (brow e.key)))) : o.quiet Tryd.prog a C K :=
  quiet_row_at _ _ ho b of hx (brow e.key) (fun w hw => (hb w hw).key) Tryd.underlying24 rfl (by rw [size_brow, he]; exact sizeKey) hk

end

/-! Ls: Which of two digests stands ahead, of both sides. -/
section
open Go.RowKit Go.Sort

end

/-! Gd: Good of the reference. -/
section
open Go.RowKit Go.Sort

theorem call_cls {f : FuncId} {args : Array Value} {w0 w1 : World} {v : Value} (h : Calls Tryd.prog f args w1 fun e w' => e = .returned v ∧ Keeps (fun _ => False) w1 w') (hw : ∃ p : Regrown, w1 = grow (redrawn w0 p.d) p.os) :
    Calls Tryd.prog f args w1 fun e w'' => e = .returned v ∧ ∃ p : Regrown, w'' = grow (redrawn w0 p.d) p.os :=
  h.mono fun e w2 ⟨he, hk⟩ => ⟨he, cls_keeps ((keeps_cls hw).trans hk)⟩
theorem bad_of_one {l : List En} {i : Nat} (h : one (l.getD i default) = false) : badAt l i = true := by unfold badAt; rw [h]; rfl
theorem bad_zero {l : List En} (h : one (l.getD 0 default) = true) : badAt l 0 = false := by unfold badAt; rw [h]; rfl
theorem bad_pos {l : List En} {i : Nat} (h : one (l.getD i default) = true) (hi : 0 < i) : badAt l i = !lessB (l.getD (i - 1) default).key (l.getD i default).key := by
  unfold badAt; rw [h, decide_eq_true hi]; rfl
theorem gd_bad {l : List En} {i : Nat} (hi : i < l.length) (h : badAt l i = true) : gd l = false := by unfold gd; rw [okAll_bad hi h]; rfl
theorem gd_end {l : List En} (h : okAll l l.length = true) : gd l = decide (1 ≤ l.length ∧ l.length ≤ 3) := by unfold gd; rw [h]; rfl

end

/-! Bq: Blocks of 128 bytes in memory: what is made gets a letter; copy into a new one. -/
section
open Go.RowKit Go.Sort

theorem getD_lt {L : List B} {i : Nat} (h : i < L.length) : L.getD i 0 = L[i] := by simp [List.getD, h]
/-- A block of the first bytes, with zeros behind. -/
def first128 (l : List B) : List B := l.take 128 ++ zb (128 - l.length)
theorem first128_len (l : List B) : (first128 l).length = 128 := by
  unfold first128; rw [List.length_append, List.length_take, zb_len]; omega
theorem info40 : (Tryd.prog.info? 30).map (fun i => (i.zero, i.size)) = some (some (.agg (brow (zb 128))), 128) := by kernel_rfl
theorem zero40 (w : World) : (zeroValue 30).run Tryd.prog w = .ok (.agg (brow (zb 128))) w := (zero_of_info info40).1 w
theorem size40 : (Tryd.prog.info? 30).map (·.size) = some 128 := (zero_of_info info40).2

theorem run_copy_new (w : World) (ty : TypeId) (g dCap b o n c : Nat) (l : List B) (hl : SlB w (some ⟨b, o, none⟩) n c l) (hg : w.heap[g]? = some (.cells (brow (zb 128)) 30 (0, 0))) (k : Nat) (hk : k = min n 128) :
    (Builtin.copy_ #[51, 51] ty #[.slice (some ⟨g, 0, none⟩) 128 dCap, .slice (some ⟨b, o, none⟩) n c]).run Tryd.prog w = .ok (goInt k) (w.setRow g (brow (first128 l))) := by
  have hlen := hl.len
  have e : ((l.take 128).map vb).length = k := by rw [List.length_map, List.length_take, hlen, hk]; omega
  have hrun := run_copy_row (P := Tryd.prog) w 51 51 ty 5 g 0 128 dCap ⟨b, o, none⟩ n c (brow (zb 128)) 30 ((l.take 128).map vb) Tryd.underlying51 size5 hg (by rw [e, hk]) (fun j v hv => by
      rw [List.getElem?_map] at hv
      cases hq : (l.take 128)[j]? with
      | none => rw [hq] at hv; cases hv
      | some x =>
        rw [hq] at hv
        rw [List.getElem?_take] at hq
        split at hq
        · obtain ⟨b', o', e', hc⟩ := hl.at_ j x hq
          cases e'
          rw [Addr_add]
          cases hv
          exact hc
        · cases hq) (by rw [e, size_brow, zb_len]; omega) (one_bytes _)
  rw [e] at hrun
  rw [hrun]
  have e2 : ((zb 128).map vb).drop k = (zb (128 - l.length)).map vb := by
    rw [← List.map_drop]; congr 1; simp only [zb, List.drop_replicate]; congr 1; omega
  have e3 : (brow (zb 128)).toList = (zb 128).map vb := rfl
  rw [e3, Nat.zero_add, e2, List.take_zero, List.nil_append]
  unfold first128 brow
  rw [List.map_append]

theorem wpList_copy_new {ops : Array Oper} {rest : List Oper} {o : Oper} {a : Act} {w : World} {Q : Exit → Act → World → Prop} (hgd : o.guard = none) (d s : Operand) (ho : o.op = .call { callee := .builtin .copy, args := #[d, s], argTypes := #[51, 51] })
    (g dCap b of n c : Nat) (hd : a.eval d = .slice (some ⟨g, 0, none⟩) 128 dCap) (hs : a.eval s = .slice (some ⟨b, of, none⟩) n c) (l : List B) (hl : SlB w (some ⟨b, of, none⟩) n c l) (hg : w.heap[g]? = some (.cells (brow (zb 128)) 30 (0, 0))) (k : Nat) (hk : k = min n 128)
    (h : ∀ w', w'.heap[g]? = some (.cells (brow (first128 l)) 30 (0, 0)) → Keeps (· = g) w w' → wpList Tryd.prog ops Q rest (a.put o.dst (.int .i64 (k : Int))) w') : wpList Tryd.prog ops Q (o :: rest) a w := by
  refine wpList_plain hgd fun K hK => ?_
  have hrun := run_copy_new w o.type g dCap b of n c l hl hg k hk
  unfold Oper.wp
  simp [execOp, ho, resolve, invoke, builtin, hd, hs, hrun, Result.andThen]
  exact hK _ _ (h _ (setRow_heap w g _ _ _ _ hg) ((Keeps.refl (· = g) w).setRow (.inl rfl) _))

theorem wpList_build0L {ops : Array Oper} {rest : List Oper} {o : Oper} {a : Act} {w : World} {Q : Exit → Act → World → Prop} (hgd : o.guard = none) (ho : o.op = .buildSlice 51 0 #[])
    (h : ∀ g w', OwnB w' w.heap.size (.slice (some ⟨g, 0, none⟩) 0 0) [] → w.heap.size ≤ g → g < w'.heap.size → Keeps (fun _ => False) w w' → wpList Tryd.prog ops Q rest (a.put o.dst (.slice (some ⟨g, 0, none⟩) 0 0)) w') : wpList Tryd.prog ops Q (o :: rest) a w :=
  wpList_buildSlice0 hgd ho (h w.heap.size _ (own_nil w) (Nat.le_refl _) (by simp) (keeps_alloc w _))
theorem zero26 (w : World) : (zeroValue 30).run Tryd.prog w = .ok (.agg (brow (zb 128))) w := zero40 w
theorem size26 : (Tryd.prog.info? 30).map (·.size) = some 128 := size40

/-- In block g lies the block L. -/
structure BlAt (w : World) (g : Nat) (L : List B) : Prop where
  row : w.heap[g]? = some (.cells (brow L) 30 (0, 0))
  len : L.length = 128
theorem BlAt.lt {w : World} {g : Nat} {L : List B} (h : BlAt w g L) : g < w.heap.size := lt_of_row h.row
theorem BlAt.keeps {S : Nat → Prop} {a w : World} {g : Nat} {L : List B} (h : BlAt a g L) (hk : Keeps S a w) (hs : ¬ S g) : BlAt w g L := ⟨hk.row h.row hs, h.len⟩
theorem BlAt.keep {a w : World} {g : Nat} {L : List B} (h : BlAt a g L) (hk : Keeps (fun _ => False) a w) : BlAt w g L := h.keeps hk (fun h => h)
theorem BlAt.cls {a w : World} {g : Nat} {L : List B} (h : BlAt a g L) (hk : ∃ p : Regrown, w = grow (redrawn a p.d) p.os) : BlAt w g L := h.keep (keeps_cls hk)
theorem BlAt.size {w : World} {g : Nat} {L : List B} (h : BlAt w g L) : (brow L).size = 128 := by rw [size_brow, h.len]
theorem BlAt.cell {w : World} {g : Nat} {L : List B} (h : BlAt w g L) {j : Nat} (hj : j < 128) : w.cell? ⟨g, j, none⟩ = some (.int .u8 (nb (L.getD j 0))) := by
  have hl := h.len
  rw [cell_of_row w _ _ _ _ _ h.row, brow_get, List.getElem?_eq_getElem (by omega), getD_lt (by omega)]; rfl
theorem BlAt.live {w : World} {g : Nat} {L : List B} (h : BlAt w g L) (j : Nat) : w.frozen? ⟨g, j, none⟩ = false := frozen_of_row w g j _ _ h.row
theorem BlAt.range {w : World} {g : Nat} {L : List B} (h : BlAt w g L) : w.rangeAt g 0 (brow L).toList := fun j v hv => by
  rw [cell_of_row w _ _ _ _ _ h.row, Nat.zero_add]
  simpa using hv
theorem BlAt.set {w : World} {g : Nat} {L : List B} (h : BlAt w g L) (j : Nat) (x : B) : BlAt (w.setCell ⟨g, j, none⟩ (.int .u8 (nb x))) g (L.set j x) :=
  ⟨by rw [heap_setCell_same w _ _ _ _ _ h.row, brow_set], by rw [List.length_set, h.len]⟩

theorem wpList_box26 {ops : Array Oper} {rest : List Oper} {o : Oper} {a : Act} {w : World} {Q : Exit → Act → World → Prop} (hgd : o.guard = none) (x : Operand) (ho : o.op = .box 30 x) (L : List B) (hL : L.length = 128) (hx : a.eval x = .agg (brow L))
    (h : ∀ g w', BlAt w' g L → w.heap.size ≤ g → Keeps (fun _ => False) w w' → wpList Tryd.prog ops Q rest (a.put o.dst (.pointer (some ⟨g, 0, none⟩))) w') : wpList Tryd.prog ops Q (o :: rest) a w := by
  refine wpList_plain hgd fun K hK => ?_
  unfold Oper.wp execOp
  simp only [ho, hx, newVar, newRow, Sem.run_bind, Result.andThen_ok, Sem.run_pure]
  exact hK _ _ (h w.heap.size _ ⟨heap_alloc_new w _, hL⟩ (Nat.le_refl _) (keeps_alloc w _))

theorem wpList_alloc26 {ops : Array Oper} {rest : List Oper} {o : Oper} {a : Act} {w : World} {Q : Exit → Act → World → Prop} (hgd : o.guard = none) (ho : o.op = .alloc 30)
    (h : ∀ g w', BlAt w' g (zb 128) → w.heap.size ≤ g → Keeps (fun _ => False) w w' → wpList Tryd.prog ops Q rest (a.put o.dst (.pointer (some ⟨g, 0, none⟩))) w') : wpList Tryd.prog ops Q (o :: rest) a w := by
  refine wpList_plain hgd fun K hK => ?_
  unfold Oper.wp execOp
  simp only [ho, Instr.alloc, zero26, newVar, newRow, Sem.run_bind, Result.andThen_ok, Sem.run_pure]
  exact hK _ _ (h w.heap.size _ ⟨heap_alloc_new w _, zb_len _⟩ (Nat.le_refl _) (keeps_alloc w _))

theorem build26 (w : World) : (Instr.build 30 #[]).run Tryd.prog w = .ok (.agg (brow (zb 128))) w := by
  unfold Instr.build
  simp only [Sem.run_bind, zero26, Result.andThen_ok, run_underlying Tryd.underlying30]
  have hs5 : (sizeOf 5).run Tryd.prog w = .ok 1 w := by simp [go_sem]
  simp [Instr.fill, Value.cells, hs5]
theorem wpList_build26 {ops : Array Oper} {rest : List Oper} {o : Oper} {a : Act} {w : World} {Q : Exit → Act → World → Prop} (hgd : o.guard = none) (ho : o.op = .build 30 #[])
    (h : wpList Tryd.prog ops Q rest (a.put o.dst (.agg (brow (zb 128)))) w) : wpList Tryd.prog ops Q (o :: rest) a w := by
  refine wpList_plain hgd fun K hK => ?_
  unfold Oper.wp execOp
  simp only [ho, List.map_toArray, List.map_nil, build26, Sem.run_bind, Result.andThen_ok, Sem.run_pure]
  exact hK _ _ h

theorem run_load26 {w : World} {g : Nat} {L : List B} (h : BlAt w g L) : (loadVar 30 ⟨g, 0, none⟩).run Tryd.prog w = .ok (.agg (brow L)) w :=
  run_loadVar_row w g 30 30 (brow L) _ _ h.row Tryd.underlying30 rfl (by rw [h.size]; exact size26)
theorem wpList_load26 {ops : Array Oper} {rest : List Oper} {o : Oper} {a : Act} {w : World} {Q : Exit → Act → World → Prop} (hw : Region.wanted o (yielded ops a.tmps) = true) (x : Operand) (ho : o.op = .load 30 x) (g : Nat) (hx : a.eval x = .pointer (some ⟨g, 0, none⟩)) (L : List B) (hb : BlAt w g L)
    (h : wpList Tryd.prog ops Q rest (a.put o.dst (.agg (brow L))) w) : wpList Tryd.prog ops Q (o :: rest) a w := by
  unfold wpList
  rw [if_pos hw]
  left
  unfold Oper.wp execOp
  simp only [ho, hx, Instr.loadAt, Instr.sureAddr, Sem.run_bind, Sem.run_pure, Result.andThen_ok, run_load26 hb]
  exact h
theorem quiet_load26 {o : Oper} {a : Act} {C : World → Prop} {K : Act → Prop} (x : Operand) (ho : o.op = .load 30 x) (g : Nat) (hx : a.eval x = .pointer (some ⟨g, 0, none⟩)) (L : List B) (hb : ∀ w, C w → BlAt w g L) (hk : K (a.put o.dst (.agg (brow L)))) : o.quiet Tryd.prog a C K := by
  refine ⟨.agg (brow L), fun w hw => ?_, hk⟩
  unfold Oper.quietAt execOp
  simp only [ho, hx, Instr.loadAt, Instr.sureAddr, Sem.run_bind, Sem.run_pure, Result.andThen_ok, run_load26 (hb w hw)]
  exact ⟨rfl, rfl⟩

theorem wpList_store26 {ops : Array Oper} {rest : List Oper} {o : Oper} {a : Act} {w : World} {Q : Exit → Act → World → Prop} (hgd : o.guard = none) (x y : Operand) (ho : o.op = .store 30 x y) (g : Nat) (hx : a.eval x = .pointer (some ⟨g, 0, none⟩)) (L : List B) (hy : a.eval y = .agg (brow L)) (hL : L.length = 128)
    (L' : List B) (hb : BlAt w g L') (h : ∀ w', BlAt w' g L → Keeps (· = g) w w' → wpList Tryd.prog ops Q rest (a.put o.dst undef) w') : wpList Tryd.prog ops Q (o :: rest) a w := by
  refine wpList_plain hgd fun K hK => ?_
  unfold Oper.wp execOp
  simp only [ho, hx, hy, Instr.storeAt, Instr.sureAddr, Sem.run_bind, Sem.run_pure, Result.andThen_ok, run_storeVar_row w g 30 30 (brow L') (brow L) hb.row (by rw [size_brow, hL]; exact size26) (by rw [size_brow, size_brow, hL, hb.len]) (brow_one L)]
  exact hK _ _ (h _ ⟨setRow_heap w g _ _ _ _ hb.row, hL⟩ ((Keeps.refl (· = g) w).setRow (.inl rfl) _))

/-- A block and a number are told. -/
theorem results_row_slot {fn : Func} {p q : Tmp} (h : fn.results = #[.cell p 30, .tmp q]) (tmps : Array Value) (w : World) (g : Nat) (L : List B) (v : Value) (hp : tmps.getD p undef = .pointer (some ⟨g, 0, none⟩)) (hq : tmps.getD q undef = v) (hb : BlAt w g L) :
    (results fn tmps).run Tryd.prog w = .ok (.tuple #[.agg (brow L), v]) w := by
  have hp' : tmps[p]?.getD undef = .pointer (some ⟨g, 0, none⟩) := by simpa using hp
  have hq' : tmps[q]?.getD undef = v := by simpa using hq
  simp [results, h, hp', hq', asAddr, run_load26 hb]

theorem eq26 {x y : List B} (hx : x.length = 128) (hy : y.length = 128) (w : World) : (Op.equalIn 10000 30 (.agg (brow x)) (.agg (brow y))).run Tryd.prog w = .ok (decide (x = y)) w :=
  run_equalIn_row 9998 30 128 Tryd.underlying30 x y hx hy w
end

/-! Bc: Block of the reference. -/
section
open Go.RowKit Go.Sort

theorem first_blk5 {t : List B} (h : t.length ≤ 124) : first128 (t ++ (sha t).take 4) = blk5 t := by
  have hl : (t ++ (sha t).take 4).length = t.length + 4 := by rw [List.length_append, List.length_take, sha_len]; omega
  unfold first128 blk5
  rw [List.take_of_length_le (by omega), hl, List.append_assoc, show 128 - (t.length + 4) = 124 - t.length by omega]
theorem slb_lt {w : World} {a : Option Addr} {n c : Nat} {l : List B} (h : SlB w a n c l) (h0 : 0 < n) {b o : Nat} (e : a = some ⟨b, o, none⟩) : b < w.heap.size := by
  obtain ⟨b', o', e', hc⟩ := h.at_ 0 _ (List.getElem?_eq_getElem (by have := h.len; omega))
  rw [e] at e'; cases e'
  exact World.block_lt_of_cell? w _ hc

set_option maxRecDepth 100000 in
set_option maxHeartbeats 2000000 in
theorem block22 (w : World) (a : Option Addr) (n c : Nat) (t : List B) (hl : SlB w a n c t) (hnc : a = none → c = 0) (hn : n ≤ 124) {L : List B} (HL : Hid (blk5 t = L)) :
    Calls Tryd.prog 34 #[.slice a n c] w fun e w' => e = .returned (.agg (brow L)) ∧ Keeps (fun _ => False) w w' := by
  have hlen := hl.len
  obtain ⟨X, hX⟩ : ∃ X, sha t = X := ⟨_, rfl⟩
  obtain ⟨C, hC⟩ : ∃ C, X.take 4 = C := ⟨_, rfl⟩
  have HX : Hid (sha t = X) := hX
  have HC : Hid (X.take 4 = C) := hC
  have lC : C.length = 4 := by rw [← hC, ← hX, List.length_take, sha_len]; rfl
  have HF : Hid (first128 (t ++ C) = L) := by show _ = _; rw [← hC, ← hX, first_blk5 (by omega)]; exact HL.out
  have lL : L.length = 128 := by rw [← HF.out]; exact first128_len _
  clear hX hC
  go_enter Tryd.func34, Tryd.ntmps34
  go_wp2_with (first
    | (refine wpList_alloc26 rfl rfl ?_; have := k1; intro g3 w2 b2 z2 k2; have B1 := b1.keep k2; have K2 := k1.trans k2; have h23 : g2 ≠ g3 := (by have := b1.lt; omega); have z3 : w.heap.size ≤ g3 := (by have := k1.size; omega))
    | (refine wpList_alloc26 rfl rfl ?_; intro g2 w1 b1 z1 k1))
  have l3 := b2.lt
  have l2 := B1.lt
  have hl2 := hl.keeps K2 (fun _ _ _ _ h => h)
  have hblt : 0 < n → ∀ b o, a = some ⟨b, o, none⟩ → b < w.heap.size := fun h0 b o e => slb_lt hl h0 e
  have Hlt : Hid (0 < n → ∀ b o, a = some ⟨b, o, none⟩ → b < w.heap.size) := hblt
  have hb0 : w.heap.size ≤ w2.heap.size := K2.size
  clear hblt k1 k2 b1 hl
  have kd : Keeps (fun _ => False) w2 w2.drew := (Keeps.refl _ _).drew
  have e2 : w2.drew.heap.size = w2.heap.size := rfl
  simp only [Act.put, List.setIfInBounds_toArray, List.set_cons_zero, List.set_cons_succ]
  refine region_plan (S := fun w' => ∃ p : Regrown, w' = grow (redrawn w p.d) p.os) [([0, 2, 4], 1), ([], 3), ([], 5), ([], 6), ([], 7)] [] (by kernel_rfl) (by kernel_rfl) (by kernel_rfl) (by kernel_rfl) (cls_keeps K2.drew) ?_
  simp only [wpPlan, opsAt, pick]
  repeat (go_big_quiet_step (fail))
  refine wpQuiet_nil ?_
  go_wp2_with (refine wpList_build0L rfl rfl ?_; intro g5 w3 o3 z5 l5 k3)
  have k23 := kd.trans k3
  refine ⟨cls_keeps (K2.trans k23), ?_⟩
  simp only [wpPlan, opsAt, pick]
  refine wpQuiet_nil ?_
  go_wp2_with (refine wpList_app rfl _ _ rfl w2.heap.size _ [] rfl o3 a n c t rfl (hl2.keeps k23 (fun _ _ _ _ h => h)) hnc (by simp; omega) k23.size ?_; intro v4 w4 o4 k4; rw [List.nil_append] at o4)
  have k24 : Keeps (fun k => w2.heap.size ≤ k) w2 w4 := (k23.mono (fun _ _ h => h.elim)).trans k4
  have K4 : Keeps (fun _ => False) w w4 := K2.trans' k24 (fun i e => .inr (by omega))
  have s4 : SlB w4 a n c t := hl2.keeps k24 (fun h0 b o e h => by have := Hlt.out h0 b o e; omega)
  refine ⟨cls_keeps K4, ?_⟩
  simp only [wpPlan, opsAt, pick]
  refine wpQuiet_nil ?_
  go_wp2_with (go_at_call 51; refine (check13 w4 a n c t s4 hnc (by omega) HX HC).mono ?_; rintro e w5 ⟨a5, n5, c5, rfl, s5, k5⟩)
  refine ⟨cls_keeps (K4.trans k5), ?_⟩
  simp only [wpPlan, opsAt, pick]
  refine wpQuiet_nil ?_
  have hn5 : n5 = 4 := s5.len.symm.trans lC
  subst hn5
  obtain ⟨b5, of5, rfl, _⟩ := s5.bytes 4 (by omega) (Nat.le_refl _)
  have o5 : OwnB w5 w2.heap.size v4 t := o4.keeps k5 (fun _ _ h => h.elim)
  go_wp2_with (refine wpList_app rfl _ _ rfl w2.heap.size _ t rfl o5 _ 4 c5 C rfl s5 (fun e => by cases e) (by omega) (by have := (k24.size); have := k5.size; omega) ?_; intro v6 w6 o6 k6)
  have K6 : Keeps (fun _ => False) w w6 := (K4.trans k5).trans' k6 (fun i e => .inr (by omega))
  refine ⟨cls_keeps K6, ?_⟩
  simp only [wpPlan, opsAt, pick]
  refine wpQuiet_nil ?_
  obtain ⟨a6, n6, c6, rfl, s6, _, _⟩ := o6.slice
  have hn6 : n6 = n + 4 := by have := s6.len; rw [List.length_append, lC] at this; omega
  obtain ⟨b6, of6, rfl, _⟩ := s6.bytes n6 (by omega) (Nat.le_refl _)
  have k26 : Keeps (fun k => w2.heap.size ≤ k) w2 w6 := ((k24.trans (k5.mono (fun _ _ h => h.elim))).trans k6)
  have B36 := b2.keeps k26 (by omega)
  have B26 := B1.keeps k26 (by omega)
  go_wp2_with (refine wpList_copy_new rfl _ _ rfl g3 _ b6 of6 n6 c6 rfl rfl (t ++ C) s6 B36.row n6 (by omega) ?_; intro w7 r7 k7; rw [HF.out] at r7)
  have K7 : Keeps (fun _ => False) w w7 := K6.trans' k7 (fun i e => .inr (by omega))
  refine ⟨cls_keeps K7, ?_⟩
  simp only [wpPlan, opsAt, pick]
  refine wpQuiet_nil ?_
  refine NoPanic.normal ?_
  have B37 : BlAt w7 g3 L := ⟨r7, lL⟩
  have B27 := B26.keeps k7 h23
  go_wp2_with (first
    | (refine wpList_load26 rfl _ rfl g3 rfl L B37 ?_)
    | (refine wpList_store26 rfl _ _ rfl g2 rfl L rfl lL _ B27 ?_; intro w8 b8 k8))
  refine bodyPost_ret (v := .agg (brow L)) (results_cell_row rfl _ _ g2 30 (brow L) (0, 0) _ rfl b8.row Tryd.underlying30 rfl (by rw [b8.size]; exact size26)) rfl ⟨rfl, K7.trans' k8 (fun i e => .inr (by omega))⟩
end

end Go.Proofs.YtdgnjpdjohibeaaDoor
