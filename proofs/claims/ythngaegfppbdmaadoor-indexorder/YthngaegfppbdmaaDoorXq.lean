/-
  Blocks in a slice: laid down, in a row of one's own, appended, held against each other.
-/
import Derived.Test.YthngaegfppbdmaaDoorPi
set_option linter.all false
set_option maxRecDepth 100000
namespace Go.Proofs.YthngaegfppbdmaaDoor
open Go.RowKit Go.Sort Go.Shelf
attribute [local go_sem] Oper.semAt_some

def blk (L : List B) (i : Nat) : List B := (L.drop (i * 128)).take 128
theorem blk_len (L : List B) (n i : Nat) (h : L.length = n * 128) (hi : i < n) : (blk L i).length = 128 := by
  unfold blk; rw [List.length_take, List.length_drop, h]
  have : (i + 1) * 128 ≤ n * 128 := Nat.mul_le_mul_right 128 hi
  omega
theorem blk_get (L : List B) (i j : Nat) (hj : j < 128) : (blk L i)[j]? = L[i * 128 + j]? := by
  unfold blk; rw [List.getElem?_take, if_pos hj, List.getElem?_drop]
/-- Rows of as many blocks are the same, if each block is. -/
theorem eq_of_blk {L M : List B} {n : Nat} (hL : L.length = n * 128) (hM : M.length = n * 128) (h : ∀ i, i < n → blk L i = blk M i) : L = M := by
  apply List.ext_getElem?
  intro j
  rcases Nat.lt_or_ge j (n * 128) with hj | hj
  · have h1 := h (j / 128) (by omega)
    have h2 := blk_get L (j / 128) (j % 128) (by omega)
    have h3 := blk_get M (j / 128) (j % 128) (by omega)
    rw [show j / 128 * 128 + j % 128 = j by omega] at h2 h3
    rw [← h2, ← h3, h1]
  · rw [List.getElem?_eq_none (by omega), List.getElem?_eq_none (by omega)]

theorem info25' : ∃ i, Tryd.prog.info? 25 = some i ∧ i.zero = some (.agg (brow (zb 128))) ∧ i.size = 128 ∧ i.bytes = 128 := by
  cases h : Tryd.prog.info? 25 with
  | none => have : (Tryd.prog.info? 25).isSome = true := by kernel_rfl
            rw [h] at this; cases this
  | some i =>
    have h1 : (Tryd.prog.info? 25).map (fun i => (i.zero, i.size, i.bytes)) = some (some (.agg (brow (zb 128))), 128, 128) := by kernel_rfl
    rw [h] at h1
    simp at h1
    exact ⟨i, rfl, h1.1, h1.2.1, h1.2.2⟩

theorem run_buildB (w : World) (x : List B) (h : x.length = 128) : (Instr.buildSlice 57 1 #[(0, .agg (brow x))]).run Tryd.prog w = .ok (.slice (some ⟨w.heap.size, 0, none⟩) 1 1) (w.alloc (.cells (brow x) 25)) := by
  obtain ⟨i0, hi0, hz0, hz1, hz2⟩ := info25'
  have hb : (Value.agg (brow x)).cells = brow x := rfl
  have hs : (brow x).size = 128 := by rw [size_brow, h]
  unfold Instr.buildSlice
  have hf := fold_all (brow x) ((Array.range (1 * 128)).map ((Value.agg (brow (zb 128))).cells[· % (Value.agg (brow (zb 128))).cells.size]!)) (by simp [hs])
  have hfill : Instr.fill (fun i => some (i * 128, 128)) ((Array.range (1 * 128)).map ((Value.agg (brow (zb 128))).cells[· % (Value.agg (brow (zb 128))).cells.size]!)) [(0, .agg (brow x))] = some (brow x) := by
    unfold Instr.fill Instr.fill
    simp only [Nat.zero_mul, hb]
    rw [if_neg (by simp [hs]), hf]
  have hsize : (sizeOf 25).run Tryd.prog w = .ok 128 w := by simp [sizeOf, typeInfo, hi0, hz1]
  simp only [Sem.run_bind, run_underlying Tryd.underlying57, hsize, Result.andThen_ok]
  rw [if_neg (by decide), if_neg (by decide)]
  simp only [Sem.run_bind, zero40, Result.andThen_ok, Sem.run_pure, hfill]
  simp [newRow]
theorem wpList_buildK {ops : Array Oper} {rest : List Oper} {o : Oper} {a : Act} {w : World} {Q : Exit → Act → World → Prop} (hgd : o.guard = none) (x : Operand) (ho : o.op = .buildSlice 57 1 #[(0, x)]) (l : List B) (hx : a.eval x = .agg (brow l)) (hl : l.length = 128)
    (h : ∀ g w', SlB w' (some ⟨g, 0, none⟩) (1 * 128) (1 * 128) l → w.heap.size ≤ g → Keeps (fun _ => False) w w' → wpList Tryd.prog ops Q rest (a.put o.dst (.slice (some ⟨g, 0, none⟩) 1 1)) w') : wpList Tryd.prog ops Q (o :: rest) a w := by
  refine wpList_plain hgd fun K hK => ?_
  unfold Oper.wp execOp
  simp only [ho, hx, List.map_toArray, List.map_cons, List.map_nil, run_buildB w l hl, Sem.run_bind, Result.andThen_ok, Sem.run_pure]
  refine hK _ _ (h w.heap.size _ ?_ (Nat.le_refl _) (keeps_alloc w _))
  have := slb_box (heap_alloc_new w (.cells (brow l) 25))
  rwa [hl] at this

/-- The slice v, in a block of one's own from base on, has n blocks, whose bytes are L. -/
structure OwnK (w : World) (base : Nat) (v : Value) (n : Nat) (L : List B) : Prop where
  owns : w.ownsRow base 25 128 v n (L.map vb)
theorem OwnK.len {w : World} {base : Nat} {v : Value} {n : Nat} {L : List B} (h : OwnK w base v n L) : L.length = n * 128 := by have := h.owns.1; simpa using this
theorem OwnK.slice {w : World} {base : Nat} {v : Value} {n : Nat} {L : List B} (h : OwnK w base v n L) : ∃ a c, v = .slice a n c ∧ SlB w a (n * 128) (c * 128) L ∧ (∀ b o, a = some ⟨b, o, none⟩ → base ≤ b) ∧ (a = none → c = 0) := by
  have hl := h.len
  obtain ⟨_, ⟨rfl, h0⟩ | ⟨g, cap, cur, rfl, hb, hg, hn, hc, hs, ht⟩⟩ := h.owns
  · subst h0
    obtain rfl : L = [] := List.eq_nil_of_length_eq_zero (by omega)
    exact ⟨none, 0, rfl, SlB.nil w, (fun b o e => by cases e), fun _ => rfl⟩
  · refine ⟨_, _, rfl, ⟨hl, Nat.mul_le_mul_right _ hn, fun j x hx => ⟨g, 0, rfl, ?_⟩⟩, (fun b o e => by cases e; exact hb), fun e => by cases e⟩
    have hj : j < L.length := (List.getElem?_eq_some_iff.1 hx).1
    have h1 : (cur.toList.take (n * 128))[j]? = some (vb x) := by rw [ht, List.getElem?_map, hx]; rfl
    rw [List.getElem?_take, if_pos (by omega)] at h1
    rw [Nat.zero_add, cell_of_row w g j _ _ _ hg]
    simp at h1
    exact h1
theorem OwnK.same {w w' : World} {base : Nat} {v : Value} {n : Nat} {L : List B} (h : OwnK w base v n L) (hs : ∀ (k : Nat) (cs : Array Value) (t : TypeId) (fr : Nat × Nat), w.heap[k]? = some (.cells cs t fr) → w'.heap[k]? = some (.cells cs t fr)) : OwnK w' base v n L := by
  obtain ⟨h1, h2⟩ := h.owns
  refine ⟨h1, ?_⟩
  rcases h2 with h2 | ⟨g, cap, cur, rfl, hb, hg, rest⟩
  · exact .inl h2
  · exact .inr ⟨g, cap, cur, rfl, hb, hs _ _ _ _ hg, rest⟩
theorem OwnK.kept {S : Nat → Prop} {w w' : World} {base : Nat} {v : Value} {n : Nat} {L : List B} (h : OwnK w base v n L) (hk : Keeps S w w') (hS : ∀ g, v.ownBlock = some g → ¬ S g) : OwnK w' base v n L := by
  obtain ⟨h1, h2⟩ := h.owns
  refine ⟨h1, ?_⟩
  rcases h2 with h2 | ⟨g, cap, cur, rfl, hb, hg, rest⟩
  · exact .inl h2
  · exact .inr ⟨g, cap, cur, rfl, hb, hk.row hg (hS g rfl), rest⟩
theorem OwnK.keep {w w' : World} {base : Nat} {v : Value} {n : Nat} {L : List B} (h : OwnK w base v n L) (hk : Keeps (fun _ => False) w w') : OwnK w' base v n L := h.kept hk (fun _ _ h => h)
theorem OwnK.ne {w : World} {base g : Nat} {v : Value} {n : Nat} {L : List B} {cs : Array Value} {t : TypeId} {fr : Nat × Nat} (h : OwnK w base v n L) (hg : w.heap[g]? = some (.cells cs t fr)) (ht : t ≠ 25) : v.ownBlock ≠ some g := by
  obtain ⟨_, ⟨rfl, _⟩ | ⟨g', cap, cur, rfl, _, hg', _⟩⟩ := h.owns
  · intro e; cases e
  · intro e
    cases e
    rw [hg] at hg'
    cases hg'
    exact ht rfl
theorem OwnK.from {w : World} {base g : Nat} {v : Value} {n : Nat} {L : List B} (h : OwnK w base v n L) (e : v.ownBlock = some g) : base ≤ g ∧ g < w.heap.size := h.owns.lt g e
theorem OwnK.cells {w : World} {base k : Nat} {v : Value} {n : Nat} {L : List B} (h : OwnK w base v n L) (e : v.ownBlock = some k) : ∃ cs t fr, w.heap[k]? = some (.cells cs t fr) := by
  obtain ⟨_, ⟨rfl, _⟩ | ⟨g', cap, cur, rfl, _, hg', _⟩⟩ := h.owns
  · cases e
  · cases e; exact ⟨_, _, _, hg'⟩
theorem OwnK.fromB {w w' : World} {base C : Nat} {v : Value} {n : Nat} {L : List B} (h : OwnK w base v n L) (hk : Keeps (fun k => v.ownBlock = some k) w w') : KeepsFrom C w w' := hk.from (fun k _ e => h.cells e)
theorem OwnK.is {w : World} {base : Nat} {v : Value} {n : Nat} {L : List B} (h : OwnK w base v n L) : ∃ b m c, v = .slice b m c := by
  obtain ⟨a, c, e, _⟩ := h.slice
  exact ⟨a, _, c, e⟩
theorem OwnK.nil (w : World) (base : Nat) : OwnK w base (.slice none 0 0) 0 [] := ⟨by simp, .inl ⟨rfl, rfl⟩⟩
theorem OwnK.lower {w : World} {base base' : Nat} {v : Value} {n : Nat} {L : List B} (h : OwnK w base v n L) (hb : base' ≤ base) : OwnK w base' v n L :=
  ⟨h.owns.1, h.owns.2.imp id (fun ⟨g, cap, cur, h1, h2, h3⟩ => ⟨g, cap, cur, h1, by omega, h3⟩)⟩

theorem wpList_appK {ops : Array Oper} {rest : List Oper} {o : Oper} {a : Act} {w : World} {Q : Exit → Act → World → Prop} (hgd : o.guard = none) (s x : Operand) (ho : o.op = .call { callee := .builtin .append, args := #[s, x], argTypes := #[57, 57] })
    (base : Nat) (v : Value) (n0 : Nat) (L0 : List B) (hs : a.eval s = v) (hown : OwnK w base v n0 L0) (b of m c : Nat) (L1 : List B) (hx : a.eval x = .slice (some ⟨b, of, none⟩) m c) (hl : SlB w (some ⟨b, of, none⟩) (m * 128) (c * 128) L1) (hlen : n0 + m ≤ 100000) (hbase : base ≤ w.heap.size)
    (h : ∀ v' w', OwnK w' base v' (n0 + m) (L0 ++ L1) → Keeps (fun k => v.ownBlock = some k) w w' → wpList Tryd.prog ops Q rest (a.put o.dst v') w') : wpList Tryd.prog ops Q (o :: rest) a w := by
  obtain ⟨i, hi, hz, hsz, hby⟩ := info25'
  refine wpList_append_own _ hgd s x 57 ho base 25 i (.agg (brow (zb 128))) 128 128 Tryd.underlying57 hi hz hsz hby (by show (brow (zb 128)).size = 128; rw [size_brow, zb_len]) (by omega) v n0 _ hs hown.owns ⟨b, of, none⟩ m c (L1.map vb) hx (by rw [List.length_map, hl.len]) (fun j u hu => ?_) (one_bytes L1) (by unfold maxLen; omega) (by omega) hbase ?_
  · rw [List.getElem?_map] at hu
    cases hq : L1[j]? with
    | none => rw [hq] at hu; cases hu
    | some y =>
      rw [hq] at hu
      rw [Addr_add]
      cases hu
      obtain ⟨b', o', e', hc⟩ := hl.at_ j y hq
      cases e'
      exact hc
  · intro v' w' ho' hg _
    exact h v' w' ⟨by rw [List.map_append]; exact ho'⟩ ⟨hg.os, hg.tape, hg.output, hg.size, fun k hk hb => hg.block k hk fun e => hb e.symm⟩
theorem wpList_makeK {ops : Array Oper} {rest : List Oper} {o : Oper} {a : Act} {w : World} {Q : Exit → Act → World → Prop} (hgd : o.guard = none) (l c : Operand) (ho : o.op = .makeSlice 57 l c) (hl : a.eval l = .int .i64 0) (m : Nat) (C : Int) (hc : a.eval c = .int .i64 C) (hC : C = (m : Int)) (hm : m ≤ 100000)
    (h : ∀ g w', OwnK w' w.heap.size (.slice (some ⟨g, 0, none⟩) 0 m) 0 [] → w.heap.size ≤ g → Keeps (fun _ => False) w w' → wpList Tryd.prog ops Q rest (a.put o.dst (.slice (some ⟨g, 0, none⟩) 0 m)) w') : wpList Tryd.prog ops Q (o :: rest) a w := by
  obtain ⟨i, hi, hz, hsz, hby⟩ := info25'
  refine wpList_make_own w hgd l c 57 ho w.heap.size 25 i (.agg (brow (zb 128))) 128 Tryd.underlying57 hi hz hsz .i64 .i64 C m hl hc hC (by rw [hby]; omega) (by unfold maxLen; omega) (Nat.le_refl _) ?_
  intro w' ho' hg
  exact h _ w' ⟨ho'⟩ (Nat.le_refl _) ((Keeps.refl _ _).grown hg (fun k e => by cases e))

theorem zeroK57 (w : World) : (zeroValue 57).run Tryd.prog w = .ok (.slice none 0 0) w := by kernel_rfl
theorem wpList_alloc57 {ops : Array Oper} {rest : List Oper} {o : Oper} {a : Act} {w : World} {Q : Exit → Act → World → Prop} (hgd : o.guard = none) (ho : o.op = .alloc 57)
    (h : ∀ g w', VaAt w' g 57 (.slice none 0 0) → w.heap.size ≤ g → Keeps (fun _ => False) w w' → wpList Tryd.prog ops Q rest (a.put o.dst (.pointer (some ⟨g, 0, none⟩))) w') : wpList Tryd.prog ops Q (o :: rest) a w := by
  refine wpList_plain hgd fun K hK => ?_
  unfold Oper.wp execOp
  simp only [ho, Instr.alloc, zeroK57, newVar, newRow, Sem.run_bind, Result.andThen_ok, Sem.run_pure]
  exact hK _ _ (h w.heap.size _ ⟨heap_alloc_new w _⟩ (Nat.le_refl _) (keeps_alloc w _))
theorem run_store57 {w : World} {g : Nat} {v : Value} (hb : VaAt w g 57 v) (a : Option Addr) (n c : Nat) : (Instr.storeAt 57 (.pointer (some ⟨g, 0, none⟩)) (.slice a n c)).run Tryd.prog w = .ok () (w.setCell ⟨g, 0, none⟩ (.slice a n c)) := by
  have hc := hb.cell
  have hf := hb.live
  have hu := Tryd.underlying57
  simp [go_sem, Instr.storeAt, Instr.sureAddr, storeVar, hc, hf]
theorem wpList_store57 {ops : Array Oper} {rest : List Oper} {o : Oper} {a : Act} {w : World} {Q : Exit → Act → World → Prop} (hgd : o.guard = none) (x y : Operand) (ho : o.op = .store 57 x y) (g : Nat) (hx : a.eval x = .pointer (some ⟨g, 0, none⟩)) (u : Value) (hy : a.eval y = u) (hu : ∃ b n c, u = .slice b n c)
    (v : Value) (hb : VaAt w g 57 v) (h : ∀ w', VaAt w' g 57 u → Keeps (· = g) w w' → wpList Tryd.prog ops Q rest (a.put o.dst undef) w') : wpList Tryd.prog ops Q (o :: rest) a w := by
  obtain ⟨b, n, c, rfl⟩ := hu
  refine wpList_plain hgd fun K hK => ?_
  unfold Oper.wp execOp
  simp only [ho, hx, hy, run_store57 hb, Sem.run_bind, Sem.run_pure, Result.andThen_ok]
  exact hK _ _ (h _ ⟨by rw [heap_setCell_same w _ _ _ _ _ hb.row]; rfl⟩ ((Keeps.refl (· = g) w).setCell (p := ⟨g, 0, none⟩) (.inl rfl) _))
theorem run_load57 {w : World} {g : Nat} {v : Value} (h : w.cell? ⟨g, 0, none⟩ = some v) : (loadVar 57 ⟨g, 0, none⟩).run Tryd.prog w = .ok v w := by
  have hu := Tryd.underlying57
  simp [go_sem, loadVar, h]
theorem wpList_load57 {ops : Array Oper} {rest : List Oper} {o : Oper} {a : Act} {w : World} {Q : Exit → Act → World → Prop} (hw : Region.wanted o (yielded ops a.tmps) = true) (x : Operand) (ho : o.op = .load 57 x) (g : Nat) (hx : a.eval x = .pointer (some ⟨g, 0, none⟩)) (v : Value) (hb : VaAt w g 57 v)
    (h : wpList Tryd.prog ops Q rest (a.put o.dst v) w) : wpList Tryd.prog ops Q (o :: rest) a w := by
  unfold wpList
  rw [if_pos hw]
  left
  unfold Oper.wp execOp
  simp only [ho, hx, Instr.loadAt, Instr.sureAddr, Sem.run_bind, Sem.run_pure, Result.andThen_ok, run_load57 hb.cell]
  exact h
theorem zeroN27 (w : World) : (zeroValue 27).run Tryd.prog w = .ok (.int .i64 0) w := by kernel_rfl
theorem wpList_alloc27 {ops : Array Oper} {rest : List Oper} {o : Oper} {a : Act} {w : World} {Q : Exit → Act → World → Prop} (hgd : o.guard = none) (ho : o.op = .alloc 27)
    (h : ∀ g w', VaAt w' g 27 (.int .i64 0) → w.heap.size ≤ g → Keeps (fun _ => False) w w' → wpList Tryd.prog ops Q rest (a.put o.dst (.pointer (some ⟨g, 0, none⟩))) w') : wpList Tryd.prog ops Q (o :: rest) a w := by
  refine wpList_plain hgd fun K hK => ?_
  unfold Oper.wp execOp
  simp only [ho, Instr.alloc, zeroN27, newVar, newRow, Sem.run_bind, Result.andThen_ok, Sem.run_pure]
  exact hK _ _ (h w.heap.size _ ⟨heap_alloc_new w _⟩ (Nat.le_refl _) (keeps_alloc w _))
theorem run_store27 {w : World} {g : Nat} {v : Value} (hb : VaAt w g 27 v) (n : Int) : (Instr.storeAt 27 (.pointer (some ⟨g, 0, none⟩)) (.int .i64 n)).run Tryd.prog w = .ok () (w.setCell ⟨g, 0, none⟩ (.int .i64 n)) := by
  have hc := hb.cell
  have hf := hb.live
  have hu := Tryd.underlying27
  simp [go_sem, Instr.storeAt, Instr.sureAddr, storeVar, hc, hf]
theorem wpList_store27 {ops : Array Oper} {rest : List Oper} {o : Oper} {a : Act} {w : World} {Q : Exit → Act → World → Prop} (hgd : o.guard = none) (x y : Operand) (ho : o.op = .store 27 x y) (g : Nat) (hx : a.eval x = .pointer (some ⟨g, 0, none⟩)) (n : Int) (hy : a.eval y = .int .i64 n)
    (v : Value) (hb : VaAt w g 27 v) (h : ∀ w', VaAt w' g 27 (.int .i64 n) → Keeps (· = g) w w' → wpList Tryd.prog ops Q rest (a.put o.dst undef) w') : wpList Tryd.prog ops Q (o :: rest) a w := by
  refine wpList_plain hgd fun K hK => ?_
  unfold Oper.wp execOp
  simp only [ho, hx, hy, run_store27 hb, Sem.run_bind, Sem.run_pure, Result.andThen_ok]
  exact hK _ _ (h _ ⟨by rw [heap_setCell_same w _ _ _ _ _ hb.row]; rfl⟩ ((Keeps.refl (· = g) w).setCell (p := ⟨g, 0, none⟩) (.inl rfl) _))
theorem run_load27 {w : World} {g : Nat} {n : Int} (h : w.cell? ⟨g, 0, none⟩ = some (.int .i64 n)) : (loadVar 27 ⟨g, 0, none⟩).run Tryd.prog w = .ok (.int .i64 n) w := by
  have hu := Tryd.underlying27
  simp [go_sem, loadVar, h]
/-- Both results, each in a variable. -/
theorem results_ke {fn : Func} {p q : Tmp} (h : fn.results = #[.cell p 57, .cell q 27]) (tmps : Array Value) (w : World) (g e : Nat) (v : Value) (n : Int) (hp : tmps.getD p undef = .pointer (some ⟨g, 0, none⟩)) (hq : tmps.getD q undef = .pointer (some ⟨e, 0, none⟩)) (hb : VaAt w g 57 v) (he : VaAt w e 27 (.int .i64 n)) :
    (results fn tmps).run Tryd.prog w = .ok (.tuple #[v, .int .i64 n]) w := by
  have hp' : tmps[p]?.getD undef = .pointer (some ⟨g, 0, none⟩) := by simpa using hp
  have hq' : tmps[q]?.getD undef = .pointer (some ⟨e, 0, none⟩) := by simpa using hq
  simp [results, h, hp', hq', asAddr, run_load57 hb.cell, run_load27 he.cell]

/-- Block i of a slice of blocks. -/
theorem SlB.blk {w : World} {a : Option Addr} {n c : Nat} {L : List B} (h : SlB w a (n * 128) c L) (i : Nat) (hi : i < n) : ∃ b o, a = some ⟨b, o, none⟩ ∧ (blk L i).length = 128 ∧ (∀ w', Keeps (fun _ => False) w w' → w'.rangeAt b (o + i * 128) (brow (blk L i)).toList) := by
  have hl := h.len
  have hi' : (i + 1) * 128 ≤ n * 128 := Nat.mul_le_mul_right 128 hi
  obtain ⟨b, o, rfl, hby, _⟩ := h.bytes (n * 128) (by omega) (Nat.le_refl _)
  refine ⟨b, o, rfl, blk_len L n i hl hi, fun w' hk j v hv => ?_⟩
  have hj : j < 128 := by have := (List.getElem?_eq_some_iff.1 hv).1; rw [Array.length_toList, size_brow, blk_len L n i hl hi] at this; exact this
  have hv' : (brow (Go.Proofs.YthngaegfppbdmaaDoor.blk L i))[j]? = some v := by simpa using hv
  rw [brow_get, blk_get L i j hj] at hv'
  cases hq : L[i * 128 + j]? with
  | none => rw [hq] at hv'; cases hv'
  | some x =>
    rw [hq] at hv'
    have h1 := hby (i * 128 + j) x (by rw [List.getElem?_take, if_pos (by omega)]; exact hq)
    have h2 := cell_keeps hk h1 (fun h => h)
    rw [← Nat.add_assoc] at h2
    rw [h2]
    exact hv'
theorem size25_of {x : List B} (h : x.length = 128) : (Tryd.prog.info? 25).map (·.size) = some (brow x).size := by rw [size_brow, h]; exact size40
theorem wpList_loadB {ops : Array Oper} {rest : List Oper} {o : Oper} {a : Act} {w : World} {Q : Exit → Act → World → Prop} (hw : Region.wanted o (yielded ops a.tmps) = true) (x : Operand) (ho : o.op = .load 25 x) (b of : Nat) (hx : a.eval x = .pointer (some ⟨b, of, none⟩)) (l : List B) (hl : l.length = 128) (hb : w.rangeAt b of (brow l).toList)
    (h : wpList Tryd.prog ops Q rest (a.put o.dst (.agg (brow l))) w) : wpList Tryd.prog ops Q (o :: rest) a w := by
  unfold wpList
  rw [if_pos hw]
  left
  unfold Oper.wp execOp
  have := run_loadVar_mid (P := Tryd.prog) w b of 25 (brow l).toList _ hb Tryd.underlying25 rfl (by rw [Array.length_toList]; exact size25_of hl)
  rw [Array.toArray_toList] at this
  simp only [ho, hx, Instr.loadAt, Instr.sureAddr, Sem.run_bind, Sem.run_pure, Result.andThen_ok, this]
  exact h

set_option maxRecDepth 100000 in
set_option maxHeartbeats 2000000 in
theorem blocks36 (w : World) (a1 a2 : Option Addr) (n1 c1 n2 c2 : Nat) (x y : List B) (h1 : SlB w a1 (n1 * 128) (c1 * 128) x) (h2 : SlB w a2 (n2 * 128) (c2 * 128) y) (hn : n1 < 1000000) :
    Calls Tryd.prog 36 #[.slice a1 n1 c1, .slice a2 n2 c2] w fun e w' => e = .returned (.bool (decide (x = y))) ∧ Keeps (fun _ => False) w w' := by
  have l1 := h1.len
  have l2 := h2.len
  by_cases hnn : n1 = n2
  · subst hnn
    have Hl1 : Hid (x.length = n1 * 128) := l1
    have Hl2 : Hid (y.length = n1 * 128) := l2
    clear l1 l2
    go_enter Tryd.func36, Tryd.ntmps36
    go_wp2
    go_loopw [5] (fun t wr => ∃ i : Nat, i ≤ n1 ∧ t = .int .i64 i ∧ Keeps (fun _ => False) w wr ∧ ∀ j, j < i → blk x j = blk y j) (fun t _ => n1 - (intOf t).toNat)
    case atStart => exact ⟨0, by omega, rfl, Keeps.refl _ _, fun j h => by omega⟩
    case round =>
      obtain ⟨i, hi, rfl, hk, hbl⟩ := hrel
      by_cases hlt : i < n1
      · have hlt' : (i : Int) < (n1 : Int) := by omega
        have hi0 : (0 : Int) ≤ (i : Int) := by omega
        obtain ⟨b1, o1, rfl, lb1, hr1⟩ := (h1.keeps hk (fun _ _ _ _ h => h)).blk i hlt
        obtain ⟨b2, o2, rfl, lb2, hr2⟩ := (h2.keeps hk (fun _ _ _ _ h => h)).blk i hlt
        have s1 := size25_of lb1
        have s2 := size25_of lb2
        have Hr1 : Hid (∀ w', (∃ p : Regrown, w' = grow (redrawn wr p.d) p.os) → w'.rangeAt b1 (o1 + i * 128) (brow (blk x i)).toList) := fun w' h => hr1 w' (keeps_cls h)
        have Hr2 : Hid (∀ w', (∃ p : Regrown, w' = grow (redrawn wr p.d) p.os) → w'.rangeAt b2 (o2 + i * 128) (brow (blk y i)).toList) := fun w' h => hr2 w' (keeps_cls h)
        have Hbl : Hid (∀ j, j < i → blk x j = blk y j) := hbl
        obtain ⟨bx, hbx⟩ : ∃ bx, blk x i = bx := ⟨_, rfl⟩
        obtain ⟨bY, hby⟩ : ∃ bY, blk y i = bY := ⟨_, rfl⟩
        have Hx : Hid (blk x i = bx) := hbx
        have Hy : Hid (blk y i = bY) := hby
        rw [hbx] at lb1 s1 Hr1
        rw [hby] at lb2 s2 Hr2
        clear hr1 hr2 hbl hbx hby
        obtain ⟨v, hv⟩ : ∃ v, decide (bx = bY) = v := ⟨_, rfl⟩
        have heq : ∀ w, (Op.equalIn 10000 25 (.agg (brow bx)) (.agg (brow bY))).run Tryd.prog w = .ok v w := fun w => by rw [← hv]; exact eq26 lb1 lb2 w
        have He : Hid (decide (bx = bY) = v) := hv
        clear hv
        cases v
        all_goals
          go_wp2_with fail
          refine region_plan (S := fun w' => ∃ p : Regrown, w' = grow (redrawn wr p.d) p.os) [] [0, 1, 2, 3, 4, 5, 6, 7, 8] (by kernel_rfl) (by kernel_rfl) (by kernel_rfl) (by kernel_rfl) (cls_keeps ((Keeps.refl _ _).drew)) ?_
          simp only [wpPlan, opsAt, pick]
          repeat (first | (go_big_quiet_want; refine quiet_row_at _ _ rfl b1 (o1 + i * 128) rfl (brow bx) Hr1.out Tryd.underlying25 rfl s1 ?_; simp only [Act.put, List.setIfInBounds_toArray, List.set_cons_zero, List.set_cons_succ]; go_big_quiet_on) | (go_big_quiet_want; refine quiet_row_at _ _ rfl b2 (o2 + i * 128) rfl (brow bY) Hr2.out Tryd.underlying25 rfl s2 ?_; simp only [Act.put, List.setIfInBounds_toArray, List.set_cons_zero, List.set_cons_succ]; go_big_quiet_on) | go_big_quiet_step (fail))
          refine wpQuiet_nil ?_
          refine NoPanic.normal ?_
          go_wp2
        · go_ret
          refine ⟨?_, hk.drew⟩
          rw [decide_eq_false]
          · rfl
          · rintro rfl
            have := He.out
            rw [decide_eq_false_iff_not] at this
            exact this (Hx.out.symm.trans Hy.out)
        · go_roundw
          case rel => exact ⟨i + 1, by omega, by go_num, hk.drew, fun j hj => by
            rcases Nat.lt_or_ge j i with h | h
            · exact Hbl.out j h
            · obtain rfl : j = i := by omega
              rw [Hx.out, Hy.out]; exact of_decide_eq_true He.out⟩
          case measure => simp [intOf]; omega
      · obtain rfl : i = n1 := by omega
        have hd : decide (x = y) = true := decide_eq_true (eq_of_blk Hl1.out Hl2.out hbl)
        have Hd : Hid (decide (x = y) = true) := hd
        clear hd hbl
        go_wp2
        go_ret
        exact ⟨by rw [Hd.out]; rfl, hk⟩
  · have hnn' : ¬ (n1 : Int) = (n2 : Int) := by omega
    have Hd : Hid (decide (x = y) = false) := decide_eq_false (by rintro rfl; omega)
    clear l1 l2 hnn
    rw [Hd.out]
    go_enter Tryd.func36, Tryd.ntmps36
    go_wp2
    go_ret
    exact ⟨rfl, Keeps.refl _ _⟩
theorem blocks_at {x y : List B} {v : Bool} (h : Hid (decide (x = y) = v)) (w : World) (a1 a2 : Option Addr) (n1 c1 n2 c2 : Nat) (h1 : SlB w a1 (n1 * 128) (c1 * 128) x) (h2 : SlB w a2 (n2 * 128) (c2 * 128) y) (hn : n1 < 1000000) :
    Calls Tryd.prog 36 #[.slice a1 n1 c1, .slice a2 n2 c2] w fun e w' => e = .returned (.bool v) ∧ Keeps (fun _ => False) w w' := by
  rw [← h.out]; exact blocks36 w a1 a2 n1 c1 n2 c2 x y h1 h2 hn

end Go.Proofs.YthngaegfppbdmaaDoor
