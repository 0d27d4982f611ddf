/-
  Decode of the program's leaf.
-/
import Derived.Test.YthngaegfppbdmaaDoorPg
set_option linter.all false
namespace Go.Proofs.YthngaegfppbdmaaDoor
open Go.RowKit Go.Sort Go.Shelf
attribute [local go_sem] Oper.semAt_some

theorem zero22 (w : World) : (zeroValue 22).run Tryd.prog w = .ok (.slice none 0 0) w := by kernel_rfl
theorem wpList_alloc22 {ops : Array Oper} {rest : List Oper} {o : Oper} {a : Act} {w : World} {Q : Exit → Act → World → Prop} (hgd : o.guard = none) (ho : o.op = .alloc 22)
    (h : ∀ g w', VaAt w' g 22 (.slice none 0 0) → w.heap.size ≤ g → Keeps (fun _ => False) w w' → wpList Tryd.prog ops Q rest (a.put o.dst (.pointer (some ⟨g, 0, none⟩))) w') : wpList Tryd.prog ops Q (o :: rest) a w := by
  refine wpList_plain hgd fun K hK => ?_
  unfold Oper.wp execOp
  simp only [ho, Instr.alloc, zero22, newVar, newRow, Sem.run_bind, Result.andThen_ok, Sem.run_pure]
  exact hK _ _ (h w.heap.size _ ⟨heap_alloc_new w _⟩ (Nat.le_refl _) (keeps_alloc w _))
theorem run_store22 {w : World} {g : Nat} {v : Value} (hb : VaAt w g 22 v) (a : Option Addr) (n c : Nat) : (Instr.storeAt 22 (.pointer (some ⟨g, 0, none⟩)) (.slice a n c)).run Tryd.prog w = .ok () (w.setCell ⟨g, 0, none⟩ (.slice a n c)) := by
  have hc := hb.cell
  have hf := hb.live
  have hu := Tryd.underlying22
  simp [go_sem, Instr.storeAt, Instr.sureAddr, storeVar, hc, hf]
theorem wpList_store22 {ops : Array Oper} {rest : List Oper} {o : Oper} {a : Act} {w : World} {Q : Exit → Act → World → Prop} (hgd : o.guard = none) (x y : Operand) (ho : o.op = .store 22 x y) (g : Nat) (hx : a.eval x = .pointer (some ⟨g, 0, none⟩)) (u : Value) (hy : a.eval y = u) (hu : ∃ b n c, u = .slice b n c)
    (v : Value) (hb : VaAt w g 22 v) (h : ∀ w', VaAt w' g 22 u → Keeps (· = g) w w' → wpList Tryd.prog ops Q rest (a.put o.dst undef) w') : wpList Tryd.prog ops Q (o :: rest) a w := by
  obtain ⟨b, n, c, rfl⟩ := hu
  refine wpList_plain hgd fun K hK => ?_
  unfold Oper.wp execOp
  simp only [ho, hx, hy, run_store22 hb, Sem.run_bind, Sem.run_pure, Result.andThen_ok]
  exact hK _ _ (h _ ⟨by rw [heap_setCell_same w _ _ _ _ _ hb.row]; rfl⟩ ((Keeps.refl (· = g) w).setCell (p := ⟨g, 0, none⟩) (.inl rfl) _))
theorem run_load22 {w : World} {g : Nat} {v : Value} (h : w.cell? ⟨g, 0, none⟩ = some v) : (loadVar 22 ⟨g, 0, none⟩).run Tryd.prog w = .ok v w := by
  have hu := Tryd.underlying22
  simp [go_sem, loadVar, h]
theorem wpList_load22 {ops : Array Oper} {rest : List Oper} {o : Oper} {a : Act} {w : World} {Q : Exit → Act → World → Prop} (hw : Region.wanted o (yielded ops a.tmps) = true) (x : Operand) (ho : o.op = .load 22 x) (g : Nat) (hx : a.eval x = .pointer (some ⟨g, 0, none⟩)) (v : Value) (hb : VaAt w g 22 v)
    (h : wpList Tryd.prog ops Q rest (a.put o.dst v) w) : wpList Tryd.prog ops Q (o :: rest) a w := by
  unfold wpList
  rw [if_pos hw]
  left
  unfold Oper.wp execOp
  simp only [ho, hx, Instr.loadAt, Instr.sureAddr, Sem.run_bind, Sem.run_pure, Result.andThen_ok, run_load22 hb.cell]
  exact h

theorem OwnE.ne {w : World} {base g : Nat} {v : Value} {l : List En} {cs : Array Value} {t : TypeId} {fr : Nat × Nat} (h : OwnE w base v l) (hg : w.heap[g]? = some (.cells cs t fr)) (ht : t ≠ 54) : v.ownBlock ≠ some g := by
  obtain ⟨_, ⟨rfl, _⟩ | ⟨g', cap, cur, rfl, _, hg', _⟩⟩ := h.owns
  · intro e; cases e
  · intro e
    cases e
    rw [hg] at hg'
    cases hg'
    exact ht rfl
theorem OwnE.same {w w' : World} {base : Nat} {v : Value} {l : List En} (h : OwnE w base v l) (hs : ∀ (k : Nat) (cs : Array Value) (t : TypeId) (fr : Nat × Nat), w.heap[k]? = some (.cells cs t fr) → w'.heap[k]? = some (.cells cs t fr)) : OwnE w' base v l := by
  obtain ⟨h1, h2⟩ := h.owns
  refine ⟨⟨h1, ?_⟩, h.keyed⟩
  rcases h2 with h2 | ⟨g, cap, cur, rfl, hb, hg, rest⟩
  · exact .inl h2
  · exact .inr ⟨g, cap, cur, rfl, hb, hs _ _ _ _ hg, rest⟩
theorem OwnE.kept {S : Nat → Prop} {w w' : World} {base : Nat} {v : Value} {l : List En} (h : OwnE w base v l) (hk : Keeps S w w') (hS : ∀ g, v.ownBlock = some g → ¬ S g) : OwnE w' base v l := by
  obtain ⟨h1, h2⟩ := h.owns
  refine ⟨⟨h1, ?_⟩, h.keyed⟩
  rcases h2 with h2 | ⟨g, cap, cur, rfl, hb, hg, rest⟩
  · exact .inl h2
  · exact .inr ⟨g, cap, cur, rfl, hb, hk.row hg (hS g rfl), rest⟩
theorem OwnE.is {w : World} {base : Nat} {v : Value} {l : List En} (h : OwnE w base v l) : ∃ b n c, v = .slice b n c := by
  obtain ⟨a, c, e, _⟩ := h.slice
  exact ⟨a, _, c, e⟩
theorem OwnE.from {w : World} {base g : Nat} {v : Value} {l : List En} (h : OwnE w base v l) (e : v.ownBlock = some g) : base ≤ g ∧ g < w.heap.size := h.owns.lt g e
theorem OwnE.cells {w : World} {base k : Nat} {v : Value} {l : List En} (h : OwnE w base v l) (e : v.ownBlock = some k) : ∃ cs t fr, w.heap[k]? = some (.cells cs t fr) := by
  obtain ⟨_, ⟨rfl, _⟩ | ⟨g', cap, cur, rfl, _, hg', _⟩⟩ := h.owns
  · cases e
  · cases e; exact ⟨_, _, _, hg'⟩
theorem OwnE.fromB {w w' : World} {base B : Nat} {v : Value} {l : List En} (h : OwnE w base v l) (hk : Keeps (fun k => v.ownBlock = some k) w w') : KeepsFrom B w w' := hk.from (fun k _ e => h.cells e)

theorem wpList_makeE {ops : Array Oper} {rest : List Oper} {o : Oper} {a : Act} {w : World} {Q : Exit → Act → World → Prop} (hgd : o.guard = none) (l c : Operand) (ho : o.op = .makeSlice 22 l c) (hl : a.eval l = .int .i64 0) (m : Nat) (C : Int) (hc : a.eval c = .int .i64 C) (hC : C = (m : Int)) (hm : m ≤ 100000)
    (h : ∀ w', OwnE w' w.heap.size (.slice (some ⟨w.heap.size, 0, none⟩) 0 m) [] → Keeps (fun _ => False) w w' → wpList Tryd.prog ops Q rest (a.put o.dst (.slice (some ⟨w.heap.size, 0, none⟩) 0 m)) w') : wpList Tryd.prog ops Q (o :: rest) a w := by
  obtain ⟨i, hi, hz, hsz, hby⟩ := info46'
  refine wpList_make_own w hgd l c 22 ho w.heap.size 54 i (.agg (e0 0 0 0).cells.toArray) 35 Tryd.underlying22 hi hz hsz .i64 .i64 C m hl hc hC (by rw [hby]; omega) (by unfold maxLen; omega) (Nat.le_refl _) ?_
  intro w' ho' hg
  exact h w' ⟨ho', fun e he => by cases he⟩ ((Keeps.refl _ _).grown hg (fun k e => by cases e))

theorem isLf_big {x : List B} (h : 3 < (x.getD 1 0).toNat) : isLf x = false := by
  cases hi : isLf x with
  | false => rfl
  | true =>
    exfalso
    obtain ⟨h1, h2⟩ := isLf_iff.1 hi
    have h3 := lf_1 (ents x)
    rw [h2] at h3
    have h4 := (gd_len h1).2
    rw [h3] at h
    have := nb_kb ((ents x).length : Int)
    unfold nb at this
    omega

/-- Behind some rounds: their entries. -/
structure DcIn (base gn gb g5 : Nat) (n : Nat) (x : List B) (w6 : World) (pre : List En) (V : World) : Prop where
  own : ∃ v, VaAt V g5 22 v ∧ OwnE V base v pre
  num : V.heap[gn]? = some (.cells #[.int .i64 (n : Int)] 3 (0, 0))
  blk : BlAt V gb x
  keeps : Keeps (fun k => base ≤ k) w6 V
theorem DcIn.grown {base gn gb g5 n : Nat} {x : List B} {w6 A A' : World} {pre : List En} {row : Option Nat} (h : DcIn base gn gb g5 n x w6 pre A) (hg : A.grownBy A' row) (hr : ∀ r, row = some r → w6.heap.size ≤ r ∧ ∃ o : Obj, A.heap[r]? = some o ∧ o.isCells = false) : DcIn base gn gb g5 n x w6 pre A' := by
  obtain ⟨v, h1, h2⟩ := h.own
  have hs : ∀ (k : Nat) (cs : Array Value) (t : TypeId) (fr : Nat × Nat), A.heap[k]? = some (.cells cs t fr) → A'.heap[k]? = some (.cells cs t fr) := fun k cs t fr e => own_cells hg hr e
  exact ⟨⟨v, h1.same hs, h2.same hs⟩, hs _ _ _ _ h.num, ⟨hs _ _ _ _ h.blk.row, h.blk.len⟩, own_keeps hg hr h.keeps (Nat.le_refl _)⟩

theorem decP_big (w : World) (x : List B) (hx : x.length = 128) (h : 3 < (x.getD 1 0).toNat) :
    Calls Tryd.prog 17 #[.agg (brow x)] w fun e w' => DecTold x e w' ∧ Keeps (fun _ => False) w w' := by
  have hI : Hid (isLf x = false) := isLf_big h
  have h3 : (3 : Int) < nb (x.getD 1 0) := by unfold nb; omega
  have hlt := nb_lt (x.getD 1 0)
  generalize hy : x.getD 1 0 = y at *
  go_enter Tryd.func17, Tryd.ntmps17
  go_wp2_with (refine wpList_box26 rfl _ rfl x hx rfl ?_; intro g1 w1 b1 z1 k1; have c1 := b1.cell (j := 1) (by omega); rw [hy] at c1)
  refine bodyPost_ret (results_two rfl _ _ _) rfl ?_
  exact ⟨.no hI.out rfl, k1⟩

end Go.Proofs.YthngaegfppbdmaaDoor
