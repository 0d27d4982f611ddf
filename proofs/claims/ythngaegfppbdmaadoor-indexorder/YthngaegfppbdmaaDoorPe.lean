/-
  Encode of the program's leaf.
-/
import Derived.Test.YthngaegfppbdmaaDoorPd
set_option linter.all false
namespace Go.Proofs.YthngaegfppbdmaaDoor
open Go.RowKit Go.Sort Go.Shelf
attribute [local go_sem] Oper.semAt_some

/-- In block g lies a value of type t, one cell. -/
structure VaAt (w : World) (g : Nat) (t : TypeId) (v : Value) : Prop where
  row : w.heap[g]? = some (.cells #[v] t (0, 0))
theorem VaAt.lt {w : World} {g : Nat} {t : TypeId} {v : Value} (h : VaAt w g t v) : g < w.heap.size := lt_of_row h.row
theorem VaAt.keeps {S : Nat → Prop} {a w : World} {g : Nat} {t : TypeId} {v : Value} (h : VaAt a g t v) (hk : Keeps S a w) (hs : ¬ S g) : VaAt w g t v := ⟨hk.row h.row hs⟩
theorem VaAt.keep {a w : World} {g : Nat} {t : TypeId} {v : Value} (h : VaAt a g t v) (hk : Keeps (fun _ => False) a w) : VaAt w g t v := h.keeps hk (fun h => h)
theorem VaAt.cell {w : World} {g : Nat} {t : TypeId} {v : Value} (h : VaAt w g t v) : w.cell? ⟨g, 0, none⟩ = some v := by simp [World.cell?, h.row]
theorem VaAt.live {w : World} {g : Nat} {t : TypeId} {v : Value} (h : VaAt w g t v) : w.frozen? ⟨g, 0, none⟩ = false := frozen_of_row w g 0 _ _ h.row
theorem VaAt.put {w : World} {g D : Nat} {t : TypeId} {v : Value} (h : VaAt w g t v) (hD : g ≠ D) (o : Obj) : VaAt (w.putObj D o) g t v := ⟨(World.putObj_heap_other hD).trans h.row⟩
theorem VaAt.same {w w' : World} {g : Nat} {t : TypeId} {v : Value} (h : VaAt w g t v) (hs : ∀ (k : Nat) (cs : Array Value) (t : TypeId) (fr : Nat × Nat), w.heap[k]? = some (.cells cs t fr) → w'.heap[k]? = some (.cells cs t fr)) : VaAt w' g t v := ⟨hs _ _ _ _ h.row⟩
theorem zero48 (w : World) : (zeroValue 48).run Tryd.prog w = .ok (.slice none 0 0) w := by kernel_rfl
theorem wpList_alloc48 {ops : Array Oper} {rest : List Oper} {o : Oper} {a : Act} {w : World} {Q : Exit → Act → World → Prop} (hgd : o.guard = none) (ho : o.op = .alloc 48)
    (h : ∀ g w', VaAt w' g 48 (.slice none 0 0) → w.heap.size ≤ g → Keeps (fun _ => False) w w' → wpList Tryd.prog ops Q rest (a.put o.dst (.pointer (some ⟨g, 0, none⟩))) w') : wpList Tryd.prog ops Q (o :: rest) a w := by
  refine wpList_plain hgd fun K hK => ?_
  unfold Oper.wp execOp
  simp only [ho, Instr.alloc, zero48, newVar, newRow, Sem.run_bind, Result.andThen_ok, Sem.run_pure]
  exact hK _ _ (h w.heap.size _ ⟨heap_alloc_new w _⟩ (Nat.le_refl _) (keeps_alloc w _))
theorem run_store48 {w : World} {g : Nat} {v : Value} (hb : VaAt w g 48 v) (a : Option Addr) (n c : Nat) : (Instr.storeAt 48 (.pointer (some ⟨g, 0, none⟩)) (.slice a n c)).run Tryd.prog w = .ok () (w.setCell ⟨g, 0, none⟩ (.slice a n c)) := by
  have hc := hb.cell
  have hf := hb.live
  have hu := Tryd.underlying48
  simp [go_sem, Instr.storeAt, Instr.sureAddr, storeVar, hc, hf]
theorem wpList_store48 {ops : Array Oper} {rest : List Oper} {o : Oper} {a : Act} {w : World} {Q : Exit → Act → World → Prop} (hgd : o.guard = none) (x y : Operand) (ho : o.op = .store 48 x y) (g : Nat) (hx : a.eval x = .pointer (some ⟨g, 0, none⟩)) (u : Value) (hy : a.eval y = u) (hu : ∃ b n c, u = .slice b n c)
    (v : Value) (hb : VaAt w g 48 v) (h : ∀ w', VaAt w' g 48 u → Keeps (· = g) w w' → wpList Tryd.prog ops Q rest (a.put o.dst undef) w') : wpList Tryd.prog ops Q (o :: rest) a w := by
  obtain ⟨b, n, c, rfl⟩ := hu
  refine wpList_plain hgd fun K hK => ?_
  unfold Oper.wp execOp
  simp only [ho, hx, hy, run_store48 hb, Sem.run_bind, Sem.run_pure, Result.andThen_ok]
  exact hK _ _ (h _ ⟨by rw [heap_setCell_same w _ _ _ _ _ hb.row]; rfl⟩ ((Keeps.refl (· = g) w).setCell (p := ⟨g, 0, none⟩) (.inl rfl) _))
theorem run_load48 {w : World} {g : Nat} {v : Value} (h : w.cell? ⟨g, 0, none⟩ = some v) : (loadVar 48 ⟨g, 0, none⟩).run Tryd.prog w = .ok v w := by
  have hu := Tryd.underlying48
  simp [go_sem, loadVar, h]
theorem wpList_load48 {ops : Array Oper} {rest : List Oper} {o : Oper} {a : Act} {w : World} {Q : Exit → Act → World → Prop} (hw : Region.wanted o (yielded ops a.tmps) = true) (x : Operand) (ho : o.op = .load 48 x) (g : Nat) (hx : a.eval x = .pointer (some ⟨g, 0, none⟩)) (v : Value) (hb : VaAt w g 48 v)
    (h : wpList Tryd.prog ops Q rest (a.put o.dst v) w) : wpList Tryd.prog ops Q (o :: rest) a w := by
  unfold wpList
  rw [if_pos hw]
  left
  unfold Oper.wp execOp
  simp only [ho, hx, Instr.loadAt, Instr.sureAddr, Sem.run_bind, Sem.run_pure, Result.andThen_ok, run_load48 hb.cell]
  exact h
theorem quiet_load48 {o : Oper} {a : Act} {C : World → Prop} {K : Act → Prop} (x : Operand) (ho : o.op = .load 48 x) (g : Nat) (hx : a.eval x = .pointer (some ⟨g, 0, none⟩)) (v : Value) (hb : ∀ w, C w → VaAt w g 48 v) (hk : K (a.put o.dst v)) : o.quiet Tryd.prog a C K := by
  refine ⟨v, fun w hw => ?_, hk⟩
  unfold Oper.quietAt execOp
  simp only [ho, hx, Instr.loadAt, Instr.sureAddr, Sem.run_bind, Sem.run_pure, Result.andThen_ok, run_load48 (hb w hw).cell]
  exact ⟨rfl, rfl⟩
theorem run_loadI {w : World} {b o : Nat} {x : Int} (h : w.cell? ⟨b, o, none⟩ = some (.int .i64 x)) : (loadVar 3 ⟨b, o, none⟩).run Tryd.prog w = .ok (.int .i64 x) w := by
  have hu := Tryd.underlying3
  simp [go_sem, loadVar, h]
theorem quiet_loadI {o : Oper} {a : Act} {C : World → Prop} {K : Act → Prop} (x : Operand) (ho : o.op = .load 3 x) (b of : Nat) (hx : a.eval x = .pointer (some ⟨b, of, none⟩)) (v : Int) (hb : ∀ w, C w → w.cell? ⟨b, of, none⟩ = some (.int .i64 v)) (hk : K (a.put o.dst (.int .i64 v))) : o.quiet Tryd.prog a C K := by
  refine ⟨.int .i64 v, fun w hw => ?_, hk⟩
  unfold Oper.quietAt execOp
  simp only [ho, hx, Instr.loadAt, Instr.sureAddr, Sem.run_bind, Sem.run_pure, Result.andThen_ok, run_loadI (hb w hw)]
  exact ⟨rfl, rfl⟩

theorem OwnB.ne {w : World} {base g : Nat} {v : Value} {l : List B} {cs : Array Value} {t : TypeId} {fr : Nat × Nat} (h : OwnB w base v l) (hg : w.heap[g]? = some (.cells cs t fr)) (ht : t ≠ 5) : v.ownBlock ≠ some g := by
  obtain ⟨_, ⟨rfl, _⟩ | ⟨g', cap, cur, rfl, _, hg', _⟩⟩ := h.owns
  · intro e; cases e
  · intro e
    cases e
    rw [hg] at hg'
    cases hg'
    exact ht rfl
theorem OwnB.same {w w' : World} {base : Nat} {v : Value} {l : List B} (h : OwnB w base v l) (hs : ∀ (k : Nat) (cs : Array Value) (t : TypeId) (fr : Nat × Nat), w.heap[k]? = some (.cells cs t fr) → w'.heap[k]? = some (.cells cs t fr)) : OwnB w' base v l := by
  obtain ⟨h1, h2⟩ := h.owns
  refine ⟨h1, ?_⟩
  rcases h2 with h2 | ⟨g, cap, cur, rfl, hb, hg, rest⟩
  · exact .inl h2
  · exact .inr ⟨g, cap, cur, rfl, hb, hs _ _ _ _ hg, rest⟩

theorem OwnB.kept {S : Nat → Prop} {w w' : World} {base : Nat} {v : Value} {l : List B} (h : OwnB w base v l) (hk : Keeps S w w') (hS : ∀ g, v.ownBlock = some g → ¬ S g) : OwnB w' base v l := by
  obtain ⟨h1, h2⟩ := h.owns
  refine ⟨h1, ?_⟩
  rcases h2 with h2 | ⟨g, cap, cur, rfl, hb, hg, rest⟩
  · exact .inl h2
  · exact .inr ⟨g, cap, cur, rfl, hb, hk.row hg (hS g rfl), rest⟩
theorem OwnB.is {w : World} {base : Nat} {v : Value} {l : List B} (h : OwnB w base v l) : ∃ b n c, v = .slice b n c := by
  obtain ⟨a, n, c, e, _⟩ := h.slice
  exact ⟨a, n, c, e⟩
theorem OwnB.from {w : World} {base g : Nat} {v : Value} {l : List B} (h : OwnB w base v l) (e : v.ownBlock = some g) : base ≤ g ∧ g < w.heap.size := h.owns.lt g e

theorem OwnB.cells {w : World} {base k : Nat} {v : Value} {l : List B} (h : OwnB w base v l) (e : v.ownBlock = some k) : ∃ cs t fr, w.heap[k]? = some (.cells cs t fr) := by
  obtain ⟨_, ⟨rfl, _⟩ | ⟨g', cap, cur, rfl, _, hg', _⟩⟩ := h.owns
  · cases e
  · cases e; exact ⟨_, _, _, hg'⟩
theorem OwnB.fromB {w w' : World} {base B : Nat} {v : Value} {l : List Go.Proofs.YthngaegfppbdmaaDoor.B} (h : OwnB w base v l) (hk : Keeps (fun k => v.ownBlock = some k) w w') : KeepsFrom B w w' := hk.from (fun k _ e => h.cells e)
theorem ErAt.place {w : World} {g : Nat} {e : En} (h : ErAt w g e) : w.cell? ⟨g, 32, none⟩ = some (.int .i64 e.place) := by have := h.at_.place; rwa [Nat.zero_add] at this
theorem ErAt.blocks {w : World} {g : Nat} {e : En} (h : ErAt w g e) : w.cell? ⟨g, 33, none⟩ = some (.int .i64 e.blocks) := by have := h.at_.blocks; rwa [Nat.zero_add] at this
theorem ErAt.refs {w : World} {g : Nat} {e : En} (h : ErAt w g e) : w.cell? ⟨g, 34, none⟩ = some (.int .i64 e.refs) := by have := h.at_.refs; rwa [Nat.zero_add] at this

/-- What a round's region reads: a value and an entry. -/
structure VaEr (g4 : Nat) (t : TypeId) (v : Value) (ge : Nat) (e : En) where
  w : World
  va : VaAt w g4 t v
  er : ErAt w ge e

/-- Behind some rounds: their text. -/
structure EcIn (base g g2 g4 : Nat) (a : Option Addr) (n c : Nat) (w5 : World) (pre : List (En × Bool)) (V : World) : Prop where
  own : ∃ v, VaAt V g4 48 v ∧ OwnB V base v (kb 76 :: kb (n : Int) :: flat (pre.map (·.1)))
  it : V.heap[g]? = some (.cells #[.slice a n c] 22 (0, 0))
  out : BlAt V g2 (zb 128)
  keeps : Keeps (fun k => base ≤ k) w5 V
theorem EcIn.grown {base g g2 g4 : Nat} {a : Option Addr} {n c : Nat} {w5 A A' : World} {pre : List (En × Bool)} {row : Option Nat} (h : EcIn base g g2 g4 a n c w5 pre A) (hg : A.grownBy A' row) (hr : ∀ r, row = some r → w5.heap.size ≤ r ∧ ∃ o : Obj, A.heap[r]? = some o ∧ o.isCells = false) : EcIn base g g2 g4 a n c w5 pre A' := by
  obtain ⟨v, h1, h2⟩ := h.own
  have hs : ∀ (k : Nat) (cs : Array Value) (t : TypeId) (fr : Nat × Nat), A.heap[k]? = some (.cells cs t fr) → A'.heap[k]? = some (.cells cs t fr) := fun k cs t fr e => own_cells hg hr e
  exact ⟨⟨v, h1.same hs, h2.same hs⟩, hs _ _ _ _ h.it, ⟨hs _ _ _ _ h.out.row, h.out.len⟩, own_keeps hg hr h.keeps (Nat.le_refl _)⟩

end Go.Proofs.YthngaegfppbdmaaDoor
