
/-
  Signs.
-/
import Derived.Test.YtkcnnkakpkdhkaaDoorUc
import Derived.Test.YtkcnnkakpkdhkaaDoorPz
set_option linter.all false
namespace Go.Proofs.YtkcnnkakpkdhkaaDoor
open Go.RowKit Go.Sort Go.Shelf
attribute [local go_sem] Oper.semAt_some

/-- What Signs has taken in. -/
structure SgI (bk g3 : Nat) (w5 : World) (pre : List (Int × Bool)) (V : World) : Prop where
  ok : ∀ y ∈ pre, y.2 = true
  own : ∃ v, Ce V g3 75 v ∧ OwnI V w5.heap.size v (pre.map (·.1))
  keeps : Keeps (fun k => k = bk ∨ k = g3) w5 V
theorem OwnI.turn {B base : Nat} {W W' : World} {v : Value} {l : List Int} {row : Option Nat} (hg : W.grownBy W' row) (hr : ∀ r, row = some r → B ≤ r ∧ ∃ o : Obj, W.heap[r]? = some o ∧ o.isCells = false) (h : OwnI W base v l) : OwnI W' base v l := by
  obtain ⟨h1, h2⟩ := h.owns
  refine ⟨⟨h1, ?_⟩⟩
  rcases h2 with h2 | ⟨g, cap, cur, rfl, hb, hgr, rest⟩
  · exact .inl h2
  · exact .inr ⟨g, cap, cur, rfl, hb, own_cells hg hr hgr, rest⟩
theorem OwnI.shape {W : World} {base : Nat} {v : Value} {l : List Int} (h : OwnI W base v l) : ∃ a n c, v = .slice a n c := by
  obtain ⟨a, c, e, _⟩ := h.slice
  exact ⟨a, _, c, e⟩
theorem OwnI.down {W : World} {base b' : Nat} {v : Value} {l : List Int} (h : OwnI W base v l) (hb : b' ≤ base) : OwnI W b' v l := by
  obtain ⟨h1, h2⟩ := h.owns
  refine ⟨⟨h1, ?_⟩⟩
  rcases h2 with h2 | ⟨g, cap, cur, e, hb2, rest⟩
  · exact .inl h2
  · exact .inr ⟨g, cap, cur, e, Nat.le_trans hb hb2, rest⟩
theorem OwnI.cells {W : World} {base : Nat} {v : Value} {l : List Int} (h : OwnI W base v l) {k : Nat} (e : v.ownBlock = some k) : ∃ cs t fr, W.heap[k]? = some (.cells cs t fr) := by
  obtain ⟨h1, h2⟩ := h.owns
  rcases h2 with ⟨rfl, _⟩ | ⟨g, cap, cur, rfl, hb, hgr, rest⟩
  · cases e
  · cases e; exact ⟨_, _, _, hgr⟩
theorem Ce.cells {w : World} {g : Nat} {t : TypeId} {v : Value} (h : Ce w g t v) : ∃ cs t fr, w.heap[g]? = some (.cells cs t fr) := ⟨_, _, _, h.row⟩

end Go.Proofs.YtkcnnkakpkdhkaaDoor
