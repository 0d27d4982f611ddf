/-
  A plan's law for a drawn region with operations that part a tuple.
-/
import Derived.Test.YtdgnjpdjohibeaaDoorPn
set_option maxRecDepth 100000
set_option linter.all false
namespace Go.Proofs.YtdgnjpdjohibeaaDoor
open Go.RowKit
section
variable {P : Program} {ops : Array Oper} {Q : Exit → Act → World → Prop} {md : Region.Mode} {S : World → Prop}

theorem any_of_takeX {l : List Oper} (hs : Region.noSelect l.toArray = true) (hQ : ∀ c a d v w, Q (.panic c) (Act.put a d v) w → Q (.panic c) a w) {w : World} (hS : S w) {K : Act → Prop} :
    ∀ (q : List Nat) (f : Nat) (listed : Array Bool) (a : Act), takeB2 md l.toArray q listed = true → wpQuiet P l.toArray S K (opsAt l q) a → (∀ a', K a' → wpAnyH P md l.toArray Q S f (listAll listed q) a' w) →
      wpAnyH P md l.toArray Q S (f + q.length) listed a w
  | [], f, listed, a, _, h, hk => hk a h
  | i :: q, f, listed, a, hB, h, hk => by
    simp only [takeB2, Bool.and_eq_true] at hB
    obtain ⟨⟨⟨hr, hf⟩, hp⟩, hB⟩ := hB
    cases ho : l[i]? with
    | none => rw [List.getElem?_toArray, ho] at hp; simp at hp
    | some o =>
      have ho' : l.toArray[i]? = some o := by rw [List.getElem?_toArray, ho]
      have hp' : plainOp2 o.op = true := by rw [ho'] at hp; simpa using hp
      have e : opsAt l (i :: q) = o :: opsAt l q := pick_some l i ho
      rw [e] at h
      unfold wpQuiet at h
      rw [List.length_cons, ← Nat.add_assoc]
      split at h
      · rename_i hw
        obtain ⟨v, h1, h2⟩ := h
        exact wpAnyH_take ho' hs hf hr (fun c a w => hQ c a _ _ w) (.inl ⟨hw, plain_yields2 hp' h1⟩) hS (any_of_takeX hs hQ hS q f _ _ hB h2 hk)
      · rename_i hw
        exact wpAnyH_take ho' hs hf hr (fun c a w => hQ c a _ _ w) (.inr ⟨by simpa using hw, rfl⟩) hS (any_of_takeX hs hQ hS q f _ _ hB h hk)

theorem any_of_planX {l : List Oper} (hs : Region.noSelect l.toArray = true) (hQ : ∀ c a d v w, Q (.panic c) (Act.put a d v) w → Q (.panic c) a w) :
    ∀ (pl : List (List Nat × Nat)) (last : List Nat) (listed : Array Bool) (a : Act) (w : World), S w → planB2 md l.toArray pl last listed = true → wpPlan P l Q S pl last a w → wpAnyH P md l.toArray Q S (planLen pl last) listed a w
  | [], last, listed, a, w, hS, hB, h => by
    simp only [planB2, Bool.and_eq_true, List.isEmpty_iff] at hB
    have := any_of_takeX (md := md) hs hQ hS last 0 listed a hB.1 h (fun a' h' => wpAnyH_done hB.2 h' 0)
    rwa [Nat.zero_add] at this
  | (q, i) :: pl, last, listed, a, w, hS, hB, h => by
    simp only [planB2, Bool.and_eq_true, decide_eq_true_eq] at hB
    obtain ⟨⟨⟨h1, h2⟩, h3⟩, h4⟩ := hB
    refine any_of_takeX hs hQ hS q _ listed a h1 h fun a' h' => ?_
    cases ho : l[i]? with
    | none => rw [List.getElem?_toArray, ho] at h3; simp at h3
    | some o =>
      have e : opsAt l [i] = [o] := pick_some l i ho
      rw [e] at h'
      exact any_of_one ho h2 h' fun a2 w2 hS2 hp => any_of_planX hs hQ pl last _ a2 w2 hS2 h4 hp

/-- A region that draws its order, walked by a plan. -/
theorem region_planX {id : Nat} {l : List Oper} {a : Act} {w : World} (pl : List (List Nat × Nat)) (last : List Nat) (hm : P.follows .mixedOrders = true) (hs : Region.noSelect l.toArray = true) (hn : planLen pl last = l.length)
    (hB : planB2 .any l.toArray pl last (Array.replicate l.length false) = true) (hS : S w.drew) (h : wpPlan P l (NoPanic Q) S pl last a w.drew) : (Code.region id l.toArray true).wp P Q a w := by
  refine wp_region_noPanic (wp_region_held (S := S) hm ?_)
  have := any_of_planX hs (fun _ _ _ _ _ h => h) pl last _ a _ hS hB h
  rw [hn] at this
  simpa using this


end
end Go.Proofs.YtdgnjpdjohibeaaDoor
