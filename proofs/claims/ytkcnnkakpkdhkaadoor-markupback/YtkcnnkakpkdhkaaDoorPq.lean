
/-
  A plan with forks: where two operations may come up, both ways are walked.
-/
import Derived.Test.YtkcnnkakpkdhkaaDoorPl
set_option linter.all false
namespace Go.Proofs.YtkcnnkakpkdhkaaDoor
open Go.RowKit

inductive Plan where
  | last (q : List Nat)
  | one (q : List Nat) (i : Nat) (p : Plan)
  | two (q : List Nat) (i : Nat) (p : Plan) (j : Nat) (r : Plan)

section
variable {P : Program} {Q : Exit → Act → World → Prop} {md : Region.Mode} {S : World → Prop}

def wpTree (P : Program) (l : List Oper) (Q : Exit → Act → World → Prop) (S : World → Prop) : Plan → Act → World → Prop
  | .last q, a, w => wpQuiet P l.toArray S (fun a' => Q .normal a' w) (opsAt l q) a
  | .one q i p, a, w => wpQuiet P l.toArray S (fun a' => wpList P l.toArray (Held S Q (wpTree P l Q S p)) (opsAt l [i]) a' w) (opsAt l q) a
  | .two q i p j r, a, w => wpQuiet P l.toArray S (fun a' => wpList P l.toArray (Held S Q (wpTree P l Q S p)) (opsAt l [i]) a' w ∧ wpList P l.toArray (Held S Q (wpTree P l Q S r)) (opsAt l [j]) a' w) (opsAt l q) a
def treeB (md : Region.Mode) (ops : Array Oper) : Plan → Array Bool → Bool
  | .last q, listed => takeB md ops q listed && (Region.ready md ops (listAll listed q)).isEmpty
  | .one q i p, listed => takeB md ops q listed && decide (Region.ready md ops (listAll listed q) = [i]) && (ops[i]?).isSome && treeB md ops p ((listAll listed q).setIfInBounds i true)
  | .two q i p j r, listed => takeB md ops q listed && decide (Region.ready md ops (listAll listed q) = [i, j]) && (ops[i]?).isSome && (ops[j]?).isSome && treeB md ops p ((listAll listed q).setIfInBounds i true) && treeB md ops r ((listAll listed q).setIfInBounds j true)
/-- How many operations; both ways have as many. -/
def treeLen : Plan → Option Nat
  | .last q => some q.length
  | .one q _ p => (treeLen p).map (· + 1 + q.length)
  | .two q _ p _ r => match treeLen p, treeLen r with
    | some m, some n => if m = n then some (m + 1 + q.length) else none
    | _, _ => none

theorem op_of_one {l : List Oper} {i : Nat} {o : Oper} {a : Act} {w : World} {f : Nat} {listed : Array Bool} {K : Act → World → Prop} (ho : l[i]? = some o) (h : wpList P l.toArray (Held S Q K) [o] a w)
    (hk : ∀ a' w', S w' → K a' w' → wpAnyH P md l.toArray Q S f (listed.setIfInBounds i true) a' w') : wpOp P l.toArray Q i (fun a' w' => S w' ∧ wpAnyH P md l.toArray Q S f (listed.setIfInBounds i true) a' w') a w := by
  have ho' : l.toArray[i]? = some o := by rw [List.getElem?_toArray, ho]
  unfold wpOp
  simp only [ho']
  unfold wpList at h
  split
  · rename_i hw
    rw [if_pos hw] at h
    exact h.imp (fun h => Oper.wp_mono (fun a w (h : S w ∧ K a w) => ⟨h.1, hk _ _ h.1 h.2⟩) (wp_of_held h)) (fun h => ⟨h.1, held_out h.2⟩)
  · rename_i hw
    rw [if_neg hw] at h
    have h' : S w ∧ K (a.put o.dst undef) w := h
    exact ⟨h'.1, hk _ _ h'.1 h'.2⟩

theorem any_of_tree {l : List Oper} (hs : Region.noSelect l.toArray = true) (hQ : ∀ c a d v w, Q (.panic c) (Act.put a d v) w → Q (.panic c) a w) :
    ∀ (pl : Plan) (n : Nat) (listed : Array Bool) (a : Act) (w : World), treeLen pl = some n → S w → treeB md l.toArray pl listed = true → wpTree P l Q S pl a w → wpAnyH P md l.toArray Q S n listed a w
  | .last q, n, listed, a, w, hn, hS, hB, h => by
    simp only [treeB, Bool.and_eq_true, List.isEmpty_iff] at hB
    simp only [treeLen, Option.some.injEq] at hn
    have := any_of_take (md := md) hs hQ hS q 0 listed a hB.1 h (fun a' h' => wpAnyH_done hB.2 h' 0)
    rwa [Nat.zero_add, hn] at this
  | .one q i p, n, listed, a, w, hn, hS, hB, h => by
    simp only [treeB, Bool.and_eq_true, decide_eq_true_eq] at hB
    simp only [treeLen, Option.map_eq_some_iff] at hn
    obtain ⟨m, hm, rfl⟩ := hn
    obtain ⟨⟨⟨h1, h2⟩, h3⟩, h4⟩ := hB
    refine any_of_take hs hQ hS q _ listed a h1 h fun a' h' => ?_
    cases ho : l[i]? with
    | none => rw [List.getElem?_toArray, ho] at h3; simp at h3
    | some o =>
      rw [show opsAt l [i] = [o] from pick_some l i ho] at h'
      exact any_of_one ho h2 h' fun a2 w2 hS2 hp => any_of_tree hs hQ p m _ a2 w2 hm hS2 h4 hp
  | .two q i p j r, n, listed, a, w, hn, hS, hB, h => by
    simp only [treeB, Bool.and_eq_true, decide_eq_true_eq] at hB
    obtain ⟨⟨⟨⟨⟨h1, h2⟩, h3⟩, h5⟩, h4⟩, h6⟩ := hB
    unfold treeLen at hn
    cases hp : treeLen p with
    | none => rw [hp] at hn; cases hn
    | some m =>
      cases hr : treeLen r with
      | none => rw [hp, hr] at hn; cases hn
      | some m' =>
        rw [hp, hr] at hn
        dsimp only at hn
        split at hn
        · rename_i e
          subst e
          cases hn
          refine any_of_take hs hQ hS q _ listed a h1 h fun a' h' => ?_
          cases ho : l[i]? with
          | none => rw [List.getElem?_toArray, ho] at h3; simp at h3
          | some o =>
            cases ho2 : l[j]? with
            | none => rw [List.getElem?_toArray, ho2] at h5; simp at h5
            | some o2 =>
              rw [show opsAt l [i] = [o] from pick_some l i ho, show opsAt l [j] = [o2] from pick_some l j ho2] at h'
              refine wpAnyH_all h2 (by simp) fun x hx => ?_
              rcases (by simpa using hx : x = i ∨ x = j) with rfl | rfl
              · exact op_of_one ho h'.1 fun a2 w2 hS2 hq => any_of_tree hs hQ p m _ a2 w2 hp hS2 h4 hq
              · exact op_of_one ho2 h'.2 fun a2 w2 hS2 hq => any_of_tree hs hQ r m _ a2 w2 hr hS2 h6 hq
        · cases hn

/-- A region that draws its order, walked by a plan with forks. -/
theorem region_tree {id : Nat} {l : List Oper} {a : Act} {w : World} (pl : Plan) (hm : P.follows .mixedOrders = true) (hs : Region.noSelect l.toArray = true) (hn : treeLen pl = some l.length)
    (hB : treeB .any l.toArray pl (Array.replicate l.length false) = true) (hS : S w.drew) (h : wpTree P l (NoPanic Q) S pl a w.drew) : (Code.region id l.toArray true).wp P Q a w := by
  refine wp_region_noPanic (wp_region_held (S := S) hm ?_)
  have := any_of_tree hs (fun _ _ _ _ _ h => h) pl _ _ a _ hn hS hB h
  simpa using this
end

end Go.Proofs.YtkcnnkakpkdhkaaDoor
