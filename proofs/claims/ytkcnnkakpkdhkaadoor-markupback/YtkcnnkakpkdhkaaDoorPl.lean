
/-
  A region that draws its order: a plan names an order in which it is walked once; what only reads is taken first, what writes stands alone when it comes up.
-/
import Derived.Test.YtkcnnkakpkdhkaaDoorRt
import Derived.OrdersHeld
import Derived.Deep.RegionHeld3
import Derived.Lib.QuietBelow
set_option linter.all false
namespace Go.Proofs.YtkcnnkakpkdhkaaDoor
open Go.RowKit

section
variable {P : Program} {ops : Array Oper} {Q : Exit → Act → World → Prop} {md : Region.Mode} {S : World → Prop}

/-- S and K at a normal end, else Q. -/
def Held (S : World → Prop) (Q : Exit → Act → World → Prop) (K : Act → World → Prop) : Exit → Act → World → Prop
  | .normal, a, w => S w ∧ K a w
  | e, a, w => Q e a w

theorem held_out {K : Act → World → Prop} (h : LetsOut (Held S Q K)) : LetsOut Q := h

theorem wp_of_held {o : Oper} {a : Act} {w : World} {K K' : Act → World → Prop} (hh : o.wp P a w K (Held S Q K')) : o.wp P a w K Q := by
  unfold Oper.wp at *
  generalize (execOp a.eval o).run P w = r at *
  cases r with
  | ok n w' =>
    cases n <;> simp only [Oper.upon] at hh ⊢ <;>
      first
        | exact hh
        | exact Calls.mono hh (fun e w'' he => by cases e <;> exact he)
  | halt x w' => cases x <;> simp only [Oper.upon] at hh ⊢ <;> exact hh

/-- Operations that hand back a value and enter nothing. -/
def plainOp : Op → Bool
  | .move _ | .assign _ | .pick .. | .build .. | .load .. | .binOp .. | .unOp .. | .indexAddr .. | .index .. | .fieldAddr .. | .field .. | .slice .. | .convert .. => true
  | _ => false

theorem run_v {s : Sem Value} {w : World} {n : Next} {w' : World} (h : (do pure (Next.value (← s)) : Sem Next).run P w = .ok n w') : ∃ v, n = .value v := by
  rw [Sem.run_bind] at h
  cases hs : s.run P w with
  | ok v w1 => rw [hs] at h; simp only [Result.andThen_ok, Sem.run_pure] at h; cases h; exact ⟨v, rfl⟩
  | halt x w1 => rw [hs] at h; simp only [Result.andThen] at h; cases h

theorem plain_value {o : Oper} {ρ : Operand → Value} {w : World} {n : Next} {w' : World} (hp : plainOp o.op = true) (h : (execOp ρ o).run P w = .ok n w') : ∃ v, n = .value v := by
  unfold execOp at h
  cases ho : o.op <;> rw [ho] at h hp <;> first | (cases hp; done) | (exact run_v h) | (simp only [Sem.run_pure] at h; cases h; exact ⟨_, rfl⟩) | skip
  all_goals
    simp only [Sem.run_bind] at h
    generalize (asBool _).run P w = r at h
    cases r with
    | ok v w1 => simp only [Result.andThen_ok, Sem.run_pure] at h; cases h; exact ⟨_, rfl⟩
    | halt x w1 => simp only [Result.andThen] at h; cases h

theorem plain_yields {o : Oper} {a : Act} {v : Value} (hp : plainOp o.op = true) (h : ∀ w, S w → o.quietAt P a S w v) (w : World) (hS : S w) : (execOp a.eval o).run P w = .ok (.value v) w := by
  have h1 := h w hS
  unfold Oper.quietAt at h1
  cases hr : (execOp a.eval o).run P w with
  | ok n w' =>
    obtain ⟨u, rfl⟩ := plain_value hp hr
    rw [hr] at h1
    obtain ⟨rfl, rfl⟩ := h1
    rfl
  | halt x w' => rw [hr] at h1; exact h1.elim

def pick : List Oper → Nat → List Oper → List Oper
  | [], _, r => r
  | x :: _, 0, r => x :: r
  | _ :: l, n + 1, r => pick l n r
theorem pick_some {o : Oper} {r : List Oper} : ∀ (l : List Oper) (i : Nat), l[i]? = some o → pick l i r = o :: r
  | [], i, h => by simp at h
  | x :: l, 0, h => by simp at h; rw [h]; rfl
  | x :: l, i + 1, h => pick_some l i (by simpa using h)
/-- The operations of these numbers. -/
def opsAt (l : List Oper) : List Nat → List Oper
  | [] => []
  | i :: q => pick l i (opsAt l q)

/-- What may be taken first, one behind the other. -/
def takeB (md : Region.Mode) (ops : Array Oper) : List Nat → Array Bool → Bool
  | [], _ => true
  | i :: q, listed => (Region.ready md ops listed).contains i && Region.free md ops listed i && ((ops[i]?).map (fun o => plainOp o.op)).getD false && takeB md ops q (listed.setIfInBounds i true)
def listAll (listed : Array Bool) (q : List Nat) : Array Bool := q.foldl (fun l i => l.setIfInBounds i true) listed

theorem any_of_take {l : List Oper} (hs : Region.noSelect l.toArray = true) (hQ : ∀ c a d v w, Q (.panic c) (Act.put a d v) w → Q (.panic c) a w) {w : World} (hS : S w) {K : Act → Prop} :
    ∀ (q : List Nat) (f : Nat) (listed : Array Bool) (a : Act), takeB md l.toArray q listed = true → wpQuiet P l.toArray S K (opsAt l q) a → (∀ a', K a' → wpAnyH P md l.toArray Q S f (listAll listed q) a' w) →
      wpAnyH P md l.toArray Q S (f + q.length) listed a w
  | [], f, listed, a, _, h, hk => hk a h
  | i :: q, f, listed, a, hB, h, hk => by
    simp only [takeB, Bool.and_eq_true] at hB
    obtain ⟨⟨⟨hr, hf⟩, hp⟩, hB⟩ := hB
    cases ho : l[i]? with
    | none => rw [List.getElem?_toArray, ho] at hp; simp at hp
    | some o =>
      have ho' : l.toArray[i]? = some o := by rw [List.getElem?_toArray, ho]
      have hp' : plainOp o.op = true := by rw [ho'] at hp; simpa using hp
      have e : opsAt l (i :: q) = o :: opsAt l q := pick_some l i ho
      rw [e] at h
      unfold wpQuiet at h
      rw [List.length_cons, ← Nat.add_assoc]
      split at h
      · rename_i hw
        obtain ⟨v, h1, h2⟩ := h
        exact wpAnyH_take ho' hs hf hr (fun c a w => hQ c a _ _ w) (.inl ⟨hw, plain_yields hp' h1⟩) hS (any_of_take hs hQ hS q f _ _ hB h2 hk)
      · rename_i hw
        exact wpAnyH_take ho' hs hf hr (fun c a w => hQ c a _ _ w) (.inr ⟨by simpa using hw, rfl⟩) hS (any_of_take hs hQ hS q f _ _ hB h hk)

theorem any_of_one {l : List Oper} {i : Nat} {o : Oper} {f : Nat} {listed : Array Bool} {a : Act} {w : World} {K : Act → World → Prop} (ho : l[i]? = some o) (hr : Region.ready md l.toArray listed = [i]) (h : wpList P l.toArray (Held S Q K) [o] a w)
    (hk : ∀ a' w', S w' → K a' w' → wpAnyH P md l.toArray Q S f (listed.setIfInBounds i true) a' w') : wpAnyH P md l.toArray Q S (f + 1) listed a w := by
  refine wpAnyH_all hr (by simp) fun j hj => ?_
  obtain rfl : j = i := by simpa using hj
  have ho' : l.toArray[j]? = some o := by rw [List.getElem?_toArray, ho]
  unfold wpOp
  simp only [ho']
  unfold wpList at h
  split
  · rename_i hw
    rw [if_pos hw] at h
    exact h.imp (fun h => Oper.wp_mono (fun a w (h : S w ∧ K a w) => ⟨h.1, hk _ _ h.1 h.2⟩) (wp_of_held h)) (fun h => ⟨h.1, held_out h.2⟩)
  · rename_i hw
    rw [if_neg hw] at h
    have h' : S w ∧ K (a.put o.dst undef) w := h
    exact ⟨h'.1, hk _ _ h'.1 h'.2⟩

/-- The walk by a plan. -/
def wpPlan (P : Program) (l : List Oper) (Q : Exit → Act → World → Prop) (S : World → Prop) : List (List Nat × Nat) → List Nat → Act → World → Prop
  | [], last, a, w => wpQuiet P l.toArray S (fun a' => Q .normal a' w) (opsAt l last) a
  | (q, i) :: pl, last, a, w => wpQuiet P l.toArray S (fun a' => wpList P l.toArray (Held S Q (wpPlan P l Q S pl last)) (opsAt l [i]) a' w) (opsAt l q) a
def planB (md : Region.Mode) (ops : Array Oper) : List (List Nat × Nat) → List Nat → Array Bool → Bool
  | [], last, listed => takeB md ops last listed && (Region.ready md ops (listAll listed last)).isEmpty
  | (q, i) :: pl, last, listed => takeB md ops q listed && decide (Region.ready md ops (listAll listed q) = [i]) && (ops[i]?).isSome && planB md ops pl last ((listAll listed q).setIfInBounds i true)
def planLen : List (List Nat × Nat) → List Nat → Nat
  | [], last => last.length
  | (q, _) :: pl, last => planLen pl last + 1 + q.length

theorem any_of_plan {l : List Oper} (hs : Region.noSelect l.toArray = true) (hQ : ∀ c a d v w, Q (.panic c) (Act.put a d v) w → Q (.panic c) a w) :
    ∀ (pl : List (List Nat × Nat)) (last : List Nat) (listed : Array Bool) (a : Act) (w : World), S w → planB md l.toArray pl last listed = true → wpPlan P l Q S pl last a w → wpAnyH P md l.toArray Q S (planLen pl last) listed a w
  | [], last, listed, a, w, hS, hB, h => by
    simp only [planB, Bool.and_eq_true, List.isEmpty_iff] at hB
    have := any_of_take (md := md) hs hQ hS last 0 listed a hB.1 h (fun a' h' => wpAnyH_done hB.2 h' 0)
    rwa [Nat.zero_add] at this
  | (q, i) :: pl, last, listed, a, w, hS, hB, h => by
    simp only [planB, Bool.and_eq_true, decide_eq_true_eq] at hB
    obtain ⟨⟨⟨h1, h2⟩, h3⟩, h4⟩ := hB
    refine any_of_take hs hQ hS q _ listed a h1 h fun a' h' => ?_
    cases ho : l[i]? with
    | none => rw [List.getElem?_toArray, ho] at h3; simp at h3
    | some o =>
      have e : opsAt l [i] = [o] := pick_some l i ho
      rw [e] at h'
      exact any_of_one ho h2 h' fun a2 w2 hS2 hp => any_of_plan hs hQ pl last _ a2 w2 hS2 h4 hp

/-- A region that draws its order, walked by a plan. -/
theorem region_plan {id : Nat} {l : List Oper} {a : Act} {w : World} (pl : List (List Nat × Nat)) (last : List Nat) (hm : P.follows .mixedOrders = true) (hs : Region.noSelect l.toArray = true) (hn : planLen pl last = l.length)
    (hB : planB .any l.toArray pl last (Array.replicate l.length false) = true) (hS : S w.drew) (h : wpPlan P l (NoPanic Q) S pl last a w.drew) : (Code.region id l.toArray true).wp P Q a w := by
  refine wp_region_noPanic (wp_region_held (S := S) hm ?_)
  have := any_of_plan hs (fun _ _ _ _ _ h => h) pl last _ a _ hS hB h
  rw [hn] at this
  simpa using this

/-- A region that stands in its order, whose operations and calls stay in a class of worlds, walked as one that only reads. -/
theorem list_of_quiet {C : World → Prop} : ∀ (l : List Oper) (a : Act) (w : World), C w → wpQuiet P ops C (fun a' => ∀ w', C w' → Q .normal a' w') l a → wpList P ops Q l a w
  | [], a, w, hC, h => h w hC
  | o :: l, a, w, hC, h => by
    unfold wpQuiet at h
    unfold wpList
    split at h
    · rename_i hw
      rw [if_pos hw]
      left
      obtain ⟨v, h1, h2⟩ := h
      have h3 := h1 w hC
      unfold Oper.quietAt at h3
      unfold Oper.wp
      generalize (execOp a.eval o).run P w = r at *
      cases r with
      | ok n w' =>
        cases n <;> simp only [Oper.quietUpon] at h3 <;> simp only [Oper.upon]
        case value u => obtain ⟨rfl, rfl⟩ := h3; exact list_of_quiet l _ _ hC h2
        case skip => obtain ⟨rfl, rfl⟩ := h3; exact list_of_quiet l _ _ hC h2
        case enter f args =>
          obtain ⟨rfl, h4⟩ := h3
          exact h4.mono fun e w'' ⟨he, hC'⟩ => by subst he; exact list_of_quiet l _ _ hC' h2
      | halt x w' => simp only [Oper.quietUpon] at h3
    · rename_i hw
      rw [if_neg hw]
      exact list_of_quiet l _ _ hC h
theorem plain_quiet {id : Nat} {l : List Oper} {a : Act} {w : World} {C : World → Prop} (hC : C w) (h : wpQuiet P l.toArray C (fun a' => ∀ w', C w' → Q .normal a' w') l a) : (Code.region id l.toArray false).wp P Q a w :=
  wp_region_lit (list_of_quiet l a w hC h)
end

end Go.Proofs.YtkcnnkakpkdhkaaDoor
