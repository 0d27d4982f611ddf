
/-
  A region that draws its order, inside a fence, walked by a plan: what only reads is taken first; each other operation stands alone when it comes up (a call of an iterator's body among them).
-/
import Derived.Test.YtkcnnkakpkdhkaaDoorIa
import Derived.Test.YtkcnnkakpkdhkaaDoorPq
set_option linter.all false
namespace Go.Proofs.YtkcnnkakpkdhkaaDoor
open Go.RowKit Go.Shelf

section
variable {F : Fence} {n : Nat} {P : Program} {ops : Array Oper} {Q : Exit → Act → World → Prop} {md : Region.Mode} {S : World → Prop}

/-- The fence's own meaning of each operation is the plain one. -/
def SemOk (F : Fence) (ops : Array Oper) : Prop := ∀ (i : Nat) (o : Oper), ops[i]? = some o → ∀ a : Act, Oper.semAt F.round a.eval o = execOp a.eval o
theorem sem_wide (ops : Array Oper) : SemOk Fence.wide ops := fun _ o _ a => Oper.semAt_none _ _
theorem sem_round {ops : Array Oper} (l : Nat) (h : noDefer ops = true) : SemOk (Fence.wide.inRound l) ops := fun i o hi a => Oper.semAt_some l a.eval o (noDefer_spec h i o hi)

/-- o gives v in every world of S, and calls nothing. -/
structure Gives (P : Program) (ops : Array Oper) (S : World → Prop) (o : Oper) (v : Value) (a : Act) : Prop where
  calm : ∀ w, o.about P w a.eval = none
  val : if Region.wanted o (yielded ops a.tmps) = true then ∀ w, S w → (execOp a.eval o).run P w = .ok (.value v) w else v = undef

theorem Gives.moved {o : Oper} {v u : Value} {a : Act} {t : Option Tmp} (h : Gives P ops S o v a) (hs : ∀ cs b, o.op ≠ .select cs b) (ht : ∀ d, t = some d → d ∉ o.looksAt ops) : Gives P ops S o v (a.put t u) :=
  ⟨fun w => (about_put o w a t u ht).trans (h.calm w), by rw [wanted_put o a t u ht, execOp_put o hs a t u ht]; exact h.val⟩

theorem Gives.comes {i : Nat} {o : Oper} {v : Value} {a : Act} {w : World} {K : Act → World → Prop} (hro : SemOk F ops) (hi : ops[i]? = some o) (h : Gives P ops S o v a) (hS : S w) (hk : K (a.put o.dst v) w) : wpOpIn F n P ops Q i K a w := by
  have hv := h.val
  have hc : ∀ f, o.about P w a.eval = some f → F.fn f := fun f e => absurd ((h.calm w).symm.trans e) (by simp)
  unfold wpOpIn
  rw [hi]
  dsimp only
  split at hv
  · rename_i e
    rw [if_pos e]
    refine ⟨hc, ?_⟩
    rw [hro i o hi a, hv w hS]
    exact hk
  · rename_i e
    rw [if_neg e]
    subst hv
    exact ⟨hc, hk⟩

theorem ends_swap {o : Oper} {a : Act} {d : Option Tmp} {v : Value} {K : Act → World → Prop} {G : Act → Prop} (hd : ∀ t, d = some t → o.dst ≠ some t) (hG : ∀ u, G (a.put o.dst u)) (hD : ∀ x, G ({ a with defers := x :: a.defers }.put o.dst undef))
    (hQ : ∀ c a w, Q (.panic c) (a.put d v) w → Q (.panic c) a w) {r : Result Next} (h : o.uponIn F n P (a.put d v) K Q r) : o.uponIn F n P a (fun a' w' => G a' ∧ K (a'.put d v) w') Q r := by
  have back : ∀ (b : Act) (u : Value), (b.put d v).put o.dst u = (b.put o.dst u).put d v := fun b u => Act.put_comm b v u hd
  have fin : ∀ (e : Ending) (w2 : World), (match e, w2 with | .returned u, w2 => K ((a.put d v).put o.dst u) w2 | .panicked c, w2 => Q (.panic c) (a.put d v) w2 | .outgrown, _ => LetsOut Q) →
      (match e, w2 with | .returned u, w2 => G (a.put o.dst u) ∧ K ((a.put o.dst u).put d v) w2 | .panicked c, w2 => Q (.panic c) a w2 | .outgrown, _ => LetsOut Q) := fun e w2 he => by
    cases e with
    | returned u => exact ⟨hG u, by rw [← back]; exact he⟩
    | panicked c => exact hQ _ _ _ he
    | outgrown => exact he
  cases r with
  | ok x w1 =>
    cases x with
    | value u => exact ⟨hG u, by rw [← back]; exact h⟩
    | skip => exact ⟨hG undef, by rw [← back]; exact h⟩
    | defer x =>
      refine ⟨hD x, ?_⟩
      rw [← back, ← Act.put_defers]
      exact h
    | enter f args => exact ⟨h.1, CallsIn.mono h.2 fin⟩
    | row r args => exact ⟨h.1, RowsIn.mono h.2 fun u w2 he => ⟨hG u, by rw [← back]; exact he⟩⟩
    | round l f tmps assign body => exact ⟨h.1, RoundIn.mono h.2 fin⟩
    | _ => exact h
  | halt x w1 =>
    cases x with
    | panic u => exact hQ _ _ _ h
    | _ => exact h

theorem other_first {j : Nat} {oi oj : Oper} {v : Value} {a : Act} {w : World} {K : Act → World → Prop} (hro : SemOk F ops) (hj : ops[j]? = some oj) (hap : oi.apart ops oj = true) (hsi : ∀ cs b, oi.op ≠ .select cs b) (hsj : ∀ cs b, oj.op ≠ .select cs b)
    (hQ : ∀ c a w, Q (.panic c) (a.put oi.dst v) w → Q (.panic c) a w) (hy : Gives P ops S oi v a) (h : wpOpIn F n P ops Q j K (a.put oi.dst v) w) : wpOpIn F n P ops Q j (fun a' w' => Gives P ops S oi v a' ∧ K (a'.put oi.dst v) w') a w := by
  obtain ⟨h1, h2, h3⟩ := Oper.apart_spec hap
  have hr := hro j oj hj
  clear hro
  unfold wpOpIn at *
  rw [hj] at *
  dsimp only at *
  rw [wanted_put oj a oi.dst v h1] at h
  split at h
  · rename_i e
    rw [if_pos e]
    obtain ⟨ha, hu⟩ := h
    rw [about_put oj w a oi.dst v h1] at ha
    rw [hr, execOp_put oj hsj a oi.dst v h1] at hu
    refine ⟨ha, ?_⟩
    rw [hr]
    exact ends_swap h2 (fun u => hy.moved hsi h3) (fun x => Gives.moved (a := { a with defers := x :: a.defers }) ⟨hy.calm, hy.val⟩ hsi h3) hQ hu
  · rename_i e
    rw [if_neg e]
    rw [about_put oj w a oi.dst v h1] at h
    exact ⟨h.1, hy.moved hsi h3, by rw [← Act.put_comm a v undef h2]; exact h.2⟩

/-- Whatever comes up, S holds behind it. -/
def anyS (F : Fence) (n : Nat) (P : Program) (md : Region.Mode) (ops : Array Oper) (Q : Exit → Act → World → Prop) (S : World → Prop) : Nat → Array Bool → Act → World → Prop
  | 0, listed, a, w => Region.ready md ops listed = [] ∧ Q .normal a w
  | f + 1, listed, a, w => (Region.ready md ops listed = [] → Q .normal a w) ∧ ∀ i ∈ Region.ready md ops listed, wpOpIn F n P ops Q i (fun a' w' => S w' ∧ anyS F n P md ops Q S f (listed.setIfInBounds i true) a' w') a w

theorem anyIn_of_S : ∀ (f : Nat) (listed : Array Bool) (a : Act) (w : World), anyS F n P md ops Q S f listed a w → wpAnyIn F n P md ops Q f listed a w
  | 0, _, _, _, h => h
  | f + 1, _, _, _, h => ⟨h.1, fun i hi => wpOpIn_mono (fun a w h => anyIn_of_S f _ a w h.2) (h.2 i hi)⟩

theorem S_done {listed : Array Bool} {a : Act} {w : World} (hr : Region.ready md ops listed = []) (h : Q .normal a w) : ∀ f, anyS F n P md ops Q S f listed a w
  | 0 => ⟨hr, h⟩
  | _ + 1 => ⟨fun _ => h, by rw [hr]; simp⟩

theorem S_take {i : Nat} {oi : Oper} {v : Value} (hro : SemOk F ops) (hi : ops[i]? = some oi) (hs : Region.noSelect ops = true) (hQ : ∀ c a w, Q (.panic c) (a.put oi.dst v) w → Q (.panic c) a w) :
    ∀ (f : Nat) (listed : Array Bool) (a : Act) (w : World), (∀ j oj, ops[j]? = some oj → j ≠ i → listed.getD j true = false → (∀ e ∈ oj.after, Region.binds md e = true → e.on ≠ i) → oi.apart ops oj = true) →
      i ∈ Region.ready md ops listed → Gives P ops S oi v a → S w → anyS F n P md ops Q S f (listed.setIfInBounds i true) (a.put oi.dst v) w → anyS F n P md ops Q S (f + 1) listed a w := by
  have hsel := Region.noSelect_spec hs
  intro f
  induction f with
  | zero =>
    intro listed a w _ hr hy hS H
    refine ⟨fun e => (by rw [e] at hr; cases hr), fun j hj => ?_⟩
    by_cases e : j = i
    · subst e; exact hy.comes hro hi hS ⟨hS, H⟩
    · have := ready_mono hj e
      rw [H.1] at this
      cases this
  | succ f ih =>
    intro listed a w hfree hr hy hS H
    refine ⟨fun e => (by rw [e] at hr; cases hr), fun j hj => ?_⟩
    by_cases e : j = i
    · subst e; exact hy.comes hro hi hS ⟨hS, H⟩
    · obtain ⟨hl, oj, hoj, hall⟩ := mem_ready.1 hj
      have hi0 := (mem_ready.1 hr).1
      have hno : ∀ x ∈ oj.after, Region.binds md x = true → x.on ≠ i := fun x hx hb hxi => by
        have h1 := hall x hx hb
        rw [hxi] at h1
        rw [Array.getD_eq_getD_getElem?] at h1 hi0
        cases hq : listed[i]? with
        | none => rw [hq] at h1; cases h1
        | some b => rw [hq] at h1 hi0; simp at h1 hi0; rw [h1] at hi0; cases hi0
      refine wpOpIn_mono ?_ (other_first hro hoj (hfree j oj hoj e hl hno) (fun cs b => hsel i oi cs b hi) (fun cs b => hsel j oj cs b hoj) hQ hy (H.2 j (ready_mono hj e)))
      rintro a' w' ⟨hy', hS', hA'⟩
      rw [Array.setIfInBounds_comm _ _ (Ne.symm e)] at hA'
      refine ⟨hS', ih _ a' w' (fun k ok hk hki hun hk2 => hfree k ok hk hki ?_ hk2) (ready_mono hr (Ne.symm e)) hy' hS' hA'⟩
      by_cases hjk : j = k
      · subst hjk; exact hl
      · rwa [getD_set_ne true hjk] at hun

/-- Operations that hand back a value and enter nothing, with the one that makes a slice an array's pointer. -/
def plainOp2 : Op → Bool
  | .sliceToArrayPointer .. | .extract .. => true
  | op => plainOp op
theorem plain_value2 {o : Oper} {ρ : Operand → Value} {w : World} {n : Next} {w' : World} (hp : plainOp2 o.op = true) (h : (execOp ρ o).run P w = .ok n w') : ∃ v, n = .value v := by
  cases ho : o.op
  case sliceToArrayPointer =>
    unfold execOp at h
    rw [ho] at h
    exact run_v h
  case extract =>
    unfold execOp at h
    rw [ho] at h
    exact run_v h
  all_goals
    rw [ho] at hp
    exact plain_value (by rw [ho]; exact hp) h
theorem plain_yields2 {o : Oper} {a : Act} {v : Value} (hp : plainOp2 o.op = true) (h : ∀ w, S w → o.quietAt P a S w v) (w : World) (hS : S w) : (execOp a.eval o).run P w = .ok (.value v) w := by
  have h1 := h w hS
  unfold Oper.quietAt at h1
  cases hr : (execOp a.eval o).run P w with
  | ok n w' =>
    obtain ⟨u, rfl⟩ := plain_value2 hp hr
    rw [hr] at h1
    obtain ⟨rfl, rfl⟩ := h1
    rfl
  | halt x w' => rw [hr] at h1; exact h1.elim
theorem plain_calm {o : Oper} {ρ : Operand → Value} {w : World} (hp : plainOp o.op = true) : o.about P w ρ = none := by
  unfold Oper.about
  cases ho : o.op <;> first | rfl | (rw [ho] at hp; cases hp)
theorem plain_calm2 {o : Oper} {ρ : Operand → Value} {w : World} (hp : plainOp2 o.op = true) : o.about P w ρ = none := by
  unfold Oper.about
  cases ho : o.op <;> first | rfl | (rw [ho] at hp; cases hp)
/-- What may be taken first, one behind the other. -/
def takeB2 (md : Region.Mode) (ops : Array Oper) : List Nat → Array Bool → Bool
  | [], _ => true
  | i :: q, listed => (Region.ready md ops listed).contains i && Region.free md ops listed i && ((ops[i]?).map (fun o => plainOp2 o.op)).getD false && takeB2 md ops q (listed.setIfInBounds i true)
def planB2 (md : Region.Mode) (ops : Array Oper) : List (List Nat × Nat) → List Nat → Array Bool → Bool
  | [], last, listed => takeB2 md ops last listed && (Region.ready md ops (listAll listed last)).isEmpty
  | (q, i) :: pl, last, listed => takeB2 md ops q listed && decide (Region.ready md ops (listAll listed q) = [i]) && (ops[i]?).isSome && planB2 md ops pl last ((listAll listed q).setIfInBounds i true)

theorem S_takes {l : List Oper} (hro : SemOk F l.toArray) (hs : Region.noSelect l.toArray = true) (hQ : ∀ c a d v w, Q (.panic c) (Act.put a d v) w → Q (.panic c) a w) {w : World} (hS : S w) {K : Act → Prop} :
    ∀ (q : List Nat) (f : Nat) (listed : Array Bool) (a : Act), takeB2 md l.toArray q listed = true → wpQuiet P l.toArray S K (opsAt l q) a → (∀ a', K a' → anyS F n P md l.toArray Q S f (listAll listed q) a' w) → anyS F n P md l.toArray Q S (f + q.length) listed a w
  | [], f, listed, a, _, h, hk => hk a h
  | i :: q, f, listed, a, hB, h, hk => by
    simp only [takeB2, Bool.and_eq_true] at hB
    obtain ⟨⟨⟨hr, hf⟩, hp⟩, hB⟩ := hB
    cases ho : l[i]? with
    | none => rw [List.getElem?_toArray, ho] at hp; simp at hp
    | some o =>
      have ho' : l.toArray[i]? = some o := by rw [List.getElem?_toArray, ho]
      have hp' : plainOp2 o.op = true := by rw [ho'] at hp; simpa using hp
      rw [show opsAt l (i :: q) = o :: opsAt l q from pick_some l i ho] at h
      unfold wpQuiet at h
      rw [List.length_cons, ← Nat.add_assoc]
      split at h
      · rename_i hw
        obtain ⟨v, h1, h2⟩ := h
        exact S_take hro ho' hs (fun c a w => hQ c a _ _ w) _ _ _ _ (Region.free_spec ho' hf) (by simpa using hr) ⟨fun w => plain_calm2 hp', by rw [if_pos hw]; exact plain_yields2 hp' h1⟩ hS (S_takes hro hs hQ hS q f _ _ hB h2 hk)
      · rename_i hw
        exact S_take hro ho' hs (fun c a w => hQ c a _ _ w) _ _ _ _ (Region.free_spec ho' hf) (by simpa using hr) ⟨fun w => plain_calm2 hp', by rw [if_neg hw]⟩ hS (S_takes hro hs hQ hS q f _ _ hB h hk)

theorem heldIn {o : Oper} {a : Act} {w : World} {K K' : Act → World → Prop} (h : o.wpIn F n P a w K (Held S Q K')) : o.wpIn F n P a w K Q := by
  refine ⟨h.1, ?_⟩
  have h2 := h.2
  have fin : ∀ (e : Ending) (w2 : World), (match e, w2 with | .returned u, w2 => K (a.put o.dst u) w2 | .panicked c, w2 => Held S Q K' (.panic c) a w2 | .outgrown, _ => LetsOut (Held S Q K')) →
      (match e, w2 with | .returned u, w2 => K (a.put o.dst u) w2 | .panicked c, w2 => Q (.panic c) a w2 | .outgrown, _ => LetsOut Q) := fun e w2 he => by cases e <;> exact he
  generalize (o.semAt F.round a.eval).run P w = r at *
  cases r with
  | ok x w1 =>
    cases x with
    | enter f args => exact ⟨h2.1, CallsIn.mono h2.2 fin⟩
    | round l f tmps assign body => exact ⟨h2.1, RoundIn.mono h2.2 fin⟩
    | _ => exact h2
  | halt x w1 => cases x <;> exact h2

theorem S_one {l : List Oper} {i : Nat} {o : Oper} {f : Nat} {listed : Array Bool} {a : Act} {w : World} {K : Act → World → Prop} (ho : l[i]? = some o) (hr : Region.ready md l.toArray listed = [i]) (h : wpListIn F n P l.toArray (Held S Q K) [o] a w)
    (hk : ∀ a' w', S w' → K a' w' → anyS F n P md l.toArray Q S f (listed.setIfInBounds i true) a' w') : anyS F n P md l.toArray Q S (f + 1) listed a w := by
  refine ⟨fun e => (by rw [hr] at e; cases e), fun j hj => ?_⟩
  rw [hr] at hj
  obtain rfl : j = i := by simpa using hj
  unfold wpOpIn
  rw [List.getElem?_toArray, ho]
  dsimp only
  unfold wpListIn at h
  split at h
  · rename_i hw
    rw [if_pos hw]
    exact Oper.wpIn_mono (fun a w (h : S w ∧ K a w) => ⟨h.1, hk _ _ h.1 h.2⟩) (heldIn h)
  · rename_i hw
    rw [if_neg hw]
    have h' : S w ∧ K (a.put o.dst undef) w := h.2
    exact ⟨h.1, h'.1, hk _ _ h'.1 h'.2⟩

/-- The walk by a plan, in a fence. -/
def wpPlanIn (F : Fence) (n : Nat) (P : Program) (l : List Oper) (Q : Exit → Act → World → Prop) (S : World → Prop) : List (List Nat × Nat) → List Nat → Act → World → Prop
  | [], last, a, w => wpQuiet P l.toArray S (fun a' => Q .normal a' w) (opsAt l last) a
  | (q, i) :: pl, last, a, w => wpQuiet P l.toArray S (fun a' => wpListIn F n P l.toArray (Held S Q (wpPlanIn F n P l Q S pl last)) (opsAt l [i]) a' w) (opsAt l q) a

theorem S_plan {l : List Oper} (hro : SemOk F l.toArray) (hs : Region.noSelect l.toArray = true) (hQ : ∀ c a d v w, Q (.panic c) (Act.put a d v) w → Q (.panic c) a w) :
    ∀ (pl : List (List Nat × Nat)) (last : List Nat) (listed : Array Bool) (a : Act) (w : World), S w → planB2 md l.toArray pl last listed = true → wpPlanIn F n P l Q S pl last a w → anyS F n P md l.toArray Q S (planLen pl last) listed a w
  | [], last, listed, a, w, hS, hB, h => by
    simp only [planB2, Bool.and_eq_true, List.isEmpty_iff] at hB
    have := S_takes (n := n) (md := md) hro hs hQ hS last 0 listed a hB.1 h (fun a' h' => S_done hB.2 h' 0)
    rwa [Nat.zero_add] at this
  | (q, i) :: pl, last, listed, a, w, hS, hB, h => by
    simp only [planB2, Bool.and_eq_true, decide_eq_true_eq] at hB
    obtain ⟨⟨⟨h1, h2⟩, h3⟩, h4⟩ := hB
    refine S_takes hro hs hQ hS q _ listed a h1 h fun a' h' => ?_
    cases ho : l[i]? with
    | none => rw [List.getElem?_toArray, ho] at h3; simp at h3
    | some o =>
      rw [show opsAt l [i] = [o] from pick_some l i ho] at h'
      exact S_one ho h2 h' fun a2 w2 hS2 hp => S_plan hro hs hQ pl last _ a2 w2 hS2 h4 hp

def treeB2 (md : Region.Mode) (ops : Array Oper) : Plan → Array Bool → Bool
  | .last q, listed => takeB2 md ops q listed && (Region.ready md ops (listAll listed q)).isEmpty
  | .one q i p, listed => takeB2 md ops q listed && decide (Region.ready md ops (listAll listed q) = [i]) && (ops[i]?).isSome && treeB2 md ops p ((listAll listed q).setIfInBounds i true)
  | .two q i p j r, listed => takeB2 md ops q listed && decide (Region.ready md ops (listAll listed q) = [i, j]) && (ops[i]?).isSome && (ops[j]?).isSome && treeB2 md ops p ((listAll listed q).setIfInBounds i true) && treeB2 md ops r ((listAll listed q).setIfInBounds j true)
/-- The walk by a plan with forks, in a fence. -/
def wpTreeIn (F : Fence) (n : Nat) (P : Program) (l : List Oper) (Q : Exit → Act → World → Prop) (S : World → Prop) : Plan → Act → World → Prop
  | .last q, a, w => wpQuiet P l.toArray S (fun a' => Q .normal a' w) (opsAt l q) a
  | .one q i p, a, w => wpQuiet P l.toArray S (fun a' => wpListIn F n P l.toArray (Held S Q (wpTreeIn F n P l Q S p)) (opsAt l [i]) a' w) (opsAt l q) a
  | .two q i p j r, a, w => wpQuiet P l.toArray S (fun a' => wpListIn F n P l.toArray (Held S Q (wpTreeIn F n P l Q S p)) (opsAt l [i]) a' w ∧ wpListIn F n P l.toArray (Held S Q (wpTreeIn F n P l Q S r)) (opsAt l [j]) a' w) (opsAt l q) a
theorem op_lone {l : List Oper} {i : Nat} {o : Oper} {a : Act} {w : World} {K : Act → World → Prop} (ho : l[i]? = some o) (h : wpListIn F n P l.toArray (Held S Q K) [o] a w) : wpOpIn F n P l.toArray Q i (fun a' w' => S w' ∧ K a' w') a w := by
  unfold wpOpIn
  rw [List.getElem?_toArray, ho]
  dsimp only
  unfold wpListIn at h
  split at h
  · rename_i hw
    rw [if_pos hw]
    exact Oper.wpIn_mono (fun a w (h : S w ∧ K a w) => h) (heldIn h)
  · rename_i hw
    rw [if_neg hw]
    exact ⟨h.1, h.2⟩
theorem S_tree {l : List Oper} (hro : SemOk F l.toArray) (hs : Region.noSelect l.toArray = true) (hQ : ∀ c a d v w, Q (.panic c) (Act.put a d v) w → Q (.panic c) a w) :
    ∀ (pl : Plan) (m : Nat) (listed : Array Bool) (a : Act) (w : World), treeLen pl = some m → S w → treeB2 md l.toArray pl listed = true → wpTreeIn F n P l Q S pl a w → anyS F n P md l.toArray Q S m listed a w
  | .last q, m, listed, a, w, hm, hS, hB, h => by
    simp only [treeB2, Bool.and_eq_true, List.isEmpty_iff] at hB
    simp only [treeLen, Option.some.injEq] at hm
    have := S_takes (n := n) (md := md) hro hs hQ hS q 0 listed a hB.1 h (fun a' h' => S_done hB.2 h' 0)
    rwa [Nat.zero_add, hm] at this
  | .one q i p, m, listed, a, w, hm, hS, hB, h => by
    simp only [treeB2, Bool.and_eq_true, decide_eq_true_eq] at hB
    simp only [treeLen, Option.map_eq_some_iff] at hm
    obtain ⟨k, hk, rfl⟩ := hm
    obtain ⟨⟨⟨h1, h2⟩, h3⟩, h4⟩ := hB
    refine S_takes hro hs hQ hS q _ listed a h1 h fun a' h' => ?_
    cases ho : l[i]? with
    | none => rw [List.getElem?_toArray, ho] at h3; simp at h3
    | some o =>
      rw [show opsAt l [i] = [o] from pick_some l i ho] at h'
      exact S_one ho h2 h' fun a2 w2 hS2 hp => S_tree hro hs hQ p k _ a2 w2 hk hS2 h4 hp
  | .two q i p j r, m, listed, a, w, hm, hS, hB, h => by
    simp only [treeB2, Bool.and_eq_true, decide_eq_true_eq] at hB
    obtain ⟨⟨⟨⟨⟨h1, h2⟩, h3⟩, h5⟩, h4⟩, h6⟩ := hB
    unfold treeLen at hm
    cases hp : treeLen p with
    | none => rw [hp] at hm; cases hm
    | some k =>
      cases hr : treeLen r with
      | none => rw [hp, hr] at hm; cases hm
      | some k' =>
        rw [hp, hr] at hm
        dsimp only at hm
        split at hm
        · rename_i e
          subst e
          cases hm
          refine S_takes hro hs hQ hS q _ listed a h1 h fun a' h' => ?_
          cases ho : l[i]? with
          | none => rw [List.getElem?_toArray, ho] at h3; simp at h3
          | some o =>
            cases ho2 : l[j]? with
            | none => rw [List.getElem?_toArray, ho2] at h5; simp at h5
            | some o2 =>
              rw [show opsAt l [i] = [o] from pick_some l i ho, show opsAt l [j] = [o2] from pick_some l j ho2] at h'
              refine ⟨fun e => (by rw [h2] at e; cases e), fun x hx => ?_⟩
              rw [h2] at hx
              rcases (by simpa using hx : x = i ∨ x = j) with rfl | rfl
              · exact wpOpIn_mono (fun a2 w2 hq => ⟨hq.1, S_tree hro hs hQ p k _ a2 w2 hp hq.1 h4 hq.2⟩) (op_lone ho h'.1)
              · exact wpOpIn_mono (fun a2 w2 hq => ⟨hq.1, S_tree hro hs hQ r k _ a2 w2 hr hq.1 h6 hq.2⟩) (op_lone ho2 h'.2)
        · cases hm
theorem region_tree_in {id : Nat} {l : List Oper} {a : Act} {w : World} (S : World → Prop) (pl : Plan) (hro : SemOk F l.toArray) (hm : P.follows .mixedOrders = true) (hs : Region.noSelect l.toArray = true) (hn : treeLen pl = some l.length)
    (hB : treeB2 .any l.toArray pl (Array.replicate l.length false) = true) (hS : S w.drew) (h : wpTreeIn F n P l (NoPanic Q) S pl a w.drew) : (Code.region id l.toArray true).wpIn F n P Q a w := by
  refine wpIn_mono (wpIn_region_any (Q := NoPanic Q) hm (anyIn_of_S (S := S) _ _ _ _ ?_)) (fun e a w h => NoPanic.imp e a w h)
  have := S_tree (n := n) hro hs (fun _ _ _ _ _ h => h) pl _ _ a _ hn hS hB h
  simpa using this

/-- No panic. -/
theorem region_plan_in {id : Nat} {l : List Oper} {a : Act} {w : World} (S : World → Prop) (pl : List (List Nat × Nat)) (last : List Nat) (hro : SemOk F l.toArray) (hm : P.follows .mixedOrders = true) (hs : Region.noSelect l.toArray = true) (hn : planLen pl last = l.length)
    (hB : planB2 .any l.toArray pl last (Array.replicate l.length false) = true) (hS : S w.drew) (h : wpPlanIn F n P l (NoPanic Q) S pl last a w.drew) : (Code.region id l.toArray true).wpIn F n P Q a w := by
  refine wpIn_mono (wpIn_region_any (Q := NoPanic Q) hm (anyIn_of_S (S := S) _ _ _ _ ?_)) (fun e a w h => NoPanic.imp e a w h)
  have := S_plan (n := n) hro hs (fun _ _ _ _ _ h => h) pl last _ a _ hS hB h
  rw [hn] at this
  simpa using this
end

end Go.Proofs.YtkcnnkakpkdhkaaDoor
