
/-
  A region that draws its order, inside a fence, with one operation that all others are ahead of (a call of an iterator's body): behind it nothing need hold of the world.
-/
import Derived.Test.YtkcnnkakpkdhkaaDoorPn
set_option linter.all false
namespace Go.Proofs.YtkcnnkakpkdhkaaDoor
open Go.RowKit Go.Shelf

section
variable {F : Fence} {n : Nat} {P : Program} {ops : Array Oper} {Q : Exit → Act → World → Prop} {md : Region.Mode} {S : World → Prop} {y : Nat}

/-- Whom number j waits for. -/
def deps (md : Region.Mode) (ops : Array Oper) (j : Nat) : List Nat := match ops[j]? with
  | some o => (o.after.toList.filter fun e => Region.binds md e).map fun e => e.on
  | none => []
/-- j comes behind i. -/
def behind (md : Region.Mode) (ops : Array Oper) (i : Nat) : Nat → Nat → Bool
  | 0, _ => false
  | f + 1, j => (deps md ops j).contains i || (deps md ops j).any fun d => behind md ops i f d
/-- Whoever has come up, those it waits for have. -/
def Shut (md : Region.Mode) (ops : Array Oper) (listed : Array Bool) : Prop := ∀ j, listed.getD j false = true → ∀ d ∈ deps md ops j, listed.getD d false = true
theorem shut_behind {listed : Array Bool} (h : Shut md ops listed) {i : Nat} : ∀ (f j : Nat), behind md ops i f j = true → (∀ d ∈ deps md ops j, listed.getD d false = true) → listed.getD i false = true
  | 0, _, h0, _ => by cases h0
  | f + 1, j, h0, hd => by
    simp only [behind, Bool.or_eq_true, List.contains_iff_mem, List.any_eq_true] at h0
    rcases h0 with h1 | ⟨d, h1, h2⟩
    · exact hd i h1
    · exact shut_behind h f d h2 (h d (hd d h1))
theorem ready_deps {j : Nat} {listed : Array Bool} (h : j ∈ Region.ready md ops listed) : ∀ d ∈ deps md ops j, listed.getD d false = true := by
  obtain ⟨_, o, ho, hall⟩ := mem_ready.1 h
  intro d hd
  unfold deps at hd
  rw [ho] at hd
  simp only [List.mem_map, List.mem_filter] at hd
  obtain ⟨e, ⟨h1, h2⟩, rfl⟩ := hd
  exact hall e (by simpa using h1) h2
theorem shut_next {listed : Array Bool} (h : Shut md ops listed) {i : Nat} (hi : i ∈ Region.ready md ops listed) : Shut md ops (listed.setIfInBounds i true) := by
  intro j hj d hd
  refine getD_set_true ?_
  by_cases e : i = j
  · subst e; exact ready_deps hi d hd
  · rw [getD_set_ne false e] at hj
    exact h j hj d hd
theorem shut_start (md : Region.Mode) (ops : Array Oper) (n : Nat) : Shut md ops (Array.replicate n false) := by
  intro j hj
  rw [Array.getD_eq_getD_getElem?, Array.getElem?_replicate] at hj
  split at hj <;> simp at hj
theorem not_ready_of {j : Nat} {listed : Array Bool} (h : listed.getD j false = true) : j ∉ Region.ready md ops listed := fun hj => by
  have h0 := (mem_ready.1 hj).1
  rw [Array.getD_eq_getD_getElem?] at h h0
  cases hq : listed[j]? with
  | none => rw [hq] at h; cases h
  | some b => rw [hq] at h h0; simp at h h0; rw [h] at h0; cases h0

/-- Whatever comes up, S holds behind it, but for y. -/
def anyY (F : Fence) (n : Nat) (P : Program) (md : Region.Mode) (ops : Array Oper) (Q : Exit → Act → World → Prop) (S : World → Prop) (y : Nat) : Nat → Array Bool → Act → World → Prop
  | 0, listed, a, w => Region.ready md ops listed = [] ∧ Q .normal a w
  | f + 1, listed, a, w => (Region.ready md ops listed = [] → Q .normal a w) ∧ ∀ i ∈ Region.ready md ops listed,
      (i = y → wpOpIn F n P ops Q i (fun a' w' => wpAnyIn F n P md ops Q f (listed.setIfInBounds i true) a' w') a w) ∧
      (i ≠ y → wpOpIn F n P ops Q i (fun a' w' => S w' ∧ anyY F n P md ops Q S y f (listed.setIfInBounds i true) a' w') a w)

theorem anyIn_of_Y : ∀ (f : Nat) (listed : Array Bool) (a : Act) (w : World), anyY F n P md ops Q S y f listed a w → wpAnyIn F n P md ops Q f listed a w
  | 0, _, _, _, h => h
  | f + 1, _, _, _, h => ⟨h.1, fun i hi => by
      by_cases e : i = y
      · exact (h.2 i hi).1 e
      · exact wpOpIn_mono (fun a w h => anyIn_of_Y f _ a w h.2) ((h.2 i hi).2 e)⟩

theorem Y_take {i : Nat} {oi : Oper} {v : Value} (hro : SemOk F ops) (hi : ops[i]? = some oi) (hs : Region.noSelect ops = true) (hQ : ∀ c a w, Q (.panic c) (a.put oi.dst v) w → Q (.panic c) a w) (hiy : i ≠ y) (hby : behind md ops i ops.size y = true) :
    ∀ (f : Nat) (listed : Array Bool) (a : Act) (w : World), (∀ j oj, ops[j]? = some oj → j ≠ i → listed.getD j true = false → (∀ e ∈ oj.after, Region.binds md e = true → e.on ≠ i) → oi.apart ops oj = true) →
      Shut md ops listed → i ∈ Region.ready md ops listed → Gives P ops S oi v a → S w → anyY F n P md ops Q S y f (listed.setIfInBounds i true) (a.put oi.dst v) w → anyY F n P md ops Q S y (f + 1) listed a w := by
  have hsel := Region.noSelect_spec hs
  intro f
  induction f with
  | zero =>
    intro listed a w _ hsh hr hy hS H
    refine ⟨fun e => (by rw [e] at hr; cases hr), fun j hj => ?_⟩
    by_cases e : j = i
    · subst e; exact ⟨fun e => absurd e hiy, fun _ => hy.comes hro hi hS ⟨hS, H⟩⟩
    · have := ready_mono hj e
      rw [H.1] at this
      cases this
  | succ f ih =>
    intro listed a w hfree hsh hr hy hS H
    refine ⟨fun e => (by rw [e] at hr; cases hr), fun j hj => ?_⟩
    by_cases e : j = i
    · subst e; exact ⟨fun e => absurd e hiy, fun _ => hy.comes hro hi hS ⟨hS, H⟩⟩
    · by_cases ey : j = y
      · subst ey
        exact absurd hr (not_ready_of (shut_behind hsh _ _ hby (ready_deps hj)))
      refine ⟨fun e => absurd e ey, fun _ => ?_⟩
      obtain ⟨hl, oj, hoj, hall⟩ := mem_ready.1 hj
      have hno : ∀ x ∈ oj.after, Region.binds md x = true → x.on ≠ i := fun x hx hb hxi => by
        have h1 := hall x hx hb
        rw [hxi] at h1
        exact not_ready_of h1 hr
      refine wpOpIn_mono ?_ (other_first hro hoj (hfree j oj hoj e hl hno) (fun cs b => hsel i oi cs b hi) (fun cs b => hsel j oj cs b hoj) hQ hy ((H.2 j (ready_mono hj e)).2 ey))
      rintro a' w' ⟨hy', hS', hA'⟩
      rw [Array.setIfInBounds_comm _ _ (Ne.symm e)] at hA'
      refine ⟨hS', ih _ a' w' (fun k ok hk hki hun hk2 => hfree k ok hk hki ?_ hk2) (shut_next hsh hj) (ready_mono hr (Ne.symm e)) hy' hS' hA'⟩
      by_cases hjk : j = k
      · subst hjk; exact hl
      · rwa [getD_set_ne true hjk] at hun

def aheadB (md : Region.Mode) (ops : Array Oper) (y : Nat) (q : List Nat) : Bool := q.all fun i => decide (i ≠ y) && behind md ops i ops.size y

theorem Y_takes {l : List Oper} (hro : SemOk F l.toArray) (hs : Region.noSelect l.toArray = true) (hQ : ∀ c a d v w, Q (.panic c) (Act.put a d v) w → Q (.panic c) a w) {w : World} (hS : S w) {K : Act → Prop} :
    ∀ (q : List Nat) (f : Nat) (listed : Array Bool) (a : Act), Shut md l.toArray listed → aheadB md l.toArray y q = true → takeB md l.toArray q listed = true → wpQuiet P l.toArray S K (opsAt l q) a → (∀ a', Shut md l.toArray (listAll listed q) → K a' → anyY F n P md l.toArray Q S y f (listAll listed q) a' w) → anyY F n P md l.toArray Q S y (f + q.length) listed a w
  | [], f, listed, a, hsh, _, _, h, hk => hk a hsh h
  | i :: q, f, listed, a, hsh, hA, hB, h, hk => by
    simp only [takeB, Bool.and_eq_true] at hB
    simp only [aheadB, List.all_cons, Bool.and_eq_true, decide_eq_true_eq] at hA
    obtain ⟨⟨⟨hr, hf⟩, hp⟩, hB⟩ := hB
    have hr' : i ∈ Region.ready md l.toArray listed := by simpa using hr
    cases ho : l[i]? with
    | none => rw [List.getElem?_toArray, ho] at hp; simp at hp
    | some o =>
      have ho' : l.toArray[i]? = some o := by rw [List.getElem?_toArray, ho]
      have hp' : plainOp o.op = true := by rw [ho'] at hp; simpa using hp
      rw [show opsAt l (i :: q) = o :: opsAt l q from pick_some l i ho] at h
      unfold wpQuiet at h
      rw [List.length_cons, ← Nat.add_assoc]
      split at h
      · rename_i hw
        obtain ⟨v, h1, h2⟩ := h
        exact Y_take hro ho' hs (fun c a w => hQ c a _ _ w) hA.1.1 hA.1.2 _ _ _ _ (Region.free_spec ho' hf) hsh hr' ⟨fun w => plain_calm hp', by rw [if_pos hw]; exact plain_yields hp' h1⟩ hS (Y_takes hro hs hQ hS q f _ _ (shut_next hsh hr') hA.2 hB h2 hk)
      · rename_i hw
        exact Y_take hro ho' hs (fun c a w => hQ c a _ _ w) hA.1.1 hA.1.2 _ _ _ _ (Region.free_spec ho' hf) hsh hr' ⟨fun w => plain_calm hp', by rw [if_neg hw]⟩ hS (Y_takes hro hs hQ hS q f _ _ (shut_next hsh hr') hA.2 hB h hk)

theorem op_alone {l : List Oper} {i : Nat} {o : Oper} {a : Act} {w : World} {K : Act → World → Prop} (ho : l[i]? = some o) (h : wpListIn F n P l.toArray (Held S Q K) [o] a w) : wpOpIn F n P l.toArray Q i (fun a' w' => S w' ∧ K a' w') a w := by
  unfold wpOpIn
  rw [List.getElem?_toArray, ho]
  dsimp only
  unfold wpListIn at h
  split at h
  · rename_i hw
    rw [if_pos hw]
    exact Oper.wpIn_mono (fun a w (h : S w ∧ K a w) => h) (heldIn h)
  · rename_i hw
    rw [if_neg hw]
    exact ⟨h.1, h.2⟩

/-- What comes behind y, one by one. -/
def wpTail (F : Fence) (n : Nat) (P : Program) (l : List Oper) (Q : Exit → Act → World → Prop) : List Nat → Act → World → Prop
  | [], a, w => Q .normal a w
  | j :: t, a, w => wpListIn F n P l.toArray (Held (fun _ => True) Q (wpTail F n P l Q t)) (opsAt l [j]) a w
def tailB (md : Region.Mode) (ops : Array Oper) : List Nat → Array Bool → Bool
  | [], listed => (Region.ready md ops listed).isEmpty
  | j :: t, listed => decide (Region.ready md ops listed = [j]) && (ops[j]?).isSome && tailB md ops t (listed.setIfInBounds j true)
theorem any_of_tail {l : List Oper} : ∀ (t : List Nat) (listed : Array Bool) (a : Act) (w : World), tailB md l.toArray t listed = true → wpTail F n P l Q t a w → wpAnyIn F n P md l.toArray Q t.length listed a w
  | [], listed, a, w, hB, h => by
    simp only [tailB, List.isEmpty_iff] at hB
    exact ⟨hB, h⟩
  | j :: t, listed, a, w, hB, h => by
    simp only [tailB, Bool.and_eq_true, decide_eq_true_eq] at hB
    obtain ⟨⟨h1, h2⟩, h3⟩ := hB
    cases ho : l[j]? with
    | none => rw [List.getElem?_toArray, ho] at h2; simp at h2
    | some o =>
      unfold wpTail at h
      rw [show opsAt l [j] = [o] from pick_some l j ho] at h
      refine ⟨fun e => (by rw [h1] at e; cases e), fun i hi => ?_⟩
      rw [h1] at hi
      obtain rfl : i = j := by simpa using hi
      exact wpOpIn_mono (fun a' w' h' => any_of_tail t _ a' w' h3 h'.2) (op_alone ho h)

/-- The walk by a plan: y stands behind all of it, and the tail behind y. -/
def wpPlanY (F : Fence) (n : Nat) (P : Program) (l : List Oper) (Q : Exit → Act → World → Prop) (S : World → Prop) (y : Nat) (tail : List Nat) : List (List Nat × Nat) → List Nat → Act → World → Prop
  | [], last, a, w => wpQuiet P l.toArray S (fun a' => wpListIn F n P l.toArray (Held (fun _ => True) Q (wpTail F n P l Q tail)) (opsAt l [y]) a' w) (opsAt l last) a
  | (q, i) :: pl, last, a, w => wpQuiet P l.toArray S (fun a' => wpListIn F n P l.toArray (Held S Q (wpPlanY F n P l Q S y tail pl last)) (opsAt l [i]) a' w) (opsAt l q) a
def planY (md : Region.Mode) (ops : Array Oper) (y : Nat) (tail : List Nat) : List (List Nat × Nat) → List Nat → Array Bool → Bool
  | [], last, listed => aheadB md ops y last && takeB md ops last listed && decide (Region.ready md ops (listAll listed last) = [y]) && (ops[y]?).isSome && tailB md ops tail ((listAll listed last).setIfInBounds y true)
  | (q, i) :: pl, last, listed => aheadB md ops y q && takeB md ops q listed && decide (Region.ready md ops (listAll listed q) = [i]) && (ops[i]?).isSome && decide (i ≠ y) && planY md ops y tail pl last ((listAll listed q).setIfInBounds i true)
def planYLen (tail : List Nat) : List (List Nat × Nat) → List Nat → Nat
  | [], last => tail.length + 1 + last.length
  | (q, _) :: pl, last => planYLen tail pl last + 1 + q.length

theorem Y_plan {l : List Oper} {tail : List Nat} (hro : SemOk F l.toArray) (hs : Region.noSelect l.toArray = true) (hQ : ∀ c a d v w, Q (.panic c) (Act.put a d v) w → Q (.panic c) a w) :
    ∀ (pl : List (List Nat × Nat)) (last : List Nat) (listed : Array Bool) (a : Act) (w : World), Shut md l.toArray listed → S w → planY md l.toArray y tail pl last listed = true → wpPlanY F n P l Q S y tail pl last a w → anyY F n P md l.toArray Q S y (planYLen tail pl last) listed a w
  | [], last, listed, a, w, hsh, hS, hB, h => by
    simp only [planY, Bool.and_eq_true, decide_eq_true_eq] at hB
    obtain ⟨⟨⟨⟨h1, h2⟩, h3⟩, h4⟩, h5⟩ := hB
    refine Y_takes hro hs hQ hS last _ listed a hsh h1 h2 h fun a' hsh' h' => ?_
    cases ho : l[y]? with
    | none => rw [List.getElem?_toArray, ho] at h4; simp at h4
    | some o =>
      rw [show opsAt l [y] = [o] from pick_some l y ho] at h'
      refine ⟨fun e => (by rw [h3] at e; cases e), fun i hi => ?_⟩
      rw [h3] at hi
      obtain rfl : i = y := by simpa using hi
      exact ⟨fun _ => wpOpIn_mono (fun a' w' h' => any_of_tail tail _ a' w' h5 h'.2) (op_alone ho h'), fun e => absurd rfl e⟩
  | (q, i) :: pl, last, listed, a, w, hsh, hS, hB, h => by
    simp only [planY, Bool.and_eq_true, decide_eq_true_eq] at hB
    obtain ⟨⟨⟨⟨⟨h1, h2⟩, h3⟩, h4⟩, h5⟩, h6⟩ := hB
    refine Y_takes hro hs hQ hS q _ listed a hsh h1 h2 h fun a' hsh' h' => ?_
    cases ho : l[i]? with
    | none => rw [List.getElem?_toArray, ho] at h4; simp at h4
    | some o =>
      rw [show opsAt l [i] = [o] from pick_some l i ho] at h'
      have hri : i ∈ Region.ready md l.toArray (listAll listed q) := by rw [h3]; simp
      refine ⟨fun e => (by rw [h3] at e; cases e), fun k hk => ?_⟩
      rw [h3] at hk
      obtain rfl : k = i := by simpa using hk
      exact ⟨fun e => absurd e h5, fun _ => wpOpIn_mono (fun a' w' h' => ⟨h'.1, Y_plan hro hs hQ pl last _ a' w' (shut_next hsh' hri) h'.1 h6 h'.2⟩) (op_alone ho h')⟩

theorem region_plan_y {id : Nat} {l : List Oper} {a : Act} {w : World} (S : World → Prop) (y : Nat) (tail : List Nat) (pl : List (List Nat × Nat)) (last : List Nat) (hro : SemOk F l.toArray) (hm : P.follows .mixedOrders = true) (hs : Region.noSelect l.toArray = true) (hn : planYLen tail pl last = l.length)
    (hB : planY .any l.toArray y tail pl last (Array.replicate l.length false) = true) (hS : S w.drew) (h : wpPlanY F n P l (NoPanic Q) S y tail pl last a w.drew) : (Code.region id l.toArray true).wpIn F n P Q a w := by
  refine wpIn_mono (wpIn_region_any (Q := NoPanic Q) hm (anyIn_of_Y (S := S) (y := y) _ _ _ _ ?_)) (fun e a w h => NoPanic.imp e a w h)
  have := Y_plan (n := n) hro hs (fun _ _ _ _ _ h => h) pl last _ a _ (shut_start _ _ _) hS hB h
  rw [hn] at this
  simpa using this

/-- What is shown of an operation outside a fence serves in the wide one. -/
def OnlyN (K : Act → World → Prop) : Exit → Act → World → Prop
  | .normal, a, w => K a w
  | _, _, _ => False
theorem OnlyN.go {K : Act → World → Prop} {a : Act} {w : World} (h : K a w) : wpList P ops (OnlyN K) [] a w := h
theorem in_wide {o : Oper} {rest : List Oper} {a : Act} {w : World} (hnd : ∀ c, o.op ≠ .defer c) (h : wpList P ops (OnlyN (wpListIn Fence.wide n P ops Q rest)) [o] a w) : wpListIn Fence.wide n P ops Q (o :: rest) a w := by
  unfold wpList at h
  unfold wpListIn
  split at h
  · rename_i hw
    rw [if_pos hw]
    rcases h with h | h
    · refine ⟨fun _ _ => trivial, ?_⟩
      rw [show Oper.semAt Fence.wide.round a.eval o = execOp a.eval o from Oper.semAt_none _ _]
      unfold Oper.wp at h
      cases hr : (execOp a.eval o).run P w with
      | ok nx w' =>
        rw [hr] at h
        cases nx with
        | value v => exact h
        | skip => exact h
        | defer d => exact h
        | enter f args => exact ⟨(fun hd => by cases hd), (callsIn_wide.2 h).mono fun e w2 he => by cases e <;> first | exact he | exact he.elim | exact absurd he (fun ⟨_, _, h⟩ => h)⟩
        | row r args => exact ⟨(fun hd => by cases hd), fun c cs _ => let ⟨v, w'', q, s⟩ := h c cs; ⟨v, w'', q, stepsIn_wide.2 s⟩⟩
        | _ => exact h.elim
      | halt hh w' =>
        rw [hr] at h
        cases hh with
        | panic v => exact h.elim
        | _ => exact h.elim
    · exact absurd h.2 (fun ⟨_, _, h⟩ => h)
  · rename_i hw
    rw [if_neg hw]
    exact ⟨fun _ _ => trivial, h⟩
theorem in_round {o : Oper} {rest : List Oper} {a : Act} {w : World} {lr : Nat} (hnd : ∀ c, o.op ≠ .defer c) (h : wpList P ops (OnlyN (wpListIn (Fence.wide.inRound lr) n P ops Q rest)) [o] a w) : wpListIn (Fence.wide.inRound lr) n P ops Q (o :: rest) a w := by
  unfold wpList at h
  unfold wpListIn
  split at h
  · rename_i hw
    rw [if_pos hw]
    rcases h with h | h
    · have h2 := opIn_of_op (l := lr) (n := n) hnd h
      refine ⟨h2.1, ?_⟩
      have h3 := h2.2
      generalize (o.semAt (Fence.wide.inRound lr).round a.eval).run P w = r at *
      have fin : ∀ (e : Ending) (w2 : World), (match e, w2 with | .returned u, w2 => wpList P ops (OnlyN (wpListIn (Fence.wide.inRound lr) n P ops Q rest)) [] (a.put o.dst u) w2 | .panicked c, w2 => OnlyN (wpListIn (Fence.wide.inRound lr) n P ops Q rest) (.panic c) a w2 | .outgrown, _ => LetsOut (OnlyN (wpListIn (Fence.wide.inRound lr) n P ops Q rest))) →
          (match e, w2 with | .returned u, w2 => wpListIn (Fence.wide.inRound lr) n P ops Q rest (a.put o.dst u) w2 | .panicked c, w2 => Q (.panic c) a w2 | .outgrown, _ => LetsOut Q) := fun e w2 he => by
        cases e with
        | returned u => exact he
        | panicked c => exact he.elim
        | outgrown => exact absurd he (fun ⟨_, _, h⟩ => h)
      cases r with
      | ok x w1 =>
        cases x with
        | enter f args => exact ⟨h3.1, CallsIn.mono h3.2 fin⟩
        | round l f tmps assign body => exact ⟨h3.1, RoundIn.mono h3.2 fin⟩
        | _ => exact h3
      | halt x w1 =>
        cases x with
        | panic u => exact h3.elim
        | _ => exact h3
    · exact absurd h.2 (fun ⟨_, _, h⟩ => h)
  · rename_i hw
    rw [if_neg hw]
    exact ⟨fun _ _ => trivial, h⟩
end

end Go.Proofs.YtkcnnkakpkdhkaaDoor
