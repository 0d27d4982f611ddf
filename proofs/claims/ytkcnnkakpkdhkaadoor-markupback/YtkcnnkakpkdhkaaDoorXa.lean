/-
  Marks, kinds, words: the program's questions, in plain mathematics.
-/
import Derived.Test.YtkcnnkakpkdhkaaDoorVt
import Derived.Shelf.Strings.FuncGrows
import Derived.Lib.IndexLaws
import Derived.Lib.Join
set_option linter.all false
set_option maxRecDepth 100000
namespace Go.Proofs.YtkcnnkakpkdhkaaDoor
open Go.RowKit Go.Sort Go.Shelf

def mk (k : Int) : List UInt8 := if k = 2 then [61, 32] else if k = 3 then [45, 32] else if k = 4 then [45, 45, 45] else []
def knd (x : List UInt8) : Int := if x = [45, 45, 45] then 4 else if [61, 32].isPrefixOf x then 2 else if [45, 32].isPrefixOf x then 3 else 1
def brk (v : Nat) : Bool := decide (v ≤ 32) || decide (v = 127)
def strg (v : Nat) : Bool := brk v && decide (v ≠ 32) && decide (v ≠ 10)

theorem cut_neg {l : List UInt8} {b : UInt8} (h : Lib.indexByte l b < 0) : cutL b l = [l] := by
  have := Lib.indexByte_ge l b
  have h1 := Lib.indexByte_none (l := l) (c := b) (by omega)
  exact cutL_none (fun x hx e => by
    obtain ⟨k, hk, e2⟩ := List.getElem_of_mem hx
    exact h1 k (by rw [List.getElem?_eq_getElem hk, e2, e]))
theorem cut_pos {l : List UInt8} {b : UInt8} {i : Nat} (h : Lib.indexByte l b = (i : Int)) : i < l.length ∧ cutL b l = l.take i :: cutL b (l.drop (i + 1)) := by
  obtain ⟨h1, h2⟩ := Lib.indexByte_some h
  have hi : i < l.length := (List.getElem?_eq_some_iff.1 h1).1
  have e : l = l.take i ++ b :: l.drop (i + 1) := by
    have e2 : l.drop i = b :: l.drop (i + 1) := by
      rw [List.drop_eq_getElem_cons hi]
      rw [List.getElem?_eq_getElem hi] at h1
      cases h1; rfl
    rw [← e2, List.take_append_drop]
  refine ⟨hi, ?_⟩
  conv => lhs; rw [e]
  refine cutL_at _ (fun x hx e3 => ?_)
  obtain ⟨k, hk, e2⟩ := List.getElem_of_mem hx
  have hk' : k < i := by rw [List.length_take] at hk; omega
  refine h2 k hk' ?_
  rw [List.getElem?_eq_getElem (by omega), ← e3, ← e2, List.getElem_take]
theorem cutL_no {b : UInt8} {l : List UInt8} : ∀ y ∈ cutL b l, b ∉ y := by
  induction l with
  | nil => intro y hy; simp [cutL] at hy; subst hy; simp
  | cons x r ih =>
    intro y hy
    unfold cutL at hy
    split at hy
    · rcases List.mem_cons.1 hy with rfl | hy
      · simp
      · exact ih y hy
    · rename_i hx
      split at hy
      · rename_i e; exact absurd e (cutL_ne b r)
      · rename_i p t e
        rw [e] at ih
        rcases List.mem_cons.1 hy with rfl | hy
        · have := ih p (by simp)
          simp only [List.mem_cons, not_or]
          exact ⟨fun h => hx h.symm, this⟩
        · exact ih y (by simp [hy])

theorem decode_dN (s : ByteArray) (pos : Nat) : Utf8.decode s pos = dN (s.data.toList.drop pos) := by
  rw [Lib.decode_at]
  unfold dN
  have g : ∀ j, (s.data.toList.drop pos).getD j 0 = s.data.toList.getD (pos + j) 0 := fun j => by
    rw [List.getD_eq_getElem?_getD, List.getElem?_drop, ← List.getD_eq_getElem?_getD]
  simp only [getb, g, Nat.add_zero, List.length_drop, sz_len]
theorem vd_drop {r : List UInt8} (h0 : r ≠ []) (h : vd r = true) : ¬ bad r ∧ vd (r.drop (dN r).2) = true := by
  have hb : ¬ bad r := fun hb => by
    unfold vd at h
    rw [sgn_bad h0 hb] at h
    simp at h
  refine ⟨hb, ?_⟩
  unfold vd at h ⊢
  rw [sgn_good h0 hb] at h
  simpa using h
theorem idx_sgn (p : Nat → Bool) (s : ByteArray) : ∀ (f pos : Nat), s.size ≤ pos + f → vd (s.data.toList.drop pos) = true →
    decide (0 ≤ Lib.idxFuncFrom p true s f pos) = (sgn (s.data.toList.drop pos)).any (fun x => p x.1.toNat)
  | 0, pos, hf, hv => by
    have e : s.data.toList.drop pos = [] := List.drop_eq_nil_of_le (by rw [sz_len]; omega)
    rw [e, sgn_nil]; rfl
  | f + 1, pos, hf, hv => by
    by_cases hp : pos < s.size
    · have h0 : s.data.toList.drop pos ≠ [] := fun e => by
        have := congrArg List.length e
        rw [List.length_drop, sz_len] at this
        simp at this; omega
      obtain ⟨hb, hv2⟩ := vd_drop h0 hv
      obtain ⟨_, _, hk, _⟩ := dN_good h0 hb
      rw [sgn_good h0 hb]
      unfold Lib.idxFuncFrom
      rw [if_pos hp, decode_dN, List.any_cons]
      by_cases hq : p (dN (s.data.toList.drop pos)).1 = true
      · rw [if_pos hq]; simp [hq]
      · rw [if_neg hq]
        rw [List.drop_drop] at hv2
        have ih := idx_sgn p s f (pos + (dN (s.data.toList.drop pos)).2) (by omega) hv2
        rw [ih, List.drop_drop]
        simp [hq]
    · have e : s.data.toList.drop pos = [] := List.drop_eq_nil_of_le (by rw [sz_len]; omega)
      rw [e, sgn_nil, Lib.idxFuncFrom_end _ _ _ _ _ hp]; rfl
theorem idx_any (p : Nat → Bool) (s : ByteArray) (hv : vd s.data.toList = true) : decide (0 ≤ Lib.idxFunc p true s) = (sg s.data.toList).any (fun v => p v.toNat) := by
  have h := idx_sgn p s s.size 0 (by omega) (by simpa using hv)
  unfold Lib.idxFunc
  rw [h]
  unfold sg
  rw [if_pos hv, List.drop_zero, List.any_map]
  rfl

theorem any_eq {α : Type} {l : List α} {p q : α → Bool} (h : ∀ x ∈ l, p x = q x) : l.any p = l.any q := by
  induction l with
  | nil => rfl
  | cons x r ih => rw [List.any_cons, List.any_cons, h x (by simp), ih (fun y hy => h y (by simp [hy]))]
theorem strange_iff {l : List UInt8} (hv : vd l = true) : (sg l).any (fun v => strg v.toNat) = !pln true l := by
  unfold pln
  rw [hv, Bool.true_and, List.not_all_eq_any_not]
  obtain ⟨_, hs⟩ := vd_split hv
  refine any_eq (fun v hm => ?_)
  have h0 := (hs v hm).1
  unfold strg brk
  rcases okS_cases true v with ⟨h1, h2, e⟩ | ⟨h1, e⟩ | ⟨_, h1, e⟩ | ⟨h1, h2, e⟩
  · rw [e]
    have a1 : v.toNat ≤ 32 := by omega
    have a2 : v.toNat ≠ 32 := by omega
    have a3 : v.toNat ≠ 10 := by omega
    simp [a1, a2, a3]
  · subst h1; rw [e]; rfl
  · subst h1; rw [e]; rfl
  · rw [e]
    by_cases h3 : v = 32
    · subst h3; rfl
    · have a1 : ¬ v.toNat ≤ 32 := by omega
      have a2 : v.toNat ≠ 127 := by omega
      simp [a1, a2]
theorem enc_32 {v : Int} (h : isS v) (hm : (32 : UInt8) ∈ Lib.encodeRune v) : v = 32 := by
  unfold Lib.encodeRune at hm
  obtain ⟨x, hx, e⟩ := List.mem_map.1 hm
  have hb := Lib.encodeRuneZ_byte v x hx
  have e2 : x.toNat = 32 := by
    have := u8n hb.1 hb.2
    rw [← this, e]; rfl
  unfold Lib.encodeRuneZ at hx
  obtain ⟨h0, h1, h2⟩ := h
  split at hx
  · simp at hx; omega
  · split at hx
    · simp at hx; omega
    · split at hx
      · simp at hx; omega
      · split at hx
        · simp at hx; omega
        · simp at hx; omega
theorem wds_one {x : List UInt8} (h0 : x ≠ []) : (wds x = [x]) ↔ (32 : UInt8) ∉ x := by
  constructor
  · intro h
    have hm : x ∈ wds x := by rw [h]; simp
    unfold wds at hm
    rw [List.mem_filter] at hm
    exact cutL_no x hm.1
  · intro h
    unfold wds
    rw [cutL_none (fun y hy e => by subst e; exact h hy)]
    simp [h0]
theorem mem_encs {L : List Int} {b : UInt8} : b ∈ encs L ↔ ∃ v ∈ L, b ∈ Lib.encodeRune v := by simp [encs]
theorem gdW_eq (x : List UInt8) : gdW x = (decide (x ≠ []) && (vd x && !(sg x).any (fun v => brk v.toNat))) := by
  unfold gdW pln
  by_cases h0 : x = []
  · simp [h0]
  cases hv : vd x with
  | false => simp
  | true =>
    obtain ⟨he, hs⟩ := vd_split hv
    simp only [h0, ne_eq, not_false_eq_true, decide_true, Bool.true_and]
    cases hb : (sg x).any (fun v => brk v.toNat) with
    | true =>
      rw [List.any_eq_true] at hb
      obtain ⟨v, hm, hv2⟩ := hb
      have h1 := (hs v hm).1
      by_cases h32 : v = 32
      · subst h32
        have : (32 : UInt8) ∈ x := by
          rw [he, mem_encs]
          exact ⟨32, hm, by decide⟩
        have hn : ¬ wds x = [x] := fun e => (wds_one h0).1 e this
        simp [hn]
      · have ho : okS false v = false := by
          unfold brk at hv2
          simp only [Bool.or_eq_true, decide_eq_true_eq] at hv2
          unfold okS
          simp only [Bool.not_false, Bool.or_true, Bool.and_true, Bool.not_eq_false', Bool.or_eq_true, decide_eq_true_eq]
          omega
        have ha : (sg x).all (okS false) = false := by
          rw [List.all_eq_false]; exact ⟨v, hm, by rw [ho]; simp⟩
        rw [ha]; rfl
    | false =>
      rw [List.any_eq_false] at hb
      have ha : (sg x).all (okS false) = true := by
        rw [List.all_eq_true]
        intro v hm
        have h1 := (hs v hm).1
        have h2 := hb v hm
        unfold brk at h2
        simp only [Bool.or_eq_true, decide_eq_true_eq] at h2
        unfold okS
        simp only [Bool.not_false, Bool.or_true, Bool.and_true, Bool.not_eq_true', Bool.or_eq_false_iff, decide_eq_false_iff_not]
        omega
      have hn : wds x = [x] := (wds_one h0).2 (fun hm => by
        rw [he, mem_encs] at hm
        obtain ⟨v, hvm, h32⟩ := hm
        have := enc_32 (hs v hvm) h32
        subst this
        exact hb 32 hvm rfl)
      rw [ha, hn]; simp

/-- A word has no blank. -/
theorem gdW_no {x : List UInt8} (h : gdW x = true) : x ≠ [] ∧ (32 : UInt8) ∉ x := by
  unfold gdW at h
  simp only [Bool.and_eq_true, decide_eq_true_eq] at h
  exact ⟨h.1.1, (wds_one h.1.1).1 h.2⟩

theorem join_cons2 (x y : List UInt8) (r : List (List UInt8)) (sep : List UInt8) : Lib.join (x :: y :: r) sep = x ++ (sep ++ Lib.join (y :: r) sep) := by
  rw [Lib.join_cons, Lib.join_cons]; simp [Lib.joinTail]
theorem join_snoc (l : List (List UInt8)) (x sep : List UInt8) : Lib.join (l ++ [x]) sep = Lib.join l sep ++ ((if l = [] then [] else sep) ++ x) := by
  cases l with
  | nil => rw [List.nil_append, Lib.join_one, Lib.join_nil]; rfl
  | cons y r => rw [List.cons_append, Lib.join_cons, Lib.join_cons, if_neg (by simp)]; simp [Lib.joinTail]
theorem knd_range (x : List UInt8) : knd x = 1 ∨ knd x = 2 ∨ knd x = 3 ∨ knd x = 4 := by
  unfold knd
  repeat' split
  all_goals simp

def lineP (p : Pt) : List UInt8 := mk p.1 ++ Lib.join p.2 [32]
def srcL (P : List Pt) : List UInt8 := Lib.join (P.map lineP) [10, 10]
theorem part_eq (k : Int) (ws : List (List UInt8)) (hw : ws.all gdW = true) : (!(decide (ws.length = 0) && decide (k ≠ 4)) && decide (knd (lineP (k, ws)) = k)) = (okK (k, ws) && !badT (k, ws)) := by
  rw [List.all_eq_true] at hw
  unfold lineP
  simp only
  by_cases k1 : k = 1
  · subst k1
    have hm : mk 1 = [] := rfl
    rw [hm, List.nil_append]
    match ws, hw with
    | [], _ => simp [okK]
    | [x], hw =>
      obtain ⟨h0, h1⟩ := gdW_no (hw x (by simp))
      rw [Lib.join_one]
      have e : knd x = if x = [45, 45, 45] then 4 else 1 := by
        unfold knd
        by_cases h : x = [45, 45, 45]
        · rw [if_pos h, if_pos h]
        · rw [if_neg h, if_neg h]
          have g : ∀ c : UInt8, [c, 32].isPrefixOf x = false := fun c => by
            rw [Bool.eq_false_iff]
            intro hp
            rw [List.isPrefixOf_iff_prefix] at hp
            exact h1 (hp.subset (by simp))
          rw [g, g]; rfl
      rw [e]
      by_cases h : x = [45, 45, 45]
      · subst h; simp [okK, badT]
      · simp [okK, badT, h]
    | x :: y :: r, hw =>
      obtain ⟨h0, h1⟩ := gdW_no (hw x (by simp))
      rw [join_cons2]
      obtain ⟨R, hR⟩ : ∃ R, Lib.join (y :: r) [32] = R := ⟨_, rfl⟩
      rw [hR]
      have g : ∀ c : UInt8, [c, 32].isPrefixOf (x ++ ([32] ++ R)) = decide (x = [c]) := fun c => by
        match x, h0, h1 with
        | [a], _, _ =>
          rw [Bool.eq_iff_iff]
          simp only [List.cons_append, List.nil_append, List.isPrefixOf, Bool.and_eq_true, beq_iff_eq, decide_eq_true_eq, and_true, List.cons.injEq]
          exact ⟨fun h => h.symm, fun h => h.symm⟩
        | a :: b :: q, _, h1 =>
          have : b ≠ 32 := fun e => h1 (by simp [e])
          simp [List.isPrefixOf]
          intro _ e; exact absurd e.symm this
      have e : knd (x ++ ([32] ++ R)) = if x = [61] then 2 else if x = [45] then 3 else 1 := by
        unfold knd
        rw [if_neg (fun h => by
          have : (32 : UInt8) ∈ x ++ ([32] ++ R) := by simp
          rw [h] at this
          simp at this), g, g]
        simp
      rw [e]
      by_cases h : x = [61]
      · subst h; simp [okK, badT]
      · by_cases h' : x = [45]
        · subst h'; simp [okK, badT]
        · simp [okK, badT, h, h']
  by_cases k2 : k = 2
  · subst k2
    have e : ∀ J, knd (mk 2 ++ J) = 2 := fun J => by
      unfold knd mk
      simp [List.isPrefixOf]
    rw [e]
    cases ws <;> simp [okK, badT]
  by_cases k3 : k = 3
  · subst k3
    have e : ∀ J, knd (mk 3 ++ J) = 3 := fun J => by
      unfold knd mk
      simp [List.isPrefixOf]
    rw [e]
    cases ws <;> simp [okK, badT]
  by_cases k4 : k = 4
  · subst k4
    have hm : mk 4 = [45, 45, 45] := rfl
    match ws, hw with
    | [], _ => rw [hm, Lib.join_nil]; simp [okK, badT, knd]
    | x :: r, hw =>
      obtain ⟨h0, h1⟩ := gdW_no (hw x (by simp))
      obtain ⟨J, hJ⟩ : ∃ J, Lib.join (x :: r) [32] = J := ⟨_, rfl⟩
      have hJ0 : J ≠ [] := by
        rw [← hJ, Lib.join_cons]
        intro e
        exact h0 (List.append_eq_nil_iff.1 e).1
      rw [hm, hJ]
      have e : knd ([45, 45, 45] ++ J) = 1 := by
        unfold knd
        rw [if_neg (by simpa using hJ0)]
        simp [List.isPrefixOf]
      rw [e]
      simp [okK]
  · have hm : mk k = [] := by unfold mk; rw [if_neg k2, if_neg k3, if_neg k4]
    have hk : knd (mk k ++ Lib.join ws [32]) ≠ k := by
      intro e
      rcases knd_range (mk k ++ Lib.join ws [32]) with h | h | h | h <;> omega
    have ho : okK (k, ws) = false := by
      unfold okK
      simp only
      by_cases h1 : 1 ≤ k
      · have : ¬ k ≤ 4 := by omega
        simp [this]
      · simp [h1]
    rw [ho, decide_eq_false hk]; simp

/-- What a line is read as, by the program. -/
def rdP (x : List UInt8) : Pt := (knd x, wds (x.drop (mk (knd x)).length))
def stepQ (st : List Pt × Bool) (x : List UInt8) : Option (List Pt × Bool) :=
  if (rdP x).1 = 1 ∧ (rdP x).2 = [] then some (st.1, false) else if (rdP x).1 ≠ 4 ∧ (rdP x).2 = [] then none
  else if (rdP x).1 = 1 ∧ st.2 = true then some (addLast st.1 (rdP x).2, true) else some (st.1 ++ [rdP x], decide ((rdP x).1 = 1))
theorem wds_mark {c : UInt8} (hc : c ≠ 32) (r : List UInt8) : wds (c :: 32 :: r) = [c] :: wds r := by
  unfold wds
  have := cutL_at (b := 32) (p := [c]) r (by simpa using hc)
  rw [show c :: 32 :: r = [c] ++ 32 :: r from rfl, this]
  simp
theorem pre_take {c : UInt8} {x : List UInt8} : [c, 32].isPrefixOf x = decide (x.take 2 = [c, 32]) := by
  match x with
  | [] => simp [List.isPrefixOf]
  | [a] => simp [List.isPrefixOf]
  | a :: b :: r =>
    rw [Bool.eq_iff_iff]
    simp only [List.isPrefixOf, Bool.and_eq_true, beq_iff_eq, decide_eq_true_eq, and_true, List.take, List.cons.injEq]
    exact ⟨fun h => ⟨h.1.symm, h.2.symm⟩, fun h => ⟨h.1.symm, h.2.symm⟩⟩
theorem take_mark {c : UInt8} {x : List UInt8} (h : x.take 2 = [c, 32]) : ∃ r, x = c :: 32 :: r := by
  match x, h with
  | a :: b :: r, h => simp at h; exact ⟨r, by rw [h.1, h.2]⟩
theorem stepQ_eq (st : List Pt × Bool) (x : List UInt8) : stepQ st x = stepP st x := by
  unfold stepP
  by_cases h1 : x = [45, 45, 45]
  · subst h1
    have e : rdP [45, 45, 45] = (4, []) := by decide
    unfold stepQ
    rw [e]; simp
  · rw [if_neg h1]
    by_cases h2 : x.take 2 = [61, 32]
    · obtain ⟨r, rfl⟩ := take_mark h2
      have e : rdP (61 :: 32 :: r) = (2, wds r) := by
        have hk : knd (61 :: 32 :: r) = 2 := by unfold knd; simp [List.isPrefixOf]
        unfold rdP
        rw [hk]; rfl
      unfold stepQ isMk
      rw [e, wds_mark (by decide)]
      cases hw : wds r with
      | nil => simp
      | cons a q => simp
    · by_cases h3 : x.take 2 = [45, 32]
      · obtain ⟨r, rfl⟩ := take_mark h3
        have e : rdP (45 :: 32 :: r) = (3, wds r) := by
          have hk : knd (45 :: 32 :: r) = 3 := by unfold knd; simp [List.isPrefixOf]
          unfold rdP
          rw [hk]; rfl
        unfold stepQ isMk
        rw [e, wds_mark (by decide)]
        cases hw : wds r with
        | nil => simp
        | cons a q => simp
      · have hk : knd x = 1 := by
          unfold knd
          rw [if_neg h1, pre_take, pre_take]
          simp [h2, h3]
        have e : rdP x = (1, wds x) := by unfold rdP; rw [hk]; rfl
        unfold stepQ isMk
        rw [e]
        by_cases hw : wds x = []
        · simp [hw, h2, h3]
        · cases st.2 <;> simp [hw, h2, h3]

end Go.Proofs.YtkcnnkakpkdhkaaDoor
