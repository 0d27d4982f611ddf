/-
  Bitmaps in plain mathematics: which block is used, so many more, either's, how many, runs.
-/
import Derived.Test.YtadbgidchojfkaaBa
set_option linter.all false
namespace Go.Proofs.Ytadbgidchojfkaa

/-- Block b's bit: bit b % 8 of byte b / 8. -/
def bit (L : List B) (b : Nat) : Bool := (L.getD (b / 8) 0).getLsbD (b % 8)
def setb (L : List B) (b : Nat) : List B := L.set (b / 8) (L.getD (b / 8) 0 ||| (1#8 <<< (b % 8)))
def setn (L : List B) (f : Nat) : Nat → List B
  | 0 => L
  | n + 1 => setb (setn L f n) (f + n)
def orL (x y : List B) : List B := List.zipWith (· ||| ·) x y
def cnt (L : List B) : Nat → Nat
  | 0 => 0
  | k + 1 => cnt L k + (bit L k).toNat
def zb (n : Nat) : List B := List.replicate n 0
def has (L : List B) (b : Int) : Bool := decide (b < 0 ∨ 128 ≤ b) || bit L b.toNat
def freeB (L : List B) (f n : Nat) : Bool := (List.range n).all fun i => !bit L (f + i)

theorem setb_len (L : List B) (b : Nat) : (setb L b).length = L.length := by simp [setb]
theorem setn_len (L : List B) (f n : Nat) : (setn L f n).length = L.length := by
  induction n with
  | zero => rfl
  | succ n ih => rw [setn, setb_len, ih]
theorem orL_len {x y : List B} (hx : x.length = 16) (hy : y.length = 16) : (orL x y).length = 16 := by simp [orL, hx, hy]
theorem zb_len (n : Nat) : (zb n).length = n := by simp [zb]

theorem getD_lt {L : List B} {i : Nat} (h : i < L.length) : L.getD i 0 = L[i] := by simp [List.getD, h]

theorem bit_setb {L : List B} (hL : L.length = 16) {b : Nat} (hb : b < 128) (c : Nat) : bit (setb L b) c = (bit L c || decide (c = b)) := by
  unfold bit setb
  by_cases h : c / 8 = b / 8
  · rw [h]
    have hlt : b / 8 < L.length := by omega
    simp only [List.getD_eq_getElem?_getD, List.getElem?_set_self' , List.getElem?_eq_getElem hlt]
    simp only [Option.map_eq_map, Option.map_some, Option.getD_some, BitVec.getLsbD_or]
    congr 1
    by_cases e : c = b
    · subst e
      simp; omega
    · have e2 : c % 8 ≠ b % 8 := by omega
      have h8 : c % 8 < 8 := by omega
      have hb8 : b % 8 < 8 := by omega
      simp [e]
      omega
  · have e : c ≠ b := by rintro rfl; exact h rfl
    simp only [List.getD_eq_getElem?_getD, List.getElem?_set_ne (Ne.symm h), e, decide_false, Bool.or_false]

theorem bit_setn {L : List B} (hL : L.length = 16) {f : Nat} : ∀ {n : Nat}, f + n ≤ 128 → ∀ c, bit (setn L f n) c = (bit L c || decide (f ≤ c ∧ c < f + n))
  | 0, _, c => by
    have : ¬ (f ≤ c ∧ c < f + 0) := by omega
    simp only [setn, this, decide_false, Bool.or_false]
  | n + 1, h, c => by
    rw [setn, bit_setb (by rw [setn_len, hL]) (by omega), bit_setn hL (by omega) c, Bool.or_assoc]
    congr 1
    rw [← Bool.decide_or]
    apply decide_eq_decide.2
    omega

theorem bit_orL {x y : List B} (hx : x.length = 16) (hy : y.length = 16) {c : Nat} (hc : c < 128) : bit (orL x y) c = (bit x c || bit y c) := by
  unfold bit orL
  have h1 : c / 8 < x.length := by omega
  have h2 : c / 8 < y.length := by omega
  simp [List.getD_eq_getElem?_getD, List.getElem?_zipWith, h1, h2]

theorem ext_bits {x y : List B} (hx : x.length = 16) (hy : y.length = 16) (h : ∀ b, b < 128 → bit x b = bit y b) : x = y := by
  apply List.ext_getElem (by omega)
  intro i h1 h2
  apply BitVec.eq_of_getLsbD_eq
  intro j hj
  have := h (8 * i + j) (by omega)
  unfold bit at this
  rw [show (8 * i + j) / 8 = i by omega, show (8 * i + j) % 8 = j by omega, getD_lt h1, getD_lt h2] at this
  exact this

theorem cnt_le (L : List B) (k : Nat) : cnt L k ≤ k := by
  induction k with
  | zero => exact Nat.le_refl _
  | succ k ih => have := Bool.toNat_le (bit L k); rw [cnt]; omega
theorem cnt_setb {L : List B} (hL : L.length = 16) {b : Nat} (hb : b < 128) (hf : bit L b = false) : ∀ k, cnt (setb L b) k = cnt L k + (if b < k then 1 else 0)
  | 0 => by simp [cnt]
  | k + 1 => by
    rw [cnt, cnt, cnt_setb hL hb hf k, bit_setb hL hb]
    by_cases e : k = b
    · subst e; simp [hf]
    · simp only [e, decide_false, Bool.or_false]
      by_cases h : b < k
      · rw [if_pos h, if_pos (by omega)]; omega
      · rw [if_neg h, if_neg (by omega)]; omega

theorem freeB_iff {L : List B} {f n : Nat} : freeB L f n = true ↔ ∀ i, i < n → bit L (f + i) = false := by simp [freeB]
theorem freeB_false {L : List B} {f n : Nat} : freeB L f n = false ↔ ∃ i, i < n ∧ bit L (f + i) = true := by
  cases h : freeB L f n with
  | true =>
    have := freeB_iff.1 h
    constructor
    · intro h; cases h
    · rintro ⟨i, hi, hb⟩; rw [this i hi] at hb; cases hb
  | false =>
    refine ⟨fun _ => ?_, fun _ => rfl⟩
    apply Classical.byContradiction
    intro hn
    have : freeB L f n = true := freeB_iff.2 fun i hi => by
      cases hb : bit L (f + i) with
      | false => rfl
      | true => exact absurd ⟨i, hi, hb⟩ hn
    rw [h] at this; cases this

theorem cnt_setn {L : List B} (hL : L.length = 16) {f : Nat} : ∀ {n : Nat}, f + n ≤ 128 → freeB L f n = true → cnt (setn L f n) 128 = cnt L 128 + n
  | 0, _, _ => by simp [setn]
  | n + 1, h, hf => by
    have hf' := freeB_iff.1 hf
    rw [setn, cnt_setb (by rw [setn_len, hL]) (by omega), if_pos (by omega), cnt_setn hL (by omega) (freeB_iff.2 fun i hi => hf' i (by omega))]
    · omega
    · rw [bit_setn hL (by omega), hf' n (by omega)]
      have : ¬ (f ≤ f + n ∧ f + n < f + n) := by omega
      simp only [this, decide_false, Bool.or_false]

/-- From f on n blocks below k are free. -/
def IsFree (L : List B) (k n f : Nat) : Prop := f + n ≤ k ∧ freeB L f n = true
instance (L : List B) (k n f : Nat) : Decidable (IsFree L k n f) := inferInstanceAs (Decidable (_ ∧ _))

/-- The end of the run that begins at e. -/
def runEnd (L : List B) (k e : Nat) : Nat := if e < k ∧ bit L e = false then runEnd L k (e + 1) else e
termination_by k - e
theorem runEnd_ge (L : List B) (k e : Nat) : e ≤ runEnd L k e := by
  rw [runEnd]
  split
  · have := runEnd_ge L k (e + 1); omega
  · omega
termination_by k - e
theorem runEnd_le (L : List B) (k e : Nat) (h : e ≤ k) : runEnd L k e ≤ k := by
  rw [runEnd]
  split
  · exact runEnd_le L k (e + 1) (by omega)
  · exact h
termination_by k - e
theorem runEnd_end (L : List B) (k e : Nat) : ¬ (runEnd L k e < k ∧ bit L (runEnd L k e) = false) := by
  rw [runEnd]
  split
  · exact runEnd_end L k (e + 1)
  · assumption
termination_by k - e
theorem runEnd_free (L : List B) (k e : Nat) : ∀ c, e ≤ c → c < runEnd L k e → bit L c = false := by
  intro c h1 h2
  rw [runEnd] at h2
  split at h2
  · rename_i h
    rcases Nat.lt_or_ge e c with h3 | h3
    · exact runEnd_free L k (e + 1) c (by omega) h2
    · obtain rfl : c = e := by omega
      exact h.2
  · omega
termination_by k - e
theorem runEnd_step {L : List B} {k e : Nat} (h : e < k) (hb : bit L e = false) : runEnd L k e = runEnd L k (e + 1) := by
  rw [runEnd, if_pos ⟨h, hb⟩]
theorem runEnd_stop {L : List B} {k e : Nat} (h : ¬ (e < k ∧ bit L e = false)) : runEnd L k e = e := by
  rw [runEnd, if_neg h]

/-- The runs from f on: where each begins, how many blocks it has. -/
def runsL (L : List B) (k f : Nat) : List (Nat × Nat) :=
  if f < k then (if f < runEnd L k f then (f, runEnd L k f - f) :: runsL L k (runEnd L k f + 1) else runsL L k (runEnd L k f + 1)) else []
termination_by k - f
decreasing_by all_goals (have := runEnd_ge L k f; omega)

theorem runsL_done {L : List B} {k f : Nat} (h : ¬ f < k) : runsL L k f = [] := by rw [runsL, if_neg h]
theorem runsL_some {L : List B} {k f : Nat} (h : f < k) (h2 : f < runEnd L k f) : runsL L k f = (f, runEnd L k f - f) :: runsL L k (runEnd L k f + 1) := by rw [runsL, if_pos h, if_pos h2]
theorem runsL_none {L : List B} {k f : Nat} (h : f < k) (h2 : ¬ f < runEnd L k f) : runsL L k f = runsL L k (runEnd L k f + 1) := by rw [runsL, if_pos h, if_neg h2]

/-- The first run of n blocks. -/
def fnd (L : List B) (k n : Nat) : Option Nat := ((runsL L k 0).find? (fun r => decide (n ≤ r.2))).map (·.1)

theorem runs_find {L : List B} {k n : Nat} (hn : 0 < n) (f : Nat) :
    match (runsL L k f).find? (fun r => decide (n ≤ r.2)) with
    | some r => f ≤ r.1 ∧ IsFree L k n r.1 ∧ ∀ g, f ≤ g → g < r.1 → ¬ IsFree L k n g
    | none => ∀ g, f ≤ g → ¬ IsFree L k n g := by
  by_cases h : f < k
  · have h1 := runEnd_ge L k f
    have h2 := runEnd_le L k f (by omega)
    have h3 := runEnd_end L k f
    have h4 := runEnd_free L k f
    have hrec := runs_find (L := L) (k := k) hn (runEnd L k f + 1)
    have skip : ¬ n ≤ runEnd L k f - f → ∀ g, f ≤ g → g < runEnd L k f + 1 → ¬ IsFree L k n g := by
      intro hs g hg1 hg2 ⟨hg3, hg4⟩
      refine h3 ⟨by omega, ?_⟩
      have := freeB_iff.1 hg4 (runEnd L k f - g) (by omega)
      rwa [show g + (runEnd L k f - g) = runEnd L k f by omega] at this
    have join : ¬ n ≤ runEnd L k f - f → match (runsL L k (runEnd L k f + 1)).find? (fun r => decide (n ≤ r.2)) with
        | some r => f ≤ r.1 ∧ IsFree L k n r.1 ∧ ∀ g, f ≤ g → g < r.1 → ¬ IsFree L k n g
        | none => ∀ g, f ≤ g → ¬ IsFree L k n g := by
      intro hs
      have hs' := skip hs
      cases hf : (runsL L k (runEnd L k f + 1)).find? (fun r => decide (n ≤ r.2)) with
      | none =>
        rw [hf] at hrec
        intro g hg
        rcases Nat.lt_or_ge g (runEnd L k f + 1) with h5 | h5
        · exact hs' g hg h5
        · exact hrec g h5
      | some r =>
        rw [hf] at hrec
        refine ⟨by have := hrec.1; omega, hrec.2.1, fun g hg1 hg2 => ?_⟩
        rcases Nat.lt_or_ge g (runEnd L k f + 1) with h5 | h5
        · exact hs' g hg1 h5
        · exact hrec.2.2 g h5 hg2
    by_cases h5 : f < runEnd L k f
    · rw [runsL_some h h5, List.find?_cons]
      by_cases h6 : n ≤ runEnd L k f - f
      · simp only [h6, decide_true]
        refine ⟨Nat.le_refl _, ⟨by omega, freeB_iff.2 fun i hi => h4 _ (by omega) (by omega)⟩, fun g h7 h8 => by omega⟩
      · simp only [h6, decide_false]
        exact join h6
    · rw [runsL_none h h5]
      exact join (by omega)
  · rw [runsL_done h]
    intro g hg ⟨h1, _⟩
    omega
termination_by k - f
decreasing_by all_goals (have := runEnd_ge L k f; omega)

theorem fnd_some {L : List B} {k n f : Nat} (hn : 0 < n) (h : fnd L k n = some f) : IsFree L k n f ∧ ∀ g, g < f → ¬ IsFree L k n g := by
  have := runs_find (L := L) (k := k) hn 0
  unfold fnd at h
  cases hf : (runsL L k 0).find? (fun r => decide (n ≤ r.2)) with
  | none => rw [hf] at h; cases h
  | some r =>
    rw [hf] at h this
    cases h
    exact ⟨this.2.1, fun g hg => this.2.2 g (Nat.zero_le _) hg⟩
theorem fnd_none {L : List B} {k n : Nat} (hn : 0 < n) (h : fnd L k n = none) : ∀ g, ¬ IsFree L k n g := by
  have := runs_find (L := L) (k := k) hn 0
  unfold fnd at h
  cases hf : (runsL L k 0).find? (fun r => decide (n ≤ r.2)) with
  | none => rw [hf] at this; exact fun g => this g (Nat.zero_le _)
  | some r => rw [hf] at h; cases h
theorem fnd_of_some {L : List B} {k n f : Nat} (hn : 0 < n) (h : IsFree L k n f) (hl : ∀ g, g < f → ¬ IsFree L k n g) : fnd L k n = some f := by
  cases hf : fnd L k n with
  | none => exact absurd h (fnd_none hn hf f)
  | some g =>
    have := fnd_some hn hf
    rcases Nat.lt_trichotomy f g with h1 | h1 | h1
    · exact absurd h (this.2 f h1)
    · rw [h1]
    · exact absurd this.1 (hl g h1)
theorem fnd_of_none {L : List B} {k n : Nat} (hn : 0 < n) (h : ∀ g, g + n ≤ k → ¬ IsFree L k n g) : fnd L k n = none := by
  cases hf : fnd L k n with
  | none => rfl
  | some g => exact absurd (fnd_some hn hf).1 (h g (fnd_some hn hf).1.1)

/-- What With tells. -/
def wth (L : List B) (f n : Int) : List B × Int :=
  if 1 ≤ n ∧ 0 ≤ f ∧ f + n ≤ 128 then (if freeB L f.toNat n.toNat then (setn L f.toNat n.toNat, 0) else (zb 16, 11)) else (zb 16, 1)
theorem wth_len {L : List B} (hL : L.length = 16) (f n : Int) : (wth L f n).1.length = 16 := by
  unfold wth
  split
  · split
    · simp [setn_len, hL]
    · simp [zb]
  · simp [zb]
/-- What Run tells. -/
def runR (L : List B) (k n : Int) : Int × Int :=
  if n < 1 ∨ k < 1 ∨ 128 < k then (0, 1) else match fnd L k.toNat n.toNat with
    | some f => ((f : Int), 0)
    | none => (0, 14)

end Go.Proofs.Ytadbgidchojfkaa
