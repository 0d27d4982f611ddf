/-
  Packed texts: Bm, Ha, Lw, Wi, Oc.
-/
import Derived.Test.YtdgnjpdjohibeaaDoorGF
set_option linter.all false
set_option maxRecDepth 100000
namespace Go.Proofs.YtdgnjpdjohibeaaDoor

/-! Bm: Bitmaps in plain mathematics: which block is used, so many more, either's, how many, runs. -/
section
/-- Block b's bit: bit b % 8 of byte b / 8. -/
def bit (L : List B) (b : Nat) : Bool := (L.getD (b / 8) 0).getLsbD (b % 8)
def setb (L : List B) (b : Nat) : List B := L.set (b / 8) (L.getD (b / 8) 0 ||| (1#8 <<< (b % 8)))
def setn (L : List B) (f : Nat) : Nat → List B
  | 0 => L
  | n + 1 => setb (setn L f n) (f + n)
def orL (x y : List B) : List B := List.zipWith (· ||| ·) x y
def cnt (L : List B) : Nat → Nat
  | 0 => 0
  | k + 1 => cnt L k + (bit L k).toNat
def has (L : List B) (b : Int) : Bool := decide (b < 0 ∨ 128 ≤ b) || bit L b.toNat
def freeB (L : List B) (f n : Nat) : Bool := (List.range n).all fun i => !bit L (f + i)

theorem setb_len (L : List B) (b : Nat) : (setb L b).length = L.length := by simp [setb]
theorem setn_len (L : List B) (f n : Nat) : (setn L f n).length = L.length := by
  induction n with
  | zero => rfl
  | succ n ih => rw [setn, setb_len, ih]
theorem orL_len {x y : List B} (hx : x.length = 16) (hy : y.length = 16) : (orL x y).length = 16 := by simp [orL, hx, hy]
theorem bit_setb {L : List B} (hL : L.length = 16) {b : Nat} (hb : b < 128) (c : Nat) : bit (setb L b) c = (bit L c || decide (c = b)) := by
  unfold bit setb
  by_cases h : c / 8 = b / 8
  · rw [h]
    have hlt : b / 8 < L.length := by omega
    simp only [List.getD_eq_getElem?_getD, List.getElem?_set_self' , List.getElem?_eq_getElem hlt]
    simp only [Option.map_eq_map, Option.map_some, Option.getD_some, BitVec.getLsbD_or]
    congr 1
    by_cases e : c = b
    · subst e
      simp; omega
    · have e2 : c % 8 ≠ b % 8 := by omega
      have h8 : c % 8 < 8 := by omega
      have hb8 : b % 8 < 8 := by omega
      simp [e]
      omega
  · have e : c ≠ b := by rintro rfl; exact h rfl
    simp only [List.getD_eq_getElem?_getD, List.getElem?_set_ne (Ne.symm h), e, decide_false, Bool.or_false]

theorem bit_setn {L : List B} (hL : L.length = 16) {f : Nat} : ∀ {n : Nat}, f + n ≤ 128 → ∀ c, bit (setn L f n) c = (bit L c || decide (f ≤ c ∧ c < f + n))
  | 0, _, c => by
    have : ¬ (f ≤ c ∧ c < f + 0) := by omega
    simp only [setn, this, decide_false, Bool.or_false]
  | n + 1, h, c => by
    rw [setn, bit_setb (by rw [setn_len, hL]) (by omega), bit_setn hL (by omega) c, Bool.or_assoc]
    congr 1
    rw [← Bool.decide_or]
    apply decide_eq_decide.2
    omega

theorem bit_orL {x y : List B} (hx : x.length = 16) (hy : y.length = 16) {c : Nat} (hc : c < 128) : bit (orL x y) c = (bit x c || bit y c) := by
  unfold bit orL
  have h1 : c / 8 < x.length := by omega
  have h2 : c / 8 < y.length := by omega
  simp [List.getD_eq_getElem?_getD, List.getElem?_zipWith, h1, h2]

theorem ext_bits {x y : List B} (hx : x.length = 16) (hy : y.length = 16) (h : ∀ b, b < 128 → bit x b = bit y b) : x = y := by
  apply List.ext_getElem (by omega)
  intro i h1 h2
  apply BitVec.eq_of_getLsbD_eq
  intro j hj
  have := h (8 * i + j) (by omega)
  unfold bit at this
  rw [show (8 * i + j) / 8 = i by omega, show (8 * i + j) % 8 = j by omega, getD_lt h1, getD_lt h2] at this
  exact this

theorem cnt_le (L : List B) (k : Nat) : cnt L k ≤ k := by
  induction k with
  | zero => exact Nat.le_refl _
  | succ k ih => have := Bool.toNat_le (bit L k); rw [cnt]; omega
theorem cnt_setb {L : List B} (hL : L.length = 16) {b : Nat} (hb : b < 128) (hf : bit L b = false) : ∀ k, cnt (setb L b) k = cnt L k + (if b < k then 1 else 0)
  | 0 => by simp [cnt]
  | k + 1 => by
    rw [cnt, cnt, cnt_setb hL hb hf k, bit_setb hL hb]
    by_cases e : k = b
    · subst e; simp [hf]
    · simp only [e, decide_false, Bool.or_false]
      by_cases h : b < k
      · rw [if_pos h, if_pos (by omega)]; omega
      · rw [if_neg h, if_neg (by omega)]; omega

theorem freeB_iff {L : List B} {f n : Nat} : freeB L f n = true ↔ ∀ i, i < n → bit L (f + i) = false := by simp [freeB]
theorem freeB_false {L : List B} {f n : Nat} : freeB L f n = false ↔ ∃ i, i < n ∧ bit L (f + i) = true := by
  cases h : freeB L f n with
  | true =>
    have := freeB_iff.1 h
    constructor
    · intro h; cases h
    · rintro ⟨i, hi, hb⟩; rw [this i hi] at hb; cases hb
  | false =>
    refine ⟨fun _ => ?_, fun _ => rfl⟩
    apply Classical.byContradiction
    intro hn
    have : freeB L f n = true := freeB_iff.2 fun i hi => by
      cases hb : bit L (f + i) with
      | false => rfl
      | true => exact absurd ⟨i, hi, hb⟩ hn
    rw [h] at this; cases this

theorem cnt_setn {L : List B} (hL : L.length = 16) {f : Nat} : ∀ {n : Nat}, f + n ≤ 128 → freeB L f n = true → cnt (setn L f n) 128 = cnt L 128 + n
  | 0, _, _ => by simp [setn]
  | n + 1, h, hf => by
    have hf' := freeB_iff.1 hf
    rw [setn, cnt_setb (by rw [setn_len, hL]) (by omega), if_pos (by omega), cnt_setn hL (by omega) (freeB_iff.2 fun i hi => hf' i (by omega))]
    · omega
    · rw [bit_setn hL (by omega), hf' n (by omega)]
      have : ¬ (f ≤ f + n ∧ f + n < f + n) := by omega
      simp only [this, decide_false, Bool.or_false]

/-- From f on n blocks below k are free. -/
def IsFree (L : List B) (k n f : Nat) : Prop := f + n ≤ k ∧ freeB L f n = true
instance (L : List B) (k n f : Nat) : Decidable (IsFree L k n f) := inferInstanceAs (Decidable (_ ∧ _))

/-- The end of the run that begins at e. -/
def runEnd (L : List B) (k e : Nat) : Nat := if e < k ∧ bit L e = false then runEnd L k (e + 1) else e
termination_by k - e
theorem runEnd_ge (L : List B) (k e : Nat) : e ≤ runEnd L k e := by
  rw [runEnd]
  split
  · have := runEnd_ge L k (e + 1); omega
  · omega
termination_by k - e
theorem runEnd_le (L : List B) (k e : Nat) (h : e ≤ k) : runEnd L k e ≤ k := by
  rw [runEnd]
  split
  · exact runEnd_le L k (e + 1) (by omega)
  · exact h
termination_by k - e
theorem runEnd_end (L : List B) (k e : Nat) : ¬ (runEnd L k e < k ∧ bit L (runEnd L k e) = false) := by
  rw [runEnd]
  split
  · exact runEnd_end L k (e + 1)
  · assumption
termination_by k - e
theorem runEnd_free (L : List B) (k e : Nat) : ∀ c, e ≤ c → c < runEnd L k e → bit L c = false := by
  intro c h1 h2
  rw [runEnd] at h2
  split at h2
  · rename_i h
    rcases Nat.lt_or_ge e c with h3 | h3
    · exact runEnd_free L k (e + 1) c (by omega) h2
    · obtain rfl : c = e := by omega
      exact h.2
  · omega
termination_by k - e
theorem runEnd_step {L : List B} {k e : Nat} (h : e < k) (hb : bit L e = false) : runEnd L k e = runEnd L k (e + 1) := by
  rw [runEnd, if_pos ⟨h, hb⟩]
theorem runEnd_stop {L : List B} {k e : Nat} (h : ¬ (e < k ∧ bit L e = false)) : runEnd L k e = e := by
  rw [runEnd, if_neg h]

/-- The runs from f on: where each begins, how many blocks it has. -/
def runsL (L : List B) (k f : Nat) : List (Nat × Nat) :=
  if f < k then (if f < runEnd L k f then (f, runEnd L k f - f) :: runsL L k (runEnd L k f + 1) else runsL L k (runEnd L k f + 1)) else []
termination_by k - f
decreasing_by all_goals (have := runEnd_ge L k f; omega)

theorem runsL_done {L : List B} {k f : Nat} (h : ¬ f < k) : runsL L k f = [] := by rw [runsL, if_neg h]
theorem runsL_some {L : List B} {k f : Nat} (h : f < k) (h2 : f < runEnd L k f) : runsL L k f = (f, runEnd L k f - f) :: runsL L k (runEnd L k f + 1) := by rw [runsL, if_pos h, if_pos h2]
theorem runsL_none {L : List B} {k f : Nat} (h : f < k) (h2 : ¬ f < runEnd L k f) : runsL L k f = runsL L k (runEnd L k f + 1) := by rw [runsL, if_pos h, if_neg h2]

/-- The first run of n blocks. -/
def fnd (L : List B) (k n : Nat) : Option Nat := ((runsL L k 0).find? (fun r => decide (n ≤ r.2))).map (·.1)

theorem runs_find {L : List B} {k n : Nat} (hn : 0 < n) (f : Nat) :
    match (runsL L k f).find? (fun r => decide (n ≤ r.2)) with
    | some r => f ≤ r.1 ∧ IsFree L k n r.1 ∧ ∀ g, f ≤ g → g < r.1 → ¬ IsFree L k n g
    | none => ∀ g, f ≤ g → ¬ IsFree L k n g := by
  by_cases h : f < k
  · have h1 := runEnd_ge L k f
    have h2 := runEnd_le L k f (by omega)
    have h3 := runEnd_end L k f
    have h4 := runEnd_free L k f
    have hrec := runs_find (L := L) (k := k) hn (runEnd L k f + 1)
    have skip : ¬ n ≤ runEnd L k f - f → ∀ g, f ≤ g → g < runEnd L k f + 1 → ¬ IsFree L k n g := by
      intro hs g hg1 hg2 ⟨hg3, hg4⟩
      refine h3 ⟨by omega, ?_⟩
      have := freeB_iff.1 hg4 (runEnd L k f - g) (by omega)
      rwa [show g + (runEnd L k f - g) = runEnd L k f by omega] at this
    have join : ¬ n ≤ runEnd L k f - f → match (runsL L k (runEnd L k f + 1)).find? (fun r => decide (n ≤ r.2)) with
        | some r => f ≤ r.1 ∧ IsFree L k n r.1 ∧ ∀ g, f ≤ g → g < r.1 → ¬ IsFree L k n g
        | none => ∀ g, f ≤ g → ¬ IsFree L k n g := by
      intro hs
      have hs' := skip hs
      cases hf : (runsL L k (runEnd L k f + 1)).find? (fun r => decide (n ≤ r.2)) with
      | none =>
        rw [hf] at hrec
        intro g hg
        rcases Nat.lt_or_ge g (runEnd L k f + 1) with h5 | h5
        · exact hs' g hg h5
        · exact hrec g h5
      | some r =>
        rw [hf] at hrec
        refine ⟨by have := hrec.1; omega, hrec.2.1, fun g hg1 hg2 => ?_⟩
        rcases Nat.lt_or_ge g (runEnd L k f + 1) with h5 | h5
        · exact hs' g hg1 h5
        · exact hrec.2.2 g h5 hg2
    by_cases h5 : f < runEnd L k f
    · rw [runsL_some h h5, List.find?_cons]
      by_cases h6 : n ≤ runEnd L k f - f
      · simp only [h6, decide_true]
        refine ⟨Nat.le_refl _, ⟨by omega, freeB_iff.2 fun i hi => h4 _ (by omega) (by omega)⟩, fun g h7 h8 => by omega⟩
      · simp only [h6, decide_false]
        exact join h6
    · rw [runsL_none h h5]
      exact join (by omega)
  · rw [runsL_done h]
    intro g hg ⟨h1, _⟩
    omega
termination_by k - f
decreasing_by all_goals (have := runEnd_ge L k f; omega)

theorem fnd_some {L : List B} {k n f : Nat} (hn : 0 < n) (h : fnd L k n = some f) : IsFree L k n f ∧ ∀ g, g < f → ¬ IsFree L k n g := by
  have := runs_find (L := L) (k := k) hn 0
  unfold fnd at h
  cases hf : (runsL L k 0).find? (fun r => decide (n ≤ r.2)) with
  | none => rw [hf] at h; cases h
  | some r =>
    rw [hf] at h this
    cases h
    exact ⟨this.2.1, fun g hg => this.2.2 g (Nat.zero_le _) hg⟩
theorem fnd_none {L : List B} {k n : Nat} (hn : 0 < n) (h : fnd L k n = none) : ∀ g, ¬ IsFree L k n g := by
  have := runs_find (L := L) (k := k) hn 0
  unfold fnd at h
  cases hf : (runsL L k 0).find? (fun r => decide (n ≤ r.2)) with
  | none => rw [hf] at this; exact fun g => this g (Nat.zero_le _)
  | some r => rw [hf] at h; cases h
theorem fnd_of_some {L : List B} {k n f : Nat} (hn : 0 < n) (h : IsFree L k n f) (hl : ∀ g, g < f → ¬ IsFree L k n g) : fnd L k n = some f := by
  cases hf : fnd L k n with
  | none => exact absurd h (fnd_none hn hf f)
  | some g =>
    have := fnd_some hn hf
    rcases Nat.lt_trichotomy f g with h1 | h1 | h1
    · exact absurd h (this.2 f h1)
    · rw [h1]
    · exact absurd this.1 (hl g h1)
theorem fnd_of_none {L : List B} {k n : Nat} (hn : 0 < n) (h : ∀ g, g + n ≤ k → ¬ IsFree L k n g) : fnd L k n = none := by
  cases hf : fnd L k n with
  | none => rfl
  | some g => exact absurd (fnd_some hn hf).1 (h g (fnd_some hn hf).1.1)

/-- What With tells. -/
def wth (L : List B) (f n : Int) : List B × Int :=
  if 1 ≤ n ∧ 0 ≤ f ∧ f + n ≤ 128 then (if freeB L f.toNat n.toNat then (setn L f.toNat n.toNat, 0) else (zb 16, 11)) else (zb 16, 1)
theorem wth_len {L : List B} (hL : L.length = 16) (f n : Int) : (wth L f n).1.length = 16 := by
  unfold wth
  split
  · split
    · simp [setn_len, hL]
    · simp [zb]
  · simp [zb]
/-- What Run tells. -/
def runR (L : List B) (k n : Int) : Int × Int :=
  if n < 1 ∨ k < 1 ∨ 128 < k then (0, 1) else match fnd L k.toNat n.toNat with
    | some f => ((f : Int), 0)
    | none => (0, 14)
end

/-! Ha: Has, of both sides. -/
section
open Go.RowKit

theorem and_bit (x : B) (k : Nat) (hk : k < 8) : (bits .and .u8 (nb x / 2 ^ k) 1 == 1) = x.getLsbD k := by
  have : ∀ (i : Fin 256) (k : Fin 8), (bits .and .u8 (((BitVec.ofFin i : BitVec 8).toNat : Int) / 2 ^ k.val) 1 == 1) = (BitVec.ofFin i : BitVec 8).getLsbD k.val := by decide +kernel
  exact this x.toFin ⟨k, hk⟩
theorem bits_or8 (x y : B) : bits .or .u8 (nb x) (nb y) = nb (x ||| y) := by
  have h : ∀ z : B, BitVec.ofInt 8 (nb z) = z := fun z => by unfold nb; rw [BitVec.ofInt_natCast, BitVec.ofNat_toNat, BitVec.setWidth_eq]
  have h2 : ∀ z : B, IntKind.u8.wrap (z.toNat : Int) = nb z := fun z => by
    have := z.isLt
    rw [IntKind.wrap_u8']; unfold nb; omega
  show IntKind.u8.wrap ((BitVec.ofInt 8 (nb x) ||| BitVec.ofInt 8 (nb y)).toNat : Int) = _
  rw [h, h]; exact h2 _
theorem has_in {L : List B} {b : Int} (h0 : 0 ≤ b ∧ b < 128) : has L b = bit L b.toNat := by
  unfold has; rw [decide_eq_false (by omega)]; rfl
theorem has_nat {L : List B} {b : Nat} (h0 : b < 128) : has L (b : Int) = bit L b := by
  rw [has_in (by omega)]; simp
theorem has_bit {L : List B} {b : Int} (h0 : 0 ≤ b ∧ b < 128) {x : B} (hx : L.getD (b.toNat / 8) 0 = x) : (bits .and .u8 (nb x / 2 ^ (b % 8).toNat) 1 == 1) = has L b := by
  rw [has_in h0, and_bit _ _ (by omega), bit, hx, show (b % 8).toNat = b.toNat % 8 by omega]

theorem isBlock18 (w : World) (b : Int) :
    Calls Tryd.prog 67 #[.int .i64 b] w fun e w' => e = .returned (.bool (decide (0 ≤ b ∧ b < 128))) ∧ w' = w := by
  go_enter Tryd.func67, Tryd.ntmps67
  by_cases h0 : 0 ≤ b
  · by_cases h1 : b < 128
    · go_wp2
      go_ret
      exact ⟨by simp [h0, h1], rfl⟩
    · go_wp2
      go_ret
      exact ⟨by simp [h0, h1], rfl⟩
  · go_wp2
    go_ret
    exact ⟨by rw [decide_eq_false (fun h => by omega)]; rfl, rfl⟩

theorem has11 (w : World) (L : List B) (hL : L.length = 16) (b : Int) :
    Calls Tryd.prog 60 #[.agg (brow L), .int .i64 b] w fun e w' => e = .returned (.bool (has L b)) ∧ Keeps (fun _ => False) w w' := by
  go_enter Tryd.func60, Tryd.ntmps60
  by_cases h0 : 0 ≤ b ∧ b < 128
  · obtain ⟨x, hx⟩ : ∃ x, L.getD (b.toNat / 8) 0 = x := ⟨_, rfl⟩
    have hc : (brow L)[(b / 8).toNat]? = some (.int .u8 (nb x)) := by
      rw [brow_get, ← hx, show (b / 8).toNat = b.toNat / 8 by omega, List.getElem?_eq_getElem (by omega), getD_lt (by omega)]; rfl
    have hb := nb_lt x
    go_wp2_with (go_at_call 67; refine (isBlock18 _ _).mono ?_; rintro e w1 ⟨rfl, rfl⟩; rw [decide_eq_true h0])
    go_ret
    refine ⟨?_, (Keeps.refl _ _).alloc _⟩
    exact congrArg (fun v => Ending.returned (.bool v)) (has_bit h0 hx)
  · go_wp2_with (go_at_call 67; refine (isBlock18 _ _).mono ?_; rintro e w1 ⟨rfl, rfl⟩; rw [decide_eq_false h0])
    go_ret
    refine ⟨?_, (Keeps.refl _ _).alloc _⟩
    unfold has
    rw [decide_eq_true (by omega)]; rfl

theorem has12 (w : World) (L : List B) (hL : L.length = 16) (b : Int) :
    Calls Tryd.prog 37 #[.agg (brow L), .int .i64 b] w fun e w' => e = .returned (.bool (has L b)) ∧ Keeps (fun _ => False) w w' := by
  go_enter Tryd.func37, Tryd.ntmps37
  by_cases h0 : b < 0
  · go_wp2
    go_ret
    refine ⟨?_, (Keeps.refl _ _).alloc _⟩
    unfold has
    rw [decide_eq_true (by omega)]; rfl
  · by_cases h1 : 128 ≤ b
    · go_wp2
      go_ret
      refine ⟨?_, (Keeps.refl _ _).alloc _⟩
      unfold has
      rw [decide_eq_true (by omega)]; rfl
    · obtain ⟨x, hx⟩ : ∃ x, L.getD (b.toNat / 8) 0 = x := ⟨_, rfl⟩
      have hc : (brow L)[(b / 8).toNat]? = some (.int .u8 (nb x)) := by
        rw [brow_get, ← hx, show (b / 8).toNat = b.toNat / 8 by omega, List.getElem?_eq_getElem (by omega), getD_lt (by omega)]; rfl
      have hb := nb_lt x
      go_wp2
      go_ret
      refine ⟨?_, (Keeps.refl _ _).alloc _⟩
      exact congrArg (fun v => Ending.returned (.bool v)) (has_bit ⟨h0, h1⟩ hx)
end

/-! Lw: Laws for bitmaps in memory: what is made gets a letter. -/
section
open Go.RowKit Go.Sort

theorem info23 : (Tryd.prog.info? 26).map (fun i => (i.zero, i.size)) = some (some (.agg (brow (zb 16))), 16) := by kernel_rfl
theorem zero23 (w : World) : (zeroValue 26).run Tryd.prog w = .ok (.agg (brow (zb 16))) w := (zero_of_info info23).1 w
theorem size23 : (Tryd.prog.info? 26).map (·.size) = some 16 := (zero_of_info info23).2

/-- In block g lies the bitmap L. -/
structure BmAt (w : World) (g : Nat) (L : List B) : Prop where
  row : w.heap[g]? = some (.cells (brow L) 26 (0, 0))
  len : L.length = 16
theorem BmAt.lt {w : World} {g : Nat} {L : List B} (h : BmAt w g L) : g < w.heap.size := lt_of_row h.row
theorem BmAt.keeps {S : Nat → Prop} {a w : World} {g : Nat} {L : List B} (h : BmAt a g L) (hk : Keeps S a w) (hs : ¬ S g) : BmAt w g L := ⟨hk.row h.row hs, h.len⟩
theorem BmAt.keep {a w : World} {g : Nat} {L : List B} (h : BmAt a g L) (hk : Keeps (fun _ => False) a w) : BmAt w g L := h.keeps hk (fun h => h)
theorem BmAt.cls {a w : World} {g : Nat} {L : List B} (h : BmAt a g L) (hk : ∃ p : Regrown, w = grow (redrawn a p.d) p.os) : BmAt w g L := h.keep (keeps_cls hk)
theorem BmAt.size {w : World} {g : Nat} {L : List B} (h : BmAt w g L) : (brow L).size = 16 := by rw [size_brow, h.len]
theorem BmAt.cell {w : World} {g : Nat} {L : List B} (h : BmAt w g L) {j : Nat} (hj : j < 16) : w.cell? ⟨g, j, none⟩ = some (.int .u8 (nb (L.getD j 0))) := by
  have hl := h.len
  rw [cell_of_row w _ _ _ _ _ h.row, brow_get, List.getElem?_eq_getElem (by omega), getD_lt (by omega)]; rfl
theorem BmAt.live {w : World} {g : Nat} {L : List B} (h : BmAt w g L) (j : Nat) : w.frozen? ⟨g, j, none⟩ = false := frozen_of_row w g j _ _ h.row
theorem BmAt.range {w : World} {g : Nat} {L : List B} (h : BmAt w g L) : w.rangeAt g 0 (brow L).toList := fun j v hv => by
  rw [cell_of_row w _ _ _ _ _ h.row, Nat.zero_add]
  simpa using hv
theorem BmAt.set {w : World} {g : Nat} {L : List B} (h : BmAt w g L) (j : Nat) (x : B) : BmAt (w.setCell ⟨g, j, none⟩ (.int .u8 (nb x))) g (L.set j x) :=
  ⟨by rw [heap_setCell_same w _ _ _ _ _ h.row, brow_set], by rw [List.length_set, h.len]⟩

theorem wpList_box23 {ops : Array Oper} {rest : List Oper} {o : Oper} {a : Act} {w : World} {Q : Exit → Act → World → Prop} (hgd : o.guard = none) (x : Operand) (ho : o.op = .box 26 x) (L : List B) (hL : L.length = 16) (hx : a.eval x = .agg (brow L))
    (h : ∀ g w', BmAt w' g L → w.heap.size ≤ g → Keeps (fun _ => False) w w' → wpList Tryd.prog ops Q rest (a.put o.dst (.pointer (some ⟨g, 0, none⟩))) w') : wpList Tryd.prog ops Q (o :: rest) a w := by
  refine wpList_plain hgd fun K hK => ?_
  unfold Oper.wp execOp
  simp only [ho, hx, newVar, newRow, Sem.run_bind, Result.andThen_ok, Sem.run_pure]
  exact hK _ _ (h w.heap.size _ ⟨heap_alloc_new w _, hL⟩ (Nat.le_refl _) (keeps_alloc w _))

theorem wpList_alloc23 {ops : Array Oper} {rest : List Oper} {o : Oper} {a : Act} {w : World} {Q : Exit → Act → World → Prop} (hgd : o.guard = none) (ho : o.op = .alloc 26)
    (h : ∀ g w', BmAt w' g (zb 16) → w.heap.size ≤ g → Keeps (fun _ => False) w w' → wpList Tryd.prog ops Q rest (a.put o.dst (.pointer (some ⟨g, 0, none⟩))) w') : wpList Tryd.prog ops Q (o :: rest) a w := by
  refine wpList_plain hgd fun K hK => ?_
  unfold Oper.wp execOp
  simp only [ho, Instr.alloc, zero23, newVar, newRow, Sem.run_bind, Result.andThen_ok, Sem.run_pure]
  exact hK _ _ (h w.heap.size _ ⟨heap_alloc_new w _, zb_len _⟩ (Nat.le_refl _) (keeps_alloc w _))

theorem build23 (w : World) : (Instr.build 26 #[]).run Tryd.prog w = .ok (.agg (brow (zb 16))) w := by
  unfold Instr.build
  simp only [Sem.run_bind, zero23, Result.andThen_ok, run_underlying Tryd.underlying26]
  have hs5 : (sizeOf 5).run Tryd.prog w = .ok 1 w := by simp [go_sem]
  simp [Instr.fill, Value.cells, hs5]
theorem wpList_build23 {ops : Array Oper} {rest : List Oper} {o : Oper} {a : Act} {w : World} {Q : Exit → Act → World → Prop} (hgd : o.guard = none) (ho : o.op = .build 26 #[])
    (h : wpList Tryd.prog ops Q rest (a.put o.dst (.agg (brow (zb 16)))) w) : wpList Tryd.prog ops Q (o :: rest) a w := by
  refine wpList_plain hgd fun K hK => ?_
  unfold Oper.wp execOp
  simp only [ho, List.map_toArray, List.map_nil, build23, Sem.run_bind, Result.andThen_ok, Sem.run_pure]
  exact hK _ _ h

theorem run_load23 {w : World} {g : Nat} {L : List B} (h : BmAt w g L) : (loadVar 26 ⟨g, 0, none⟩).run Tryd.prog w = .ok (.agg (brow L)) w :=
  run_loadVar_row w g 26 26 (brow L) _ _ h.row Tryd.underlying26 rfl (by rw [h.size]; exact size23)
theorem wpList_load23 {ops : Array Oper} {rest : List Oper} {o : Oper} {a : Act} {w : World} {Q : Exit → Act → World → Prop} (hw : Region.wanted o (yielded ops a.tmps) = true) (x : Operand) (ho : o.op = .load 26 x) (g : Nat) (hx : a.eval x = .pointer (some ⟨g, 0, none⟩)) (L : List B) (hb : BmAt w g L)
    (h : wpList Tryd.prog ops Q rest (a.put o.dst (.agg (brow L))) w) : wpList Tryd.prog ops Q (o :: rest) a w := by
  unfold wpList
  rw [if_pos hw]
  left
  unfold Oper.wp execOp
  simp only [ho, hx, Instr.loadAt, Instr.sureAddr, Sem.run_bind, Sem.run_pure, Result.andThen_ok, run_load23 hb]
  exact h
theorem quiet_load23 {o : Oper} {a : Act} {C : World → Prop} {K : Act → Prop} (x : Operand) (ho : o.op = .load 26 x) (g : Nat) (hx : a.eval x = .pointer (some ⟨g, 0, none⟩)) (L : List B) (hb : ∀ w, C w → BmAt w g L) (hk : K (a.put o.dst (.agg (brow L)))) : o.quiet Tryd.prog a C K := by
  refine ⟨.agg (brow L), fun w hw => ?_, hk⟩
  unfold Oper.quietAt execOp
  simp only [ho, hx, Instr.loadAt, Instr.sureAddr, Sem.run_bind, Sem.run_pure, Result.andThen_ok, run_load23 (hb w hw)]
  exact ⟨rfl, rfl⟩

theorem wpList_store23 {ops : Array Oper} {rest : List Oper} {o : Oper} {a : Act} {w : World} {Q : Exit → Act → World → Prop} (hgd : o.guard = none) (x y : Operand) (ho : o.op = .store 26 x y) (g : Nat) (hx : a.eval x = .pointer (some ⟨g, 0, none⟩)) (L : List B) (hy : a.eval y = .agg (brow L)) (hL : L.length = 16)
    (L' : List B) (hb : BmAt w g L') (h : ∀ w', BmAt w' g L → Keeps (· = g) w w' → wpList Tryd.prog ops Q rest (a.put o.dst undef) w') : wpList Tryd.prog ops Q (o :: rest) a w := by
  refine wpList_plain hgd fun K hK => ?_
  unfold Oper.wp execOp
  simp only [ho, hx, hy, Instr.storeAt, Instr.sureAddr, Sem.run_bind, Sem.run_pure, Result.andThen_ok, run_storeVar_row w g 26 26 (brow L') (brow L) hb.row (by rw [size_brow, hL]; exact size23) (by rw [size_brow, size_brow, hL, hb.len]) (brow_one L)]
  exact hK _ _ (h _ ⟨setRow_heap w g _ _ _ _ hb.row, hL⟩ ((Keeps.refl (· = g) w).setRow (.inl rfl) _))

/-- A bitmap and a number are told. -/
theorem bm_results_row_slot {fn : Func} {p q : Tmp} (h : fn.results = #[.cell p 26, .tmp q]) (tmps : Array Value) (w : World) (g : Nat) (L : List B) (v : Value) (hp : tmps.getD p undef = .pointer (some ⟨g, 0, none⟩)) (hq : tmps.getD q undef = v) (hb : BmAt w g L) :
    (results fn tmps).run Tryd.prog w = .ok (.tuple #[.agg (brow L), v]) w := by
  have hp' : tmps[p]?.getD undef = .pointer (some ⟨g, 0, none⟩) := by simpa using hp
  have hq' : tmps[q]?.getD undef = v := by simpa using hq
  simp [results, h, hp', hq', asAddr, run_load23 hb]

theorem eq23 {x y : List B} (hx : x.length = 16) (hy : y.length = 16) (w : World) : (Op.equalIn 10000 26 (.agg (brow x)) (.agg (brow y))).run Tryd.prog w = .ok (decide (x = y)) w :=
  run_equalIn_row 9998 26 16 Tryd.underlying26 x y hx hy w
end

/-! Wi: With, of both sides. -/
section
open Go.RowKit Go.Sort

theorem wth_bad {L : List B} {f n : Int} (h : n < 1 ∨ f < 0 ∨ 128 < f + n) : wth L f n = (zb 16, 1) := by
  unfold wth; rw [if_neg (by omega)]
theorem wth_full {L : List B} {f n : Nat} (h1 : 1 ≤ n) (h2 : f + n ≤ 128) (hf : freeB L f n = false) : wth L (f : Int) (n : Int) = (zb 16, 11) := by
  unfold wth; rw [if_pos (by omega)]; simp [hf]
theorem wth_ok {L : List B} {f n : Nat} (h1 : 1 ≤ n) (h2 : f + n ≤ 128) (hf : freeB L f n = true) : wth L (f : Int) (n : Int) = (setn L f n, 0) := by
  unfold wth; rw [if_pos (by omega)]; simp [hf]

theorem one_shl (k : Nat) (hk : k < 8) : (2 : Int) ^ k % 256 = nb (1#8 <<< k) := by
  have : ∀ k : Fin 8, (2 : Int) ^ k.val % 256 = ((1#8 <<< k.val : BitVec 8).toNat : Int) := by decide +kernel
  exact this ⟨k, hk⟩
theorem or_bit (x : B) (k : Nat) (hk : k < 8) : bits .or .u8 (nb x) ((2 : Int) ^ k % 256) = nb (x ||| (1#8 <<< k)) := by rw [one_shl k hk, bits_or8]

/-- What With tells, as values. -/
def told (r : List B × Int) : Value := .tuple #[.agg (brow r.1), .int .i64 r.2]

/-- Behind some rounds: from f up to c less 1 all is taken. -/
structure WiIn (g3 g6 : Nat) (w wr : World) (L : List B) (f c : Nat) : Prop where
  m : BmAt wr g3 (setn L f (c - f))
  z : BmAt wr g6 (zb 16)
  free : freeB L f (c - f) = true
  keeps : Keeps (fun _ => False) w wr
theorem WiIn.bit {g3 g6 f c : Nat} {w wr : World} {L : List B} (h : WiIn g3 g6 w wr L f c) (hc : f ≤ c) (hc2 : c ≤ 128) (hL : L.length = 16) : bit (setn L f (c - f)) c = bit L c := by
  rw [bit_setn hL (by omega)]
  have : ¬ (f ≤ c ∧ c < f + (c - f)) := by omega
  simp only [this, decide_false, Bool.or_false]
theorem WiIn.next {g3 g6 f c : Nat} {w wr : World} {L : List B} (h : WiIn g3 g6 w wr L f c) (hc : f ≤ c) (hb : Go.Proofs.YtdgnjpdjohibeaaDoor.bit L c = false) (h3 : w.heap.size ≤ g3) (h36 : g3 ≠ g6) :
    WiIn g3 g6 w (wr.setCell ⟨g3, c / 8, none⟩ (.int .u8 (nb ((setn L f (c - f)).getD (c / 8) 0 ||| (1#8 <<< (c % 8)))))) L f (c + 1) := by
  have e : c + 1 - f = (c - f) + 1 := by omega
  have e2 : f + (c - f) = c := by omega
  refine ⟨?_, h.z.keeps ((Keeps.refl (· = g3) _).setCell (.inl rfl) _) (Ne.symm h36), ?_, h.keeps.setCell (.inr h3) _⟩
  · rw [e, setn, e2]
    exact h.m.set _ _
  · have := freeB_iff.1 h.free
    rw [e]
    refine freeB_iff.2 fun i hi => ?_
    rcases Nat.lt_or_ge i (c - f) with h1 | h1
    · exact this i h1
    · rw [show f + i = c by omega]; exact hb
theorem WiIn.drew {g3 g6 f c : Nat} {w wr : World} {L : List B} (h : WiIn g3 g6 w wr L f c) : WiIn g3 g6 w wr.drew L f c := ⟨⟨h.m.row, h.m.len⟩, ⟨h.z.row, h.z.len⟩, h.free, h.keeps.drew⟩

theorem WiIn.keep {g3 g6 f c : Nat} {w wr w3 : World} {L : List B} (h : WiIn g3 g6 w wr L f c) (k : Keeps (fun _ => False) wr w3) : WiIn g3 g6 w w3 L f c := ⟨h.m.keep k, h.z.keep k, h.free, h.keeps.trans k⟩
end

/-! Oc: Or and Count, of both sides. -/
section
open Go.RowKit Go.Sort

/-- Behind i rounds of Or. -/
def orP (x y : List B) (i : Nat) : List B := (List.range 16).map fun j => if j < i then x.getD j 0 ||| y.getD j 0 else x.getD j 0
theorem orP_len (x y : List B) (i : Nat) : (orP x y i).length = 16 := by simp [orP]
theorem orP_get (x y : List B) (i j : Nat) (hj : j < 16) : (orP x y i)[j]? = some (if j < i then x.getD j 0 ||| y.getD j 0 else x.getD j 0) := by
  simp [orP, List.getElem?_map, List.getElem?_range hj]
theorem orP_zero {x y : List B} (hx : x.length = 16) : orP x y 0 = x := by
  apply List.ext_getElem?
  intro j
  rcases Nat.lt_or_ge j 16 with h | h
  · rw [orP_get _ _ _ _ h, if_neg (by omega), getD_lt (by omega), List.getElem?_eq_getElem (by omega)]
  · rw [List.getElem?_eq_none (by rw [orP_len]; exact h), List.getElem?_eq_none (by omega)]
theorem orP_end {x y : List B} (hx : x.length = 16) (hy : y.length = 16) : orP x y 16 = orL x y := by
  apply List.ext_getElem?
  intro j
  rcases Nat.lt_or_ge j 16 with h | h
  · rw [orP_get _ _ _ _ h, if_pos h, getD_lt (by omega), getD_lt (by omega), orL, List.getElem?_zipWith, List.getElem?_eq_getElem (by omega), List.getElem?_eq_getElem (by omega)]
  · rw [List.getElem?_eq_none (by rw [orP_len]; exact h), List.getElem?_eq_none (by rw [orL_len hx hy]; exact h)]
theorem orP_next {x y : List B} {i : Nat} (hi : i < 16) : (orP x y i).set i (x.getD i 0 ||| y.getD i 0) = orP x y (i + 1) := by
  apply List.ext_getElem?
  intro j
  rcases Nat.lt_or_ge j 16 with h | h
  · by_cases e : i = j
    · subst e
      rw [List.getElem?_set_self (by rw [orP_len]; exact h), orP_get _ _ _ _ h, if_pos (by omega)]
    · rw [List.getElem?_set_ne e, orP_get _ _ _ _ h, orP_get _ _ _ _ h]
      by_cases h2 : j < i
      · rw [if_pos h2, if_pos (by omega)]
      · rw [if_neg h2, if_neg (by omega)]
  · rw [List.getElem?_eq_none (by rw [List.length_set, orP_len]; exact h), List.getElem?_eq_none (by rw [orP_len]; exact h)]
theorem orP_at {x y : List B} {i : Nat} (hi : i < 16) : (orP x y i).getD i 0 = x.getD i 0 := by
  rw [List.getD_eq_getElem?_getD, orP_get _ _ _ _ hi, if_neg (by omega)]; rfl

structure OrIn (g2 g3 g4 : Nat) (w wr : World) (x y : List B) (i : Nat) : Prop where
  m : BmAt wr g2 (orP x y i)
  y : BmAt wr g3 y
  z : BmAt wr g4 (zb 16)
  keeps : Keeps (fun _ => False) w wr
theorem OrIn.next {g2 g3 g4 i : Nat} {w wr : World} {x y : List B} (h : OrIn g2 g3 g4 w wr x y i) (hi : i < 16) (h2 : w.heap.size ≤ g2) (h23 : g2 ≠ g3) (h24 : g2 ≠ g4) :
    OrIn g2 g3 g4 w (wr.setCell ⟨g2, i, none⟩ (.int .u8 (nb (x.getD i 0 ||| y.getD i 0)))) x y (i + 1) := by
  refine ⟨?_, h.y.keeps ((Keeps.refl (· = g2) _).setCell (.inl rfl) _) (Ne.symm h23), h.z.keeps ((Keeps.refl (· = g2) _).setCell (.inl rfl) _) (Ne.symm h24), h.keeps.setCell (.inr h2) _⟩
  rw [← orP_next hi]
  exact h.m.set _ _
theorem OrIn.drew {g2 g3 g4 i : Nat} {w wr : World} {x y : List B} (h : OrIn g2 g3 g4 w wr x y i) : OrIn g2 g3 g4 w wr.drew x y i := ⟨⟨h.m.row, h.m.len⟩, ⟨h.y.row, h.y.len⟩, ⟨h.z.row, h.z.len⟩, h.keeps.drew⟩

theorem run_index23 (y : List B) (hy : y.length = 16) (i : Nat) (hi : i < 16) (w : World) : (Instr.index 26 (.agg (brow y)) (.int .i64 (i : Int))).run Tryd.prog w = .ok (.int .u8 (nb (y.getD i 0))) w := by
  have hs5 : (sizeOf 5).run Tryd.prog w = .ok 1 w := by simp [go_sem]
  have hp := run_part5 y (i * 1) (by omega) w
  have hp' := run_part5 y i (by omega) w
  rw [getD_lt (by omega)]
  have h1 : (0 : Int) ≤ (i : Int) ∧ (i : Int) < 16 := by omega
  simp [Instr.index, Sem.run_bind, run_underlying Tryd.underlying26, hs5, hp', asIntOf, h1.1, h1.2, hi]

structure CtIn (g2 : Nat) (w wr : World) (L : List B) : Prop where
  m : BmAt wr g2 L
  keeps : Keeps (fun _ => False) w wr
theorem CtIn.keep {g2 : Nat} {w wr w' : World} {L : List B} (h : CtIn g2 w wr L) (k : Keeps (fun _ => False) wr w') : CtIn g2 w w' L := ⟨h.m.keep k, h.keeps.trans k⟩

theorem count15 (w : World) (L : List B) (hL : L.length = 16) (k : Int) (hk : -9223372036854775808 ≤ k ∧ k ≤ 9223372036854775807) :
    Calls Tryd.prog 52 #[.agg (brow L), .int .i64 k] w fun e w' => e = .returned (.int .i64 (cnt L (min k.toNat 128) : Int)) ∧ Keeps (fun _ => False) w w' := by
  obtain ⟨N, hN⟩ : ∃ N : Nat, min k.toNat 128 = N := ⟨_, rfl⟩
  have HN : Hid (∀ b : Nat, b < N ↔ ((b : Int) < k ∧ b < 128)) := fun b => by omega
  have hN2 : N ≤ 128 := by omega
  rw [hN]
  clear hN
  go_enter Tryd.func52, Tryd.ntmps52
  have hcase : k ≤ 128 ∨ 128 < k := by omega
  rcases hcase with hkk | hkk
  all_goals
    go_wp2_with (first
      | (refine wpList_box23 rfl _ rfl L hL rfl ?_; intro g2 w1 b1 z1 k1))
    go_loopw [5, 9] (fun v t wr => ∃ b : Nat, b ≤ N ∧ t = .int .i64 b ∧ v = .int .i64 (cnt L b : Int) ∧ CtIn g2 w wr L) (fun _ t _ => N - (intOf t).toNat)
    case atStart => exact ⟨0, by omega, rfl, rfl, b1, k1⟩
    case round =>
      obtain ⟨b, hb, rfl, rfl, hC⟩ := hrel
      have hcb := cnt_le L b
      by_cases hlt : b < N
      · obtain ⟨h1, h2⟩ := (HN.out b).1 hlt
        have h2' : (b : Int) < 128 := by omega
        have bm := hC.m
        have hnext : cnt L (b + 1) = cnt L b + (bit L b).toNat := rfl
        have hcall := has_nat (L := L) h2
        cases hbit : bit L b with
        | true =>
          rw [hbit] at hcall hnext
          have HX : Hid (cnt L (b + 1) = cnt L b + 1) := hnext
          clear hnext
          generalize cnt L b = v at *
          go_wp2_with (first
            | (refine wpList_load23 rfl _ rfl g2 rfl L bm ?_)
            | (go_at_call 60; refine (has11 _ L bm.len _).mono ?_; rintro e w3 ⟨rfl, k3⟩; rw [hcall]; have hC3 := hC.keep k3; clear hC))
          exact ⟨⟨b + 1, by omega, rfl, by rw [HX.out]; rfl, hC3⟩, by simp [intOf]; omega⟩
        | false =>
          rw [hbit] at hcall hnext
          have HX : Hid (cnt L (b + 1) = cnt L b) := hnext
          clear hnext
          generalize cnt L b = v at *
          go_wp2_with (first
            | (refine wpList_load23 rfl _ rfl g2 rfl L bm ?_)
            | (go_at_call 60; refine (has11 _ L bm.len _).mono ?_; rintro e w3 ⟨rfl, k3⟩; rw [hcall]; have hC3 := hC.keep k3; clear hC))
          exact ⟨⟨b + 1, by omega, rfl, by rw [HX.out], hC3⟩, by simp [intOf]; omega⟩
      · obtain rfl : b = N := by omega
        have h1 := HN.out b
        have h2 : ¬ (b : Int) < k ∨ ¬ b < 128 := by omega
        have h3 : k ≤ 128 → ¬ (b : Int) < k := by omega
        have h4 : 128 < k → ¬ (b : Int) < 128 := by omega
        first | (have h5 := h3 hkk) | (have h5 := h4 hkk)
        clear h1 h2 h3 h4
        go_wp2
        go_ret
        exact ⟨rfl, hC.keeps⟩

theorem count16 (w : World) (L : List B) (hL : L.length = 16) (k : Int) (hk : -9223372036854775808 ≤ k ∧ k ≤ 9223372036854775807) :
    Calls Tryd.prog 38 #[.agg (brow L), .int .i64 k] w fun e w' => e = .returned (.int .i64 (cnt L (min k.toNat 128) : Int)) ∧ Keeps (fun _ => False) w w' := by
  obtain ⟨N, hN⟩ : ∃ N : Nat, min k.toNat 128 = N := ⟨_, rfl⟩
  have HN : Hid (∀ b : Nat, b < N ↔ ((b : Int) < k ∧ b < 128)) := fun b => by omega
  have hN2 : N ≤ 128 := by omega
  rw [hN]
  clear hN
  go_enter Tryd.func38, Tryd.ntmps38
  go_wp2_with (first
    | (refine wpList_box23 rfl _ rfl L hL rfl ?_; intro g2 w1 b1 z1 k1))
  go_loopw [5, 6] (fun v t wr => ∃ b : Nat, b ≤ N ∧ t = .int .i64 b ∧ v = .int .i64 (cnt L b : Int) ∧ CtIn g2 w wr L) (fun _ t _ => N - (intOf t).toNat)
  case atStart => exact ⟨0, by omega, rfl, rfl, b1, k1⟩
  case round =>
    obtain ⟨b, hb, rfl, rfl, hC⟩ := hrel
    have hcb := cnt_le L b
    by_cases hlt : b < N
    · obtain ⟨h1, h2⟩ := (HN.out b).1 hlt
      have h2' : (b : Int) < 128 := by omega
      have bm := hC.m
      have hnext : cnt L (b + 1) = cnt L b + (bit L b).toNat := rfl
      have hcall := has_nat (L := L) h2
      cases hbit : bit L b with
      | true =>
        rw [hbit] at hcall hnext
        have HX : Hid (cnt L (b + 1) = cnt L b + 1) := hnext
        clear hnext
        generalize cnt L b = v at *
        go_wp2_with (first
          | (refine wpList_load23 rfl _ rfl g2 rfl L bm ?_)
          | (go_at_call 37; refine (has12 _ L bm.len _).mono ?_; rintro e w3 ⟨rfl, k3⟩; rw [hcall]; have hC3 := hC.keep k3; clear hC))
        exact ⟨⟨b + 1, by omega, rfl, by rw [HX.out]; rfl, hC3⟩, by simp [intOf]; omega⟩
      | false =>
        rw [hbit] at hcall hnext
        have HX : Hid (cnt L (b + 1) = cnt L b) := hnext
        clear hnext
        generalize cnt L b = v at *
        go_wp2_with (first
          | (refine wpList_load23 rfl _ rfl g2 rfl L bm ?_)
          | (go_at_call 37; refine (has12 _ L bm.len _).mono ?_; rintro e w3 ⟨rfl, k3⟩; rw [hcall]; have hC3 := hC.keep k3; clear hC))
        exact ⟨⟨b + 1, by omega, rfl, by rw [HX.out], hC3⟩, by simp [intOf]; omega⟩
    · obtain rfl : b = N := by omega
      have h1 := HN.out b
      by_cases h2 : (b : Int) < k
      · have h5 : ¬ (b : Int) < 128 := by omega
        clear h1
        go_wp2
        go_ret
        exact ⟨rfl, hC.keeps⟩
      · clear h1
        go_wp2
        go_ret
        exact ⟨rfl, hC.keeps⟩
end

end Go.Proofs.YtdgnjpdjohibeaaDoor
