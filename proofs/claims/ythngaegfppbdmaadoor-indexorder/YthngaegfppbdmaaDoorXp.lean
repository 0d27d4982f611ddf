/-
  The index in plain mathematics: chunks of three, their leaves, the root, and back.
-/
import Derived.Test.YthngaegfppbdmaaDoorXe
import Derived.Test.YthngaegfppbdmaaDoorXq
set_option linter.all false
namespace Go.Proofs.YthngaegfppbdmaaDoor
open Go.RowKit

/-- Chunk i. -/
def ck (l : List En) (i : Nat) : List En := (l.drop (3 * i)).take 3
def nck (l : List En) : Nat := (l.length + 2) / 3
/-- The first k chunks' leaves. -/
def lvs (l : List En) (k : Nat) : List B := (List.range k).flatMap fun i => lf (ck l i)
theorem lvs_succ (l : List En) (k : Nat) : lvs l (k + 1) = lvs l k ++ lf (ck l k) := by simp [lvs, List.range_succ]
theorem ck_len (l : List En) (i : Nat) : (ck l i).length = min 3 (l.length - 3 * i) := by unfold ck; rw [List.length_take, List.length_drop]
theorem ck_get (l : List En) {i j : Nat} (h : j < 3) : (ck l i).getD j default = l.getD (3 * i + j) default := by
  unfold ck
  rw [List.getD_eq_getElem?_getD, List.getD_eq_getElem?_getD, List.getElem?_take, if_pos h, List.getElem?_drop]
theorem ck_keyed {l : List En} (h : Keyed l) (i : Nat) : Keyed (ck l i) := fun e he => h e (List.mem_of_mem_drop (List.mem_of_mem_take he))
theorem nck_le (l : List En) : 3 * nck l < l.length + 3 := by unfold nck; omega
theorem nck_ge (l : List En) : l.length ≤ 3 * nck l := by unfold nck; omega
theorem rises_less {l : List En} (h : rises l = true) {i : Nat} (hi : i + 1 < l.length) : lessB (l.getD i default).key (l.getD (i + 1) default).key = true := rises_lt h i (i + 1) (by omega) hi
theorem ix_iff {l : List En} : ix l = true ↔ rises l = true ∧ apt l = true := by unfold ix; rw [Bool.and_eq_true]
theorem ck_gd {l : List En} (h : ix l = true) {i : Nat} (hi : i < nck l) : gd (ck l i) = true := by
  obtain ⟨h1, h2⟩ := ix_iff.1 h
  have hl := ck_len l i
  have hn : 3 * i < l.length := by unfold nck at hi; omega
  refine gd_of (by omega) (by omega) (fun j hj => ?_) (fun j hj => ?_)
  · rw [ck_get l (by omega)]
    exact (okI_iff.1 (apt_iff.1 h2 (3 * i + j) (by omega))).1
  · rw [ck_get l (by omega), ck_get l (by omega)]
    exact rises_less h1 (i := 3 * i + j) (by omega)
theorem lvs_len {l : List En} (hk : Keyed l) : ∀ k, (lvs l k).length = k * 128
  | 0 => rfl
  | k + 1 => by
    rw [lvs_succ, List.length_append, lvs_len hk k, lf_len (ck_keyed hk k) (by rw [ck_len]; omega)]
    omega
theorem lvs_blk {l : List En} (hk : Keyed l) {k i : Nat} (hi : i < k) : blk (lvs l k) i = lf (ck l i) := by
  induction k with
  | zero => omega
  | succ k ih =>
    have hl := lvs_len hk k
    have h5 := lf_len (ck_keyed hk k) (by rw [ck_len]; omega)
    rw [lvs_succ]
    unfold blk at *
    by_cases e : i = k
    · subst e
      rw [List.drop_append, List.drop_of_length_le (by omega), hl, Nat.sub_self, List.nil_append, List.drop_zero, List.take_of_length_le (by omega)]
    · have hik : i < k := by omega
      have : (i + 1) * 128 ≤ k * 128 := Nat.mul_le_mul_right 128 hik
      rw [List.drop_append_of_le_length (by omega), List.take_append_of_le_length (by rw [List.length_drop]; omega)]
      exact ih hik

/-- What Pack tells: the blocks' bytes, how many they are, the error. -/
def pkR (l : List En) (p : List Int) : List B × Nat × Int :=
  if ix l = false then ([], 0, 11) else if (p.length : Int) ≠ sz l.length then ([], 0, 1) else if l.length = 0 then ([], 0, 0)
  else if okR (p.take (nck l)) = true then (lvs l (nck l) ++ rt (p.take (nck l)), nck l + 1, 0) else ([], 0, 11)
theorem sz_nat (n : Nat) (h : 0 < n) : sz (n : Int) = (((n + 2) / 3 + 1 : Nat) : Int) := by
  unfold sz
  rw [if_neg (by omega), Int.tdiv_eq_ediv_of_nonneg (by omega)]
  omega
theorem sz_zero : sz ((0 : Nat) : Int) = 0 := rfl
theorem pkR_len {l : List En} (hk : Keyed l) {p : List Int} {X : List B} {m : Nat} {v : Int} (h : pkR l p = (X, m, v)) : X.length = m * 128 := by
  unfold pkR at h
  split at h
  · cases h; rfl
  split at h
  · cases h; rfl
  split at h
  · cases h; rfl
  split at h
  · rename_i h4
    cases h
    rw [List.length_append, lvs_len hk, rt_len (okR_iff.1 h4).1.2]
    omega
  · cases h; rfl

/-- The entries of the first k blocks. -/
def ual (X : List B) (k : Nat) : List En := (List.range k).flatMap fun i => ents (blk X i)
theorem ual_succ (X : List B) (k : Nat) : ual X (k + 1) = ual X k ++ ents (blk X k) := by simp [ual, List.range_succ]
/-- Block i of m spoils all. -/
def ubad (X : List B) (m i : Nat) : Bool := !isLf (blk X i) || (decide ((ents (blk X i)).length < 3) && decide (i + 1 < m))
def unR (X : List B) (m : Nat) : List En × Int := if (List.range m).any (ubad X m) = false ∧ ix (ual X m) = true then (ual X m, 0) else ([], 11)
theorem unR_bad {X : List B} {m i : Nat} (hi : i < m) (h : ubad X m i = true) : unR X m = ([], 11) := by
  unfold unR
  rw [if_neg]
  rintro ⟨h1, _⟩
  rw [List.any_eq_false] at h1
  exact h1 i (List.mem_range.2 hi) h
theorem unR_end {X : List B} {m : Nat} (h : ∀ i, i < m → ubad X m i = false) : unR X m = if ix (ual X m) = true then (ual X m, 0) else ([], 11) := by
  unfold unR
  have : (List.range m).any (ubad X m) = false := by
    rw [List.any_eq_false]
    intro i hi
    rw [h i (List.mem_range.1 hi)]; simp
  simp only [this, true_and]
theorem ents_le (x : List B) : (ents x).length ≤ 3 := by unfold ents; rw [entN_len]; omega
theorem ual_len (X : List B) : ∀ k, (ual X k).length ≤ 3 * k
  | 0 => by simp [ual]
  | k + 1 => by
    rw [ual_succ, List.length_append]
    have := ual_len X k
    have := ents_le (blk X k)
    omega
theorem ual_keyed {X : List B} {m k : Nat} (hX : X.length = m * 128) (hk : k ≤ m) : Keyed (ual X k) := by
  intro e he
  unfold ual at he
  rw [List.mem_flatMap] at he
  obtain ⟨i, hi, he⟩ := he
  exact ents_keyed (blk_len X m i hX (by have := List.mem_range.1 hi; omega)) e he

theorem take_ordB {l : List En} {k i : Nat} (hi : i < k) : ordB (l.take k) i = ordB l i := by
  unfold ordB
  have h : ∀ j, j < k → (l.take k).getD j default = l.getD j default := fun j hj => by
    rw [List.getD_eq_getElem?_getD, List.getD_eq_getElem?_getD, List.getElem?_take, if_pos hj]
  rw [h i hi, h (i - 1) (by omega)]
theorem take_okI {l : List En} {k i : Nat} (hi : i < k) : okI (l.take k) i = okI l i := by
  have h : ∀ j, j < k → (l.take k).getD j default = l.getD j default := fun j hj => by
    rw [List.getD_eq_getElem?_getD, List.getD_eq_getElem?_getD, List.getElem?_take, if_pos hj]
  unfold okI
  rw [h i hi]
  congr 1
  rw [Bool.eq_iff_iff, List.all_eq_true, List.all_eq_true]
  constructor
  · intro H j hj
    have := H j hj
    have hj' := List.mem_range.1 hj
    unfold ovl at *
    rw [h i hi, h j (by omega)] at this
    exact this
  · intro H j hj
    have := H j hj
    have hj' := List.mem_range.1 hj
    unfold ovl at *
    rw [h i hi, h j (by omega)]
    exact this
theorem ix_take {l : List En} (h : ix l = true) (k : Nat) : ix (l.take k) = true := by
  obtain ⟨h1, h2⟩ := ix_iff.1 h
  refine ix_iff.2 ⟨rises_iff.2 fun i hi => ?_, apt_iff.2 fun i hi => ?_⟩
  · rw [List.length_take] at hi
    rw [take_ordB (by omega)]; exact rises_iff.1 h1 i (by omega)
  · rw [List.length_take] at hi
    rw [take_okI (by omega)]; exact apt_iff.1 h2 i (by omega)
theorem ual_lvs {l : List En} (hk : Keyed l) (h : ix l = true) {m : Nat} (hm : m ≤ nck l) : ∀ k, k ≤ m → ual (lvs l m) k = l.take (3 * k)
  | 0, _ => by simp [ual]
  | k + 1, hkm => by
    rw [ual_succ, ual_lvs hk h hm k (by omega), lvs_blk hk (by omega), ents_lf (ck_keyed hk k) (ck_gd h (by omega))]
    unfold ck
    rw [show 3 * (k + 1) = 3 * k + 3 by omega, List.take_add]
theorem unR_lvs {l : List En} (hk : Keyed l) (h : ix l = true) {m : Nat} (hm : m ≤ nck l) : unR (lvs l m) m = (l.take (3 * m), 0) := by
  rw [unR_end, ual_lvs hk h hm m (Nat.le_refl _), if_pos (ix_take h _)]
  intro i hi
  have hg := ck_gd h (i := i) (by omega)
  unfold ubad
  rw [lvs_blk hk hi, isLf_lf (ck_keyed hk i) hg, ents_lf (ck_keyed hk i) hg, ck_len]
  by_cases e : i + 1 < m
  · rw [decide_eq_false (by have := nck_le l; omega)]; rfl
  · rw [decide_eq_false e, Bool.and_false]; rfl

theorem len_of_nodup : ∀ (N : Nat) (l : List Nat), (∀ x ∈ l, x < N) → l.Nodup → l.length ≤ N
  | 0, [], _, _ => by simp
  | 0, x :: l, h, _ => by have := h x (by simp); omega
  | N + 1, l, h, hn => by
    have h1 := len_of_nodup N (l.erase N) (fun x hx => by
      have h2 := (hn.mem_erase_iff).1 hx
      have := h x h2.2
      have := h2.1
      omega) (hn.erase N)
    rw [List.length_erase] at h1
    split at h1 <;> omega
theorem ix_len {l : List En} (h : ix l = true) : l.length ≤ 126 := by
  obtain ⟨_, h2⟩ := ix_iff.1 h
  have hp : ∀ i, i < l.length → 2 ≤ (l.getD i default).place ∧ (l.getD i default).place ≤ 127 ∧ 1 ≤ (l.getD i default).blocks := fun i hi => by
    have := (okI_iff.1 (apt_iff.1 h2 i hi)).1
    unfold one at this
    simp only [decide_eq_true_eq] at this
    omega
  have := len_of_nodup 126 ((List.range l.length).map fun i => ((l.getD i default).place - 2).toNat) (fun x hx => by
    obtain ⟨i, hi, rfl⟩ := List.mem_map.1 hx
    have := hp i (List.mem_range.1 hi)
    omega) (by
    have hq : ∀ i j, i < l.length → j < l.length → i < j → ((l.getD i default).place - 2).toNat ≠ ((l.getD j default).place - 2).toNat := fun i j _ hj hij e => by
      have h3 := hp i (by omega)
      have h4 := hp j hj
      have h5 := (okI_iff.1 (apt_iff.1 h2 j hj)).2 i hij
      unfold ovl at h5
      simp only [decide_eq_false_iff_not] at h5
      omega
    refine List.pairwise_iff_getElem.2 fun i j hi hj hij => ?_
    simp only [List.getElem_map, List.getElem_range]
    simp only [List.length_map, List.length_range] at hi hj
    exact hq i j hi hj hij)
  rwa [List.length_map, List.length_range] at this

end Go.Proofs.YthngaegfppbdmaaDoor
