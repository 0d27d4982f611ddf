/-
  An object's frame, in plain mathematics: bytes in whole blocks, one behind the other.
-/
import Derived.Test.YtanmopbhglokmaaDoorOh
set_option linter.all false
namespace Go.Proofs.YtanmopbhglokmaaDoor
open Go.RowKit

/-- What the check is of: the kind, the length, the body. -/
def txt (k : Int) (l : List B) : List B := kb k :: kb ((l.length / 256 : Nat) : Int) :: kb (l.length : Int) :: l
def chk (k : Int) (l : List B) : List B := txt k l ++ (sha (txt k l)).take 4
def padB (t : List B) : List B := t ++ zb ((128 - t.length % 128) % 128)
def blk (L : List B) (i : Nat) : List B := (L.drop (i * 128)).take 128
/-- An object's frame. -/
def fr (k : Int) (l : List B) : List B := padB (chk k l)

theorem txt_len (k : Int) (l : List B) : (txt k l).length = l.length + 3 := by simp [txt]
theorem chk_len (k : Int) (l : List B) : (chk k l).length = l.length + 7 := by
  unfold chk; rw [List.length_append, txt_len, List.length_take, sha_len]; omega
theorem padB_len (t : List B) : (padB t).length = (t.length + 127) / 128 * 128 := by
  unfold padB; rw [List.length_append, zb_len]; omega
theorem fr_len (k : Int) (l : List B) : (fr k l).length = (l.length + 134) / 128 * 128 := by
  unfold fr; rw [padB_len, chk_len]
theorem padB_take (t : List B) : (padB t).take t.length = t := by unfold padB; simp
theorem blk_len (L : List B) (n i : Nat) (h : L.length = n * 128) (hi : i < n) : (blk L i).length = 128 := by
  unfold blk; rw [List.length_take, List.length_drop, h]
  have : (i + 1) * 128 ≤ n * 128 := Nat.mul_le_mul_right 128 hi
  omega
theorem blk_get (L : List B) (i j : Nat) (hj : j < 128) : (blk L i)[j]? = L[i * 128 + j]? := by
  unfold blk; rw [List.getElem?_take, if_pos hj, List.getElem?_drop]
/-- Rows of as many blocks are the same, if each block is. -/
theorem eq_of_blk {L M : List B} {n : Nat} (hL : L.length = n * 128) (hM : M.length = n * 128) (h : ∀ i, i < n → blk L i = blk M i) : L = M := by
  apply List.ext_getElem?
  intro j
  rcases Nat.lt_or_ge j (n * 128) with hj | hj
  · have h1 := h (j / 128) (by omega)
    have h2 := blk_get L (j / 128) (j % 128) (by omega)
    have h3 := blk_get M (j / 128) (j % 128) (by omega)
    rw [show j / 128 * 128 + j % 128 = j by omega] at h2 h3
    rw [← h2, ← h3, h1]
  · rw [List.getElem?_eq_none (by omega), List.getElem?_eq_none (by omega)]

def kindOf (L : List B) : Int := nb (L.getD 0 0)
def lnOf (L : List B) : Nat := 256 * (L.getD 1 0).toNat + (L.getD 2 0).toNat
def bodyOf (L : List B) : List B := (L.drop 3).take (lnOf L)
/-- L is an object's frame. -/
structure IsObj (L : List B) : Prop where
  k1 : 1 ≤ kindOf L
  k6 : kindOf L ≤ 6
  ln : lnOf L ≤ 1000
  eq : L = fr (kindOf L) (bodyOf L)

theorem kb_nat (n : Nat) : (kb (n : Int)).toNat = n % 256 := by
  have h := nb_kb (n : Int)
  unfold nb at h
  omega
theorem fr_cons (k : Int) (l : List B) : ∃ r, fr k l = kb k :: kb ((l.length / 256 : Nat) : Int) :: kb (l.length : Int) :: (l ++ r) := by
  unfold fr padB chk txt
  exact ⟨_, by simp only [List.cons_append, List.append_assoc]; rfl⟩
theorem fr_kind (k : Int) (l : List B) : kindOf (fr k l) = k % 256 := by
  obtain ⟨r, e⟩ := fr_cons k l
  unfold kindOf; rw [e]; simp [nb_kb]
theorem fr_ln (k : Int) (l : List B) (h : l.length < 65536) : lnOf (fr k l) = l.length := by
  obtain ⟨r, e⟩ := fr_cons k l
  unfold lnOf; rw [e]
  simp only [List.getD_cons_succ, List.getD_cons_zero, kb_nat]
  omega
theorem fr_body (k : Int) (l : List B) (h : l.length < 65536) : bodyOf (fr k l) = l := by
  unfold bodyOf; rw [fr_ln k l h]
  obtain ⟨r, e⟩ := fr_cons k l
  rw [e]; simp
theorem fr_obj (k : Int) (l : List B) (h1 : 1 ≤ k) (h6 : k ≤ 6) (hl : l.length ≤ 1000) : IsObj (fr k l) := by
  have e1 : kindOf (fr k l) = k := by rw [fr_kind]; omega
  have e2 := fr_ln k l (by omega)
  have e3 := fr_body k l (by omega)
  exact ⟨by omega, by omega, by omega, by rw [e1, e3]⟩
theorem bodyOf_le (L : List B) : (bodyOf L).length ≤ lnOf L := by unfold bodyOf; rw [List.length_take]; omega
theorem IsObj.body {L : List B} (h : IsObj L) : (bodyOf L).length = lnOf L := by
  have h1 := bodyOf_le L
  have h2 := h.ln
  have h3 := fr_ln (kindOf L) (bodyOf L) (by omega)
  rw [← h.eq] at h3; exact h3.symm
theorem IsObj.len {L : List B} (h : IsObj L) : L.length = (lnOf L + 134) / 128 * 128 := by
  have := fr_len (kindOf L) (bodyOf L)
  rw [← h.eq, h.body] at this; exact this
/-- How many blocks a body of n bytes takes. -/
def nblk (n : Int) : Int := if 0 ≤ n ∧ n ≤ 1000 then (n + 134) / 128 else 0
theorem obj_iff {L : List B} {n : Nat} (hL : L.length = n * 128) (h1 : 1 ≤ kindOf L) (h6 : kindOf L ≤ 6) (hn : (n : Int) = nblk (lnOf L)) (h0 : 0 < n) : lnOf L ≤ 1000 ∧ (bodyOf L).length = lnOf L ∧ (fr (kindOf L) (bodyOf L)).length = n * 128 := by
  unfold nblk at hn
  split at hn
  · rename_i h
    have h3 : lnOf L ≤ 1000 := by omega
    have h4 : n = (lnOf L + 134) / 128 := by omega
    have h5 : (bodyOf L).length = lnOf L := by
      unfold bodyOf; rw [List.length_take, List.length_drop]; omega
    exact ⟨h3, h5, by rw [fr_len, h5, ← h4]⟩
  · omega
theorem not_obj_n {L : List B} {n : Nat} (hL : L.length = n * 128) (h : ¬ (1 ≤ kindOf L ∧ kindOf L ≤ 6 ∧ (n : Int) = nblk (lnOf L))) : ¬ IsObj L := fun ho => by
  refine h ⟨ho.k1, ho.k6, ?_⟩
  have h1 := ho.len
  have h2 := ho.ln
  unfold nblk
  rw [if_pos (by omega)]
  omega

end Go.Proofs.YtanmopbhglokmaaDoor
