
/-
  put: a word's bytes laid over bytes, the highest first.
-/
import Derived.Test.YtanmopbhglokmaaDoorSb
set_option linter.all false
namespace Go.Proofs.YtanmopbhglokmaaDoor
open Go.RowKit

/-- The n lowest bytes of x, the highest first. -/
def beN (n x : Nat) : List B := (List.range n).map fun i => BitVec.ofNat 8 (x / 256 ^ (n - 1 - i))
theorem beN_len (n x : Nat) : (beN n x).length = n := by simp [beN]
theorem beN_drop (n x j : Nat) (hj : j < n) : (beN n x).drop j = BitVec.ofNat 8 (x / 256 ^ (n - 1 - j)) :: (beN n x).drop (j + 1) := by
  rw [List.drop_eq_getElem_cons (by rw [beN_len]; exact hj)]
  simp [beN]
theorem nb_ofNat (m : Nat) : nb (BitVec.ofNat 8 m) = (m : Int) % 256 := by simp [nb, BitVec.toNat_ofNat]

/-- bs laid over l from o on. -/
def ov (l : List B) (o : Nat) (bs : List B) : List B := l.take o ++ (bs ++ l.drop (o + bs.length))
theorem ov_len (l : List B) (o : Nat) (bs : List B) (h : o + bs.length ≤ l.length) : (ov l o bs).length = l.length := by simp [ov]; omega
/-- The last bytes, from j on, are laid. -/
def ovj (l : List B) (o n x j : Nat) : List B := l.take (o + j) ++ ((beN n x).drop j ++ l.drop (o + n))
theorem ovj_all (l : List B) (o n x : Nat) : ovj l o n x 0 = ov l o (beN n x) := by simp [ovj, ov, beN_len]
theorem ovj_none (l : List B) (o n x : Nat) : ovj l o n x n = l := by unfold ovj; rw [List.drop_eq_nil_of_le (by rw [beN_len]; omega)]; simp
theorem ovj_len (l : List B) (o n x j : Nat) (hj : j ≤ n) (h : o + n ≤ l.length) : (ovj l o n x j).length = l.length := by simp [ovj, beN_len]; omega
theorem ovj_set (l : List B) (o n x j : Nat) (hj : j < n) (h : o + n ≤ l.length) : (ovj l o n x (j + 1)).set (o + j) (BitVec.ofNat 8 (x / 256 ^ (n - (j + 1)))) = ovj l o n x j := by
  have e : l.take (o + (j + 1)) = l.take (o + j) ++ [l[o + j]'(by omega)] := by rw [← Nat.add_assoc, List.take_succ_eq_append_getElem (by omega)]
  have hl : (l.take (o + j)).length = o + j := by simp; omega
  unfold ovj
  rw [e, List.append_assoc, List.set_append_right _ _ (by omega), hl, Nat.sub_self, beN_drop n x j hj, show n - 1 - j = n - (j + 1) by omega]
  rfl
theorem div_next (x n j : Nat) (hj : j < n) : x / 256 ^ (n - (j + 1)) / 256 = x / 256 ^ (n - j) := by
  rw [Nat.div_div_eq_div_mul, ← Nat.pow_succ, show (n - (j + 1)).succ = n - j by omega]

set_option maxHeartbeats 1000000 in
theorem put22 (w : World) (g o n c x : Nat) (l : List B) (ty : TypeId) (hg : w.heap[g]? = some (.cells (brow l) ty (0, 0))) (hn : o + n ≤ l.length) (hm : n ≤ 64) (hx : x < 4294967296) :
    Calls Tryd.prog 33 #[.slice (some ⟨g, o, none⟩) n c, .int .u32 x] w fun e w' => e = .returned (.tuple #[]) ∧ w'.heap[g]? = some (.cells (brow (ov l o (beN n x))) ty (0, 0)) ∧ Keeps (· = g) w w' := by
  go_enter Tryd.func33, Tryd.ntmps33
  go_wp2
  go_loopw [1, 4] (fun t i wr => ∃ j : Nat, j ≤ n ∧ i = .int .i64 ((j : Int) - 1) ∧ t = .int .u32 ((x / 256 ^ (n - j) : Nat) : Int) ∧ wr.heap[g]? = some (.cells (brow (ovj l o n x j)) ty (0, 0)) ∧ Keeps (· = g) w wr) (fun _ i _ => (intOf i + 1).toNat)
  case atStart => exact ⟨n, by omega, by first | rfl | go_num, by simp, by rw [ovj_none]; exact hg, Keeps.refl _ _⟩
  case round =>
    obtain ⟨j, hj, rfl, rfl, gj, hk⟩ := hrel
    have hy : x / 256 ^ (n - j) < 4294967296 := Nat.lt_of_le_of_lt (Nat.div_le_self _ _) hx
    cases j with
    | succ j =>
      have e1 : ((j + 1 : Nat) : Int) - 1 = (j : Int) := by omega
      rw [e1]
      have Hs : Hid ((ovj l o n x (j + 1)).set (o + j) (BitVec.ofNat 8 (x / 256 ^ (n - (j + 1)))) = ovj l o n x j) := ovj_set l o n x j (by omega) hn
      have Hd : Hid (x / 256 ^ (n - (j + 1)) / 256 = x / 256 ^ (n - j)) := div_next x n j (by omega)
      generalize x / 256 ^ (n - (j + 1)) = y at *
      have hf := frozen_of_row wr g (o + j) _ _ gj
      have hc : ∃ v, wr.cell? ⟨g, o + j, none⟩ = some v := by
        have : o + j < (ovj l o n x (j + 1)).length := by rw [ovj_len l o n x _ hj hn]; omega
        rw [cell_of_row wr g (o + j) _ _ _ gj, brow_get]; simp [this]
      obtain ⟨v0, hc⟩ := hc
      have h1 : (j : Int) < (n : Int) := by omega
      clear e1
      go_wp2
      go_roundw
      case rel =>
        refine ⟨j, by omega, rfl, by rw [← Hd.out, Int.natCast_ediv]; rfl, ?_, hk.setCell (p := ⟨g, o + j, none⟩) (.inl rfl) _⟩
        rw [heap_setCell_same wr _ (o + j) _ _ _ gj, ← nb_ofNat, brow_set, Hs.out]
      case measure => simp [intOf]
    | zero =>
      go_wp2
      go_end0
      rw [ovj_all] at gj
      exact ⟨rfl, gj, hk⟩

set_option maxHeartbeats 1000000 in
theorem put21 (w : World) (g o n c x : Nat) (l : List B) (ty : TypeId) (hg : w.heap[g]? = some (.cells (brow l) ty (0, 0))) (hn : o + n ≤ l.length) (hm : n ≤ 64) (hx : x < 18446744073709551616) :
    Calls Tryd.prog 32 #[.slice (some ⟨g, o, none⟩) n c, .int .u64 x] w fun e w' => e = .returned (.tuple #[]) ∧ w'.heap[g]? = some (.cells (brow (ov l o (beN n x))) ty (0, 0)) ∧ Keeps (· = g) w w' := by
  go_enter Tryd.func32, Tryd.ntmps32
  go_wp2
  go_loopw [1, 4] (fun t i wr => ∃ j : Nat, j ≤ n ∧ i = .int .i64 ((j : Int) - 1) ∧ t = .int .u64 ((x / 256 ^ (n - j) : Nat) : Int) ∧ wr.heap[g]? = some (.cells (brow (ovj l o n x j)) ty (0, 0)) ∧ Keeps (· = g) w wr) (fun _ i _ => (intOf i + 1).toNat)
  case atStart => exact ⟨n, by omega, by first | rfl | go_num, by simp, by rw [ovj_none]; exact hg, Keeps.refl _ _⟩
  case round =>
    obtain ⟨j, hj, rfl, rfl, gj, hk⟩ := hrel
    have hy : x / 256 ^ (n - j) < 18446744073709551616 := Nat.lt_of_le_of_lt (Nat.div_le_self _ _) hx
    cases j with
    | succ j =>
      have e1 : ((j + 1 : Nat) : Int) - 1 = (j : Int) := by omega
      rw [e1]
      have Hs : Hid ((ovj l o n x (j + 1)).set (o + j) (BitVec.ofNat 8 (x / 256 ^ (n - (j + 1)))) = ovj l o n x j) := ovj_set l o n x j (by omega) hn
      have Hd : Hid (x / 256 ^ (n - (j + 1)) / 256 = x / 256 ^ (n - j)) := div_next x n j (by omega)
      generalize x / 256 ^ (n - (j + 1)) = y at *
      have hf := frozen_of_row wr g (o + j) _ _ gj
      have hc : ∃ v, wr.cell? ⟨g, o + j, none⟩ = some v := by
        have : o + j < (ovj l o n x (j + 1)).length := by rw [ovj_len l o n x _ hj hn]; omega
        rw [cell_of_row wr g (o + j) _ _ _ gj, brow_get]; simp [this]
      obtain ⟨v0, hc⟩ := hc
      have h1 : (j : Int) < (n : Int) := by omega
      clear e1
      go_wp2
      go_roundw
      case rel =>
        refine ⟨j, by omega, rfl, by rw [← Hd.out, Int.natCast_ediv]; rfl, ?_, hk.setCell (p := ⟨g, o + j, none⟩) (.inl rfl) _⟩
        rw [heap_setCell_same wr _ (o + j) _ _ _ gj, ← nb_ofNat, brow_set, Hs.out]
      case measure => simp [intOf]
    | zero =>
      go_wp2
      go_end0
      rw [ovj_all] at gj
      exact ⟨rfl, gj, hk⟩

end Go.Proofs.YtanmopbhglokmaaDoor
