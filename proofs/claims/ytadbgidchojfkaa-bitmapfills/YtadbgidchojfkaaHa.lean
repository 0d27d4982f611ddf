/-
  Has, of both sides.
-/
import Derived.Test.YtadbgidchojfkaaBm
import Derived.Test.YtadbgidchojfkaaRn
import Derived.Test.YtadbgidchojfkaaPq
import Derived.Test.YtadbgidchojfkaaWh
set_option linter.all false
namespace Go.Proofs.Ytadbgidchojfkaa
open Go.RowKit

theorem and_bit (x : B) (k : Nat) (hk : k < 8) : (bits .and .u8 (nb x / 2 ^ k) 1 == 1) = x.getLsbD k := by
  have : ∀ (i : Fin 256) (k : Fin 8), (bits .and .u8 (((BitVec.ofFin i : BitVec 8).toNat : Int) / 2 ^ k.val) 1 == 1) = (BitVec.ofFin i : BitVec 8).getLsbD k.val := by decide +kernel
  exact this x.toFin ⟨k, hk⟩
theorem bits_or8 (x y : B) : bits .or .u8 (nb x) (nb y) = nb (x ||| y) := by
  have h : ∀ z : B, BitVec.ofInt 8 (nb z) = z := fun z => by unfold nb; rw [BitVec.ofInt_natCast, BitVec.ofNat_toNat, BitVec.setWidth_eq]
  have h2 : ∀ z : B, IntKind.u8.wrap (z.toNat : Int) = nb z := fun z => by
    have := z.isLt
    rw [IntKind.wrap_u8']; unfold nb; omega
  show IntKind.u8.wrap ((BitVec.ofInt 8 (nb x) ||| BitVec.ofInt 8 (nb y)).toNat : Int) = _
  rw [h, h]; exact h2 _
theorem has_in {L : List B} {b : Int} (h0 : 0 ≤ b ∧ b < 128) : has L b = bit L b.toNat := by
  unfold has; rw [decide_eq_false (by omega)]; rfl
theorem has_nat {L : List B} {b : Nat} (h0 : b < 128) : has L (b : Int) = bit L b := by
  rw [has_in (by omega)]; simp
theorem has_bit {L : List B} {b : Int} (h0 : 0 ≤ b ∧ b < 128) {x : B} (hx : L.getD (b.toNat / 8) 0 = x) : (bits .and .u8 (nb x / 2 ^ (b % 8).toNat) 1 == 1) = has L b := by
  rw [has_in h0, and_bit _ _ (by omega), bit, hx, show (b % 8).toNat = b.toNat % 8 by omega]

theorem isBlock18 (w : World) (b : Int) :
    Calls Try.prog 18 #[.int .i64 b] w fun e w' => e = .returned (.bool (decide (0 ≤ b ∧ b < 128))) ∧ w' = w := by
  go_enter Try.func18, Try.ntmps18
  by_cases h0 : 0 ≤ b
  · by_cases h1 : b < 128
    · go_wp2
      go_ret
      exact ⟨by simp [h0, h1], rfl⟩
    · go_wp2
      go_ret
      exact ⟨by simp [h0, h1], rfl⟩
  · go_wp2
    go_ret
    exact ⟨by rw [decide_eq_false (fun h => by omega)]; rfl, rfl⟩

theorem has11 (w : World) (L : List B) (hL : L.length = 16) (b : Int) :
    Calls Try.prog 11 #[.agg (brow L), .int .i64 b] w fun e w' => e = .returned (.bool (has L b)) ∧ Keeps (fun _ => False) w w' := by
  go_enter Try.func11, Try.ntmps11
  by_cases h0 : 0 ≤ b ∧ b < 128
  · obtain ⟨x, hx⟩ : ∃ x, L.getD (b.toNat / 8) 0 = x := ⟨_, rfl⟩
    have hc : (brow L)[(b / 8).toNat]? = some (.int .u8 (nb x)) := by
      rw [brow_get, ← hx, show (b / 8).toNat = b.toNat / 8 by omega, List.getElem?_eq_getElem (by omega), getD_lt (by omega)]; rfl
    have hb := nb_lt x
    go_wp2_with (go_at_call 18; refine (isBlock18 _ _).mono ?_; rintro e w1 ⟨rfl, rfl⟩; rw [decide_eq_true h0])
    go_ret
    refine ⟨?_, (Keeps.refl _ _).alloc _⟩
    exact congrArg (fun v => Ending.returned (.bool v)) (has_bit h0 hx)
  · go_wp2_with (go_at_call 18; refine (isBlock18 _ _).mono ?_; rintro e w1 ⟨rfl, rfl⟩; rw [decide_eq_false h0])
    go_ret
    refine ⟨?_, (Keeps.refl _ _).alloc _⟩
    unfold has
    rw [decide_eq_true (by omega)]; rfl

theorem has12 (w : World) (L : List B) (hL : L.length = 16) (b : Int) :
    Calls Try.prog 12 #[.agg (brow L), .int .i64 b] w fun e w' => e = .returned (.bool (has L b)) ∧ Keeps (fun _ => False) w w' := by
  go_enter Try.func12, Try.ntmps12
  by_cases h0 : b < 0
  · go_wp2
    go_ret
    refine ⟨?_, (Keeps.refl _ _).alloc _⟩
    unfold has
    rw [decide_eq_true (by omega)]; rfl
  · by_cases h1 : 128 ≤ b
    · go_wp2
      go_ret
      refine ⟨?_, (Keeps.refl _ _).alloc _⟩
      unfold has
      rw [decide_eq_true (by omega)]; rfl
    · obtain ⟨x, hx⟩ : ∃ x, L.getD (b.toNat / 8) 0 = x := ⟨_, rfl⟩
      have hc : (brow L)[(b / 8).toNat]? = some (.int .u8 (nb x)) := by
        rw [brow_get, ← hx, show (b / 8).toNat = b.toNat / 8 by omega, List.getElem?_eq_getElem (by omega), getD_lt (by omega)]; rfl
      have hb := nb_lt x
      go_wp2
      go_ret
      refine ⟨?_, (Keeps.refl _ _).alloc _⟩
      exact congrArg (fun v => Ending.returned (.bool v)) (has_bit ⟨h0, h1⟩ hx)

end Go.Proofs.Ytadbgidchojfkaa
