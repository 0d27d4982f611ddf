
/-
  One code point's bytes: how many, cut, and what they begin with.
-/
import Derived.Test.YtkcnnkakpkdhkaaDoorUf
set_option linter.all false
namespace Go.Proofs.YtkcnnkakpkdhkaaDoor
open Go.Lib

theorem vd_bad {l : List UInt8} (h0 : l ≠ []) (h : bad l) : vd l = false := by
  unfold vd; rw [sgn_bad h0 h]; rfl
/-- A byte that stands behind the first. -/
theorem bad_tail {b : UInt8} {l : List UInt8} (h : b.toNat / 64 = 2) : bad (b :: l) := by
  unfold bad dN decodeN
  simp only [List.getD_cons_zero]
  rw [if_neg (by omega), if_neg (by omega), if_neg (by omega), if_neg (by omega)]
  exact ⟨rfl, rfl⟩
theorem bad_short2 {b : UInt8} (h : 192 ≤ b.toNat) : bad [b] := by
  unfold bad dN decodeN
  simp only [List.getD_cons_zero, List.length_cons, List.length_nil]
  rw [if_neg (by omega), if_neg (by omega), if_neg (by omega), if_neg (by omega)]
  exact ⟨rfl, rfl⟩
theorem bad_short3 {b c : UInt8} (h : 224 ≤ b.toNat) : bad [b, c] := by
  unfold bad dN decodeN
  simp only [List.getD_cons_zero, List.length_cons, List.length_nil]
  rw [if_neg (by omega), if_neg (by omega), if_neg (by omega), if_neg (by omega)]
  exact ⟨rfl, rfl⟩
theorem bad_short4 {b c d : UInt8} (h : 240 ≤ b.toNat) : bad [b, c, d] := by
  unfold bad dN decodeN
  simp only [List.getD_cons_zero, List.length_cons, List.length_nil]
  rw [if_neg (by omega), if_neg (by omega), if_neg (by omega), if_neg (by omega)]
  exact ⟨rfl, rfl⟩

/-- What the law asks of a code point's bytes, n of them. -/
structure Frm (E : List UInt8) (n : Nat) : Prop where
  len : E.length = n
  cut : ∀ i, 1 ≤ i → i < n → vd (E.take i) = false
  rest : ∀ i, 1 ≤ i → i < n → vd (E.drop i) = false
  top : ∀ i, 1 ≤ i → i < n → (E.getD i 0).toNat / 64 = 2
  one : n = 1 ↔ (E.getD 0 0).toNat < 128

theorem frm1 {v : Int} (h0 : 0 ≤ v) (h1 : v < 128) : Frm (encodeRune v) 1 := by
  have e : encodeRune v = [v.toNat.toUInt8] := by simp [encodeRune, encodeRuneZ_one h0 (by omega)]
  rw [e]
  exact ⟨rfl, fun i _ _ => by omega, fun i _ _ => by omega, fun i _ _ => by omega, by simp; omega⟩
theorem frm2 {v : Int} (h0 : 128 ≤ v) (h1 : v < 2048) : Frm (encodeRune v) 2 := by
  have e : encodeRune v = [(192 + v / 64).toNat.toUInt8, (128 + v % 64).toNat.toUInt8] := by simp only [encodeRune, encodeRuneZ_two (r := v) h0 (by omega), List.map_cons, List.map_nil]
  have a0 := u8n (x := 192 + v / 64) (by omega) (by omega)
  have a1 := u8n (x := 128 + v % 64) (by omega) (by omega)
  generalize (192 + v / 64).toNat.toUInt8 = p at *
  generalize (128 + v % 64).toNat.toUInt8 = q at *
  rw [e]
  refine ⟨rfl, fun i hi hj => ?_, fun i hi hj => ?_, fun i hi hj => ?_, ?_⟩
  · obtain rfl : i = 1 := by omega
    exact vd_bad (by simp) (bad_short2 (by omega))
  · obtain rfl : i = 1 := by omega
    exact vd_bad (by simp) (bad_tail (by omega))
  · obtain rfl : i = 1 := by omega
    show q.toNat / 64 = 2
    omega
  · show 2 = 1 ↔ p.toNat < 128
    omega
theorem frm3 {v : Int} (h : (2048 ≤ v ∧ v < 55296) ∨ (57343 < v ∧ v ≤ 65535)) : Frm (encodeRune v) 3 := by
  have e : encodeRune v = [(224 + v / 4096).toNat.toUInt8, (128 + v / 64 % 64).toNat.toUInt8, (128 + v % 64).toNat.toUInt8] := by simp only [encodeRune, encodeRuneZ_three (r := v) h, List.map_cons, List.map_nil]
  have a0 := u8n (x := 224 + v / 4096) (by omega) (by omega)
  have a1 := u8n (x := 128 + v / 64 % 64) (by omega) (by omega)
  have a2 := u8n (x := 128 + v % 64) (by omega) (by omega)
  generalize (224 + v / 4096).toNat.toUInt8 = p at *
  generalize (128 + v / 64 % 64).toNat.toUInt8 = q at *
  generalize (128 + v % 64).toNat.toUInt8 = r at *
  rw [e]
  refine ⟨rfl, fun i hi hj => ?_, fun i hi hj => ?_, fun i hi hj => ?_, ?_⟩
  · obtain rfl | rfl : i = 1 ∨ i = 2 := by omega
    · exact vd_bad (by simp) (bad_short2 (by omega))
    · exact vd_bad (by simp) (bad_short3 (by omega))
  · obtain rfl | rfl : i = 1 ∨ i = 2 := by omega
    · exact vd_bad (by simp) (bad_tail (by omega))
    · exact vd_bad (by simp) (bad_tail (by omega))
  · obtain rfl | rfl : i = 1 ∨ i = 2 := by omega
    · show q.toNat / 64 = 2
      omega
    · show r.toNat / 64 = 2
      omega
  · show 3 = 1 ↔ p.toNat < 128
    omega
theorem frm4 {v : Int} (h0 : 65536 ≤ v) (h1 : v ≤ 1114111) : Frm (encodeRune v) 4 := by
  have e : encodeRune v = [(240 + v / 262144).toNat.toUInt8, (128 + v / 4096 % 64).toNat.toUInt8, (128 + v / 64 % 64).toNat.toUInt8, (128 + v % 64).toNat.toUInt8] := by simp only [encodeRune, encodeRuneZ_four (r := v) h0 h1, List.map_cons, List.map_nil]
  have a0 := u8n (x := 240 + v / 262144) (by omega) (by omega)
  have a1 := u8n (x := 128 + v / 4096 % 64) (by omega) (by omega)
  have a2 := u8n (x := 128 + v / 64 % 64) (by omega) (by omega)
  have a3 := u8n (x := 128 + v % 64) (by omega) (by omega)
  generalize (240 + v / 262144).toNat.toUInt8 = p at *
  generalize (128 + v / 4096 % 64).toNat.toUInt8 = q at *
  generalize (128 + v / 64 % 64).toNat.toUInt8 = r at *
  generalize (128 + v % 64).toNat.toUInt8 = s at *
  rw [e]
  refine ⟨rfl, fun i hi hj => ?_, fun i hi hj => ?_, fun i hi hj => ?_, ?_⟩
  · obtain rfl | rfl | rfl : i = 1 ∨ i = 2 ∨ i = 3 := by omega
    · exact vd_bad (by simp) (bad_short2 (by omega))
    · exact vd_bad (by simp) (bad_short3 (by omega))
    · exact vd_bad (by simp) (bad_short4 (by omega))
  · obtain rfl | rfl | rfl : i = 1 ∨ i = 2 ∨ i = 3 := by omega
    · exact vd_bad (by simp) (bad_tail (by omega))
    · exact vd_bad (by simp) (bad_tail (by omega))
    · exact vd_bad (by simp) (bad_tail (by omega))
  · obtain rfl | rfl | rfl : i = 1 ∨ i = 2 ∨ i = 3 := by omega
    · show q.toNat / 64 = 2
      omega
    · show r.toNat / 64 = 2
      omega
    · show s.toNat / 64 = 2
      omega
  · show 4 = 1 ↔ p.toNat < 128
    omega

end Go.Proofs.YtkcnnkakpkdhkaaDoor
