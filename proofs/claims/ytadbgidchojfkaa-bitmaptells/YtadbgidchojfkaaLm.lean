/-
  Bitmaps: what the laws rest on.
-/
import Derived.Test.YtadbgidchojfkaaWk
set_option linter.all false
namespace Go.Proofs.Ytadbgidchojfkaa
open Go.RowKit Go.Sort

theorem or_comm' {x y : List B} (hx : x.length = 16) (hy : y.length = 16) : orL y x = orL x y :=
  ext_bits (orL_len hy hx) (orL_len hx hy) fun b hb => by rw [bit_orL hy hx hb, bit_orL hx hy hb, Bool.or_comm]
theorem or_self' {x : List B} (hx : x.length = 16) : orL x x = x :=
  ext_bits (orL_len hx hx) hx fun b hb => by rw [bit_orL hx hx hb, Bool.or_self]
theorem or_twice {x y : List B} (hx : x.length = 16) (hy : y.length = 16) : orL (orL x y) y = orL x y :=
  ext_bits (orL_len (orL_len hx hy) hy) (orL_len hx hy) fun b hb => by rw [bit_orL (orL_len hx hy) hy hb, bit_orL hx hy hb, Bool.or_assoc, Bool.or_self]
theorem or_setn {L : List B} (hL : L.length = 16) {f n : Nat} (h : f + n ≤ 128) : orL L (setn L f n) = setn L f n :=
  ext_bits (orL_len hL (by rw [setn_len, hL])) (by rw [setn_len, hL]) fun b hb => by rw [bit_orL hL (by rw [setn_len, hL]) hb, bit_setn hL h, ← Bool.or_assoc, Bool.or_self]
theorem setn_taken {L : List B} (hL : L.length = 16) {f n : Nat} (h : f + n ≤ 128) (hn : 1 ≤ n) : wth (setn L f n) (f : Int) 1 = (zb 16, 11) := by
  refine wth_full (n := 1) (by omega) (by omega) (freeB_false.2 ⟨0, by omega, ?_⟩)
  rw [bit_setn hL h, decide_eq_true (by omega), Bool.or_true]
theorem freeB_succ (L : List B) (f n : Nat) : freeB L f (n + 1) = (freeB L f n && !bit L (f + n)) := by
  simp [freeB, List.range_succ]
theorem free_less {L : List B} (hL : L.length = 16) {f n k g : Nat} (h : f + n ≤ 128) (hk : 1 ≤ n) (hmin : ∀ g, g < f → ¬ IsFree L k n g) (hg : IsFree (setn L f n) k n g) : f < g := by
  obtain ⟨h1, h2⟩ := hg
  have h3 := freeB_iff.1 h2
  have hL' : IsFree L k n g := ⟨h1, freeB_iff.2 fun i hi => by
    have := h3 i hi
    rw [bit_setn hL h] at this
    exact (Bool.or_eq_false_iff.1 this).1⟩
  rcases Nat.lt_trichotomy g f with h4 | h4 | h4
  · exact absurd hL' (hmin g h4)
  · subst h4
    have := h3 0 (by omega)
    rw [bit_setn hL h, decide_eq_true (by omega), Bool.or_true] at this
    cases this
  · exact h4

theorem count_atI {L : List B} {k : Int} {c : Int} (h : (cnt L (min k.toNat 128) : Int) = c) (w : World) (hL : L.length = 16) (hk : -9223372036854775808 ≤ k ∧ k ≤ 9223372036854775807) :
    Calls Try.prog 15 #[.agg (brow L), .int .i64 k] w fun e w' => e = .returned (.int .i64 c) ∧ Keeps (fun _ => False) w w' := by
  rw [← h]; exact count15 w L hL k hk
theorem run9_at' {L : List B} {k n : Int} {r1 r2 : Int} (h : runR L k n = (r1, r2)) (w : World) (hL : L.length = 16) (hn : -9223372036854775808 ≤ n ∧ n ≤ 9223372036854775807) :
    Calls Try.prog 9 #[.agg (brow L), .int .i64 k, .int .i64 n] w fun e w' => e = .returned (.tuple #[.int .i64 r1, .int .i64 r2]) ∧ Keeps (fun _ => False) w w' := by
  have := run9 w L hL k n hn
  rw [h] at this; exact this

end Go.Proofs.Ytadbgidchojfkaa
