/-
  Two blocks that are one are equal; parts of a row that was written over.
-/
import Derived.Test.YtokgnfniaeeloaaRp
set_option linter.all false
namespace Go.Proofs.Ytokgnfniaeeloaa
open Go.RowKit Go.Shelf

/-- 128 bytes. -/
def Bytes (A : Array Value) : Prop := A.size = 128 ∧ ∀ i : Nat, i < 128 → ∃ z, A[i]? = some (.int .u8 z)

theorem run_equalIn_byte (d : Nat) (z : Int) (w : World) : (Op.equalIn (d + 1) 5 (.int .u8 z) (.int .u8 z)).run Try.prog w = .ok true w := by
  simp [Op.equalIn, Sem.run_bind, run_underlying Try.underlying5]

theorem run_part5 (A : Array Value) (i : Nat) (z : Int) (h : A[i]? = some (.int .u8 z)) (w : World) : (Go.part 5 A i).run Try.prog w = .ok (.int .u8 z) w := by
  have hagg : (isAgg 5).run Try.prog w = .ok false w := by
    unfold isAgg
    rw [Sem.run_bind, run_underlying Try.underlying5 w]
    rfl
  unfold Go.part
  rw [Sem.run_bind, hagg]
  simp [h]

theorem run_equalIn_bytes (d : Nat) (A : Array Value) (h : Bytes A) (w : World) : (Op.equalIn (d + 1 + 1) 37 (.agg A) (.agg A)).run Try.prog w = .ok true w := by
  have hs : (sizeOf 5).run Try.prog w = .ok 1 w := by simp [go_sem]
  rw [Op.equalIn]
  simp only [Sem.run_bind, run_underlying Try.underlying37, Result.andThen_ok, hs]
  rw [Std.Legacy.Range.forIn_eq_forIn_range']
  have loop : ∀ l : List Nat, (∀ i ∈ l, i < 128) → Sem.run Try.prog (forIn l ((none, ()) : Option Bool × Unit) fun i _ => do
      let x ← Go.part 5 A (i * 1)
      let y ← Go.part 5 A (i * 1)
      let e ← Op.equalIn (d + 1) 5 x y
      if (!e) = true then pure (ForInStep.done (some false, ())) else pure (ForInStep.yield (none, ()))) w = .ok (none, ()) w := by
    intro l
    induction l with
    | nil => intro _; simp
    | cons i l ih =>
      intro hl
      obtain ⟨z, hz⟩ := h.2 i (hl i (by simp))
      have hp := run_part5 A (i * 1) z (by rw [Nat.mul_one]; exact hz) w
      rw [List.forIn_cons]
      simp only [Sem.run_bind, hp, Result.andThen_ok, run_equalIn_byte, Bool.not_true, Bool.false_eq_true, if_false, Sem.run_pure]
      exact ih (fun j hj => hl j (by simp [hj]))
  rw [loop _ (fun i hi => by simpa [List.mem_range'_1, Std.Legacy.Range.size] using hi)]
  simp

theorem eq_bytes {A : Array Value} (h : Bytes A) (w : World) : (Op.equalIn 10000 37 (.agg A) (.agg A)).run Try.prog w = .ok true w := run_equalIn_bytes 9998 A h w

theorem bytes_fill (v : Int) : Bytes (fill v) := ⟨size_fill v, fun i hi => ⟨v, by simp [fill, hi]⟩⟩

/-! ### Parts of a row that was written over -/

theorem getElem?_over (row cs : Array Value) (o j : Nat) (h : o + cs.size ≤ row.size) : (over row o cs)[j]? = if o ≤ j ∧ j < o + cs.size then cs[j - o]? else row[j]? := by
  unfold over
  simp only [List.getElem?_toArray, List.getElem?_append, List.length_append, List.length_take, Array.length_toList, List.getElem?_take, List.getElem?_drop, Array.getElem?_toList]
  by_cases h1 : j < o
  · have e1 : j < min o row.size + cs.size := by omega
    have e2 : j < min o row.size := by omega
    rw [if_pos e1, if_pos e2, if_pos h1, if_neg (by omega)]
  · by_cases h2 : j < o + cs.size
    · have e1 : j < min o row.size + cs.size := by omega
      have e2 : ¬ j < min o row.size := by omega
      rw [if_pos e1, if_neg e2, if_pos (by omega)]
      congr 1; omega
    · have e1 : ¬ j < min o row.size + cs.size := by omega
      rw [if_neg e1, if_neg (by omega)]
      congr 1; omega

end Go.Proofs.Ytokgnfniaeeloaa
