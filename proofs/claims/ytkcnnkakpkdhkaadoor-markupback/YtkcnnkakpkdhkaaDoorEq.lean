
/-
  Digests that are held against each other.
-/
import Derived.Test.YtkcnnkakpkdhkaaDoorPl
set_option linter.all false
namespace Go.Proofs.YtkcnnkakpkdhkaaDoor
open Go.RowKit

theorem run_equalIn_byte (d : Nat) (x y : B) (w : World) : (Op.equalIn (d + 1) 5 (.int .u8 (nb x)) (.int .u8 (nb y))).run Tryd.prog w = .ok (decide (x = y)) w := by
  have e : (nb x == nb y) = decide (x = y) := by
    by_cases h : x = y
    · subst h; simp
    · have : nb x ≠ nb y := fun e => h (nb_inj e)
      simp [h, this]
  simp [Op.equalIn, Sem.run_bind, run_underlying Tryd.underlying5, e]

theorem run_part5 (l : List B) (i : Nat) (hi : i < l.length) (w : World) : (Go.part 5 (brow l) i).run Tryd.prog w = .ok (.int .u8 (nb l[i])) w := by
  have hagg : (isAgg 5).run Tryd.prog w = .ok false w := by
    unfold isAgg
    rw [Sem.run_bind, run_underlying Tryd.underlying5 w]
    rfl
  unfold Go.part
  rw [Sem.run_bind, hagg]
  have : (brow l)[i]? = some (.int .u8 (nb l[i])) := by rw [brow_get]; simp [vb, hi]
  simp [this]

/-- From place k on they are the same. -/
theorem loop24 (d : Nat) (x y : List B) (n : Nat) (hx : x.length = n) (hy : y.length = n) (w : World) : ∀ (l : List Nat), (∀ i ∈ l, i < n) →
    Sem.run Tryd.prog (forIn l ((none, ()) : Option Bool × Unit) fun i _ => do
      let u ← Go.part 5 (brow x) (i * 1)
      let v ← Go.part 5 (brow y) (i * 1)
      let e ← Op.equalIn (d + 1) 5 u v
      if (!e) = true then pure (ForInStep.done (some false, ())) else pure (ForInStep.yield (none, ()))) w = .ok (if ∀ i ∈ l, x[i]? = y[i]? then none else some false, ()) w
  | [], _ => by simp
  | i :: l, hl => by
    have hi : i < n := hl i (by simp)
    have hp := run_part5 x (i * 1) (by omega) w
    have hq := run_part5 y (i * 1) (by omega) w
    rw [List.forIn_cons]
    simp only [Sem.run_bind, hp, hq, Result.andThen_ok, run_equalIn_byte]
    have e : (x[i * 1]'(by omega) = y[i * 1]'(by omega)) ↔ x[i]? = y[i]? := by
      simp only [Nat.mul_one]
      rw [List.getElem?_eq_getElem (by omega), List.getElem?_eq_getElem (by omega)]
      simp
    by_cases h : x[i]? = y[i]?
    · have h' := e.2 h
      simp only [h', decide_true, Bool.not_true, Bool.false_eq_true, if_false, Sem.run_pure, Result.andThen_ok]
      rw [loop24 d x y n hx hy w l (fun j hj => hl j (by simp [hj]))]
      simp [h]
    · have h' : ¬ (x[i * 1]'(by omega) = y[i * 1]'(by omega)) := fun e' => h (e.1 e')
      simp only [decide_eq_false h', Bool.not_false, if_true, Sem.run_pure, Result.andThen_ok]
      simp [h]

theorem run_equalIn_row (d : Nat) (ty n : Nat) (hu : Tryd.prog.underlying ty = some (.array n 5)) (x y : List B) (hx : x.length = n) (hy : y.length = n) (w : World) :
    (Op.equalIn (d + 1 + 1) ty (.agg (brow x)) (.agg (brow y))).run Tryd.prog w = .ok (decide (x = y)) w := by
  have hs : (sizeOf 5).run Tryd.prog w = .ok 1 w := by simp [go_sem]
  rw [Op.equalIn]
  simp only [Sem.run_bind, run_underlying hu, Result.andThen_ok, hs]
  rw [Std.Legacy.Range.forIn_eq_forIn_range']
  have hall : (∀ i ∈ List.range' 0 n 1, x[i]? = y[i]?) ↔ x = y := by
    constructor
    · intro h
      apply List.ext_getElem?
      intro i
      rcases Nat.lt_or_ge i n with hi | hi
      · exact h i (by simp [hi])
      · rw [List.getElem?_eq_none (by omega), List.getElem?_eq_none (by omega)]
    · rintro rfl _ _; rfl
  have := loop24 d x y n hx hy w (List.range' 0 n 1) (fun i hi => by simpa using hi)
  have e : List.range' (0 : Nat) (Std.Legacy.Range.size [:n]) 1 = List.range' 0 n 1 := by simp [Std.Legacy.Range.size]
  simp only [e] at *
  rw [this]
  by_cases h : x = y
  · rw [if_pos (hall.2 h)]; simp [h]
  · rw [if_neg (fun h' => h (hall.1 h'))]; simp [h]


end Go.Proofs.YtkcnnkakpkdhkaaDoor
