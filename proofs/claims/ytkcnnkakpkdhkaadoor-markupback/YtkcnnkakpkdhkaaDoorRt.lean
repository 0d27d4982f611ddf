
/-
  A region that draws its order, reads, calls what leaves the world as it is, and ends in a tail that waits for all: one walk.
-/
import Derived.Test.YtkcnnkakpkdhkaaDoorBa
import Derived.StillTail
import Derived.Deep.QuietTactic
import Derived.BigQuiet
set_option linter.all false
namespace Go.Proofs.YtkcnnkakpkdhkaaDoor
open Go.RowKit

theorem still_of_quiet {P : Program} {ops : Array Oper} {w : World} {Q : Act → Prop} : ∀ (l : List Oper) (a : Act), wpQuiet P ops (fun w' => w' = w) Q l a → wpStill P ops w Q l a
  | [], a, h => h
  | o :: l, a, h => by
    unfold wpQuiet at h
    unfold wpStill
    split at h
    · rename_i hw
      rw [if_pos hw]
      obtain ⟨v, h1, h2⟩ := h
      have h3 := h1 w rfl
      unfold Oper.quietAt at h3
      unfold Oper.still
      generalize (execOp a.eval o).run P w = r at *
      cases r with
      | ok n w' =>
        cases n <;> simp only [Oper.quietUpon] at h3 <;> simp only [Oper.stillUpon]
        case value u => obtain ⟨rfl, rfl⟩ := h3; exact ⟨rfl, still_of_quiet l _ h2⟩
        case skip => obtain ⟨rfl, rfl⟩ := h3; exact ⟨rfl, still_of_quiet l _ h2⟩
        case enter f args => exact ⟨h3.1, v, h3.2, still_of_quiet l _ h2⟩
      | halt x w' => simp only [Oper.quietUpon] at h3
    · rename_i hw
      rw [if_neg hw]
      exact still_of_quiet l _ h

theorem region_tail {P : Program} {id : Nat} {Q : Exit → Act → World → Prop} {a : Act} {w : World} {l : List Oper} (n : Nat) (hm : P.follows .mixedOrders = true) (hB : Region.lexTailB .any l.toArray n = true)
    (h : wpQuiet P l.toArray (fun w' => w' = w.drew) (fun a' => wpList P l.toArray Q (l.drop n) a' w.drew) (l.take n) a) : (Code.region id l.toArray true).wp P Q a w :=
  wp_region_still_tail n hm hB (still_of_quiet _ _ h)

/-- A callee that leaves the world as it is, met in the world of such a walk. -/
theorem quiet_call {P : Program} {f : FuncId} {args : Array Value} {w w1 : World} {v : Value}
    (h : Calls P f args w fun e w' => e = .returned v ∧ w' = w) (hw : w = w1) : Calls P f args w fun e w'' => e = .returned v ∧ w'' = w1 :=
  h.mono fun _ _ ⟨he, h2⟩ => ⟨he, h2.trans hw⟩

/-- b is a after some draws. -/
structure Drawn (a b : World) : Prop where
  out : ∃ n, b = a.drewN n
theorem Drawn.refl (a : World) : Drawn a a := ⟨0, rfl⟩
theorem Drawn.drewN {a b : World} (h : Drawn a b) (n : Nat) : Drawn a (b.drewN n) := by
  obtain ⟨m, rfl⟩ := h.out; exact ⟨_, World.drewN_drewN _ _ _⟩
theorem Drawn.drew {a b : World} (h : Drawn a b) : Drawn a b.drew := h.drewN 1
theorem Drawn.cell {a b : World} (h : Drawn a b) {x : Addr} {v : Value} (hc : a.cell? x = some v) : b.cell? x = some v := by
  obtain ⟨m, rfl⟩ := h.out; simpa using hc
theorem Drawn.heap {a b : World} (h : Drawn a b) : b.heap = a.heap := by
  obtain ⟨m, rfl⟩ := h.out; simp
theorem Drawn.keeps {S : Nat → Prop} {a b : World} (h : Drawn a b) : Keeps S a b := by
  obtain ⟨m, rfl⟩ := h.out; exact (Keeps.refl _ _).drewN _

end Go.Proofs.YtkcnnkakpkdhkaaDoor
