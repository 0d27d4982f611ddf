/-
  A slice of steps that came in, as the walks want it.
-/
import Derived.Test.YtokgnfniaeeloaaSa
import Derived.ProofKit
import Derived.ShutString
import Derived.ChangeOld
import Derived.Below
import Derived.Deep.Slices
set_option linter.all false
namespace Go.Proofs.Ytokgnfniaeeloaa
open Go.ChangeShapes Go.WideShapes Go.ChangeAt Go.RowKit Go.Joins Go.Deep

theorem own : ownKnob Try.prog.godebug = none := by kernel_rfl
theorem laidOut : laidOutB Try.prog = true := by kernel_rfl
theorem cells34 : Try.prog.cellsOf 34 = 4 := by kernel_rfl
theorem cells5 : Try.prog.cellsOf 5 = 1 := by kernel_rfl
theorem cells3 : Try.prog.cellsOf 3 = 1 := by kernel_rfl
theorem cells32 : Try.prog.cellsOf 32 = 1 := by kernel_rfl

theorem byte_bounds {n : Int} (h : (Lit.int .u8 n).wf = true) : 0 ≤ n ∧ n ≤ 255 := by simpa [Lit.wf, IntKind.min, IntKind.max, IntKind.signed, IntKind.bits] using h
theorem int_bounds {n : Int} (h : (Lit.int .i64 n).wf = true) : -9223372036854775808 ≤ n ∧ n ≤ 9223372036854775807 := by simpa [Lit.wf, IntKind.min, IntKind.max, IntKind.signed, IntKind.bits] using h

/-- A slice of bytes. -/
theorem keep_of_trod {H : Type} {enc : TypeId × Value → H} {W : World} {m : Nat} {cs : List Value} {y : DataW H × List MemPlace} (h : DataW.trod enc Try.prog W 0 (fun _ => true) true m 32 cs = some y) :
    ∃ (ka : Option Addr) (ks : List Int) (kc : Nat), cs = [.slice ka ks.length kc] ∧ KeepAt W ka ks := by
  rcases open_ints Try.underlying32 Try.underlying5 cells5 h with ⟨hcs, _⟩ | ⟨a, len, cap, zs, hcs, _, hl, hm, hz, _, hcell, hwz⟩
  · exact ⟨none, [], 0, hcs, fun j x hx => by simp at hx⟩
  · simp at hz
    refine ⟨some a, zs.take len, cap, by rw [hcs]; simp [hz, hl], fun j x hx => ?_⟩
    rw [List.getElem?_take] at hx
    split at hx
    · have hj : j < zs.length := (List.getElem?_eq_some_iff.1 hx).1
      obtain ⟨b, off, rfl, hc⟩ := ints_at hcell (by omega)
      have e : zs.getD j 0 = x := by rw [List.getD_eq_getElem?_getD, hx]; rfl
      have hxm : x ∈ zs := List.mem_of_getElem? hx
      have hcj := hcell j hj
      rw [Addr.add_mid, e] at hcj
      exact ⟨b, off, rfl, hcj, byte_bounds (hwz x hxm)⟩
    · cases hx

/-- One step's cells. -/
theorem step_of_trod {H : Type} {enc : TypeId × Value → H} {W : World} {m : Nat} {cs : List Value} {y : DataW H × List MemPlace} (h : DataW.trod enc Try.prog W 0 (fun _ => true) true m 34 cs = some y) :
    ∃ x : StepV, cs = [.int .i64 x.kind, .int .i64 x.i, .int .u8 x.v, .slice x.ka x.ks.length x.kc] ∧ KeepAt W x.ka x.ks ∧ (-9223372036854775808 ≤ x.i ∧ x.i ≤ 9223372036854775807) ∧ (0 ≤ x.v ∧ x.v ≤ 255) := by
  obtain ⟨xs, n, _, _, hlen, hxs, hf⟩ := DataW.trod_struct Try.underlying34 h
  rw [cells34] at hlen
  obtain ⟨c0, c1, c2, c3, rfl⟩ : ∃ c0 c1 c2 c3, cs = [c0, c1, c2, c3] := by
    match cs, hlen with
    | [a, b, c, d], _ => exact ⟨a, b, c, d, rfl⟩
  obtain ⟨y0, y1, y2, y3, rfl⟩ : ∃ y0 y1 y2 y3, xs = [y0, y1, y2, y3] := by
    match xs, hxs with
    | [a, b, c, d], _ => exact ⟨a, b, c, d, rfl⟩
  have t0 : DataW.trod enc Try.prog W 0 (fun _ => true) true n 3 (List.take (Try.prog.cellsOf 3) [c0, c1, c2, c3]) = some y0 := hf 0 _ rfl
  have t1 : DataW.trod enc Try.prog W 0 (fun _ => true) true n 3 (List.take (Try.prog.cellsOf 3) [c1, c2, c3]) = some y1 := hf 1 _ rfl
  have t2 : DataW.trod enc Try.prog W 0 (fun _ => true) true n 5 (List.take (Try.prog.cellsOf 5) [c2, c3]) = some y2 := hf 2 _ rfl
  have t3 : DataW.trod enc Try.prog W 0 (fun _ => true) true n 32 (List.take (Try.prog.cellsOf 32) [c3]) = some y3 := hf 3 _ rfl
  rw [cells3] at t0 t1
  rw [cells5] at t2
  rw [cells32] at t3
  obtain ⟨a, e0, _, wa⟩ := DataW.trod_int Try.underlying3 t0
  obtain ⟨b, e1, _, wb⟩ := DataW.trod_int Try.underlying3 t1
  obtain ⟨c, e2, _, wc⟩ := DataW.trod_int Try.underlying5 t2
  obtain ⟨ka, ks, kc, e3, hK⟩ := keep_of_trod t3
  simp at e0 e1 e2 e3
  subst e0 e1 e2 e3
  exact ⟨⟨a, b, c, ka, kc, ks⟩, rfl, hK, int_bounds wb, byte_bounds wc⟩

theorem addr_plain {W : World} {a : Addr} {v : Value} (h : W.cell? ((a.add 0).add 0) = some v) : ∃ b o, a = ⟨b, o, none⟩ := by
  have := World.cell?_spot h
  obtain ⟨b, o, sp⟩ := a
  simp [Addr.add] at this
  subst this
  exact ⟨b, o, rfl⟩

/-- A slice of steps. -/
theorem steps_of_trod {H : Type} {enc : TypeId × Value → H} {W : World} {v : Value} {d : DataW H} {p : List MemPlace} (h : DataW.Trod enc Try.prog W 0 (fun _ => true) true 22 v d p) (hv : ∃ a n c, v = .slice a n c) :
    ∃ xs : List StepV, StepsAt W v xs ∧ xs.length ≤ 9223372036854775807 := by
  obtain ⟨a0, n0, c0, rfl⟩ := hv
  obtain ⟨fuel, hf⟩ := h
  rcases open_slice Try.underlying22 hf with ⟨hcs, _⟩ | ⟨a, len, cap, m, n, D, Pl, hcs, _, hl, hm, hmm, _, hel⟩
  · simp [Value.cells] at hcs
    obtain ⟨rfl, rfl, rfl⟩ := hcs
    exact ⟨[], ⟨none, 0, rfl, fun j x hj => by simp at hj⟩, by simp⟩
  · simp [Value.cells] at hcs
    obtain ⟨rfl, rfl, rfl⟩ := hcs
    simp at hmm
    rw [cells34] at hel
    have hpl : ∀ i, i < n0 → ∃ b o, a = ⟨b, o, none⟩ := fun i hi => by
      obtain ⟨cs, hc, ht⟩ := hel 0 (by omega)
      obtain ⟨x, rfl, _⟩ := step_of_trod ht
      obtain ⟨_, hlen, hcell⟩ := World.cells?_some hc
      exact addr_plain (hcell 0 (by omega))
    have hst : ∀ i, i < n0 → ∃ x : StepV, ∃ b o, a = ⟨b, o, none⟩ ∧ StepAt W b (o + i * 4) x := fun i hi => by
      obtain ⟨b, o, rfl⟩ := hpl i hi
      obtain ⟨cs, hc, ht⟩ := hel i (by omega)
      obtain ⟨x, rfl, hK, h1, h2⟩ := step_of_trod ht
      obtain ⟨_, hlen, hcell⟩ := World.cells?_some hc
      simp only [Addr.add_mid] at hcell
      exact ⟨x, b, o, rfl, ⟨hcell 0 (by omega), hcell 1 (by omega), hcell 2 (by omega), hcell 3 (by omega), hK, h1, h2⟩⟩
    obtain ⟨X, hX⟩ := @choose_lt StepV ⟨⟨0, 0, 0, none, 0, []⟩⟩ n0 (p := fun i x => ∃ b o, a = ⟨b, o, none⟩ ∧ StepAt W b (o + i * 4) x) hst
    refine ⟨(List.range n0).map X, ⟨some a, c0, by simp, fun j x hj => ?_⟩, by simp; simp only [maxLen] at hm; omega⟩
    have hjn : j < n0 := by have := (List.getElem?_eq_some_iff.1 hj).1; simpa using this
    simp [hjn] at hj
    subst hj
    obtain ⟨b, o, rfl, hs⟩ := hX j hjn
    exact ⟨b, o, rfl, hs⟩

end Go.Proofs.Ytokgnfniaeeloaa
