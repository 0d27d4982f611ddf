/-
  What came in: a number of 16 bits, two bytes, an entry, a slice of blocks.
-/
import Derived.Test.YthngaegfppbdmaaDoorGJ
import Derived.Test.YthngaegfppbdmaaDoorXq
import Derived.Test.YthngaegfppbdmaaDoorLc
set_option linter.all false
set_option maxRecDepth 100000
namespace Go.Proofs.YthngaegfppbdmaaDoor
open Go.ChangeShapes Go.WideShapes Go.ChangeAt Go.RowKit Go.Deep

theorem cells67 : Tryd.prog.cellsOf 67 = 2 := by kernel_rfl
theorem cellsBlock : Tryd.prog.cellsOf 25 = 128 := by kernel_rfl
theorem u16_bounds {n : Int} (h : (Lit.int .u16 n).wf = true) : 0 ≤ n ∧ n < 65536 := by
  have : 0 ≤ n ∧ n ≤ 65535 := by simpa [Lit.wf, IntKind.min, IntKind.max, IntKind.signed, IntKind.bits] using h
  omega

theorem pair8_of_trod {H : Type} {enc : TypeId × Value → H} {W : World} {b0 : Nat} {v : Value} {d : DataW H} {p : List MemPlace} (hv : Value.okWide Tryd.prog W .any b0 67 v) (h : DataW.Trod enc Tryd.prog W 0 (fun _ => true) true 67 v d p) :
    ∃ x y : Int, v = .agg #[.int .u8 x, .int .u8 y] ∧ (0 ≤ x ∧ x < 256) ∧ (0 ≤ y ∧ y < 256) := by
  obtain ⟨cs, rfl⟩ := agg_of_wide Tryd.underlying67 hv
  obtain ⟨fuel, hf⟩ := h
  obtain ⟨xs, m', _, _, hlen, hxs, hel⟩ := DataW.trod_array Tryd.underlying67 hf
  rw [cells5] at hel
  rw [cells67] at hlen
  have h0 := hel 0 (by omega)
  have h1 := hel 1 (by omega)
  rw [List.getElem?_eq_getElem (by omega)] at h0 h1
  obtain ⟨k0, e0, _, wf0⟩ := DataW.trod_int Tryd.underlying5 h0
  obtain ⟨k1, e1, _, wf1⟩ := DataW.trod_int Tryd.underlying5 h1
  simp only [Value.cells] at hlen e0 e1
  have hcs : cs.toList = [.int .u8 k0, .int .u8 k1] := by
    match hq : cs.toList, hlen with
    | [x, y], _ => rw [hq] at e0 e1; simp at e0 e1; rw [e0, e1]
  refine ⟨k0, k1, ?_, byte_bounds wf0, byte_bounds wf1⟩
  rw [← Array.toArray_toList (xs := cs), hcs]

theorem entry_arg {H : Type} {enc : TypeId × Value → H} {W : World} {b0 : Nat} {v : Value} {d : DataW H} {p : List MemPlace} (hv : Value.okWide Tryd.prog W .any b0 54 v) (h : DataW.Trod enc Tryd.prog W 0 (fun _ => true) true 54 v d p) :
    ∃ e : En, v = .agg e.cells.toArray ∧ e.key.length = 32 := by
  have hc : ∃ cs, v = .agg cs := by
    simp only [Value.okWide, Tryd.underlying54] at hv
    obtain ⟨cs, h1, _⟩ := hv
    exact ⟨cs, h1⟩
  obtain ⟨cs, rfl⟩ := hc
  obtain ⟨fuel, hf⟩ := h
  obtain ⟨e, he, hk⟩ := entry_of_trod hf
  refine ⟨e, ?_, hk⟩
  simp [Value.cells] at he
  rw [← Array.toArray_toList (xs := cs), he]

/-- A slice of blocks. -/
theorem blocks_of_trod {H : Type} {enc : TypeId × Value → H} {W : World} {v : Value} {d : DataW H} {p : List MemPlace} (h : DataW.Trod enc Tryd.prog W 0 (fun _ => true) true 57 v d p) (hv : ∃ a n c, v = .slice a n c) :
    ∃ a n c l, v = .slice a n c ∧ SlB W a (n * 128) (c * 128) l ∧ (a = none → c = 0) := by
  obtain ⟨a0, n0, c0, rfl⟩ := hv
  obtain ⟨fuel, hf⟩ := h
  rcases open_slice Tryd.underlying57 hf with ⟨hcs, _⟩ | ⟨a, len, cap, m, n, D, Pl, hcs, _, hl, hm, hmm, _, hx⟩
  · simp [Value.cells] at hcs
    obtain ⟨rfl, rfl, rfl⟩ := hcs
    exact ⟨none, 0, 0, [], rfl, SlB.nil W, fun _ => rfl⟩
  · simp [Value.cells] at hcs
    obtain ⟨rfl, rfl, rfl⟩ := hcs
    simp at hmm
    rw [cellsBlock] at hx
    have hcell : ∀ j, j < n0 * 128 → ∃ y : B, W.cell? (a.add j) = some (vb y) := fun j hj => by
      obtain ⟨cs', h1, h2⟩ := hx (j / 128) (by omega)
      obtain ⟨_, _, hc⟩ := World.cells?_some h1
      obtain ⟨l, e, ll⟩ := row_of_trod Tryd.underlying25 cellsBlock h2
      have h3 := hc (j % 128) (by omega)
      rw [e, List.getElem?_map, List.getElem?_eq_getElem (by omega)] at h3
      refine ⟨l[j % 128], ?_⟩
      rw [Addr.add_add] at h3
      rw [show j / 128 * 128 + j % 128 = j by omega] at h3
      exact h3
    refine ⟨some a, n0, c0, (List.range (n0 * 128)).map fun j => kb (intOf ((W.cell? (a.add j)).getD undef)), rfl, ⟨by simp, Nat.mul_le_mul_right _ hl, fun j x hxj => ?_⟩, fun e => by cases e⟩
    have hj : j < n0 * 128 := by have := (List.getElem?_eq_some_iff.1 hxj).1; simpa using this
    obtain ⟨y, hy⟩ := hcell j hj
    simp [hj, hy, vb, intOf] at hxj
    obtain ⟨y0, h0⟩ := hcell 0 (by omega)
    obtain ⟨b, off, spot⟩ := a
    have hspot : spot = none := by simpa [Addr.add] using World.cell?_spot h0
    subst hspot
    refine ⟨b, off, rfl, ?_⟩
    rw [Addr.add_mid] at hy
    rw [hy, ← hxj, nb_kb]
    unfold vb
    congr 2
    have := nb_lt y
    omega

end Go.Proofs.YthngaegfppbdmaaDoor
