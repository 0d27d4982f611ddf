/-
  What came in: a superblock, numbers of 32 bits, two bytes.
-/
import Derived.Test.YtdgnjpdjohibeaaDoorKx
set_option linter.all false
set_option maxRecDepth 100000
namespace Go.Proofs.YtdgnjpdjohibeaaDoor
open Go.ChangeShapes Go.WideShapes Go.ChangeAt Go.RowKit Go.Deep

theorem u32_bounds {n : Int} (h : (Lit.int .u32 n).wf = true) : 0 ≤ n ∧ n < 4294967296 := by
  have : 0 ≤ n ∧ n ≤ 4294967295 := by simpa [Lit.wf, IntKind.min, IntKind.max, IntKind.signed, IntKind.bits] using h
  omega
theorem cells28 : Tryd.prog.cellsOf 28 = 51 := by kernel_rfl
theorem cells22 : Tryd.prog.cellsOf 22 = 1 := by kernel_rfl
theorem cellsUsed : Tryd.prog.cellsOf 26 = 16 := by kernel_rfl
theorem cut_off {α : Type} (l : List α) (a n : Nat) : l.drop a = (l.drop a).take n ++ l.drop (a + n) := by
  rw [← List.drop_drop, List.take_append_drop]
/-- One superblock's cells. -/
theorem super_of_trod {H : Type} {enc : TypeId × Value → H} {W : World} {m : Nat} {cs : List Value} {y : DataW H × List MemPlace} (h : DataW.trod enc Tryd.prog W 0 (fun _ => true) true m 28 cs = some y) :
    ∃ s : Su, cs = s.cells.toList ∧ s.Ok := by
  obtain ⟨xs, n, _, _, hlen, hxs, hf⟩ := DataW.trod_struct Tryd.underlying28 h
  rw [cells28] at hlen
  obtain ⟨y0, y1, y2, y3, y4, rfl⟩ : ∃ y0 y1 y2 y3 y4, xs = [y0, y1, y2, y3, y4] := by
    match xs, hxs with
    | [a, b, c, d, e], _ => exact ⟨a, b, c, d, e, rfl⟩
  have t0 : DataW.trod enc Tryd.prog W 0 (fun _ => true) true n 22 (List.take (Tryd.prog.cellsOf 22) (cs.drop 0)) = some y0 := hf 0 _ rfl
  have t1 : DataW.trod enc Tryd.prog W 0 (fun _ => true) true n 3 (List.take (Tryd.prog.cellsOf 3) (cs.drop 1)) = some y1 := hf 1 _ rfl
  have t2 : DataW.trod enc Tryd.prog W 0 (fun _ => true) true n 3 (List.take (Tryd.prog.cellsOf 3) (cs.drop 2)) = some y2 := hf 2 _ rfl
  have t3 : DataW.trod enc Tryd.prog W 0 (fun _ => true) true n 24 (List.take (Tryd.prog.cellsOf 24) (cs.drop 3)) = some y3 := hf 3 _ rfl
  have t4 : DataW.trod enc Tryd.prog W 0 (fun _ => true) true n 26 (List.take (Tryd.prog.cellsOf 26) (cs.drop 35)) = some y4 := hf 4 _ rfl
  rw [cells22] at t0
  rw [cells3] at t1 t2
  rw [cellsKey] at t3
  rw [cellsUsed] at t4
  obtain ⟨a, e0, _, wa⟩ := DataW.trod_int Tryd.underlying22 t0
  obtain ⟨b, e1, _, wb⟩ := DataW.trod_int Tryd.underlying3 t1
  obtain ⟨c, e2, _, wc⟩ := DataW.trod_int Tryd.underlying3 t2
  obtain ⟨lg, e3, hlg⟩ := row_of_trod Tryd.underlying24 cellsKey t3
  obtain ⟨us, e4, hus⟩ := row_of_trod Tryd.underlying26 cellsUsed t4
  have ha := u32_bounds wa
  have hb := int_bounds wb
  have hc := int_bounds wc
  refine ⟨⟨a.toNat, b, c, lg, us⟩, ?_, ⟨by show a.toNat < 4294967296; omega, hb, hc, hlg, hus⟩⟩
  have f0 := cut_off cs 0 1
  have f1 := cut_off cs 1 1
  have f2 := cut_off cs 2 1
  have f3 := cut_off cs 3 32
  have f4 := cut_off cs 35 16
  rw [e4, show cs.drop (35 + 16) = [] from List.drop_eq_nil_of_le (by omega), List.append_nil] at f4
  rw [e3, f4] at f3
  rw [e2, f3] at f2
  rw [e1, f2] at f1
  rw [e0, f1, List.drop_zero] at f0
  rw [f0]
  have : ((a.toNat : Nat) : Int) = a := by omega
  simp [Su.cells, brow, this]
theorem super_arg {H : Type} {enc : TypeId × Value → H} {W : World} {b0 : Nat} {v : Value} {d : DataW H} {p : List MemPlace} (hv : Value.okWide Tryd.prog W .any b0 28 v) (h : DataW.Trod enc Tryd.prog W 0 (fun _ => true) true 28 v d p) :
    ∃ s : Su, v = .agg s.cells ∧ s.Ok := by
  have hc : ∃ cs, v = .agg cs := by
    simp only [Value.okWide, Tryd.underlying28] at hv
    obtain ⟨cs, h1, _⟩ := hv
    exact ⟨cs, h1⟩
  obtain ⟨cs, rfl⟩ := hc
  obtain ⟨fuel, hf⟩ := h
  obtain ⟨s, he, hk⟩ := super_of_trod hf
  refine ⟨s, ?_, hk⟩
  simp only [Value.cells] at he
  rw [← Array.toArray_toList (xs := cs), he]
theorem cells78 : Tryd.prog.cellsOf 78 = 2 := by kernel_rfl
theorem pair8_of_trod {H : Type} {enc : TypeId × Value → H} {W : World} {b0 : Nat} {v : Value} {d : DataW H} {p : List MemPlace} (hv : Value.okWide Tryd.prog W .any b0 78 v) (h : DataW.Trod enc Tryd.prog W 0 (fun _ => true) true 78 v d p) :
    ∃ x y : Int, v = .agg #[.int .u8 x, .int .u8 y] ∧ (0 ≤ x ∧ x < 256) ∧ (0 ≤ y ∧ y < 256) := by
  obtain ⟨cs, rfl⟩ := agg_of_wide Tryd.underlying78 hv
  obtain ⟨fuel, hf⟩ := h
  obtain ⟨xs, m', _, _, hlen, hxs, hel⟩ := DataW.trod_array Tryd.underlying78 hf
  rw [cells5] at hel
  rw [cells78] at hlen
  have h0 := hel 0 (by omega)
  have h1 := hel 1 (by omega)
  rw [List.getElem?_eq_getElem (by omega)] at h0 h1
  obtain ⟨k0, e0, _, wf0⟩ := DataW.trod_int Tryd.underlying5 h0
  obtain ⟨k1, e1, _, wf1⟩ := DataW.trod_int Tryd.underlying5 h1
  simp only [Value.cells] at hlen e0 e1
  have hcs : cs.toList = [.int .u8 k0, .int .u8 k1] := by
    match hq : cs.toList, hlen with
    | [x, y], _ => rw [hq] at e0 e1; simp at e0 e1; rw [e0, e1]
  refine ⟨k0, k1, ?_, byte_bounds wf0, byte_bounds wf1⟩
  rw [← Array.toArray_toList (xs := cs), hcs]
end Go.Proofs.YtdgnjpdjohibeaaDoor
