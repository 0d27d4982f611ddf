
/-
  Packed texts: Fr, Fq.
-/
import Derived.Test.YtdgnjpdjohibeaaDoorGC
import Derived.Test.YtdgnjpdjohibeaaDoorTie
import Derived.Test.YtdgnjpdjohibeaaDoorCards
import Derived.ProofKit
import Derived.ShutString
import Derived.ChangeOld
import Derived.Below
import Derived.Deep.Slices
import Derived.LaidMore
import Derived.OpenShut
import Derived.Stop.Joined
import Derived.Stop.LaidErr
import Derived.Lib.LaidTab
import Derived.SevenTiedAt
import Derived.Test.YtdgnjpdjohibeaaDoorGF
set_option linter.all false
set_option maxRecDepth 100000
namespace Go.Proofs.YtdgnjpdjohibeaaDoor

/-! Fr: What came in, as the walks want it: the package's two tables, bytes, digests. -/
section
open Go.ChangeShapes Go.WideShapes Go.ChangeAt Go.RowKit Go.Deep

theorem own : ownKnob Tryd.prog.godebug = none := by kernel_rfl
theorem laidOut : laidOutB Tryd.prog = true := by kernel_rfl
theorem gFirst : Tryd.prog.globalNamed "codex/sha.first" = some 0 := by kernel_rfl
theorem gRoots : Tryd.prog.globalNamed "codex/sha.roots" = some 1 := by kernel_rfl
theorem tFirst : (Tryd.prog.globals[0]?).map (·.type) = some 109 := by kernel_rfl
theorem tRoots : (Tryd.prog.globals[1]?).map (·.type) = some 125 := by kernel_rfl
theorem cells5 : Tryd.prog.cellsOf 5 = 1 := by kernel_rfl
theorem cells24 : Tryd.prog.cellsOf 24 = 32 := by kernel_rfl
theorem cells39 : Tryd.prog.cellsOf 22 = 1 := by kernel_rfl
theorem cells40 : Tryd.prog.cellsOf 109 = 8 := by kernel_rfl
theorem cells57 : Tryd.prog.cellsOf 125 = 64 := by kernel_rfl

/-- The listed variables with what they read as. -/
def laid2 : List (String × DataW Unit) := [("codex/sha.first", Rows.laid_codex_sha_first), ("codex/sha.roots", Rows.laid_codex_sha_roots)]
theorem first_data : (Rows.laid_codex_sha_first : DataW Unit) = Lib.tabData .u32 (h0.toL.map nw) := by kernel_rfl
theorem roots_data : (Rows.laid_codex_sha_roots : DataW Unit) = Lib.tabData .u32 (kk.map nw) := by kernel_rfl

theorem tabs_of_laid {W : World} (h : laidMetH Tryd.prog laid2 W) : Tabs W := by
  rw [MakeChecks.laidMetH_plain _ _ _ (by kernel_rfl)] at h
  unfold laid2 at h
  rw [first_data, roots_data] at h
  have h1 := Lib.tabIs_of_head gFirst tFirst Tryd.underlying109 Tryd.underlying22 cells39 cells40 h
  have h2 := Lib.tabIs_of_head gRoots tRoots Tryd.underlying125 Tryd.underlying22 cells39 cells57 h.tail
  refine ⟨fun j x hx => ?_, fun j x hx => ?_⟩
  · have hj : j < h0.toL.length := (List.getElem?_eq_some_iff.1 hx).1
    have := h1.cell gFirst j (by simpa using hj)
    rw [this, List.getD_eq_getElem?_getD, List.getElem?_map, hx]
    rfl
  · have hj : j < kk.length := (List.getElem?_eq_some_iff.1 hx).1
    have := h2.cell gRoots j (by simpa using hj)
    rw [this, List.getD_eq_getElem?_getD, List.getElem?_map, hx]
    rfl
theorem door_met (os : Os) (args : Array Value) : laidMetH Tryd.prog laid2 ((World.doorLaid Tryd.prog 400 os).forCall (fun _ _ => 0) ⟨#[], args, []⟩).memory :=
  laidMetH_of_parts3 (fuel := 8) (laidMet_of_run' 8 (by kernel_rfl) (by kernel_rfl)) (by kernel_rfl) (by kernel_rfl)

theorem byte_bounds {n : Int} (h : (Lit.int .u8 n).wf = true) : 0 ≤ n ∧ n < 256 := by
  have : 0 ≤ n ∧ n ≤ 255 := by simpa [Lit.wf, IntKind.min, IntKind.max, IntKind.signed, IntKind.bits] using h
  omega
theorem int_bounds {n : Int} (h : (Lit.int .i64 n).wf = true) : -9223372036854775808 ≤ n ∧ n ≤ 9223372036854775807 := by simpa [Lit.wf, IntKind.min, IntKind.max, IntKind.signed, IntKind.bits] using h
theorem vb_of {n : Int} (h : 0 ≤ n ∧ n < 256) : Value.int .u8 n = vb (kb n) := by
  unfold vb; rw [nb_kb]; congr 1; omega

/-- A slice of bytes. -/
theorem bytes_of_trod {H : Type} {enc : TypeId × Value → H} {W : World} {v : Value} {d : DataW H} {p : List MemPlace} (h : DataW.Trod enc Tryd.prog W 0 (fun _ => true) true 51 v d p) (hv : ∃ a n c, v = .slice a n c) :
    ∃ a n c l, v = .slice a n c ∧ SlB W a n c l ∧ (a = none → c = 0) := by
  obtain ⟨a0, n0, c0, rfl⟩ := hv
  obtain ⟨fuel, hf⟩ := h
  rcases open_ints Tryd.underlying51 Tryd.underlying5 cells5 hf with ⟨hcs, _⟩ | ⟨a, len, cap, zs, hcs, _, hl, hm, hz, _, hcell, hwz⟩
  · simp [Value.cells] at hcs
    obtain ⟨rfl, rfl, rfl⟩ := hcs
    exact ⟨none, 0, 0, [], rfl, SlB.nil W, fun _ => rfl⟩
  · simp [Value.cells] at hcs
    obtain ⟨rfl, rfl, rfl⟩ := hcs
    simp at hz
    refine ⟨some a, n0, c0, (zs.take n0).map kb, rfl, ⟨by simp [hz]; omega, hl, fun j x hx => ?_⟩, fun e => by cases e⟩
    rw [List.getElem?_map, List.getElem?_take] at hx
    split at hx
    · cases hq : zs[j]? with
      | none => rw [hq] at hx; cases hx
      | some z =>
        rw [hq] at hx
        simp at hx
        subst hx
        have hj : j < zs.length := (List.getElem?_eq_some_iff.1 hq).1
        obtain ⟨b, off, rfl, hc⟩ := ints_at hcell (by omega)
        have e : zs.getD j 0 = z := by rw [List.getD_eq_getElem?_getD, hq]; rfl
        have hxm : z ∈ zs := List.mem_of_getElem? hq
        have hcj := hcell j hj
        rw [Addr.add_mid, e] at hcj
        refine ⟨b, off, rfl, ?_⟩
        rw [hcj, vb_of (byte_bounds (hwz z hxm))]
        rfl
    · cases hx

/-- An array of bytes. -/
theorem row_of_trod {H : Type} {enc : TypeId × Value → H} {W : World} {t n m : Nat} {cs : List Value} {y : DataW H × List MemPlace} (hu : Tryd.prog.underlying t = some (.array n 5)) (hc : Tryd.prog.cellsOf t = n) (h : DataW.trod enc Tryd.prog W 0 (fun _ => true) true m t cs = some y) :
    ∃ l : List B, cs = l.map vb ∧ l.length = n := by
  obtain ⟨xs, m', _, _, hlen, hxs, hel⟩ := DataW.trod_array hu h
  rw [cells5] at hel
  rw [hc] at hlen
  refine ⟨cs.map (fun v => kb (intOf v)), ?_, by simp [hlen]⟩
  apply List.ext_getElem?
  intro i
  rcases Nat.lt_or_ge i n with hi | hi
  · have h1 := hel i hi
    rw [List.getElem?_eq_getElem (by omega)] at h1
    obtain ⟨k, e, _, wf⟩ := DataW.trod_int Tryd.underlying5 h1
    have hi' : i < cs.length := by omega
    rw [Nat.mul_one, List.drop_eq_getElem_cons hi', List.take_succ_cons, List.take_zero] at e
    simp at e
    rw [List.getElem?_map, List.getElem?_map, List.getElem?_eq_getElem hi', e]
    simp [intOf]
    exact vb_of (byte_bounds wf)
  · rw [List.getElem?_eq_none (by omega), List.getElem?_eq_none (by simp; omega)]

/-- An array of digests. -/
theorem rows_of_trod {H : Type} {enc : TypeId × Value → H} {W : World} {t n m : Nat} {cs : List Value} {y : DataW H × List MemPlace} (hu : Tryd.prog.underlying t = some (.array n 24)) (hc : Tryd.prog.cellsOf t = n * 32) (h : DataW.trod enc Tryd.prog W 0 (fun _ => true) true m t cs = some y) :
    ∃ l : List B, cs = l.map vb ∧ l.length = n * 32 := by
  obtain ⟨xs, m', _, _, hlen, hxs, hel⟩ := DataW.trod_array hu h
  rw [cells24] at hel
  rw [hc] at hlen
  refine ⟨cs.map (fun v => kb (intOf v)), ?_, by simp [hlen]⟩
  apply List.ext_getElem?
  intro i
  rcases Nat.lt_or_ge i (n * 32) with hi | hi
  · have h1 := hel (i / 32) (by omega)
    rw [List.getElem?_eq_getElem (by omega)] at h1
    obtain ⟨l, e, hl⟩ := row_of_trod Tryd.underlying24 cells24 h1
    have h2 : ((cs.drop (i / 32 * 32)).take 32)[i % 32]? = (l.map vb)[i % 32]? := by rw [e]
    rw [List.getElem?_take, if_pos (by omega), List.getElem?_drop, show i / 32 * 32 + i % 32 = i by omega, List.getElem?_map, List.getElem?_eq_getElem (i := i % 32) (l := l) (by omega)] at h2
    rw [List.getElem?_map, List.getElem?_map, h2]
    simp [vb, intOf]
    exact ((nb_kb _).trans (by have := nb_lt l[i % 32]; omega)).symm
  · rw [List.getElem?_eq_none (by omega), List.getElem?_eq_none (by simp; omega)]

theorem agg_of_wide {W : World} {t n e : Nat} {b0 : Nat} {v : Value} (hu : Tryd.prog.underlying t = some (.array n e)) (h : Value.okWide Tryd.prog W .any b0 t v) : ∃ cs, v = .agg cs := by
  simp only [Value.okWide, hu] at h
  obtain ⟨cs, h1, _⟩ := h
  exact ⟨cs, h1⟩
theorem digests_of_trod {H : Type} {enc : TypeId × Value → H} {W : World} {t n : Nat} {b0 : Nat} {v : Value} {d : DataW H} {p : List MemPlace} (hu : Tryd.prog.underlying t = some (.array n 24)) (hc : Tryd.prog.cellsOf t = n * 32) (hv : Value.okWide Tryd.prog W .any b0 t v)
    (h : DataW.Trod enc Tryd.prog W 0 (fun _ => true) true t v d p) : ∃ D : List B, v = .agg (brow D) ∧ D.length = n * 32 := by
  obtain ⟨cs, rfl⟩ := agg_of_wide hu hv
  obtain ⟨fuel, hf⟩ := h
  obtain ⟨l, e, hl⟩ := rows_of_trod hu hc hf
  refine ⟨l, ?_, hl⟩
  simp [Value.cells] at e
  rw [← Array.toArray_toList (xs := cs), e]
  rfl
end

/-! Fq: What came in: slices of entries, of numbers, blocks. -/
section
open Go.ChangeShapes Go.WideShapes Go.ChangeAt Go.RowKit Go.Deep

theorem cellsKey : Tryd.prog.cellsOf 24 = 32 := by kernel_rfl
theorem cells3 : Tryd.prog.cellsOf 3 = 1 := by kernel_rfl
theorem cells26 : Tryd.prog.cellsOf 30 = 128 := by kernel_rfl

theorem addr_plain {W : World} {a : Addr} {v : Value} (h : W.cell? ((a.add 0).add 0) = some v) : ∃ b o, a = ⟨b, o, none⟩ := by
  have := World.cell?_spot h
  obtain ⟨b, o, sp⟩ := a
  simp [Addr.add] at this
  subst this
  exact ⟨b, o, rfl⟩

/-- A block. -/
theorem block_of_trod {H : Type} {enc : TypeId × Value → H} {W : World} {b0 : Nat} {v : Value} {d : DataW H} {p : List MemPlace} (hv : Value.okWide Tryd.prog W .any b0 30 v)
    (h : DataW.Trod enc Tryd.prog W 0 (fun _ => true) true 30 v d p) : ∃ D : List B, v = .agg (brow D) ∧ D.length = 128 := by
  obtain ⟨cs, rfl⟩ := agg_of_wide Tryd.underlying30 hv
  obtain ⟨fuel, hf⟩ := h
  obtain ⟨l, e, hl⟩ := row_of_trod Tryd.underlying30 cells26 hf
  refine ⟨l, ?_, hl⟩
  simp [Value.cells] at e
  rw [← Array.toArray_toList (xs := cs), e]
  rfl
end

end Go.Proofs.YtdgnjpdjohibeaaDoor
