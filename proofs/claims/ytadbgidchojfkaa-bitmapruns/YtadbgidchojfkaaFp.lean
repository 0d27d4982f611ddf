/-
  What came in, as the walks want it: numbers, bitmaps.
-/
import Derived.Test.YtadbgidchojfkaaLm
import Derived.ProofKit
import Derived.ShutString
import Derived.ChangeOld
import Derived.Below
import Derived.Deep.Slices
import Derived.LaidMore
import Derived.OpenShut
import Derived.WideKeyPair
set_option linter.all false
namespace Go.Proofs.Ytadbgidchojfkaa
open Go.ChangeShapes Go.WideShapes Go.ChangeAt Go.RowKit Go.Deep

theorem own : ownKnob Try.prog.godebug = none := by kernel_rfl
theorem laidOut : laidOutB Try.prog = true := by kernel_rfl
theorem cells5 : Try.prog.cellsOf 5 = 1 := by kernel_rfl
theorem cells23 : Try.prog.cellsOf 23 = 16 := by kernel_rfl
theorem cells24 : Try.prog.cellsOf 24 = 2 * 16 := by kernel_rfl
theorem byte_bounds {n : Int} (h : (Lit.int .u8 n).wf = true) : 0 ≤ n ∧ n < 256 := by
  have : 0 ≤ n ∧ n ≤ 255 := by simpa [Lit.wf, IntKind.min, IntKind.max, IntKind.signed, IntKind.bits] using h
  omega
theorem int_bounds {n : Int} (h : (Lit.int .i64 n).wf = true) : -9223372036854775808 ≤ n ∧ n ≤ 9223372036854775807 := by simpa [Lit.wf, IntKind.min, IntKind.max, IntKind.signed, IntKind.bits] using h
def kb (k : Int) : B := BitVec.ofInt 8 k
theorem nb_kb (k : Int) : nb (kb k) = k % 256 := by
  unfold nb kb
  rw [BitVec.toNat_ofInt]
  have : (0 : Int) ≤ k % 256 := Int.emod_nonneg _ (by decide)
  omega
theorem vb_of {n : Int} (h : 0 ≤ n ∧ n < 256) : Value.int .u8 n = vb (kb n) := by
  unfold vb; rw [nb_kb]; congr 1; omega

/-- An array of bytes. -/
theorem row_of_trod {H : Type} {enc : TypeId × Value → H} {W : World} {t n m : Nat} {cs : List Value} {y : DataW H × List MemPlace} (hu : Try.prog.underlying t = some (.array n 5)) (hc : Try.prog.cellsOf t = n) (h : DataW.trod enc Try.prog W 0 (fun _ => true) true m t cs = some y) :
    ∃ l : List B, cs = l.map vb ∧ l.length = n := by
  obtain ⟨xs, m', _, _, hlen, hxs, hel⟩ := DataW.trod_array hu h
  rw [cells5] at hel
  rw [hc] at hlen
  refine ⟨cs.map (fun v => kb (intOf v)), ?_, by simp [hlen]⟩
  apply List.ext_getElem?
  intro i
  rcases Nat.lt_or_ge i n with hi | hi
  · have h1 := hel i hi
    rw [List.getElem?_eq_getElem (by omega)] at h1
    obtain ⟨k, e, _, wf⟩ := DataW.trod_int Try.underlying5 h1
    have hi' : i < cs.length := by omega
    rw [Nat.mul_one, List.drop_eq_getElem_cons hi', List.take_succ_cons, List.take_zero] at e
    simp at e
    rw [List.getElem?_map, List.getElem?_map, List.getElem?_eq_getElem hi', e]
    simp [intOf]
    exact vb_of (byte_bounds wf)
  · rw [List.getElem?_eq_none (by omega), List.getElem?_eq_none (by simp; omega)]

/-- An array of bitmaps. -/
theorem rows_of_trod {H : Type} {enc : TypeId × Value → H} {W : World} {t n m : Nat} {cs : List Value} {y : DataW H × List MemPlace} (hu : Try.prog.underlying t = some (.array n 23)) (hc : Try.prog.cellsOf t = n * 16) (h : DataW.trod enc Try.prog W 0 (fun _ => true) true m t cs = some y) :
    ∃ l : List B, cs = l.map vb ∧ l.length = n * 16 := by
  obtain ⟨xs, m', _, _, hlen, hxs, hel⟩ := DataW.trod_array hu h
  rw [cells23] at hel
  rw [hc] at hlen
  refine ⟨cs.map (fun v => kb (intOf v)), ?_, by simp [hlen]⟩
  apply List.ext_getElem?
  intro i
  rcases Nat.lt_or_ge i (n * 16) with hi | hi
  · have h1 := hel (i / 16) (by omega)
    rw [List.getElem?_eq_getElem (by omega)] at h1
    obtain ⟨l, e, hl⟩ := row_of_trod Try.underlying23 cells23 h1
    have h2 : ((cs.drop (i / 16 * 16)).take 16)[i % 16]? = (l.map vb)[i % 16]? := by rw [e]
    rw [List.getElem?_take, if_pos (by omega), List.getElem?_drop, show i / 16 * 16 + i % 16 = i by omega, List.getElem?_map, List.getElem?_eq_getElem (i := i % 16) (l := l) (by omega)] at h2
    rw [List.getElem?_map, List.getElem?_map, h2]
    simp [vb, intOf]
    exact ((nb_kb _).trans (by have := nb_lt l[i % 16]; omega)).symm
  · rw [List.getElem?_eq_none (by omega), List.getElem?_eq_none (by simp; omega)]

theorem agg_of_wide {W : World} {t n e : Nat} {b0 : Nat} {v : Value} (hu : Try.prog.underlying t = some (.array n e)) (h : Value.okWide Try.prog W .any b0 t v) : ∃ cs, v = .agg cs := by
  simp only [Value.okWide, hu] at h
  obtain ⟨cs, h1, _⟩ := h
  exact ⟨cs, h1⟩
theorem bitmaps_of_trod {H : Type} {enc : TypeId × Value → H} {W : World} {t n : Nat} {b0 : Nat} {v : Value} {d : DataW H} {p : List MemPlace} (hu : Try.prog.underlying t = some (.array n 23)) (hc : Try.prog.cellsOf t = n * 16) (hv : Value.okWide Try.prog W .any b0 t v)
    (h : DataW.Trod enc Try.prog W 0 (fun _ => true) true t v d p) : ∃ D : List B, v = .agg (brow D) ∧ D.length = n * 16 := by
  obtain ⟨cs, rfl⟩ := agg_of_wide hu hv
  obtain ⟨fuel, hf⟩ := h
  obtain ⟨l, e, hl⟩ := rows_of_trod hu hc hf
  refine ⟨l, ?_, hl⟩
  simp [Value.cells] at e
  rw [← Array.toArray_toList (xs := cs), e]
  rfl

theorem bitmap_of_trod {H : Type} {enc : TypeId × Value → H} {W : World} {t n : Nat} {b0 : Nat} {v : Value} {d : DataW H} {p : List MemPlace} (hu : Try.prog.underlying t = some (.array n 5)) (hc : Try.prog.cellsOf t = n) (hv : Value.okWide Try.prog W .any b0 t v)
    (h : DataW.Trod enc Try.prog W 0 (fun _ => true) true t v d p) : ∃ D : List B, v = .agg (brow D) ∧ D.length = n := by
  obtain ⟨cs, rfl⟩ := agg_of_wide hu hv
  obtain ⟨fuel, hf⟩ := h
  obtain ⟨l, e, hl⟩ := row_of_trod hu hc hf
  refine ⟨l, ?_, hl⟩
  simp [Value.cells] at e
  rw [← Array.toArray_toList (xs := cs), e]
  rfl

end Go.Proofs.Ytadbgidchojfkaa
