/-
  Packed texts: Fr, Fq.
-/
import Derived.Test.YthngaegfppbdmaaDoorGC
import Derived.Test.YthngaegfppbdmaaDoorTie
import Derived.Test.YthngaegfppbdmaaDoorCards
import Derived.ProofKit
import Derived.ShutString
import Derived.ChangeOld
import Derived.Below
import Derived.Deep.Slices
import Derived.LaidMore
import Derived.OpenShut
import Derived.Stop.Joined
import Derived.Stop.LaidErr
import Derived.Lib.LaidTab
import Derived.SevenTiedAt
import Derived.Test.YthngaegfppbdmaaDoorGI
set_option linter.all false
set_option maxRecDepth 100000
namespace Go.Proofs.YthngaegfppbdmaaDoor

/-! Fr: What came in, as the walks want it: the package's two tables, bytes, digests. -/
section
open Go.ChangeShapes Go.WideShapes Go.ChangeAt Go.RowKit Go.Deep

theorem own : ownKnob Tryd.prog.godebug = none := by kernel_rfl
theorem laidOut : laidOutB Tryd.prog = true := by kernel_rfl
theorem gFirst : Tryd.prog.globalNamed "codex/sha.first" = some 0 := by kernel_rfl
theorem gRoots : Tryd.prog.globalNamed "codex/sha.roots" = some 1 := by kernel_rfl
theorem tFirst : (Tryd.prog.globals[0]?).map (·.type) = some 106 := by kernel_rfl
theorem tRoots : (Tryd.prog.globals[1]?).map (·.type) = some 128 := by kernel_rfl
theorem cells5 : Tryd.prog.cellsOf 5 = 1 := by kernel_rfl
theorem cells24 : Tryd.prog.cellsOf 52 = 32 := by kernel_rfl
theorem cells39 : Tryd.prog.cellsOf 105 = 1 := by kernel_rfl
theorem cells40 : Tryd.prog.cellsOf 106 = 8 := by kernel_rfl
theorem cells57 : Tryd.prog.cellsOf 128 = 64 := by kernel_rfl

/-- The listed variables with what they read as. -/
def laid2 : List (String × DataW Unit) := [("codex/sha.first", Rows.laid_codex_sha_first), ("codex/sha.roots", Rows.laid_codex_sha_roots)]
theorem first_data : (Rows.laid_codex_sha_first : DataW Unit) = Lib.tabData .u32 (h0.toL.map nw) := by kernel_rfl
theorem roots_data : (Rows.laid_codex_sha_roots : DataW Unit) = Lib.tabData .u32 (kk.map nw) := by kernel_rfl

theorem tabs_of_laid {W : World} (h : laidMetH Tryd.prog laid2 W) : Tabs W := by
  rw [MakeChecks.laidMetH_plain _ _ _ (by kernel_rfl)] at h
  unfold laid2 at h
  rw [first_data, roots_data] at h
  have h1 := Lib.tabIs_of_head gFirst tFirst Tryd.underlying106 Tryd.underlying105 cells39 cells40 h
  have h2 := Lib.tabIs_of_head gRoots tRoots Tryd.underlying128 Tryd.underlying105 cells39 cells57 h.tail
  refine ⟨fun j x hx => ?_, fun j x hx => ?_⟩
  · have hj : j < h0.toL.length := (List.getElem?_eq_some_iff.1 hx).1
    have := h1.cell gFirst j (by simpa using hj)
    rw [this, List.getD_eq_getElem?_getD, List.getElem?_map, hx]
    rfl
  · have hj : j < kk.length := (List.getElem?_eq_some_iff.1 hx).1
    have := h2.cell gRoots j (by simpa using hj)
    rw [this, List.getD_eq_getElem?_getD, List.getElem?_map, hx]
    rfl
theorem door_met (os : Os) (args : Array Value) : laidMetH Tryd.prog laid2 ((World.doorLaid Tryd.prog 400 os).forCall (fun _ _ => 0) ⟨#[], args, []⟩).memory :=
  laidMetH_of_parts3 (fuel := 8) (laidMet_of_run' 8 (by kernel_rfl) (by kernel_rfl)) (by kernel_rfl) (by kernel_rfl)

theorem byte_bounds {n : Int} (h : (Lit.int .u8 n).wf = true) : 0 ≤ n ∧ n < 256 := by
  have : 0 ≤ n ∧ n ≤ 255 := by simpa [Lit.wf, IntKind.min, IntKind.max, IntKind.signed, IntKind.bits] using h
  omega
theorem int_bounds {n : Int} (h : (Lit.int .i64 n).wf = true) : -9223372036854775808 ≤ n ∧ n ≤ 9223372036854775807 := by simpa [Lit.wf, IntKind.min, IntKind.max, IntKind.signed, IntKind.bits] using h
theorem vb_of {n : Int} (h : 0 ≤ n ∧ n < 256) : Value.int .u8 n = vb (kb n) := by
  unfold vb; rw [nb_kb]; congr 1; omega

/-- A slice of bytes. -/
theorem bytes_of_trod {H : Type} {enc : TypeId × Value → H} {W : World} {v : Value} {d : DataW H} {p : List MemPlace} (h : DataW.Trod enc Tryd.prog W 0 (fun _ => true) true 48 v d p) (hv : ∃ a n c, v = .slice a n c) :
    ∃ a n c l, v = .slice a n c ∧ SlB W a n c l ∧ (a = none → c = 0) := by
  obtain ⟨a0, n0, c0, rfl⟩ := hv
  obtain ⟨fuel, hf⟩ := h
  rcases open_ints Tryd.underlying48 Tryd.underlying5 cells5 hf with ⟨hcs, _⟩ | ⟨a, len, cap, zs, hcs, _, hl, hm, hz, _, hcell, hwz⟩
  · simp [Value.cells] at hcs
    obtain ⟨rfl, rfl, rfl⟩ := hcs
    exact ⟨none, 0, 0, [], rfl, SlB.nil W, fun _ => rfl⟩
  · simp [Value.cells] at hcs
    obtain ⟨rfl, rfl, rfl⟩ := hcs
    simp at hz
    refine ⟨some a, n0, c0, (zs.take n0).map kb, rfl, ⟨by simp [hz]; omega, hl, fun j x hx => ?_⟩, fun e => by cases e⟩
    rw [List.getElem?_map, List.getElem?_take] at hx
    split at hx
    · cases hq : zs[j]? with
      | none => rw [hq] at hx; cases hx
      | some z =>
        rw [hq] at hx
        simp at hx
        subst hx
        have hj : j < zs.length := (List.getElem?_eq_some_iff.1 hq).1
        obtain ⟨b, off, rfl, hc⟩ := ints_at hcell (by omega)
        have e : zs.getD j 0 = z := by rw [List.getD_eq_getElem?_getD, hq]; rfl
        have hxm : z ∈ zs := List.mem_of_getElem? hq
        have hcj := hcell j hj
        rw [Addr.add_mid, e] at hcj
        refine ⟨b, off, rfl, ?_⟩
        rw [hcj, vb_of (byte_bounds (hwz z hxm))]
        rfl
    · cases hx

/-- An array of bytes. -/
theorem row_of_trod {H : Type} {enc : TypeId × Value → H} {W : World} {t n m : Nat} {cs : List Value} {y : DataW H × List MemPlace} (hu : Tryd.prog.underlying t = some (.array n 5)) (hc : Tryd.prog.cellsOf t = n) (h : DataW.trod enc Tryd.prog W 0 (fun _ => true) true m t cs = some y) :
    ∃ l : List B, cs = l.map vb ∧ l.length = n := by
  obtain ⟨xs, m', _, _, hlen, hxs, hel⟩ := DataW.trod_array hu h
  rw [cells5] at hel
  rw [hc] at hlen
  refine ⟨cs.map (fun v => kb (intOf v)), ?_, by simp [hlen]⟩
  apply List.ext_getElem?
  intro i
  rcases Nat.lt_or_ge i n with hi | hi
  · have h1 := hel i hi
    rw [List.getElem?_eq_getElem (by omega)] at h1
    obtain ⟨k, e, _, wf⟩ := DataW.trod_int Tryd.underlying5 h1
    have hi' : i < cs.length := by omega
    rw [Nat.mul_one, List.drop_eq_getElem_cons hi', List.take_succ_cons, List.take_zero] at e
    simp at e
    rw [List.getElem?_map, List.getElem?_map, List.getElem?_eq_getElem hi', e]
    simp [intOf]
    exact vb_of (byte_bounds wf)
  · rw [List.getElem?_eq_none (by omega), List.getElem?_eq_none (by simp; omega)]

/-- An array of digests. -/
theorem rows_of_trod {H : Type} {enc : TypeId × Value → H} {W : World} {t n m : Nat} {cs : List Value} {y : DataW H × List MemPlace} (hu : Tryd.prog.underlying t = some (.array n 52)) (hc : Tryd.prog.cellsOf t = n * 32) (h : DataW.trod enc Tryd.prog W 0 (fun _ => true) true m t cs = some y) :
    ∃ l : List B, cs = l.map vb ∧ l.length = n * 32 := by
  obtain ⟨xs, m', _, _, hlen, hxs, hel⟩ := DataW.trod_array hu h
  rw [cells24] at hel
  rw [hc] at hlen
  refine ⟨cs.map (fun v => kb (intOf v)), ?_, by simp [hlen]⟩
  apply List.ext_getElem?
  intro i
  rcases Nat.lt_or_ge i (n * 32) with hi | hi
  · have h1 := hel (i / 32) (by omega)
    rw [List.getElem?_eq_getElem (by omega)] at h1
    obtain ⟨l, e, hl⟩ := row_of_trod Tryd.underlying52 cells24 h1
    have h2 : ((cs.drop (i / 32 * 32)).take 32)[i % 32]? = (l.map vb)[i % 32]? := by rw [e]
    rw [List.getElem?_take, if_pos (by omega), List.getElem?_drop, show i / 32 * 32 + i % 32 = i by omega, List.getElem?_map, List.getElem?_eq_getElem (i := i % 32) (l := l) (by omega)] at h2
    rw [List.getElem?_map, List.getElem?_map, h2]
    simp [vb, intOf]
    exact ((nb_kb _).trans (by have := nb_lt l[i % 32]; omega)).symm
  · rw [List.getElem?_eq_none (by omega), List.getElem?_eq_none (by simp; omega)]

theorem agg_of_wide {W : World} {t n e : Nat} {b0 : Nat} {v : Value} (hu : Tryd.prog.underlying t = some (.array n e)) (h : Value.okWide Tryd.prog W .any b0 t v) : ∃ cs, v = .agg cs := by
  simp only [Value.okWide, hu] at h
  obtain ⟨cs, h1, _⟩ := h
  exact ⟨cs, h1⟩
theorem digests_of_trod {H : Type} {enc : TypeId × Value → H} {W : World} {t n : Nat} {b0 : Nat} {v : Value} {d : DataW H} {p : List MemPlace} (hu : Tryd.prog.underlying t = some (.array n 52)) (hc : Tryd.prog.cellsOf t = n * 32) (hv : Value.okWide Tryd.prog W .any b0 t v)
    (h : DataW.Trod enc Tryd.prog W 0 (fun _ => true) true t v d p) : ∃ D : List B, v = .agg (brow D) ∧ D.length = n * 32 := by
  obtain ⟨cs, rfl⟩ := agg_of_wide hu hv
  obtain ⟨fuel, hf⟩ := h
  obtain ⟨l, e, hl⟩ := rows_of_trod hu hc hf
  refine ⟨l, ?_, hl⟩
  simp [Value.cells] at e
  rw [← Array.toArray_toList (xs := cs), e]
  rfl
end

/-! Fq: What came in: slices of entries, of numbers, blocks. -/
section
open Go.ChangeShapes Go.WideShapes Go.ChangeAt Go.RowKit Go.Deep

theorem cellsKey : Tryd.prog.cellsOf 52 = 32 := by kernel_rfl
theorem cells3 : Tryd.prog.cellsOf 3 = 1 := by kernel_rfl
theorem cells46 : Tryd.prog.cellsOf 54 = 35 := by kernel_rfl
theorem cells26 : Tryd.prog.cellsOf 25 = 128 := by kernel_rfl

/-- One entry's cells. -/
theorem entry_of_trod {H : Type} {enc : TypeId × Value → H} {W : World} {m : Nat} {cs : List Value} {y : DataW H × List MemPlace} (h : DataW.trod enc Tryd.prog W 0 (fun _ => true) true m 54 cs = some y) :
    ∃ e : En, cs = e.cells ∧ e.key.length = 32 := by
  obtain ⟨xs, n, _, _, hlen, hxs, hf⟩ := DataW.trod_struct Tryd.underlying54 h
  rw [cells46] at hlen
  obtain ⟨y0, y1, y2, y3, rfl⟩ : ∃ y0 y1 y2 y3, xs = [y0, y1, y2, y3] := by
    match xs, hxs with
    | [a, b, c, d], _ => exact ⟨a, b, c, d, rfl⟩
  have t0 : DataW.trod enc Tryd.prog W 0 (fun _ => true) true n 52 (List.take (Tryd.prog.cellsOf 52) cs) = some y0 := hf 0 _ rfl
  have t1 : DataW.trod enc Tryd.prog W 0 (fun _ => true) true n 3 (List.take (Tryd.prog.cellsOf 3) (cs.drop 32)) = some y1 := hf 1 _ rfl
  have t2 : DataW.trod enc Tryd.prog W 0 (fun _ => true) true n 3 (List.take (Tryd.prog.cellsOf 3) (cs.drop 33)) = some y2 := hf 2 _ rfl
  have t3 : DataW.trod enc Tryd.prog W 0 (fun _ => true) true n 3 (List.take (Tryd.prog.cellsOf 3) (cs.drop 34)) = some y3 := hf 3 _ rfl
  rw [cellsKey] at t0
  rw [cells3] at t1 t2 t3
  obtain ⟨k, e0, hk⟩ := row_of_trod Tryd.underlying52 cellsKey t0
  obtain ⟨a, e1, _, wa⟩ := DataW.trod_int Tryd.underlying3 t1
  obtain ⟨b, e2, _, wb⟩ := DataW.trod_int Tryd.underlying3 t2
  obtain ⟨c, e3, _, wc⟩ := DataW.trod_int Tryd.underlying3 t3
  refine ⟨⟨k, a, b, c⟩, ?_, hk⟩
  have g : ∀ j v, (cs.drop (32 + j)).take 1 = [v] → cs[32 + j]? = some v := fun j v hv => by
    have := congrArg (fun l => l[0]?) hv
    simpa using this
  have g1 := g 0 _ e1
  have g2 := g 1 _ e2
  have g3 := g 2 _ e3
  apply List.ext_getElem?
  intro j
  rcases Nat.lt_or_ge j 32 with h1 | h1
  · rw [cells_key hk h1]
    have := congrArg (fun l => l[j]?) e0
    simp only [List.getElem?_take, if_pos h1, List.getElem?_map] at this
    exact this
  · obtain ⟨i, rfl⟩ : ∃ i, j = 32 + i := ⟨j - 32, by omega⟩
    rw [cells_num hk i]
    match i with
    | 0 => exact g1
    | 1 => exact g2
    | 2 => exact g3
    | i + 3 => rw [List.getElem?_eq_none (by omega)]; simp

theorem addr_plain {W : World} {a : Addr} {v : Value} (h : W.cell? ((a.add 0).add 0) = some v) : ∃ b o, a = ⟨b, o, none⟩ := by
  have := World.cell?_spot h
  obtain ⟨b, o, sp⟩ := a
  simp [Addr.add] at this
  subst this
  exact ⟨b, o, rfl⟩

/-- A slice of entries. -/
theorem entries_of_trod {H : Type} {enc : TypeId × Value → H} {W : World} {v : Value} {d : DataW H} {p : List MemPlace} (h : DataW.Trod enc Tryd.prog W 0 (fun _ => true) true 22 v d p) (hv : ∃ a n c, v = .slice a n c) :
    ∃ a n c l, v = .slice a n c ∧ SlE W a n c l ∧ n ≤ 9223372036854775807 := by
  obtain ⟨a0, n0, c0, rfl⟩ := hv
  obtain ⟨fuel, hf⟩ := h
  rcases open_slice Tryd.underlying22 hf with ⟨hcs, _⟩ | ⟨a, len, cap, m, n, D, Pl, hcs, _, hl, hm, hmm, _, hel⟩
  · simp [Value.cells] at hcs
    obtain ⟨rfl, rfl, rfl⟩ := hcs
    exact ⟨none, 0, 0, [], rfl, SlE.nil W, by omega⟩
  · simp [Value.cells] at hcs
    obtain ⟨rfl, rfl, rfl⟩ := hcs
    simp at hmm
    rw [cells46] at hel
    have hpl : 0 < n0 → ∃ b o, a = ⟨b, o, none⟩ := fun hi => by
      obtain ⟨cs, hc, ht⟩ := hel 0 (by omega)
      obtain ⟨x, rfl, hx⟩ := entry_of_trod ht
      obtain ⟨_, hlen, hcell⟩ := World.cells?_some hc
      have h0 := hcell 0 (by omega)
      rw [Nat.zero_mul, cells_key hx (by omega), List.getElem?_eq_getElem (by omega)] at h0
      exact addr_plain h0
    have hst : ∀ i, i < n0 → ∃ x : En, ∃ b o, a = ⟨b, o, none⟩ ∧ EnAt W b (o + i * 35) x := fun i hi => by
      obtain ⟨b, o, rfl⟩ := hpl (by omega)
      obtain ⟨cs, hc, ht⟩ := hel i (by omega)
      obtain ⟨x, rfl, hx⟩ := entry_of_trod ht
      obtain ⟨_, hlen, hcell⟩ := World.cells?_some hc
      refine ⟨x, b, o, rfl, hx, fun j v hv => ?_⟩
      have hj : j < 35 := by have := (List.getElem?_eq_some_iff.1 hv).1; rw [En.cells_len hx] at this; exact this
      have := hcell j hj
      simp only [Addr.add_mid] at this
      rw [this]; exact hv
    obtain ⟨X, hX⟩ := @choose_lt En ⟨default⟩ n0 (p := fun i x => ∃ b o, a = ⟨b, o, none⟩ ∧ EnAt W b (o + i * 35) x) hst
    have hkey : Keyed ((List.range n0).map X) := fun e he => by
      simp at he
      obtain ⟨i, hi, rfl⟩ := he
      obtain ⟨b, o, _, hE⟩ := hX i hi
      exact hE.len
    refine ⟨some a, n0, c0, (List.range n0).map X, rfl, ⟨by simp, hl, hkey, fun j v hv => ?_⟩, by simp only [maxLen] at hm; omega⟩
    have hj : j < n0 * 35 := by have := (List.getElem?_eq_some_iff.1 hv).1; rw [ecs_len hkey] at this; simpa using this
    obtain ⟨b, o, rfl, hE⟩ := hX (j / 35) (by omega)
    refine ⟨b, o, rfl, ?_⟩
    have h1 := ecs_get hkey (i := j / 35) (j := j % 35) (by simp; omega) (by omega)
    rw [show j / 35 * 35 + j % 35 = j by omega, hv] at h1
    have h2 : ((List.range n0).map X).getD (j / 35) default = X (j / 35) := by
      rw [List.getD_eq_getElem?_getD, List.getElem?_map, List.getElem?_range (by omega)]; rfl
    rw [h2] at h1
    have := hE.at_ (j % 35) v h1.symm
    rwa [Nat.add_assoc, show j / 35 * 35 + j % 35 = j by omega] at this

/-- A slice of numbers. -/
theorem nums_of_trod {H : Type} {enc : TypeId × Value → H} {W : World} {v : Value} {d : DataW H} {p : List MemPlace} (h : DataW.Trod enc Tryd.prog W 0 (fun _ => true) true 23 v d p) (hv : ∃ a n c, v = .slice a n c) :
    ∃ a n c l, v = .slice a n c ∧ SlI W a n c l ∧ n ≤ 9223372036854775807 := by
  obtain ⟨a0, n0, c0, rfl⟩ := hv
  obtain ⟨fuel, hf⟩ := h
  rcases open_ints Tryd.underlying23 Tryd.underlying3 cells3 hf with ⟨hcs, _⟩ | ⟨a, len, cap, zs, hcs, _, hl, hm, hz, _, hcell, hwz⟩
  · simp [Value.cells] at hcs
    obtain ⟨rfl, rfl, rfl⟩ := hcs
    exact ⟨none, 0, 0, [], rfl, SlI.nil W, by omega⟩
  · simp [Value.cells] at hcs
    obtain ⟨rfl, rfl, rfl⟩ := hcs
    simp at hz
    refine ⟨some a, n0, c0, zs.take n0, rfl, ⟨by simp [hz]; omega, hl, fun j x hx => ?_⟩, by simp only [maxLen] at hm; omega⟩
    rw [List.getElem?_take] at hx
    split at hx
    · have hj : j < zs.length := (List.getElem?_eq_some_iff.1 hx).1
      obtain ⟨b, off, rfl, hc⟩ := ints_at hcell (by omega)
      have e : zs.getD j 0 = x := by rw [List.getD_eq_getElem?_getD, hx]; rfl
      have hcj := hcell j hj
      rw [Addr.add_mid, e] at hcj
      exact ⟨b, off, rfl, hcj⟩
    · cases hx

/-- A block. -/
theorem block_of_trod {H : Type} {enc : TypeId × Value → H} {W : World} {b0 : Nat} {v : Value} {d : DataW H} {p : List MemPlace} (hv : Value.okWide Tryd.prog W .any b0 25 v)
    (h : DataW.Trod enc Tryd.prog W 0 (fun _ => true) true 25 v d p) : ∃ D : List B, v = .agg (brow D) ∧ D.length = 128 := by
  obtain ⟨cs, rfl⟩ := agg_of_wide Tryd.underlying25 hv
  obtain ⟨fuel, hf⟩ := h
  obtain ⟨l, e, hl⟩ := row_of_trod Tryd.underlying25 cells26 hf
  refine ⟨l, ?_, hl⟩
  simp [Value.cells] at e
  rw [← Array.toArray_toList (xs := cs), e]
  rfl
end

end Go.Proofs.YthngaegfppbdmaaDoor
