/-
  Packed texts: Da, Db, DMem, Dc, Dd, DRf, DRg, DRh.
-/
import Derived.Test.YtdgnjpdjohibeaaDoorGF
import Derived.Test.YtdgnjpdjohibeaaDoorPz
import Derived.WalkKit
import Derived.WalkSpells
import Derived.WalkLawsBesides
import Derived.Deep.WholeRow
import Derived.Deep.MidRow
import Derived.Deep.RegionLaw
import Derived.Deep.RegionHeld3
import Derived.Deep.AppendLies
import Derived.Deep.DrawnRows
import Derived.Deep.QuietTactic
import Derived.BigQuiet
import Derived.RangeFuncNested
import Derived.RangeFuncBound
import Derived.RangeFuncCalls
import Derived.RangeFuncLeaves
import Derived.Shelf.Abstract
import Derived.Shelf.RegionOpen
import Derived.OwnWalkIn
import Derived.TacticsInMore
import Derived.LoopNIn
import Derived.LoopIn
set_option linter.all false
set_option maxRecDepth 100000
namespace Go.Proofs.YtdgnjpdjohibeaaDoor

/-! Da: THE DISK's SMALL METHODS: what each call does, said of the one block in which the struct lies. -/
section
open Go.RowKit

/-- The disk's struct lies in block p: its five fields. -/
def DiskAt (w : World) (p : Nat) (vb vl : Value) (F : Int) (dn : Bool) (dc : Int) : Prop :=
  w.heap[p]? = some (.cells #[vb, vl, .int .i64 F, .bool dn, .int .i64 dc] 88 (0, 0))

theorem DiskAt.cells {w : World} {p : Nat} {vb vl : Value} {F : Int} {dn : Bool} {dc : Int} (h : DiskAt w p vb vl F dn dc) :
    w.cell? ⟨p, 0, none⟩ = some vb ∧ w.cell? ⟨p, 1, none⟩ = some vl ∧ w.cell? ⟨p, 2, none⟩ = some (.int .i64 F) ∧ w.cell? ⟨p, 3, none⟩ = some (.bool dn) ∧ w.cell? ⟨p, 4, none⟩ = some (.int .i64 dc) := by
  refine ⟨?_, ?_, ?_, ?_, ?_⟩ <;> simp [World.cell?, show w.heap[p]? = _ from h]

theorem DiskAt.free {w : World} {p : Nat} {vb vl : Value} {F : Int} {dn : Bool} {dc : Int} (h : DiskAt w p vb vl F dn dc) (j : Nat) : w.frozen? ⟨p, j, none⟩ = false :=
  frozen_of_row w p j _ _ h

theorem len_nil (w : World) : Calls Tryd.prog 39 #[.pointer none] w fun e w' => e = .returned (.int .i64 0) ∧ w' = w := by
  go_enter Tryd.func39, Tryd.ntmps39
  go_wp2
  go_ret
  exact ⟨rfl, rfl⟩

theorem len_any (w : World) (p : Nat) (a : Option Addr) (n c : Nat) (vl : Value) (F : Int) (dn : Bool) (dc : Int) (h : DiskAt w p (.slice a n c) vl F dn dc) :
    Calls Tryd.prog 39 #[.pointer (some ⟨p, 0, none⟩)] w fun e w' => e = .returned (.int .i64 n) ∧ w' = w := by
  obtain ⟨h0, h1, h2, h3, h4⟩ := h.cells

  go_enter Tryd.func39, Tryd.ntmps39
  go_wp2
  go_ret
  exact ⟨rfl, rfl⟩

theorem down_nil (w : World) : Calls Tryd.prog 47 #[.pointer none] w fun e w' => e = .returned (.bool false) ∧ w' = w := by
  go_enter Tryd.func47, Tryd.ntmps47
  go_wp2
  go_ret
  exact ⟨rfl, rfl⟩

theorem down_any (w : World) (p : Nat) (vb vl : Value) (F : Int) (dn : Bool) (dc : Int) (h : DiskAt w p vb vl F dn dc) :
    Calls Tryd.prog 47 #[.pointer (some ⟨p, 0, none⟩)] w fun e w' => e = .returned (.bool dn) ∧ w' = w := by
  obtain ⟨h0, h1, h2, h3, h4⟩ := h.cells

  go_enter Tryd.func47, Tryd.ntmps47
  go_wp2
  go_ret
  exact ⟨rfl, rfl⟩

theorem fuse_nil (w : World) (n : Int) : Calls Tryd.prog 26 #[.pointer none, .int .i64 n] w fun e w' => e = .returned (.tuple #[]) ∧ w' = w := by
  go_enter Tryd.func26, Tryd.ntmps26
  go_wp2
  refine bodyPost_ret (results_none rfl _ _ _) rfl ?_
  exact ⟨rfl, rfl⟩

theorem Keeps.at {p : Nat} {a w : World} (h : Keeps (· = p) a w) (j : Nat) (u : Value) : Keeps (· = p) a (w.setCell ⟨p, j, Option.none⟩ u) := h.setCell (p := ⟨p, j, Option.none⟩) (.inl rfl) u

theorem DiskAt.lt {w : World} {p : Nat} {vb vl : Value} {F : Int} {dn : Bool} {dc : Int} (h : DiskAt w p vb vl F dn dc) : p < w.heap.size := (Array.getElem?_eq_some_iff.1 h).1
theorem DiskAt.kept {w w' : World} {S : Nat → Prop} {p : Nat} {vb vl : Value} {F : Int} {dn : Bool} {dc : Int} (h : DiskAt w p vb vl F dn dc) (hk : Keeps S w w') (hp : ¬ S p) : DiskAt w' p vb vl F dn dc :=
  (hk.block p h.lt hp).trans h

theorem DiskAt.set1 {w : World} {p : Nat} {vb vl : Value} {F : Int} {dn : Bool} {dc : Int} (h : DiskAt w p vb vl F dn dc) (u : Value) : DiskAt (w.setCell ⟨p, 1, none⟩ u) p vb u F dn dc := by
  unfold DiskAt; rw [heap_setCell_same w p 1 _ _ u h]; rfl
theorem DiskAt.set2 {w : World} {p : Nat} {vb vl : Value} {F : Int} {dn : Bool} {dc : Int} (h : DiskAt w p vb vl F dn dc) (u : Int) : DiskAt (w.setCell ⟨p, 2, none⟩ (.int .i64 u)) p vb vl u dn dc := by
  unfold DiskAt; rw [heap_setCell_same w p 2 _ _ _ h]; rfl
theorem DiskAt.set3 {w : World} {p : Nat} {vb vl : Value} {F : Int} {dn : Bool} {dc : Int} (h : DiskAt w p vb vl F dn dc) (u : Bool) : DiskAt (w.setCell ⟨p, 3, none⟩ (.bool u)) p vb vl F u dc := by
  unfold DiskAt; rw [heap_setCell_same w p 3 _ _ _ h]; rfl
theorem DiskAt.set4 {w : World} {p : Nat} {vb vl : Value} {F : Int} {dn : Bool} {dc : Int} (h : DiskAt w p vb vl F dn dc) (u : Int) : DiskAt (w.setCell ⟨p, 4, none⟩ (.int .i64 u)) p vb vl F dn u := by
  unfold DiskAt; rw [heap_setCell_same w p 4 _ _ _ h]; rfl

theorem fuse_any (w : World) (n : Int) (p : Nat) (vb vl : Value) (F : Int) (dn : Bool) (dc : Int) (hD : DiskAt w p vb vl F dn dc) :
    Calls Tryd.prog 26 #[.pointer (some ⟨p, 0, none⟩), .int .i64 n] w fun e w' => e = .returned (.tuple #[]) ∧ DiskAt w' p vb vl (max n (-1)) dn dc ∧ Keeps (· = p) w w' := by
  obtain ⟨h0, h1, h2, h3, h4⟩ := hD.cells
  have hf := hD.free 2
  have hn : n < -1 ∨ -1 ≤ n := by omega
  go_enter Tryd.func26, Tryd.ntmps26
  go_wp2
  all_goals go_end0
  all_goals refine ⟨rfl, ?_, (Keeps.refl _ _).at 2 _⟩
  · have := hD.set2 (-1)
    rwa [show max n (-1) = -1 by omega]
  · have := hD.set2 n
    rwa [show max n (-1) = n by omega]

theorem burn_down (w : World) (p : Nat) (vb vl : Value) (F : Int) (dn : Bool) (dc : Int) (h : DiskAt w p vb vl F dn dc) (hd : F = 0 ∨ dn = true) :
    Calls Tryd.prog 43 #[.pointer (some ⟨p, 0, none⟩)] w fun e w' => e = .returned (.int .i64 12) ∧ DiskAt w' p vb vl F true dc ∧ Keeps (· = p) w w' := by
  obtain ⟨h0, h1, h2, h3, h4⟩ := h.cells
  have hf := h.free 3
  by_cases hF : F = 0
  · subst hF
    clear hd
    go_enter Tryd.func43, Tryd.ntmps43
    go_wp2
    go_ret
    exact ⟨rfl, h.set3 true, (Keeps.refl _ _).at 3 _⟩
  · have hF' : (F == 0) = false := by simpa using hF
    obtain rfl : dn = true := by simpa [hF] using hd
    clear hd
    go_enter Tryd.func43, Tryd.ntmps43
    go_wp2
    go_ret
    exact ⟨rfl, h, Keeps.refl _ _⟩

/-- The fuse behind one write or sync that goes through. -/
def burnt (F : Int) : Int := if 0 < F then F - 1 else F

theorem burn_goes (w : World) (p : Nat) (vb vl : Value) (F : Int) (dc : Int) (h : DiskAt w p vb vl F false dc) (hF : F ≠ 0) (hlo : -9223372036854775808 ≤ F) (hhi : F ≤ 9223372036854775807) (hd0 : 0 ≤ dc) (hd1 : dc < 1000000) :
    Calls Tryd.prog 43 #[.pointer (some ⟨p, 0, none⟩)] w fun e w' => e = .returned (.int .i64 0) ∧ DiskAt w' p vb vl (burnt F) false (dc + 1) ∧ Keeps (· = p) w w' := by
  obtain ⟨h0, h1, h2, h3, h4⟩ := h.cells
  have hf := h.free 2
  have hf4 := h.free 4
  have hF' : (F == 0) = false := by simpa using hF
  clear hF
  by_cases hpos : 0 < F
  · go_enter Tryd.func43, Tryd.ntmps43
    go_wp2
    go_ret
    refine ⟨rfl, ?_, ((Keeps.refl _ _).at 2 _).at 4 _⟩
    rw [show burnt F = F - 1 by simp [burnt, hpos]]
    exact (h.set2 _).set4 _
  · go_enter Tryd.func43, Tryd.ntmps43
    go_wp2
    go_ret
    refine ⟨rfl, ?_, (Keeps.refl _ _).at 4 _⟩
    rw [show burnt F = F by unfold burnt; rw [if_neg (by omega)]]
    exact (h.set4 _)
end

/-! Db: Fill, New, Mod, Fair. -/
section
open Go.RowKit

/-- A block whose 128 bytes are v. -/
def fill (v : Int) : Array Value := Array.replicate 128 (.int .u8 v)

theorem size_fill (v : Int) : (fill v).size = 128 := by simp [fill]
theorem fill_one (v : Int) : (fill v).all (·.oneCell') = true := by
  rw [Array.all_eq_true_iff_forall_mem]; intro x hx; rw [fill, Array.mem_replicate] at hx; rw [hx.2]; rfl

theorem info37 : (Tryd.prog.info? 30).map (fun i => (i.zero, i.size)) = some (some (.agg (fill 0)), 128) := by kernel_rfl
theorem zero37 (w : World) : (zeroValue 30).run Tryd.prog w = .ok (.agg (fill 0)) w := (zero_of_info info37).1 w
theorem size37 : (Tryd.prog.info? 30).map (·.size) = some 128 := (zero_of_info info37).2

/-- The first k bytes are v, the others are zero. -/
def part (v : Int) (k : Nat) : Array Value := Array.ofFn (n := 128) fun i => if i.1 < k then .int .u8 v else .int .u8 0

theorem size_part (v : Int) (k : Nat) : (part v k).size = 128 := by simp [part]
theorem part_zero (v : Int) : part v 0 = fill 0 := by
  apply Array.ext <;> simp [part, fill]
theorem part_all (v : Int) : part v 128 = fill v := by
  apply Array.ext
  · simp [part, fill]
  · intro i h1 h2
    simp only [size_part] at h1
    simp [part, fill, h1]
theorem part_succ (v : Int) (k : Nat) (h : k < 128) : (part v k).setIfInBounds k (.int .u8 v) = part v (k + 1) := by
  apply Array.ext
  · simp [part]
  · intro i h1 h2
    simp only [size_part] at h2
    by_cases e : k = i
    · subst e; simp [part]
    · have e1 : (i < k + 1) = (i < k) := by simp; omega
      rw [Array.getElem_setIfInBounds_ne (by rw [size_part]; exact h2) e]
      simp [part, e1]

set_option maxHeartbeats 400000 in
theorem fill_any (v : Int) (w : World) :
    Calls Tryd.prog 33 #[.int .u8 v] w fun e w' => e = .returned (.agg (fill v)) ∧ Keeps (fun _ => False) w w' := by
  have hz := zero37
  go_enter Tryd.func33, Tryd.ntmps33
  go_wp2
  clear hz
  go_loopw [4] (fun i wr => ∃ k : Nat, k ≤ 128 ∧ i = .int .i64 k ∧ wr.heap[w.heap.size]? = some (.cells (fill 0) 30 (0, 0)) ∧ wr.heap[w.heap.size + 1]? = some (.cells (part v k) 30 (0, 0)) ∧ Keeps (fun _ => False) w wr) (fun i _ => 128 - (intOf i).toNat)
  case atStart =>
    refine ⟨0, by omega, rfl, ?_, ?_, ((Keeps.refl _ _).alloc _).alloc _⟩
    · exact heap_alloc2_old w _ _
    · rw [part_zero]; exact heap_alloc2_new w _ _
  case round =>
    obtain ⟨k, hk, rfl, g0, g1, hK⟩ := hrel
    by_cases hlt : k < 128
    · have hc : wr.cell? ⟨w.heap.size + 1, k, none⟩ = some ((part v k)[k]'(by rw [size_part]; exact hlt)) := by
        rw [cell_of_row wr _ k _ _ _ g1]; simp [size_part, hlt]
      have hf : wr.frozen? ⟨w.heap.size + 1, k, none⟩ = false := frozen_of_row wr _ k _ _ g1
      have hlt' : (k : Int) < 128 := by omega
      go_wp2
      go_roundw
      case rel =>
        refine ⟨k + 1, by omega, by go_num, ?_, ?_, ?_⟩
        · rw [heap_setCell_other _ _ _ _ (by simp)]; exact g0
        · rw [heap_setCell_same wr _ k _ _ _ g1, part_succ v k hlt]
        · exact hK.setCell (p := ⟨w.heap.size + 1, k, none⟩) (.inr (by simp)) _
      case measure => simp [intOf]; omega
    · obtain rfl : k = 128 := by omega
      rw [part_all] at g1
      have hs1 : (Tryd.prog.info? 30).map (·.size) = some (fill v).size := by rw [size_fill]; exact size37
      have hs2 : (fill 0).size = (fill v).size := by rw [size_fill, size_fill]
      have hone := fill_one v
      go_wp2_with (first | (refine wpList_load_row rfl 30 _ rfl (w.heap.size + 1) rfl 30 (fill v) (0, 0) _ g1 Tryd.underlying30 rfl hs1 ?_) | (refine wpList_store_all rfl 30 _ _ rfl w.heap.size rfl (fill v) rfl 30 (fill 0) g0 hs1 hs2 hone ?_))
      refine bodyPost_ret (v := .agg (fill v)) ?_ rfl ⟨rfl, hK.setRow (.inr (Nat.le_refl _)) _⟩
      exact results_cell_row rfl _ _ w.heap.size 30 (fill v) (0, 0) _ rfl (setRow_heap wr _ _ _ _ _ g0) Tryd.underlying30 rfl hs1

theorem info63 : (Tryd.prog.info? 88).map (fun i => (i.zero, i.size)) = some (some (.agg #[.slice none 0 0, .slice none 0 0, .int .i64 0, .bool false, .int .i64 0]), 5) := by kernel_rfl

/-- n blocks of zeros. -/
def zeros (n : Nat) : Array Value := Array.replicate (n * 128) (.int .u8 0)

set_option maxHeartbeats 400000 in
theorem new_no (n : Int) (w : World) (h : n < 16 ∨ 128 < n) :
    Calls Tryd.prog 18 #[.int .i64 n] w fun e w' => e = .returned (.tuple #[.pointer none, .int .i64 1]) ∧ w' = w := by
  rcases h with h | h
  · go_enter Tryd.func18, Tryd.ntmps18
    go_wp2
    go_ret2
    exact ⟨rfl, rfl⟩
  · have h' : ¬ n < 16 := by omega
    go_enter Tryd.func18, Tryd.ntmps18
    go_wp2
    go_ret2
    exact ⟨rfl, rfl⟩

theorem infoB37 : (Tryd.prog.info? 30).map (fun i => (i.zero, i.size, i.bytes)) = some (some (.agg (fill 0)), 128, 128) := by kernel_rfl

theorem made_zeros (n : Nat) : madeCells (Value.agg (fill 0)).cells (n * 128) = zeros n := by
  apply Array.ext
  · simp [madeCells, zeros]
  · intro i h1 h2
    have hlt : i % 128 < 128 := Nat.mod_lt _ (by decide)
    have e : (fill 0)[i % 128]! = .int .u8 0 := by
      rw [getElem!_pos (fill 0) (i % 128) (by rw [size_fill]; exact hlt)]; simp [fill]
    simpa [madeCells, zeros, Value.cells, size_fill] using e

theorem make48 (n : Nat) (h2 : n ≤ 128) (w : World) :
    (Instr.makeSlice 60 (.int .i64 (n : Int)) (.int .i64 (n : Int))).run Tryd.prog w = .ok (.slice (some ⟨w.heap.size, 0, none⟩) n n) (w.alloc (.cells (zeros n) 30)) := by
  obtain ⟨i, hi, hz, hs, hb⟩ := info_parts infoB37
  have := run_make (P := Tryd.prog) w 60 30 i _ Tryd.underlying60 hi hz .i64 .i64 (n : Int) (n : Int) (by omega) (by omega) (by rw [hb]; omega) (by omega)
  rw [hs] at this
  simpa [made_zeros] using this

set_option maxHeartbeats 400000 in
theorem new_yes (n : Nat) (w : World) (h : 16 ≤ n) (h2 : n ≤ 128) :
    Calls Tryd.prog 18 #[.int .i64 n] w fun e w' => e = .returned (.tuple #[.pointer (some ⟨w.heap.size + 1, 0, none⟩), .int .i64 0]) ∧
      DiskAt w' (w.heap.size + 1) (.slice (some ⟨w.heap.size, 0, none⟩) n n) (.slice none 0 0) (-1) false 0 ∧ w'.heap[w.heap.size]? = some (.cells (zeros n) 30 (0, 0)) ∧ w'.heap.size = w.heap.size + 2 ∧ Keeps (fun _ => False) w w' := by
  have h' : ¬ (n : Int) < 16 := by omega
  have h2' : ¬ 128 < (n : Int) := by omega
  have hm := make48 n h2
  go_enter Tryd.func18, Tryd.ntmps18
  go_wp2
  go_ret2
  refine ⟨rfl, ?_, heap_alloc2_old w _ _, by simp, ((Keeps.refl _ _).alloc _).alloc _⟩
  exact heap_alloc2_new w _ _
end

/-! DMem: Long rows by value: rules at the level of one operation: the row that is read stands as a function of the world. -/
section
open Go.RowKit

def addrOf : Value → Addr
  | .pointer (some a) => a
  | _ => ⟨0, 0, none⟩

/-- The cells of block q. -/
def rowOf (w : World) (q : Nat) : Array Value :=
  match w.heap[q]? with
  | some (.cells cs _ _) => cs
  | _ => #[]

/-- n cells of block q from o on. -/
def cellsAt (w : World) (q o n : Nat) : Array Value := (rowOf w q).extract o (o + n)

theorem rowOf_of {w : World} {q : Nat} {cs : Array Value} {t : TypeId} {fr : Nat × Nat} (h : w.heap[q]? = some (.cells cs t fr)) : rowOf w q = cs := by simp [rowOf, h]
theorem rowOf_block {w w' : World} {q : Nat} (h : w'.heap[q]? = w.heap[q]?) : rowOf w' q = rowOf w q := by simp [rowOf, h]
theorem cellsAt_block {w w' : World} {q : Nat} (h : w'.heap[q]? = w.heap[q]?) (o n : Nat) : cellsAt w' q o n = cellsAt w q o n := by simp [cellsAt, rowOf_block h]
theorem cellsAt_drew (w : World) (q o n : Nat) : cellsAt w.drew q o n = cellsAt w q o n := rfl
theorem cellsAt_drewN (w : World) (j q o n : Nat) : cellsAt (w.drewN j) q o n = cellsAt w q o n := by
  refine cellsAt_block ?_ o n
  simp
theorem cellsAt_alloc (w : World) (ob : Obj) (q o n : Nat) (h : q < w.heap.size) : cellsAt (w.alloc ob) q o n = cellsAt w q o n := cellsAt_block (Below.heap_alloc w ob q h) o n

theorem rangeAt_cellsAt (w : World) (q o n : Nat) : w.rangeAt q o (cellsAt w q o n).toList := fun j v hv => by
  unfold cellsAt rowOf at hv
  cases hq : w.heap[q]? with
  | none => simp [hq] at hv
  | some ob =>
    cases ob with
    | cells cs t fr =>
      simp only [hq] at hv
      rw [cell_of_row w q (o + j) cs t fr hq]
      simp only [Array.getElem?_toList, Array.getElem?_extract] at hv
      split at hv
      · exact hv
      · cases hv
    | _ => simp [hq] at hv

theorem wp_load_cells (ty : TypeId) (n : Nat) (td : TypeDesc) (hu : Tryd.prog.underlying ty = some td) (hd : td.isRow = true) (hi : (Tryd.prog.info? ty).map (·.size) = some n)
    {d : Option Tmp} {x : Operand} {tt : TypeId} {ps : String} {af : Array Edge} {a : Act} {w : World} {K : Act → World → Prop} {Q : Exit → Act → World → Prop}
    (h1 : a.eval x = .pointer (some ⟨(addrOf (a.eval x)).block, (addrOf (a.eval x)).off, none⟩)) (h2 : (cellsAt w (addrOf (a.eval x)).block (addrOf (a.eval x)).off n).size = n) :
    Oper.wp Tryd.prog { dst := d, op := .load ty x, type := tt, pos := ps, after := af, guard := none } a w K Q =
      K (a.put d (.agg (cellsAt w (addrOf (a.eval x)).block (addrOf (a.eval x)).off n))) w := by
  have hr := run_loadVar_mid (P := Tryd.prog) w (addrOf (a.eval x)).block (addrOf (a.eval x)).off ty _ td (rangeAt_cellsAt w _ _ n) hu hd (by rw [hi, Array.length_toList, h2])
  rw [Array.toArray_toList] at hr
  unfold Oper.wp execOp
  dsimp only
  rw [h1]
  simp only [Instr.loadAt, Instr.sureAddr, Sem.run_bind, Sem.run_pure, Result.andThen_ok]
  simp only [addrOf] at hr ⊢
  rw [hr]
  rfl

theorem wp_load37 {d : Option Tmp} {x : Operand} {tt : TypeId} {ps : String} {af : Array Edge} {a : Act} {w : World} {K : Act → World → Prop} {Q : Exit → Act → World → Prop}
    (h1 : a.eval x = .pointer (some ⟨(addrOf (a.eval x)).block, (addrOf (a.eval x)).off, none⟩)) (h2 : (cellsAt w (addrOf (a.eval x)).block (addrOf (a.eval x)).off 128).size = 128) :
    Oper.wp Tryd.prog { dst := d, op := .load 30 x, type := tt, pos := ps, after := af, guard := none } a w K Q =
      K (a.put d (.agg (cellsAt w (addrOf (a.eval x)).block (addrOf (a.eval x)).off 128))) w :=
  wp_load_cells 30 128 _ Tryd.underlying30 rfl size37 h1 h2
end

/-! Dc: Write. -/
section
open Go.RowKit
attribute [local go_sem ↓] Go.wp_at_zero Go.wp_at_succ

set_option maxHeartbeats 400000 in
theorem write_neg (w : World) (po : Option Addr) (i : Int) (b : Array Value) (hi : i < 0) :
    Calls Tryd.prog 22 #[.pointer po, .int .i64 i, .agg b] w fun e w' => e = .returned (.int .i64 1) ∧ Keeps (fun _ => False) w w' := by
  go_enter Tryd.func22, Tryd.ntmps22
  go_wp2
  go_ret
  exact ⟨rfl, (Keeps.refl _ _).alloc _⟩

set_option maxHeartbeats 400000 in
theorem write_nil (w : World) (i : Int) (b : Array Value) (hi : 0 ≤ i) :
    Calls Tryd.prog 22 #[.pointer none, .int .i64 i, .agg b] w fun e w' => e = .returned (.int .i64 1) ∧ Keeps (fun _ => False) w w' := by
  have h0 : ¬ i < 0 := by omega
  go_enter Tryd.func22, Tryd.ntmps22
  go_wp2_with (go_at_call 39; refine (len_nil _).mono ?_; rintro e w' ⟨rfl, rfl⟩)
  go_ret
  exact ⟨rfl, (Keeps.refl _ _).alloc _⟩

theorem DiskAt.alloc {w : World} {p : Nat} {vb vl : Value} {F : Int} {dn : Bool} {dc : Int} (h : DiskAt w p vb vl F dn dc) (o : Obj) : DiskAt (w.alloc o) p vb vl F dn dc :=
  (Below.heap_alloc w o p h.lt).trans h

set_option maxHeartbeats 400000 in
theorem write_out (w : World) (p : Nat) (a : Option Addr) (n c : Nat) (vl : Value) (F : Int) (dn : Bool) (dc : Int) (hD : DiskAt w p (.slice a n c) vl F dn dc) (i : Int) (b : Array Value) (hi : 0 ≤ i) (hn : (n : Int) ≤ i) :
    Calls Tryd.prog 22 #[.pointer (some ⟨p, 0, none⟩), .int .i64 i, .agg b] w fun e w' => e = .returned (.int .i64 1) ∧ Keeps (fun _ => False) w w' := by
  have h0 : ¬ i < 0 := by omega
  go_enter Tryd.func22, Tryd.ntmps22
  go_wp2_with (go_at_call 39; refine (len_any _ p a n c vl F dn dc (hD.alloc _)).mono ?_; rintro e w' ⟨rfl, rfl⟩)
  go_ret
  exact ⟨rfl, (Keeps.refl _ _).alloc _⟩

set_option maxHeartbeats 400000 in
theorem write_down (w : World) (p : Nat) (a : Option Addr) (n c : Nat) (vl : Value) (F : Int) (dn : Bool) (dc : Int) (hD : DiskAt w p (.slice a n c) vl F dn dc) (i : Int) (b : Array Value) (hi : 0 ≤ i) (hn : i < (n : Int)) (hd : F = 0 ∨ dn = true) :
    Calls Tryd.prog 22 #[.pointer (some ⟨p, 0, none⟩), .int .i64 i, .agg b] w fun e w' => e = .returned (.int .i64 12) ∧ DiskAt w' p (.slice a n c) vl F true dc ∧ Keeps (· = p) w w' := by
  have h0 : ¬ i < 0 := by omega
  have h1 : ¬ (n : Int) ≤ i := by omega
  go_enter Tryd.func22, Tryd.ntmps22
  go_wp2_with (first | (go_at_call 39; refine (len_any _ p a n c vl F dn dc (hD.alloc _)).mono ?_; rintro e w' ⟨rfl, rfl⟩) | (go_at_call 43; refine (burn_down _ p _ vl F dn dc (hD.alloc _) hd).mono ?_; rintro e w1 ⟨rfl, hD1, hK1⟩))
  go_ret
  exact ⟨rfl, hD1, ((Keeps.refl _ _).alloc _).trans (hK1.mono (fun k _ e => e))⟩

/-- A loose write's zero value. -/
def wzero : Array Value := #[.int .i64 0] ++ fill 0

theorem info65 : (Tryd.prog.info? 93).map (fun i => (i.zero, i.size, i.bytes)) = some (some (.agg wzero), 129, 136) := by kernel_rfl
theorem zero65 (w : World) : (zeroValue 93).run Tryd.prog w = .ok (.agg wzero) w := (zero_of_info (show (Tryd.prog.info? 93).map (fun i => (i.zero, i.size)) = some (some (.agg wzero), 129) by kernel_rfl)).1 w
theorem size_wzero : wzero.size = 129 := by simp [wzero, size_fill]
theorem wzero_ne : wzero ≠ #[] := by intro h; have := congrArg Array.size h; simp [size_wzero] at this

theorem fold_part (x : Value) (b C : List Value) (h : C.length = b.length) :
    List.foldl (fun (cs : Array Value) (y : Value × Nat) => cs.setIfInBounds (1 + y.2) y.1) (x :: C).toArray b.zipIdx = (x :: b).toArray := by
  suffices H : ∀ (b : List Value) (o : Nat) (A C : List Value), A.length = 1 + o → C.length = b.length →
      List.foldl (fun (cs : Array Value) (y : Value × Nat) => cs.setIfInBounds (1 + y.2) y.1) (A ++ C).toArray (b.zipIdx o) = (A ++ b).toArray by
    simpa using H b 0 [x] C rfl h
  intro b
  induction b with
  | nil => intro o A C hA hC; obtain rfl : C = [] := List.eq_nil_of_length_eq_zero (by simpa using hC); simp
  | cons v b ih =>
    intro o A C hA hC
    cases C with
    | nil => simp at hC
    | cons c C =>
      simp only [List.zipIdx_cons, List.foldl_cons]
      have e : ((A ++ c :: C).toArray.setIfInBounds (1 + o) v) = ((A ++ [v]) ++ C).toArray := by
        simp [← hA]
      rw [e, ih (o + 1) (A ++ [v]) C (by simp; omega) (by simpa using hC)]
      simp

theorem fold_all (b C : Array Value) (h : C.size = b.size) :
    b.zipIdx.foldl (fun (cs : Array Value) (y : Value × Nat) => cs.setIfInBounds (0 + y.2) y.1) C = b := by
  suffices H : ∀ (b : List Value) (o : Nat) (A C : List Value), A.length = o → C.length = b.length →
      List.foldl (fun (cs : Array Value) (y : Value × Nat) => cs.setIfInBounds (0 + y.2) y.1) (A ++ C).toArray (b.zipIdx o) = (A ++ b).toArray by
    have := H b.toList 0 [] C.toList rfl (by simpa using h)
    rw [← Array.foldl_toList, Array.toList_zipIdx]
    simpa using this
  intro b
  induction b with
  | nil => intro o A C hA hC; obtain rfl : C = [] := List.eq_nil_of_length_eq_zero (by simpa using hC); simp
  | cons v b ih =>
    intro o A C hA hC
    cases C with
    | nil => simp at hC
    | cons c C =>
      simp only [List.zipIdx_cons, List.foldl_cons]
      have e : ((A ++ c :: C).toArray.setIfInBounds (0 + o) v) = ((A ++ [v]) ++ C).toArray := by
        simp [← hA]
      rw [e, ih (o + 1) (A ++ [v]) C (by simp; omega) (by simpa using hC)]
      simp

theorem wp_buildSlice61 {d : Option Tmp} {x : Operand} {ty : TypeId} {ps : String} {af : Array Edge} {a : Act} {w : World} {K : Act → World → Prop} {Q : Exit → Act → World → Prop} (h : (a.eval x).cells.size = 129) :
    Oper.wp Tryd.prog { dst := d, op := .buildSlice 86 1 #[(0, x)], type := ty, pos := ps, after := af, guard := none } a w K Q =
      K (a.put d (.slice (some ⟨w.heap.size, 0, none⟩) 1 1)) (w.alloc (.cells (a.eval x).cells 93)) := by
  obtain ⟨i0, hi0, hz0, hz1, hz2⟩ := info_parts info65
  have hrun : (Instr.buildSlice 86 1 #[(0, a.eval x)]).run Tryd.prog w = .ok (.slice (some ⟨w.heap.size, 0, none⟩) 1 1) (w.alloc (.cells (a.eval x).cells 93)) := by
    unfold Instr.buildSlice
    have hf := fold_all (a.eval x).cells ((Array.range (1 * 129)).map ((Value.agg wzero).cells[· % (Value.agg wzero).cells.size]!)) (by simp [h])
    have hfill : Instr.fill (fun i => some (i * 129, 129)) ((Array.range (1 * 129)).map ((Value.agg wzero).cells[· % (Value.agg wzero).cells.size]!)) [(0, a.eval x)] = some (a.eval x).cells := by
      unfold Instr.fill Instr.fill
      simp only [Nat.zero_mul]
      rw [if_neg (by simp [h]), hf]
    have hsize : (sizeOf 93).run Tryd.prog w = .ok 129 w := by simp [sizeOf, typeInfo, hi0, hz1]
    simp only [Sem.run_bind, run_underlying Tryd.underlying86, hsize, Result.andThen_ok]
    rw [if_neg (by decide), if_neg (by decide)]
    simp only [Sem.run_bind, zero65, Result.andThen_ok, Sem.run_pure, hfill]
    simp [newRow]
  unfold Oper.wp execOp
  simp only [List.map_toArray, List.map_cons, List.map_nil, hrun, Sem.run_bind, Result.andThen_ok, Sem.run_pure]
  rfl

theorem keepW {w : World} {p q : Nat} {vl : Value} {b : List Value} (h : w.cell? ⟨p, 1, none⟩ = some vl ∧ w.rangeAt q 0 b) : w.drew.cell? ⟨p, 1, none⟩ = some vl ∧ w.drew.rangeAt q 0 b := by
  simpa using h
theorem keepWa {w : World} {p q : Nat} {vl : Value} {b : List Value} (h : w.cell? ⟨p, 1, none⟩ = some vl ∧ w.rangeAt q 0 b) (o : Obj) : (w.alloc o).cell? ⟨p, 1, none⟩ = some vl ∧ (w.alloc o).rangeAt q 0 b :=
  ⟨(World.cell?_alloc_lt _ _ _ (World.block_lt_of_cell? w _ h.1)).trans h.1, World.rangeAt_alloc h.2 o⟩

theorem heap_alloc2_x (w : World) (o : Obj) : (w.alloc o).heap[w.heap.size]? = some o := by
  show (w.heap.push o)[w.heap.size]? = some o
  simp

theorem ownsRow_keeps {S : Nat → Prop} {w w' : World} {base : Nat} {e : TypeId} {size : Nat} {v : Value} {n : Nat} {xs : List Value} (h : w.ownsRow base e size v n xs) (hk : Keeps S w w') (hS : ∀ g, v.ownBlock = some g → ¬ S g) :
    w'.ownsRow base e size v n xs := by
  refine ⟨h.1, ?_⟩
  rcases h.2 with hn | ⟨g, cap, cur, rfl, hb, hg, rest⟩
  · exact .inl hn
  · exact .inr ⟨g, cap, cur, rfl, hb, (hk.block g (Array.getElem?_eq_some_iff.1 hg).1 (hS g rfl)).trans hg, rest⟩

attribute [local go_sem ↓] wp_buildSlice61 wp_load37
attribute [local go_sem] addrOf cellsAt_drew cellsAt_drewN cellsAt_alloc

set_option maxRecDepth 100000 in
set_option maxHeartbeats 1000000 in
theorem write_goes (w : World) (p : Nat) (a : Option Addr) (n c : Nat) (vl : Value) (F : Int) (dc : Int) (hD : DiskAt w p (.slice a n c) vl F false dc) (k : Nat) (xs : List Value) (hown : w.ownsRow 0 93 129 vl k xs) (hpv : vl.ownBlock ≠ some p)
    (i : Int) (b : List Value) (hb : b.length = 128) (h1 : ∀ v ∈ b, v.oneCell' = true) (hi : 0 ≤ i) (hn : i < (n : Int)) (hF : F ≠ 0) (hlo : -9223372036854775808 ≤ F) (hhi : F ≤ 9223372036854775807) (hd0 : 0 ≤ dc) (hd1 : dc < 1000000) (hk : k < 1000000) :
    Calls Tryd.prog 22 #[.pointer (some ⟨p, 0, none⟩), .int .i64 i, .agg b.toArray] w fun e w' => e = .returned (.int .i64 0) ∧ ∃ g cap, DiskAt w' p (.slice a n c) (.slice (some ⟨g, 0, none⟩) (k + 1) cap) (burnt F) false (dc + 1) ∧
      w'.ownsRow 0 93 129 (.slice (some ⟨g, 0, none⟩) (k + 1) cap) (k + 1) (xs ++ (.int .i64 i :: b)) ∧ (vl.ownBlock = some g ∨ w.heap.size ≤ g) ∧ Keeps (fun j => j = p ∨ vl.ownBlock = some j) w w' := by
  have h0 : ¬ i < 0 := by omega
  have hni : ¬ (n : Int) ≤ i := by omega
  obtain ⟨i0, hi0, hz0, hz1, hz2⟩ := info_parts info65
  have hpl := hD.lt
  have hvl := hown.lt
  go_enter Tryd.func22, Tryd.ntmps22
  go_wp2_with (first | (go_at_call 39; refine (len_any _ p a n c vl F false dc (hD.alloc _)).mono ?_; rintro e w' ⟨rfl, rfl⟩) | (go_at_call 43; refine (burn_goes _ p _ vl F dc (hD.alloc _) hF hlo hhi hd0 hd1).mono ?_; rintro e w1 ⟨rfl, hD1, hK1⟩))
  have hbox : w1.heap[w.heap.size]? = some (.cells b.toArray 30 (0, 0)) := (hK1.block _ (by simp) (by omega)).trans (heap_alloc2_x w _)
  have hrange : w1.rangeAt w.heap.size 0 b := fun j v hv => by
    rw [cell_of_row w1 _ _ _ _ _ hbox]; simpa using hv
  have hown1 : w1.ownsRow 0 93 129 vl k xs := ownsRow_keeps (hown.alloc _) hK1 (fun g e he => hpv (by rw [e, he]))
  have hsz1 := hK1.size
  simp only [World.size_alloc] at hsz1
  obtain ⟨c0, c1, c2, c3, c4⟩ := hD1.cells
  have f1 := hD1.free 1
  have hu := Tryd.underlying30
  have hi37 : (Tryd.prog.info? 30).map (·.size) = some b.length := by rw [hb]; exact size37
  clear c0 c2 c3 c4
  have hz65 := zero65
  have hw0 := wzero_ne
  have hw1 := size_wzero
  have hfold : List.foldl (fun (cs : Array Value) (x : Value × Nat) => cs.setIfInBounds (1 + x.snd) x.fst) (wzero.setIfInBounds 0 (.int .i64 i)) b.zipIdx = (.int .i64 i :: b).toArray := by
    rw [show wzero.setIfInBounds 0 (.int .i64 i) = ((.int .i64 i : Value) :: (fill 0).toList).toArray by simp [wzero]]
    exact fold_part _ _ _ (by simp [size_fill, hb])
  have hlen : ((.int .i64 i : Value) :: b).length = 1 * 129 := by simp [hb]
  have hone : ∀ u ∈ ((.int .i64 i : Value) :: b), u.oneCell' = true := by
    intro u hu
    rcases List.mem_cons.1 hu with rfl | hu
    · rfl
    · exact h1 u hu
  have hmx : k + 1 ≤ maxLen := by simp only [maxLen]; omega
  have hby : (k + 1) * 136 ≤ 140737488355328 := by omega
  have hca : cellsAt w1 w.heap.size 0 128 = b.toArray := by
    rw [cellsAt, rowOf_of hbox]; simp [← hb]
  clear hrange hbox hu hi37
  have c1a : ∀ o, (w1.alloc o).cell? ⟨p, 1, none⟩ = some vl := fun o => (hD1.alloc o).cells.2.1
  go_region_law ((refine step_append_lies _ (by rfl) _ _ _ (by rfl) 0 93 i0 _ 129 136 Tryd.underlying86 hi0 hz0 hz1 hz2 (by exact size_wzero) (by omega) vl k xs (by rfl) ((hown1.alloc _).drew) ⟨w1.heap.size, 0, none⟩ 1 1 (.int .i64 i :: b) (by rfl) hlen (World.news_of_block (cs := ((.int .i64 i : Value) :: b).toArray) (t := 93) (fr := (0, 0)) (heap_alloc2_x w1 _)) hone (by omega) hmx hby (by simp) (w1.heap.size + 1) (by simp) ?_; intro g cap w2 hown2 hgrow hat hlt; have hD2 : DiskAt w2 p (.slice a n c) vl (burnt F) false (dc + 1) := (hgrow.block p (by simp; omega) (Ne.symm hpv)).trans (hD1.alloc _); have c2 := hD2.cells.2.1; have f2 := hD2.free 1))
  all_goals go_wp2
  all_goals go_ret
  all_goals
    have hgp : g ≠ p := by
      rcases hat with e | e
      · rintro rfl; exact hpv e
      · omega
    refine ⟨rfl, g, cap, hD2.set1 _, ?_, ?_, ?_⟩
    · exact ownsRow_keeps hown2 ((Keeps.refl (· = p) w2).at 1 _) (fun g' e he => hgp (by simp [Value.ownBlock] at e; omega))
    · rcases hat with e | e
      · exact .inl e
      · exact .inr (by omega)
    · have k1 : Keeps (fun j => j = p ∨ vl.ownBlock = some j) w w1 := ((Keeps.refl _ _).alloc _).trans (hK1.mono (fun k _ e => .inl e))
      exact ((((k1.alloc _).drew).grown hgrow (fun k e => .inl (.inr e))).setCell (p := ⟨p, 1, none⟩) (.inl (.inl rfl)) _)
end

/-! Dd: Read, where it does not come to the loop. -/
section
open Go.RowKit
attribute [local go_sem ↓] Go.wp_at_zero Go.wp_at_succ

theorem results_two_cells {fn : Func} {p q : Tmp} {t1 t2 : TypeId} (h : fn.results = #[.cell p t1, .cell q t2]) (tmps : Array Value) (w : World) (g1 g2 : Nat) (cs : Array Value) (u : Value) (tt tt2 : TypeId)
    (hp : tmps.getD p undef = .pointer (some ⟨g1, 0, none⟩)) (hq : tmps.getD q undef = .pointer (some ⟨g2, 0, none⟩))
    (r1 : (loadVar t1 ⟨g1, 0, none⟩).run Tryd.prog w = .ok (.agg cs) w) (r2 : (loadVar t2 ⟨g2, 0, none⟩).run Tryd.prog w = .ok u w) :
    (results fn tmps).run Tryd.prog w = .ok (.tuple #[.agg cs, u]) w := by
  have hp' : tmps[p]?.getD undef = .pointer (some ⟨g1, 0, none⟩) := by simpa using hp
  have hq' : tmps[q]?.getD undef = .pointer (some ⟨g2, 0, none⟩) := by simpa using hq
  simp [results, h, hp', hq', asAddr, r1, r2]

theorem allocs3 (w W : World) (A B C : Obj) (h : ((w.alloc A).alloc B).alloc C = W) :
    W.heap[w.heap.size]? = some A ∧ W.heap[w.heap.size + 1]? = some B ∧ W.heap[w.heap.size + 1 + 1]? = some C ∧ W.heap.size = w.heap.size + 3 ∧ Keeps (fun _ => False) w W := by
  subst h
  have s1 : (w.alloc A).heap.size = w.heap.size + 1 := by simp
  have s2 : ((w.alloc A).alloc B).heap.size = w.heap.size + 1 + 1 := by simp
  refine ⟨?_, ?_, ?_, by simp, (((Keeps.refl _ _).alloc _).alloc _).alloc _⟩
  · rw [Below.heap_alloc _ _ _ (by omega)]; exact heap_alloc2_old w A B
  · rw [Below.heap_alloc _ _ _ (by omega)]; exact heap_alloc2_new w A B
  · rw [← s2]; exact heap_alloc2_x _ C

theorem info26 : (Tryd.prog.info? 31).map (·.size) = some 1 := by kernel_rfl

theorem load_one (w : World) (g : Nat) (u : Value) (t : TypeId) (h : w.heap[g]? = some (.cells #[u] t (0, 0))) : (loadVar 31 ⟨g, 0, none⟩).run Tryd.prog w = .ok u w := by
  have hc : w.cell? ⟨g, 0, none⟩ = some u := by simp [World.cell?, h]
  have hu := Tryd.underlying31
  simp [go_sem, loadVar, hc]

theorem wp_build37 {d : Option Tmp} {tt : TypeId} {ps : String} {af : Array Edge} {a : Act} {w : World} {K : Act → World → Prop} {Q : Exit → Act → World → Prop} :
    Oper.wp Tryd.prog { dst := d, op := .build 30 #[], type := tt, pos := ps, after := af, guard := none } a w K Q = K (a.put d (.agg (fill 0))) w := by
  have hrun : (Instr.build 30 #[]).run Tryd.prog w = .ok (.agg (fill 0)) w := by
    unfold Instr.build
    simp only [Sem.run_bind, zero37, Result.andThen_ok, run_underlying Tryd.underlying30]
    have hs5 : (sizeOf 5).run Tryd.prog w = .ok 1 w := by simp [go_sem]
    simp [Instr.fill, Value.cells, hs5]
  unfold Oper.wp execOp
  simp only [List.map_toArray, List.map_nil, hrun, Sem.run_bind, Result.andThen_ok, Sem.run_pure]
  rfl

attribute [local go_sem ↓] wp_build37

/-- A whole row is stored; the world behind is a letter. -/
theorem dk_wpList_store_row {ops : Array Oper} {rest : List Oper} {o : Oper} {a : Act} {w : World} {Q : Exit → Act → World → Prop} (hgd : o.guard = none) (ty : TypeId) (x y : Operand) (ho : o.op = .store ty x y)
    (g : Nat) (hx : a.eval x = .pointer (some ⟨g, 0, none⟩)) (new : Array Value) (hy : a.eval y = .agg new) (t : TypeId) (old : Array Value) (hg : w.heap[g]? = some (.cells old t (0, 0)))
    (hi : (Tryd.prog.info? ty).map (·.size) = some new.size) (hs : old.size = new.size) (h1 : new.all (·.oneCell') = true)
    (h : ∀ w', w'.heap[g]? = some (.cells new t (0, 0)) → Keeps (· = g) w w' → wpList Tryd.prog ops Q rest (a.put o.dst undef) w') : wpList Tryd.prog ops Q (o :: rest) a w :=
  wpList_store_all hgd ty x y ho g hx new hy t old hg hi hs h1 (h _ (setRow_heap w g _ _ _ _ hg) ((Keeps.refl (· = g) w).setRow (.inl rfl) _))

set_option maxRecDepth 100000 in
set_option maxHeartbeats 1000000 in
theorem read_neg (w : World) (po : Option Addr) (i : Int) (hi : i < 0) :
    Calls Tryd.prog 56 #[.pointer po, .int .i64 i] w fun e w' => e = .returned (.tuple #[.agg (fill 0), .int .i64 1]) ∧ Keeps (fun _ => False) w w' := by
  have hz := zero37
  have hs1 : (Tryd.prog.info? 30).map (·.size) = some (fill 0).size := by rw [size_fill]; exact size37
  have hone := fill_one 0
  go_enter Tryd.func56, Tryd.ntmps56
  go_wp2
  obtain ⟨W0, hW0⟩ : ∃ W0, ((w.alloc (.cells #[.int .i64 i] 3)).alloc (.cells (fill 0) 30)).alloc (.cells #[.int .i64 0] 31) = W0 := ⟨_, rfl⟩
  rw [hW0]
  obtain ⟨g0, g1, g2, hsz, hK⟩ := allocs3 w W0 _ _ _ hW0
  clear hW0
  have c0 : W0.cell? ⟨w.heap.size, 0, none⟩ = some (.int .i64 i) := by simp [World.cell?, g0]
  have c2 : W0.cell? ⟨w.heap.size + 1 + 1, 0, none⟩ = some (.int .i64 0) := by simp [World.cell?, g2]
  have f2 := frozen_of_row W0 _ 0 _ _ g2
  go_quiet (fail)
  go_wp2_with (refine dk_wpList_store_row rfl 30 _ _ rfl (w.heap.size + 1) rfl (fill 0) rfl 30 (fill 0) (by simpa using g1) hs1 rfl hone ?_; intro w1 n1 k1; have n2 : w1.heap[w.heap.size + 1 + 1]? = some (.cells #[.int .i64 0] 31 (0, 0)) := (k1.block _ (by simp <;> omega) (by omega)).trans (by simpa using g2); have c2 : w1.cell? ⟨w.heap.size + 1 + 1, 0, none⟩ = some (.int .i64 0) := (by simp [World.cell?, n2]); have f2 := frozen_of_row w1 _ 0 _ _ n2)
  have n1' : (w1.setCell ⟨w.heap.size + 1 + 1, 0, none⟩ (.int .i64 1)).heap[w.heap.size + 1]? = some (.cells (fill 0) 30 (0, 0)) := by rw [heap_setCell_other _ _ _ _ (by simp)]; exact n1
  have n2' : (w1.setCell ⟨w.heap.size + 1 + 1, 0, none⟩ (.int .i64 1)).heap[w.heap.size + 1 + 1]? = some (.cells #[.int .i64 1] 31 (0, 0)) := by rw [heap_setCell_same _ _ _ _ _ _ n2]; rfl
  refine bodyPost_ret (v := .tuple #[.agg (fill 0), .int .i64 1]) ?_ rfl ⟨rfl, ?_⟩
  · exact results_two_cells rfl _ _ (w.heap.size + 1) (w.heap.size + 1 + 1) (fill 0) _ 30 31 rfl rfl (run_loadVar_row _ _ 30 30 _ (0, 0) _ n1' Tryd.underlying30 rfl hs1) (load_one _ _ _ _ n2')
  · have k0 : Keeps (fun _ => False) w (W0.drewN nq) := hK.drewN _
    exact (k0.trans' k1 (fun k e => .inr (by omega))).setCell (p := ⟨w.heap.size + 1 + 1, 0, none⟩) (.inr (by simp <;> omega)) _

set_option maxRecDepth 100000 in
set_option maxHeartbeats 1000000 in
theorem read_nil (w : World) (i : Int) (hi : 0 ≤ i) :
    Calls Tryd.prog 56 #[.pointer none, .int .i64 i] w fun e w' => e = .returned (.tuple #[.agg (fill 0), .int .i64 1]) ∧ Keeps (fun _ => False) w w' := by
  have hz := zero37
  have h0 : ¬ i < 0 := by omega
  have h0b : decide (i < 0) = false := by simpa using hi
  have hs1 : (Tryd.prog.info? 30).map (·.size) = some (fill 0).size := by rw [size_fill]; exact size37
  have hone := fill_one 0
  go_enter Tryd.func56, Tryd.ntmps56
  go_wp2
  obtain ⟨W0, hW0⟩ : ∃ W0, ((w.alloc (.cells #[.int .i64 i] 3)).alloc (.cells (fill 0) 30)).alloc (.cells #[.int .i64 0] 31) = W0 := ⟨_, rfl⟩
  rw [hW0]
  obtain ⟨g0, g1, g2, hsz, hK⟩ := allocs3 w W0 _ _ _ hW0
  clear hW0
  have c0 : W0.cell? ⟨w.heap.size, 0, none⟩ = some (.int .i64 i) := by simp [World.cell?, g0]
  have c2 : W0.cell? ⟨w.heap.size + 1 + 1, 0, none⟩ = some (.int .i64 0) := by simp [World.cell?, g2]
  have f2 := frozen_of_row W0 _ 0 _ _ g2
  go_quiet ((go_at_call 39; exact Calls.quiet_of_same (len_nil _)))
  go_wp2_with (refine dk_wpList_store_row rfl 30 _ _ rfl (w.heap.size + 1) rfl (fill 0) rfl 30 (fill 0) (by simpa using g1) hs1 rfl hone ?_; intro w1 n1 k1; have n2 : w1.heap[w.heap.size + 1 + 1]? = some (.cells #[.int .i64 0] 31 (0, 0)) := (k1.block _ (by simp <;> omega) (by omega)).trans (by simpa using g2); have c2 : w1.cell? ⟨w.heap.size + 1 + 1, 0, none⟩ = some (.int .i64 0) := (by simp [World.cell?, n2]); have f2 := frozen_of_row w1 _ 0 _ _ n2)
  have n1' : (w1.setCell ⟨w.heap.size + 1 + 1, 0, none⟩ (.int .i64 1)).heap[w.heap.size + 1]? = some (.cells (fill 0) 30 (0, 0)) := by rw [heap_setCell_other _ _ _ _ (by simp)]; exact n1
  have n2' : (w1.setCell ⟨w.heap.size + 1 + 1, 0, none⟩ (.int .i64 1)).heap[w.heap.size + 1 + 1]? = some (.cells #[.int .i64 1] 31 (0, 0)) := by rw [heap_setCell_same _ _ _ _ _ _ n2]; rfl
  refine bodyPost_ret (v := .tuple #[.agg (fill 0), .int .i64 1]) ?_ rfl ⟨rfl, ?_⟩
  · exact results_two_cells rfl _ _ (w.heap.size + 1) (w.heap.size + 1 + 1) (fill 0) _ 30 31 rfl rfl (run_loadVar_row _ _ 30 30 _ (0, 0) _ n1' Tryd.underlying30 rfl hs1) (load_one _ _ _ _ n2')
  · have k0 : Keeps (fun _ => False) w (W0.drewN nq) := hK.drewN _
    exact (k0.trans' k1 (fun k e => .inr (by omega))).setCell (p := ⟨w.heap.size + 1 + 1, 0, none⟩) (.inr (by simp <;> omega)) _

set_option maxRecDepth 100000 in
set_option maxHeartbeats 1000000 in
theorem read_out (w : World) (p : Nat) (a : Option Addr) (n c : Nat) (vl : Value) (F : Int) (dn : Bool) (dc : Int) (hD : DiskAt w p (.slice a n c) vl F dn dc) (i : Int) (hi : 0 ≤ i) (hn : (n : Int) ≤ i) :
    Calls Tryd.prog 56 #[.pointer (some ⟨p, 0, none⟩), .int .i64 i] w fun e w' => e = .returned (.tuple #[.agg (fill 0), .int .i64 1]) ∧ Keeps (fun _ => False) w w' := by
  have hz := zero37
  have h0 : ¬ i < 0 := by omega
  have h0b : decide (i < 0) = false := by simpa using hi
  have hs1 : (Tryd.prog.info? 30).map (·.size) = some (fill 0).size := by rw [size_fill]; exact size37
  have hone := fill_one 0
  go_enter Tryd.func56, Tryd.ntmps56
  go_wp2
  obtain ⟨W0, hW0⟩ : ∃ W0, ((w.alloc (.cells #[.int .i64 i] 3)).alloc (.cells (fill 0) 30)).alloc (.cells #[.int .i64 0] 31) = W0 := ⟨_, rfl⟩
  rw [hW0]
  obtain ⟨g0, g1, g2, hsz, hK⟩ := allocs3 w W0 _ _ _ hW0
  clear hW0
  have c0 : W0.cell? ⟨w.heap.size, 0, none⟩ = some (.int .i64 i) := by simp [World.cell?, g0]
  have c2 : W0.cell? ⟨w.heap.size + 1 + 1, 0, none⟩ = some (.int .i64 0) := by simp [World.cell?, g2]
  have f2 := frozen_of_row W0 _ 0 _ _ g2
  have hD0 : DiskAt W0 p (.slice a n c) vl F dn dc := hD.kept hK (fun h => h)
  go_quiet ((go_at_call 39; exact Calls.quiet_of_same (len_any _ p a n c vl F dn dc (by simpa [DiskAt] using hD0))))
  go_wp2_with (refine dk_wpList_store_row rfl 30 _ _ rfl (w.heap.size + 1) rfl (fill 0) rfl 30 (fill 0) (by simpa using g1) hs1 rfl hone ?_; intro w1 n1 k1; have n2 : w1.heap[w.heap.size + 1 + 1]? = some (.cells #[.int .i64 0] 31 (0, 0)) := (k1.block _ (by simp <;> omega) (by omega)).trans (by simpa using g2); have c2 : w1.cell? ⟨w.heap.size + 1 + 1, 0, none⟩ = some (.int .i64 0) := (by simp [World.cell?, n2]); have f2 := frozen_of_row w1 _ 0 _ _ n2)
  have n1' : (w1.setCell ⟨w.heap.size + 1 + 1, 0, none⟩ (.int .i64 1)).heap[w.heap.size + 1]? = some (.cells (fill 0) 30 (0, 0)) := by rw [heap_setCell_other _ _ _ _ (by simp)]; exact n1
  have n2' : (w1.setCell ⟨w.heap.size + 1 + 1, 0, none⟩ (.int .i64 1)).heap[w.heap.size + 1 + 1]? = some (.cells #[.int .i64 1] 31 (0, 0)) := by rw [heap_setCell_same _ _ _ _ _ _ n2]; rfl
  refine bodyPost_ret (v := .tuple #[.agg (fill 0), .int .i64 1]) ?_ rfl ⟨rfl, ?_⟩
  · exact results_two_cells rfl _ _ (w.heap.size + 1) (w.heap.size + 1 + 1) (fill 0) _ 30 31 rfl rfl (run_loadVar_row _ _ 30 30 _ (0, 0) _ n1' Tryd.underlying30 rfl hs1) (load_one _ _ _ _ n2')
  · have k0 : Keeps (fun _ => False) w (W0.drewN nq) := hK.drewN _
    exact (k0.trans' k1 (fun k e => .inr (by omega))).setCell (p := ⟨w.heap.size + 1 + 1, 0, none⟩) (.inr (by simp <;> omega)) _

set_option maxRecDepth 100000 in
set_option maxHeartbeats 1000000 in
theorem read_down (w : World) (p : Nat) (a : Option Addr) (n c : Nat) (vl : Value) (F : Int) (dc : Int) (hD : DiskAt w p (.slice a n c) vl F true dc) (i : Int) (hi : 0 ≤ i) (hn : i < (n : Int)) :
    Calls Tryd.prog 56 #[.pointer (some ⟨p, 0, none⟩), .int .i64 i] w fun e w' => e = .returned (.tuple #[.agg (fill 0), .int .i64 12]) ∧ Keeps (fun _ => False) w w' := by
  have hz := zero37
  have h0 : ¬ i < 0 := by omega
  have hn' : ¬ (n : Int) ≤ i := by omega
  have hnb : decide ((n : Int) ≤ i) = false := by simpa using hn
  have h0b : decide (i < 0) = false := by simpa using hi
  have hs1 : (Tryd.prog.info? 30).map (·.size) = some (fill 0).size := by rw [size_fill]; exact size37
  have hone := fill_one 0
  go_enter Tryd.func56, Tryd.ntmps56
  go_wp2
  obtain ⟨W0, hW0⟩ : ∃ W0, ((w.alloc (.cells #[.int .i64 i] 3)).alloc (.cells (fill 0) 30)).alloc (.cells #[.int .i64 0] 31) = W0 := ⟨_, rfl⟩
  rw [hW0]
  obtain ⟨g0, g1, g2, hsz, hK⟩ := allocs3 w W0 _ _ _ hW0
  clear hW0
  have c0 : W0.cell? ⟨w.heap.size, 0, none⟩ = some (.int .i64 i) := by simp [World.cell?, g0]
  have c2 : W0.cell? ⟨w.heap.size + 1 + 1, 0, none⟩ = some (.int .i64 0) := by simp [World.cell?, g2]
  have f2 := frozen_of_row W0 _ 0 _ _ g2
  have hD0 : DiskAt W0 p (.slice a n c) vl F true dc := hD.kept hK (fun h => h)
  have c3 := hD0.cells.2.2.2.1
  go_quiet ((go_at_call 39; exact Calls.quiet_of_same (len_any _ p a n c vl F true dc (by simpa [DiskAt] using hD0))))
  go_wp2_with (refine dk_wpList_store_row rfl 30 _ _ rfl (w.heap.size + 1) rfl (fill 0) rfl 30 (fill 0) (by simpa using g1) hs1 rfl hone ?_; intro w1 n1 k1; have n2 : w1.heap[w.heap.size + 1 + 1]? = some (.cells #[.int .i64 0] 31 (0, 0)) := (k1.block _ (by simp <;> omega) (by omega)).trans (by simpa using g2); have c2 : w1.cell? ⟨w.heap.size + 1 + 1, 0, none⟩ = some (.int .i64 0) := (by simp [World.cell?, n2]); have f2 := frozen_of_row w1 _ 0 _ _ n2)
  have n1' : (w1.setCell ⟨w.heap.size + 1 + 1, 0, none⟩ (.int .i64 12)).heap[w.heap.size + 1]? = some (.cells (fill 0) 30 (0, 0)) := by rw [heap_setCell_other _ _ _ _ (by simp)]; exact n1
  have n2' : (w1.setCell ⟨w.heap.size + 1 + 1, 0, none⟩ (.int .i64 12)).heap[w.heap.size + 1 + 1]? = some (.cells #[.int .i64 12] 31 (0, 0)) := by rw [heap_setCell_same _ _ _ _ _ _ n2]; rfl
  refine bodyPost_ret (v := .tuple #[.agg (fill 0), .int .i64 12]) ?_ rfl ⟨rfl, ?_⟩
  · exact results_two_cells rfl _ _ (w.heap.size + 1) (w.heap.size + 1 + 1) (fill 0) _ 30 31 rfl rfl (run_loadVar_row _ _ 30 30 _ (0, 0) _ n1' Tryd.underlying30 rfl hs1) (load_one _ _ _ _ n2')
  · have k0 : Keeps (fun _ => False) w (W0.drewN nq) := hK.drewN _
    exact (k0.trans' k1 (fun k e => .inr (by omega))).setCell (p := ⟨w.heap.size + 1 + 1, 0, none⟩) (.inr (by simp <;> omega)) _
end

/-! DRf: A range over a function, walked at the wide fence: an iterator's contract whose invariant abides the turn of whatever is no cells (so that an iterator may itself range over a function), and the caller's law over it. -/
section
open Go.RowKit Go.Shelf
end

/-! DRg: Long rows in the fenced walk; the loose writes as a list; the iterator over them. -/
section
open Go.RowKit Go.Shelf
attribute [local go_sem] Oper.semAt_some

theorem wpListIn_load_cells {F : Fence} {m : Nat} {ops : Array Oper} {rest : List Oper} {op : Oper} {a : Act} {w : World} {Q : Exit → Act → World → Prop} (hgd : op.guard = none) (ty : TypeId) (x : Operand) (ho : op.op = .load ty x)
    (g o : Nat) (hx : a.eval x = .pointer (some ⟨g, o, none⟩)) (n : Nat) (cs : Array Value) (hc : cellsAt w g o n = cs) (hn : cs.size = n) (td : TypeDesc)
    (hu : Tryd.prog.underlying ty = some td) (hd : td.isRow = true) (hi : (Tryd.prog.info? ty).map (·.size) = some n)
    (h : wpListIn F m Tryd.prog ops Q rest (a.put op.dst (.agg cs)) w) : wpListIn F m Tryd.prog ops Q (op :: rest) a w := by
  refine wpListIn_plain hgd fun K hK => ?_
  have hr := run_loadVar_mid (P := Tryd.prog) w g o ty cs.toList td (by rw [← hc]; exact rangeAt_cellsAt w g o n) hu hd (by rw [hi, Array.length_toList, hn])
  rw [Array.toArray_toList] at hr
  refine ⟨fun f hf => by simp [Oper.about, ho] at hf, ?_⟩
  rw [semAt_load _ _ _ ty x ho]
  unfold execOp
  simp only [ho, hx, Instr.loadAt, Instr.sureAddr, Sem.run_bind, Sem.run_pure, Result.andThen_ok, hr]
  exact hK _ _ h

theorem opIn_load_cells {F : Fence} {m : Nat} {op : Oper} {a : Act} {w : World} {K : Act → World → Prop} {Q : Exit → Act → World → Prop} (ty : TypeId) (x : Operand) (ho : op.op = .load ty x)
    (g o : Nat) (hx : a.eval x = .pointer (some ⟨g, o, none⟩)) (n : Nat) (cs : Array Value) (hc : cellsAt w g o n = cs) (hn : cs.size = n) (td : TypeDesc)
    (hu : Tryd.prog.underlying ty = some td) (hd : td.isRow = true) (hi : (Tryd.prog.info? ty).map (·.size) = some n)
    (h : K (a.put op.dst (.agg cs)) w) : op.wpIn F m Tryd.prog a w K Q := by
  have hr := run_loadVar_mid (P := Tryd.prog) w g o ty cs.toList td (by rw [← hc]; exact rangeAt_cellsAt w g o n) hu hd (by rw [hi, Array.length_toList, hn])
  rw [Array.toArray_toList] at hr
  refine ⟨fun f hf => by simp [Oper.about, ho] at hf, ?_⟩
  rw [semAt_load _ _ _ ty x ho]
  unfold execOp
  simp only [ho, hx, Instr.loadAt, Instr.sureAddr, Sem.run_bind, Sem.run_pure, Result.andThen_ok, hr]
  exact h

/-- Block g is a row that may be written. -/
def FreeRow (w : World) (g n : Nat) : Prop := ∃ cs t, w.heap[g]? = some (.cells cs t (0, 0)) ∧ cs.size = n
theorem FreeRow.drew {w : World} {g n : Nat} (h : FreeRow w g n) : FreeRow w.drew g n := h

def aggOf : Value → Array Value
  | .agg cs => cs
  | _ => #[]

/-- Each is one cell. -/
def AllOne (A : Array Value) : Prop := A.all (·.oneCell') = true

theorem wp_store37 {d : Option Tmp} {x y : Operand} {tt : TypeId} {ps : String} {af : Array Edge} {a : Act} {w : World} {K : Act → World → Prop} {Q : Exit → Act → World → Prop}
    (h1 : a.eval x = .pointer (some ⟨(addrOf (a.eval x)).block, 0, none⟩)) (h2 : a.eval y = .agg (aggOf (a.eval y))) (h3 : (aggOf (a.eval y)).size = 128) (h4 : AllOne (aggOf (a.eval y))) (h5 : FreeRow w (addrOf (a.eval x)).block 128) :
    Oper.wp Tryd.prog { dst := d, op := .store 30 x y, type := tt, pos := ps, after := af, guard := none } a w K Q =
      K (a.put d undef) (w.setRow (addrOf (a.eval x)).block (aggOf (a.eval y))) := by
  obtain ⟨cs, t, hg, hs⟩ := h5
  have hr := run_storeVar_row w (addrOf (a.eval x)).block t 30 cs (aggOf (a.eval y)) hg (by rw [h3]; exact size37) (by rw [hs, h3]) h4
  unfold Oper.wp execOp
  dsimp only
  rw [h1, h2]
  simp only [Instr.storeAt, Instr.sureAddr, Sem.run_bind, Sem.run_pure, Result.andThen_ok]
  simp only [addrOf, aggOf] at hr ⊢
  rw [hr]
  rfl

/-- A loose write: its place, its block's cells. -/
abbrev LW := Int × List Value
def lcells (x : LW) : List Value := .int .i64 x.1 :: x.2
def dk_flat (ws : List LW) : List Value := ws.flatMap lcells
def LwOk (x : LW) : Prop := x.2.length = 128 ∧ ∀ v ∈ x.2, v.oneCell' = true

theorem length_lcells {x : LW} (h : LwOk x) : (lcells x).length = 129 := by simp [lcells, h.1]
theorem one_lcells {x : LW} (h : LwOk x) : ∀ v ∈ lcells x, v.oneCell' = true := by
  intro v hv
  rcases List.mem_cons.1 hv with rfl | hv
  · rfl
  · exact h.2 v hv

theorem dk_length_flat {ws : List LW} (h : ∀ x ∈ ws, LwOk x) : (dk_flat ws).length = ws.length * 129 := by
  induction ws with
  | nil => rfl
  | cons x ws ih =>
    have e : dk_flat (x :: ws) = lcells x ++ dk_flat ws := rfl
    rw [e, List.length_append, ih (fun y hy => h y (by simp [hy])), length_lcells (h x (by simp))]
    simp; omega

theorem dk_flat_part {ws : List LW} (h : ∀ x ∈ ws, LwOk x) (pre : List LW) (x : LW) (rest : List LW) (hws : ws = pre ++ x :: rest) : ((dk_flat ws).drop (pre.length * 129)).take 129 = lcells x := by
  subst hws
  have e : dk_flat (pre ++ x :: rest) = dk_flat pre ++ (lcells x ++ dk_flat rest) := by simp [dk_flat]
  have hp : (dk_flat pre).length = pre.length * 129 := dk_length_flat (fun y hy => h y (by simp [hy]))
  rw [e, ← hp, List.drop_left, ← length_lcells (h x (by simp)), List.take_left]

/-- The loose writes ws lie in the slice vl. -/
structure LooseAt (w : World) (vl : Value) (ws : List LW) : Prop where
  owns : w.ownsRow 0 93 129 vl ws.length (dk_flat ws)
  ok : ∀ x ∈ ws, LwOk x

theorem LooseAt.form {w : World} {vl : Value} {ws : List LW} (h : LooseAt w vl ws) : (vl = .slice none 0 0 ∧ ws = []) ∨
    ∃ g cap cur, vl = .slice (some ⟨g, 0, none⟩) ws.length cap ∧ w.heap[g]? = some (.cells cur 93 (0, 0)) ∧
      ∀ pre x rest, ws = pre ++ x :: rest → cur.extract (pre.length * 129) (pre.length * 129 + 129) = (lcells x).toArray := by
  rcases h.owns.2 with ⟨rfl, h0⟩ | ⟨g, cap, cur, rfl, hb, hg, hn, hm, hs, ht⟩
  · exact .inl ⟨rfl, List.eq_nil_of_length_eq_zero h0⟩
  · refine .inr ⟨g, cap, cur, rfl, hg, fun pre x rest hws => ?_⟩
    have hp := dk_flat_part h.ok pre x rest hws
    have hl : pre.length + 1 ≤ ws.length := by rw [hws]; simp
    rw [← ht, List.drop_take, List.take_take] at hp
    rw [Nat.min_eq_left (by have := Nat.mul_le_mul_right 129 hl; omega)] at hp
    rw [← hp]
    apply Array.toList_inj.1
    simp

def encW (x : Nat × LW) : Array Value := #[.int .i64 (x.1 : Int), .agg (lcells x.2).toArray]
def idx (ws : List LW) : List (Nat × LW) := ws.zipIdx.map fun x => (x.2, x.1)

theorem idx_split {ws : List LW} {pre : List (Nat × LW)} {x : Nat × LW} {rest : List (Nat × LW)} (h : idx ws = pre ++ x :: rest) :
    x.1 = pre.length ∧ ws = (ws.take pre.length) ++ x.2 :: ws.drop (pre.length + 1) ∧ pre.length < ws.length := by
  have hl : (idx ws).length = ws.length := by simp [idx]
  have hlt : pre.length < ws.length := by rw [← hl, h]; simp
  have hx : (idx ws)[pre.length]? = some x := by rw [h]; simp
  have hx' : (idx ws)[pre.length]? = some (pre.length, ws[pre.length]) := by simp [idx, hlt]
  rw [hx'] at hx
  have e : (pre.length, ws[pre.length]) = x := by simpa using hx
  subst e
  refine ⟨rfl, ?_, hlt⟩
  simp

theorem size65 : (Tryd.prog.info? 93).map (·.size) = some 129 := by kernel_rfl
end

/-! DRh: The iterators over the loose writes. -/
section
open Go.RowKit Go.Shelf
attribute [local go_sem] Oper.semAt_some

/-- What a round must keep: the block of the loose writes. -/
def KpL (vl : Value) (W W' : World) : Prop := W.heap.size ≤ W'.heap.size ∧ ∀ g, vl.ownBlock = some g → W'.heap[g]? = W.heap[g]?

theorem LooseAt.kept {vl : Value} {W W' : World} {ws : List LW} (h : LooseAt W vl ws) (hk : KpL vl W W') : LooseAt W' vl ws := by
  refine ⟨⟨h.owns.1, ?_⟩, h.ok⟩
  rcases h.owns.2 with hn | ⟨g, cap, cur, rfl, hb, hg, rest⟩
  · exact .inl hn
  · exact .inr ⟨g, cap, cur, rfl, hb, (hk.2 g rfl).trans hg, rest⟩

theorem LooseAt.lt {vl : Value} {W : World} {ws : List LW} (h : LooseAt W vl ws) : ∀ g, vl.ownBlock = some g → g < W.heap.size := fun g e => (h.owns.lt g e).2

set_option maxRecDepth 100000 in
set_option maxHeartbeats 1000000 in
theorem writes1 (S : Nat → Prop) (w : World) (bx p : Nat) (vb vl : Value) (F : Int) (dn : Bool) (dc : Int) (ws : List LW) (hbx : w.heap[bx]? = some (.cells #[.pointer (some ⟨p, 0, none⟩)] 45 (0, 0)))
    (hD : DiskAt w p vb vl F dn dc) (hL : LooseAt w vl ws) (hlen : ws.length < 1000000) (hS : ∀ g, vl.ownBlock = some g → ¬ S g) :
    SeqO Tryd.prog 61 #[.pointer (some ⟨bx, 0, none⟩)] encW (KpX S) (idx ws) w := by
  intro l n J Jx W hW hJ hJx hY h0
  have hbl : bx < w.heap.size := (Array.getElem?_eq_some_iff.1 hbx).1
  have hbW : W.heap[bx]? = some (.cells #[.pointer (some ⟨p, 0, none⟩)] 45 (0, 0)) := (hW.block bx hbl).trans hbx
  have hDW : DiskAt W p vb vl F dn dc := (hW.block p hD.lt).trans hD
  have hLW : LooseAt W vl ws := hL.kept ⟨hW.size, fun g e => hW.block g (hL.lt g e)⟩
  have cb : W.cell? ⟨bx, 0, none⟩ = some (.pointer (some ⟨p, 0, none⟩)) := by simp [World.cell?, hbW]
  obtain ⟨c0, c1, c2, c3, c4⟩ := hDW.cells
  clear c0 c2 c3 c4
  rcases hLW.form with ⟨rfl, rfl⟩ | ⟨g, cap, cur, rfl, hg, hpart⟩
  · refine callsIn_of_wp Tryd.func61 rfl trivial ?_ rfl
    simp only [Tryd.ntmps61, List.size_toArray, List.length_cons, List.length_nil, Nat.reduceAdd, Nat.reduceSub, Array.replicate_succ, Array.replicate_zero, List.push_toArray, List.append_toArray, List.nil_append, List.cons_append]
    gi_wp2
    gi_loopw [10] (fun i wr => i = .int .i64 0 ∧ J [] wr) (fun _ _ => 0)
    case atStart => exact ⟨rfl, h0⟩
    case round =>
      obtain ⟨rfl, hj⟩ := hrel
      gi_wp2
      go_end0
      exact ⟨⟨_, rfl⟩, .inl hj⟩
  · refine callsIn_of_wp Tryd.func61 rfl trivial ?_ rfl
    simp only [Tryd.ntmps61, List.size_toArray, List.length_cons, List.length_nil, Nat.reduceAdd, Nat.reduceSub, Array.replicate_succ, Array.replicate_zero, List.push_toArray, List.append_toArray, List.nil_append, List.cons_append]
    gi_wp2
    gi_loopw [10] (fun i wr => ∃ pre rest, idx ws = pre ++ rest ∧ i = .int .i64 (pre.length : Int) ∧ J pre wr ∧ wr.heap[g]? = some (.cells cur 93 (0, 0)) ∧ W.heap.size ≤ wr.heap.size) (fun i _ => ws.length - (intOf i).toNat)
    case atStart => exact ⟨[], idx ws, rfl, rfl, h0, hg, Nat.le_refl _⟩
    case round =>
      obtain ⟨pre, rest, hx, rfl, hj, hgr, hsz⟩ := hrel
      have hil : (idx ws).length = ws.length := by simp [idx]
      cases rest with
      | nil =>
        have hpl : pre.length = ws.length := by rw [← hil, hx]; simp
        have hnl : ¬ (pre.length : Int) < (ws.length : Int) := by omega
        have Hx : Hid (idx ws = pre ++ []) := hx
        clear hx hil hpl
        gi_wp2
        go_end0
        refine ⟨⟨_, rfl⟩, .inl ?_⟩
        rw [Hx.out, List.append_nil]
        exact hj
      | cons x rest =>
        obtain ⟨hx1, hx2, hlt⟩ := idx_split hx
        have hlt' : (pre.length : Int) < (ws.length : Int) := by omega
        have hp0 : (0 : Int) ≤ (pre.length : Int) := by omega
        have hce : cellsAt wr g (pre.length * 129) 129 = (lcells x.2).toArray := by
          rw [cellsAt, rowOf_of hgr]
          have := hpart (ws.take pre.length) x.2 _ hx2
          rwa [List.length_take, Nat.min_eq_left (by omega)] at this
        have hok : LwOk x.2 := hL.ok x.2 (by rw [hx2]; simp)
        have hsl : (lcells x.2).toArray.size = 129 := by simp [length_lcells hok]
        have hone : (lcells x.2).toArray.all (·.oneCell') = true := all_oneCell_toArray (one_lcells hok)
        have hi65 : (Tryd.prog.info? 93).map (·.size) = some (lcells x.2).toArray.size := by rw [hsl]; exact size65
        have hz := zero65
        have Hx : Hid (idx ws = pre ++ x :: rest) := hx
        have Hx1 : Hid (x.1 = pre.length) := hx1
        have Hx2 : Hid (ws = ws.take pre.length ++ x.2 :: ws.drop (pre.length + 1)) := hx2
        clear hx hx1 hx2 hil
        have he : Hid (encW x = #[.int .i64 (pre.length : Int), .agg (lcells x.2).toArray]) := show encW x = _ by simp [encW, Hx1.out]
        have hY1 : Hid (∀ w1, J pre w1 → _) := fun w1 hj1 => hY pre x rest w1 Hx.out hj1
        have hzs : wzero.size = (lcells x.2).toArray.size := by rw [hsl]; exact size_wzero
        clear hY hpart hbx hbW hD hDW hLW c1 cb hok h0
        gi_wp2_with (first | (refine wpListIn_load_cells rfl 93 _ rfl g (pre.length * 129) rfl 129 (lcells x.2).toArray hce hsl _ Tryd.underlying93 rfl size65 ?_) | (refine wpListIn_load_cells rfl 93 _ rfl wr.heap.size 0 rfl 129 (lcells x.2).toArray hce1 hsl _ Tryd.underlying93 rfl size65 ?_) | (refine wpListIn_store_row rfl 93 _ _ rfl wr.heap.size rfl (lcells x.2).toArray rfl 93 wzero (heap_alloc2_x wr _) hi65 hzs hone ?_; intro w1 n1 k1 z1; have k0 : Keeps (fun _ => False) wr w1 := ((Keeps.refl _ _).alloc _).trans' k1 (fun k e => .inr (by omega)); have hj1 : J pre w1 := hJ pre wr w1 none hj ⟨k0.os, k0.tape, k0.output, k0.size, fun k hk _ => k0.block k hk (fun h => h)⟩ (fun r e => by cases e); obtain ⟨fn, tmps, assign, body, hy, hR⟩ := hY1.out w1 hj1; rw [he.out] at hy; have hce1 : cellsAt w1 wr.heap.size 0 129 = (lcells x.2).toArray := (by rw [cellsAt, rowOf_of n1]; simp [← hsl]); have hg1 : w1.heap[g]? = some (.cells cur 93 (0, 0)) := (k0.block g (Array.getElem?_eq_some_iff.1 hgr).1 (fun h => h)).trans hgr))
        refine ⟨fun h => by (cases h), hR.mono ?_⟩
        rintro e W3 ⟨hkf3, (⟨rfl, hJ3, hk3⟩ | ⟨rfl, hJx3⟩)⟩
        · gi_wp2
          go_roundw
          case rel => exact ⟨pre ++ [x], rest, by simp [Hx.out], by simp, hJ3, hk3.2 g _ _ _ hg1 (hS g rfl), by have := hk3.1; have := k0.size; omega⟩
          case measure => simp [intOf]; omega
        · gi_wp2
          refine bodyPost_ret (results_none rfl _ _ _) rfl ?_
          exact ⟨⟨_, rfl⟩, .inr ⟨pre, x, rest, Hx.out, hJx3⟩⟩
end

end Go.Proofs.YtdgnjpdjohibeaaDoor
