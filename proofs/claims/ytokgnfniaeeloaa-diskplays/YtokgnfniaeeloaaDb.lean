/-
  Fill, New, Mod, Fair.
-/
import Derived.Test.YtokgnfniaeeloaaDa
import Derived.Deep.WholeRow
import Derived.Deep.MidRow
set_option linter.all false
namespace Go.Proofs.Ytokgnfniaeeloaa
open Go.RowKit

/-- A block whose 128 bytes are v. -/
def fill (v : Int) : Array Value := Array.replicate 128 (.int .u8 v)

theorem size_fill (v : Int) : (fill v).size = 128 := by simp [fill]
theorem fill_one (v : Int) : (fill v).all (·.oneCell') = true := by
  rw [Array.all_eq_true_iff_forall_mem]; intro x hx; rw [fill, Array.mem_replicate] at hx; rw [hx.2]; rfl

theorem info37 : (Try.prog.info? 37).map (fun i => (i.zero, i.size)) = some (some (.agg (fill 0)), 128) := by kernel_rfl
theorem zero37 (w : World) : (zeroValue 37).run Try.prog w = .ok (.agg (fill 0)) w := (zero_of_info info37).1 w
theorem size37 : (Try.prog.info? 37).map (·.size) = some 128 := (zero_of_info info37).2

/-- A whole row is stored over a row that is known whole. -/
theorem wpList_store_all {ops : Array Oper} {rest : List Oper} {o : Oper} {a : Act} {w : World} {Q : Exit → Act → World → Prop} (hgd : o.guard = none) (ty : TypeId) (x y : Operand) (ho : o.op = .store ty x y)
    (g : Nat) (hx : a.eval x = .pointer (some ⟨g, 0, none⟩)) (new : Array Value) (hy : a.eval y = .agg new) (t : TypeId) (old : Array Value) (hg : w.heap[g]? = some (.cells old t (0, 0)))
    (hi : (Try.prog.info? ty).map (·.size) = some new.size) (hs : old.size = new.size) (h1 : new.all (·.oneCell') = true)
    (h : wpList Try.prog ops Q rest (a.put o.dst undef) (w.setRow g new)) : wpList Try.prog ops Q (o :: rest) a w := by
  refine wpList_plain hgd fun K hK => ?_
  unfold Oper.wp execOp
  simp only [ho, hx, hy, Instr.storeAt, Instr.sureAddr, Sem.run_bind, Sem.run_pure, Result.andThen_ok, run_storeVar_row w g t ty old new hg hi hs h1]
  exact hK _ _ h

/-- The first k bytes are v, the others are zero. -/
def part (v : Int) (k : Nat) : Array Value := Array.ofFn (n := 128) fun i => if i.1 < k then .int .u8 v else .int .u8 0

theorem size_part (v : Int) (k : Nat) : (part v k).size = 128 := by simp [part]
theorem part_zero (v : Int) : part v 0 = fill 0 := by
  apply Array.ext <;> simp [part, fill]
theorem part_all (v : Int) : part v 128 = fill v := by
  apply Array.ext
  · simp [part, fill]
  · intro i h1 h2
    simp only [size_part] at h1
    simp [part, fill, h1]
theorem part_succ (v : Int) (k : Nat) (h : k < 128) : (part v k).setIfInBounds k (.int .u8 v) = part v (k + 1) := by
  apply Array.ext
  · simp [part]
  · intro i h1 h2
    simp only [size_part] at h2
    by_cases e : k = i
    · subst e; simp [part]
    · have e1 : (i < k + 1) = (i < k) := by simp; omega
      rw [Array.getElem_setIfInBounds_ne (by rw [size_part]; exact h2) e]
      simp [part, e1]

set_option maxHeartbeats 400000 in
theorem fill_any (v : Int) (w : World) :
    Calls Try.prog 15 #[.int .u8 v] w fun e w' => e = .returned (.agg (fill v)) ∧ Keeps (fun _ => False) w w' := by
  have hz := zero37
  go_enter Try.func15, Try.ntmps15
  go_wp2
  clear hz
  go_loopw [4] (fun i wr => ∃ k : Nat, k ≤ 128 ∧ i = .int .i64 k ∧ wr.heap[w.heap.size]? = some (.cells (fill 0) 37 (0, 0)) ∧ wr.heap[w.heap.size + 1]? = some (.cells (part v k) 37 (0, 0)) ∧ Keeps (fun _ => False) w wr) (fun i _ => 128 - (intOf i).toNat)
  case atStart =>
    refine ⟨0, by omega, rfl, ?_, ?_, ((Keeps.refl _ _).alloc _).alloc _⟩
    · exact heap_alloc2_old w _ _
    · rw [part_zero]; exact heap_alloc2_new w _ _
  case round =>
    obtain ⟨k, hk, rfl, g0, g1, hK⟩ := hrel
    by_cases hlt : k < 128
    · have hc : wr.cell? ⟨w.heap.size + 1, k, none⟩ = some ((part v k)[k]'(by rw [size_part]; exact hlt)) := by
        rw [cell_of_row wr _ k _ _ _ g1]; simp [size_part, hlt]
      have hf : wr.frozen? ⟨w.heap.size + 1, k, none⟩ = false := frozen_of_row wr _ k _ _ g1
      have hlt' : (k : Int) < 128 := by omega
      go_wp2
      go_roundw
      case rel =>
        refine ⟨k + 1, by omega, by go_num, ?_, ?_, ?_⟩
        · rw [heap_setCell_other _ _ _ _ (by simp)]; exact g0
        · rw [heap_setCell_same wr _ k _ _ _ g1, part_succ v k hlt]
        · exact hK.setCell (p := ⟨w.heap.size + 1, k, none⟩) (.inr (by simp)) _
      case measure => simp [intOf]; omega
    · obtain rfl : k = 128 := by omega
      rw [part_all] at g1
      have hs1 : (Try.prog.info? 37).map (·.size) = some (fill v).size := by rw [size_fill]; exact size37
      have hs2 : (fill 0).size = (fill v).size := by rw [size_fill, size_fill]
      have hone := fill_one v
      go_wp2_with (first | (refine wpList_load_row rfl 37 _ rfl (w.heap.size + 1) rfl 37 (fill v) (0, 0) _ g1 Try.underlying37 rfl hs1 ?_) | (refine wpList_store_all rfl 37 _ _ rfl w.heap.size rfl (fill v) rfl 37 (fill 0) g0 hs1 hs2 hone ?_))
      refine bodyPost_ret (v := .agg (fill v)) ?_ rfl ⟨rfl, hK.setRow (.inr (Nat.le_refl _)) _⟩
      exact results_cell_row rfl _ _ w.heap.size 37 (fill v) (0, 0) _ rfl (setRow_heap wr _ _ _ _ _ g0) Try.underlying37 rfl hs1

theorem info63 : (Try.prog.info? 63).map (fun i => (i.zero, i.size)) = some (some (.agg #[.slice none 0 0, .slice none 0 0, .int .i64 0, .bool false, .int .i64 0]), 5) := by kernel_rfl

/-- n blocks of zeros. -/
def zeros (n : Nat) : Array Value := Array.replicate (n * 128) (.int .u8 0)

set_option maxHeartbeats 400000 in
theorem new_no (n : Int) (w : World) (h : n < 16 ∨ 128 < n) :
    Calls Try.prog 12 #[.int .i64 n] w fun e w' => e = .returned (.tuple #[.pointer none, .int .i64 1]) ∧ w' = w := by
  rcases h with h | h
  · go_enter Try.func12, Try.ntmps12
    go_wp2
    go_ret2
    exact ⟨rfl, rfl⟩
  · have h' : ¬ n < 16 := by omega
    go_enter Try.func12, Try.ntmps12
    go_wp2
    go_ret2
    exact ⟨rfl, rfl⟩

theorem infoB37 : (Try.prog.info? 37).map (fun i => (i.zero, i.size, i.bytes)) = some (some (.agg (fill 0)), 128, 128) := by kernel_rfl

theorem made_zeros (n : Nat) : madeCells (Value.agg (fill 0)).cells (n * 128) = zeros n := by
  apply Array.ext
  · simp [madeCells, zeros]
  · intro i h1 h2
    have hlt : i % 128 < 128 := Nat.mod_lt _ (by decide)
    have e : (fill 0)[i % 128]! = .int .u8 0 := by
      rw [getElem!_pos (fill 0) (i % 128) (by rw [size_fill]; exact hlt)]; simp [fill]
    simpa [madeCells, zeros, Value.cells, size_fill] using e

theorem make48 (n : Nat) (h2 : n ≤ 128) (w : World) :
    (Instr.makeSlice 48 (.int .i64 (n : Int)) (.int .i64 (n : Int))).run Try.prog w = .ok (.slice (some ⟨w.heap.size, 0, none⟩) n n) (w.alloc (.cells (zeros n) 37)) := by
  obtain ⟨i, hi, hz, hs, hb⟩ := info_parts infoB37
  have := run_make (P := Try.prog) w 48 37 i _ Try.underlying48 hi hz .i64 .i64 (n : Int) (n : Int) (by omega) (by omega) (by rw [hb]; omega) (by omega)
  rw [hs] at this
  simpa [made_zeros] using this

set_option maxHeartbeats 400000 in
theorem new_yes (n : Nat) (w : World) (h : 16 ≤ n) (h2 : n ≤ 128) :
    Calls Try.prog 12 #[.int .i64 n] w fun e w' => e = .returned (.tuple #[.pointer (some ⟨w.heap.size + 1, 0, none⟩), .int .i64 0]) ∧
      DiskAt w' (w.heap.size + 1) (.slice (some ⟨w.heap.size, 0, none⟩) n n) (.slice none 0 0) (-1) false 0 ∧ w'.heap[w.heap.size]? = some (.cells (zeros n) 37 (0, 0)) ∧ w'.heap.size = w.heap.size + 2 ∧ Keeps (fun _ => False) w w' := by
  have h' : ¬ (n : Int) < 16 := by omega
  have h2' : ¬ 128 < (n : Int) := by omega
  have hm := make48 n h2
  go_enter Try.func12, Try.ntmps12
  go_wp2
  go_ret2
  refine ⟨rfl, ?_, heap_alloc2_old w _ _, by simp, ((Keeps.refl _ _).alloc _).alloc _⟩
  exact heap_alloc2_new w _ _

end Go.Proofs.Ytokgnfniaeeloaa
