
/-
  spread: a word for each round.
-/
import Derived.Test.YtanmopbhglokmaaDoorRt
set_option linter.all false
namespace Go.Proofs.YtanmopbhglokmaaDoor
open Go.RowKit

/-- Word i of a block. -/
def word (blk : List B) (i : Nat) : W := be ((blk.drop (4 * i)).take 4)
/-- The next word of the schedule, out of those ahead. -/
def nxt (blk : List B) (l : List W) (i : Nat) : W :=
  if i < 16 then word blk i else l.getD (i - 16) 0 + ss0 (l.getD (i - 15) 0) + l.getD (i - 7) 0 + ss1 (l.getD (i - 2) 0)
/-- The first i words of the schedule. -/
def sw (blk : List B) : Nat → List W
  | 0 => []
  | i + 1 => sw blk i ++ [nxt blk (sw blk i) i]
theorem sw_len (blk : List B) (i : Nat) : (sw blk i).length = i := by induction i <;> simp [sw, *]

/-- 64 words: these, then zeros. -/
def pad (l : List W) : List W := l ++ List.replicate (64 - l.length) 0
theorem pad_len (l : List W) (h : l.length ≤ 64) : (pad l).length = 64 := by simp [pad]; omega
theorem pad_full (l : List W) (h : l.length = 64) : pad l = l := by simp [pad, h]
theorem pad_get (l : List W) (j : Nat) (h : j < l.length) : (pad l)[j]? = some (l.getD j 0) := by
  simp [pad, List.getElem?_append, h]
theorem pad_set (l : List W) (x : W) (h : l.length < 64) : (pad l).set l.length x = pad (l ++ [x]) := by
  have e : List.replicate (64 - l.length) (0 : W) = 0 :: List.replicate (64 - (l.length + 1)) 0 := by
    rw [show 64 - l.length = (64 - (l.length + 1)) + 1 by omega, List.replicate_succ]
  unfold pad
  rw [e]
  simp

theorem info57 : (Tryd.prog.info? 80).map (fun i => (i.zero, i.size)) = some (some (.agg (wrow (pad []))), 64) := by kernel_rfl
theorem zero57 (w : World) : (zeroValue 80).run Tryd.prog w = .ok (.agg (wrow (pad []))) w := (zero_of_info info57).1 w
theorem size57 : (Tryd.prog.info? 80).map (·.size) = some 64 := (zero_of_info info57).2

/-- A whole row is stored over a row that is known whole. -/
theorem wpList_store_all {ops : Array Oper} {rest : List Oper} {o : Oper} {a : Act} {w : World} {Q : Exit → Act → World → Prop} (hgd : o.guard = none) (ty : TypeId) (x y : Operand) (ho : o.op = .store ty x y)
    (g : Nat) (hx : a.eval x = .pointer (some ⟨g, 0, none⟩)) (new : Array Value) (hy : a.eval y = .agg new) (t : TypeId) (old : Array Value) (hg : w.heap[g]? = some (.cells old t (0, 0)))
    (hi : (Tryd.prog.info? ty).map (·.size) = some new.size) (hs : old.size = new.size) (h1 : new.all (·.oneCell') = true)
    (h : wpList Tryd.prog ops Q rest (a.put o.dst undef) (w.setRow g new)) : wpList Tryd.prog ops Q (o :: rest) a w := by
  refine wpList_plain hgd fun K hK => ?_
  unfold Oper.wp execOp
  simp only [ho, hx, hy, Instr.storeAt, Instr.sureAddr, Sem.run_bind, Sem.run_pure, Result.andThen_ok, run_storeVar_row w g t ty old new hg hi hs h1]
  exact hK _ _ h

/-- Behind k rounds: the result's block q0 is zeros, the words' block q1 has k words. -/
structure SpIn (q0 q1 : Nat) (w V : World) (blk : List B) (k : Nat) : Prop where
  g0 : V.heap[q0]? = some (.cells (wrow (pad [])) 80 (0, 0))
  g1 : V.heap[q1]? = some (.cells (wrow (pad (sw blk k))) 80 (0, 0))
  keeps : Keeps (fun _ => False) w V
theorem SpIn.drew {q0 q1 k : Nat} {w V : World} {blk : List B} (h : SpIn q0 q1 w V blk k) : SpIn q0 q1 w V.drew blk k := ⟨h.g0, h.g1, h.keeps.drew⟩
theorem SpIn.drewN {q0 q1 k : Nat} {w V : World} {blk : List B} (h : SpIn q0 q1 w V blk k) (n : Nat) : SpIn q0 q1 w (V.drewN n) blk k := ⟨by simpa using h.g0, by simpa using h.g1, h.keeps.drewN n⟩
theorem SpIn.next {q0 q1 k : Nat} {w V : World} {blk : List B} (h : SpIn q0 q1 w V blk k) (hk : k < 64) (h01 : q0 ≠ q1) (hq : w.heap.size ≤ q1) (x : W) (hx : nxt blk (sw blk k) k = x) :
    SpIn q0 q1 w (V.setCell ⟨q1, k, none⟩ (.int .u32 (nw x))) blk (k + 1) := by
  refine ⟨?_, ?_, h.keeps.setCell (p := ⟨q1, k, none⟩) (.inr hq) _⟩
  · rw [heap_setCell_other _ _ _ _ (by simpa using h01)]; exact h.g0
  · rw [heap_setCell_same V _ k _ _ _ h.g1, wrow_set]
    have hlen := sw_len blk k
    have := pad_set (sw blk k) x (by omega)
    rw [hlen] at this
    rw [this, ← hx]
    rfl
theorem SpIn.get {q0 q1 k : Nat} {w V : World} {blk : List B} (h : SpIn q0 q1 w V blk k) (j : Nat) (hj : j < k) : V.cell? ⟨q1, j, none⟩ = some (.int .u32 (nw ((sw blk k).getD j 0))) := by
  have hlen := sw_len blk k
  rw [cell_of_row V _ j _ _ _ h.g1, wrow_get, pad_get _ _ (by omega)]; rfl
theorem SpIn.here {q0 q1 k : Nat} {w V : World} {blk : List B} (h : SpIn q0 q1 w V blk k) (hk : k < 64) : V.frozen? ⟨q1, k, none⟩ = false ∧ ∃ v, V.cell? ⟨q1, k, none⟩ = some v := by
  refine ⟨frozen_of_row V _ k _ _ h.g1, ?_⟩
  rw [cell_of_row V _ k _ _ _ h.g1, wrow_get]
  have : k < (pad (sw blk k)).length := by rw [pad_len _ (by rw [sw_len]; omega)]; exact hk
  simp [this]

set_option maxHeartbeats 1000000 in
theorem spread26 (w : World) (b o c : Nat) (blk : List B) (hn : blk.length = 64) (hc : 64 ≤ c) (hl : BytesAt w b o blk) :
    Calls Tryd.prog 36 #[.slice (some ⟨b, o, none⟩) 64 c] w fun e w' => e = .returned (.agg (wrow (sw blk 64))) ∧ Keeps (fun _ => False) w w' := by
  have hz := zero57
  go_enter Tryd.func36, Tryd.ntmps36
  go_wp2
  clear hz
  go_loopw [7] (fun i wr => ∃ k : Nat, k ≤ 64 ∧ i = .int .i64 k ∧ SpIn w.heap.size (w.heap.size + 1) w wr blk k) (fun i _ => 64 - (intOf i).toNat)
  case atStart => exact ⟨0, by omega, rfl, heap_alloc2_old w _ _, heap_alloc2_new w _ _, ((Keeps.refl _ _).alloc _).alloc _⟩
  case round =>
    obtain ⟨k, hk, rfl, hS⟩ := hrel
    by_cases hlt : k < 64
    · obtain ⟨hf, v0, hv0⟩ := hS.here hlt
      have hlt' : (k : Int) < 64 := by omega
      by_cases h16 : k < 16
      · have h16' : (k : Int) < 16 := by omega
        have hfin := hS.next hlt (by omega) (by omega) (word blk k) (by simp [nxt, h16])
        have hbs : BytesAt wr b (o + 4 * k) ((blk.drop (4 * k)).take 4) := (hl.keeps hS.keeps (fun h => h)).part (4 * k) 4
        have hl4 : ((blk.drop (4 * k)).take 4).length = 4 := by simp [hn]; omega
        clear hS hl
        go_wp2_with (go_at_call 38; refine (take28 _ b (o + 4 * k) _ _ (4 * (k + 1) - 4 * k) (by rw [hl4]; omega) (by omega) hbs).mono ?_; rintro e w' ⟨rfl, rfl⟩)
        go_roundw
        case rel => exact ⟨k + 1, by omega, by go_num, hfin⟩
        case measure => simp [intOf]; omega
      · have h16' : ¬ (k : Int) < 16 := by omega
        have c1 := hS.get (k - 16) (by omega)
        have c2 := hS.get (k - 15) (by omega)
        have c3 := hS.get (k - 7) (by omega)
        have c4 := hS.get (k - 2) (by omega)
        have hx : nxt blk (sw blk k) k = (sw blk k).getD (k - 16) 0 + ss0 ((sw blk k).getD (k - 15) 0) + (sw blk k).getD (k - 7) 0 + ss1 ((sw blk k).getD (k - 2) 0) := by unfold nxt; rw [if_neg h16]
        generalize (sw blk k).getD (k - 16) 0 = x16 at *
        generalize (sw blk k).getD (k - 15) 0 = x15 at *
        generalize (sw blk k).getD (k - 7) 0 = x7 at *
        generalize (sw blk k).getD (k - 2) 0 = x2 at *
        have b1 := nw_lt x16
        have b2 := nw_lt x15
        have b3 := nw_lt x7
        have b4 := nw_lt x2
        have Hx : Hid (nxt blk (sw blk k) k = x16 + ss0 x15 + x7 + ss1 x2) := hx
        have e15 : (15 : Int) ≤ (k : Int) := by omega
        clear hx hl
        go_wp2
        go_quiet (fail)
        go_wp2
        refine region_tail 29 (by kernel_rfl) (by kernel_rfl) ?_
        simp only [List.take_succ_cons, List.take_zero]
        iterate 29 (first | go_big_quiet_step (fail) | (go_big_quiet_want; go_big_quiet_op; (refine ⟨_, quiet_call (turn27i _ _ _ (by decide) (by decide)) rfl, ?_⟩); go_big_quiet_on))
        refine wpQuiet_nil ?_
        simp only [List.drop_succ_cons, List.drop_zero]
        go_wp2
        rw [ss0_nw, ss1_nw, add4_nw]
        exact ⟨⟨k + 1, by omega, by go_num, (hS.drewN _).next hlt (by omega) (by omega) _ Hx.out⟩, by simp [intOf]; omega⟩
    · obtain rfl : k = 64 := by omega
      obtain ⟨g0, g1, hK⟩ := hS
      rw [pad_full _ (sw_len _ _)] at g1
      have hs1 : (Tryd.prog.info? 80).map (·.size) = some (wrow (sw blk 64)).size := by rw [size_wrow, sw_len]; exact size57
      have hs2 : (wrow (pad [])).size = (wrow (sw blk 64)).size := by rw [size_wrow, size_wrow, sw_len]; rfl
      have hone := wrow_one (sw blk 64)
      go_wp2_with (first | (refine wpList_load_row rfl 80 _ rfl (w.heap.size + 1) rfl 80 (wrow (sw blk 64)) (0, 0) _ g1 Tryd.underlying80 rfl hs1 ?_) | (refine wpList_store_all rfl 80 _ _ rfl w.heap.size rfl (wrow (sw blk 64)) rfl 80 (wrow (pad [])) g0 hs1 hs2 hone ?_))
      refine bodyPost_ret (v := .agg (wrow (sw blk 64))) ?_ rfl ⟨rfl, hK.setRow (.inr (Nat.le_refl _)) _⟩
      exact results_cell_row rfl _ _ w.heap.size 80 (wrow (sw blk 64)) (0, 0) _ rfl (setRow_heap wr _ _ _ _ _ g0) Tryd.underlying80 rfl hs1

end Go.Proofs.YtanmopbhglokmaaDoor
