
/-
  The reference: constants, a block.
-/
import Derived.Test.YtanmopbhglokmaaDoorAp
set_option linter.all false
namespace Go.Proofs.YtanmopbhglokmaaDoor
open Go.RowKit Go.Sort

def z8 : List W := List.replicate 8 0
theorem info49 : (Tryd.prog.info? 73).map (fun i => (i.zero, i.size)) = some (some (.agg (wrow z8)), 8) := by kernel_rfl
theorem zero49 (w : World) : (zeroValue 73).run Tryd.prog w = .ok (.agg (wrow z8)) w := (zero_of_info info49).1 w
theorem size49 : (Tryd.prog.info? 73).map (·.size) = some 8 := (zero_of_info info49).2

theorem or_add8 (x : W) (y : B) : (x <<< (8 : Nat)) + y.setWidth 32 = (x <<< (8 : Nat)) ||| y.setWidth 32 := by
  apply BitVec.add_eq_or_of_and_eq_zero
  apply BitVec.eq_of_getLsbD_eq
  intro i hi
  simp only [BitVec.getLsbD_and, BitVec.getLsbD_shiftLeft, BitVec.getLsbD_setWidth, BitVec.getLsbD_zero]
  by_cases h : i < 8
  · simp [h]
  · rw [BitVec.getLsbD_of_ge y i (by omega)]; simp
theorem be_next (l : List B) (x : B) : (nw (be l) * (256 : Int) % (4294967296 : Int) + nb x) % (4294967296 : Int) = nw (be (l ++ [x])) := by
  rw [shl8, nb_nw, add_nw, or_add8, be_snoc]
theorem be_next' (l : List B) (x : B) : (nw (be l) * (256 : Int) + nb x) % (4294967296 : Int) = nw (be (l ++ [x])) := by
  rw [← be_next, Int.emod_add_emod]

theorem be_next3 (l : List B) (x : B) : nw (be l) * (256 : Int) % (4294967296 : Int) + nb x = nw (be (l ++ [x])) := by
  rw [← be_next]
  have h1 := nw_lt (be l)
  have h2 := nb_lt x
  omega
theorem heap3 (w : World) (a b c : Obj) (g2 : TypeId) : (((w.alloc a).alloc b).alloc c).heap[w.heap.size]? = (w.alloc a).heap[w.heap.size]? ∧ (((w.alloc a).alloc b).alloc c).heap[w.heap.size + 1]? = ((w.alloc a).alloc b).heap[w.heap.size + 1]? := by
  refine ⟨?_, ?_⟩
  · rw [Below.heap_alloc _ c _ (by simp; omega), Below.heap_alloc _ b _ (by simp)]
  · rw [Below.heap_alloc _ c _ (by simp)]

theorem heap3n (w : World) (a b c : Obj) : (((w.alloc a).alloc b).alloc c).heap[w.heap.size + 1 + 1]? = some c := by
  have := heap_alloc2_new (w.alloc a) b c
  simpa using this

/-- While the words are made: the state's block q, the result's, the words'. -/
structure BkIn (q : Nat) (w V : World) (s : St) (L : List W) : Prop where
  g2 : V.heap[q]? = some (.cells (wrow s.toL) 73 (0, 0))
  g4 : V.heap[q + 1]? = some (.cells (wrow z8) 73 (0, 0))
  g5 : V.heap[q + 1 + 1]? = some (.cells (wrow L) 80 (0, 0))
  keeps : Keeps (fun _ => False) w V
section
variable {q : Nat} {w V : World} {s : St} {L : List W}
theorem BkIn.drew (h : BkIn q w V s L) : BkIn q w V.drew s L := ⟨h.g2, h.g4, h.g5, h.keeps.drew⟩
theorem BkIn.drewN (h : BkIn q w V s L) (n : Nat) : BkIn q w (V.drewN n) s L := ⟨by simpa using h.g2, by simpa using h.g4, by simpa using h.g5, h.keeps.drewN n⟩
theorem BkIn.set (h : BkIn q w V s L) (hq : w.heap.size ≤ q) (j : Nat) (x : W) : BkIn q w (V.setCell ⟨q + 1 + 1, j, none⟩ (.int .u32 (nw x))) s (L.set j x) := by
  refine ⟨?_, ?_, ?_, h.keeps.setCell (p := ⟨q + 1 + 1, j, none⟩) (.inr (by dsimp only; omega)) _⟩
  · rw [heap_setCell_other _ _ _ _ (by dsimp only; omega)]; exact h.g2
  · rw [heap_setCell_other _ _ _ _ (by simp)]; exact h.g4
  · rw [heap_setCell_same V _ j _ _ _ h.g5, wrow_set]
theorem BkIn.get (h : BkIn q w V s L) (j : Nat) (hj : j < L.length) : V.cell? ⟨q + 1 + 1, j, none⟩ = some (.int .u32 (nw (L.getD j 0))) := by
  rw [cell_of_row V _ j _ _ _ h.g5, wrow_get]
  simp [hj, vw]
theorem BkIn.free (h : BkIn q w V s L) (j : Nat) : V.frozen? ⟨q + 1 + 1, j, none⟩ = false := frozen_of_row V _ j _ _ h.g5
end

theorem pad_at (l : List W) (h : l.length < 64) : (pad l).getD l.length 0 = 0 := by
  rw [List.getD_eq_getElem?_getD, pad, List.getElem?_append_right (Nat.le_refl _), Nat.sub_self, List.getElem?_replicate]
  split <;> rfl
theorem set_zero (l : List W) (h : l.length < 64) : (pad l).set l.length 0 = pad l := by
  apply List.ext_getElem?
  intro i
  rw [List.getElem?_set]
  split
  · rename_i e
    subst e
    have := pad_at l h
    rw [List.getD_eq_getElem?_getD] at this
    have hl : l.length < (pad l).length := by rw [pad_len l (by omega)]; exact h
    rw [if_pos hl, List.getElem?_eq_getElem hl] at *
    simpa using this.symm
  · rfl
theorem getD_set_self (l : List W) (k : Nat) (x : W) (h : k < l.length) : (l.set k x).getD k 0 = x := by simp [h]
theorem nxt_ref (blk : List B) (l : List W) (k : Nat) (h : ¬ k < 16) : nxt blk l k = l.getD (k - 16) 0 + l.getD (k - 7) 0 + ss0 (l.getD (k - 15) 0) + ss1 (l.getD (k - 2) 0) := by
  unfold nxt
  rw [if_neg h]
  congr 1
  rw [BitVec.add_assoc, BitVec.add_assoc]
  congr 1
  exact BitVec.add_comm _ _
theorem sw_next (blk : List B) (k : Nat) (hk : k < 64) (x : W) (hx : nxt blk (sw blk k) k = x) : (pad (sw blk k)).set k x = pad (sw blk (k + 1)) := by
  have hlen := sw_len blk k
  have := pad_set (sw blk k) x (by omega)
  rw [hlen] at this
  rw [this, ← hx]; rfl
theorem byte_at {w : World} {b o : Nat} {blk : List B} (h : BytesAt w b o blk) (j : Nat) (hj : j < blk.length) : w.cell? ⟨b, o + j, none⟩ = some (.int .u8 (nb (blk.getD j 0))) := by
  have := h j blk[j] (by simp)
  rw [this]; simp [hj]
theorem take_next (blk : List B) (k j : Nat) (h : 4 * k + j < blk.length) : (blk.drop (4 * k)).take (j + 1) = (blk.drop (4 * k)).take j ++ [blk.getD (4 * k + j) 0] := by
  have h' : j < (blk.drop (4 * k)).length := by simp; omega
  rw [List.take_succ_eq_append_getElem h']
  simp [h]

theorem kk_len : kk.length = 64 := rfl
theorem add5_nw'' (a b c d e : W) : ((nw a + nw b + nw c + nw d) % (4294967296 : Int) + nw e) % (4294967296 : Int) = nw (a + b + c + d + e) := by
  rw [add4_nw, add_nw]
/-- While the rounds go: besides, the constants' block, and the block of the words that go round. -/
structure B3 (q q10 q11 : Nat) (w V : World) (s v : St) (ws : List W) : Prop where
  g2 : V.heap[q]? = some (.cells (wrow s.toL) 73 (0, 0))
  g4 : V.heap[q + 1]? = some (.cells (wrow z8) 73 (0, 0))
  g5 : V.heap[q + 1 + 1]? = some (.cells (wrow ws) 80 (0, 0))
  g10 : V.heap[q10]? = some (.cells (wrow kk) 80 (0, 0))
  g11 : V.heap[q11]? = some (.cells (wrow v.toL) 73 (0, 0))
  keeps : Keeps (fun _ => False) w V
theorem words_at {V : World} {g : Nat} {v : St} {t : TypeId} {fr : Nat × Nat} (h : V.heap[g]? = some (.cells (wrow v.toL) t fr)) :
    V.cell? ⟨g, 0, none⟩ = some (.int .u32 (nw v.a)) ∧ V.cell? ⟨g, 1, none⟩ = some (.int .u32 (nw v.b)) ∧ V.cell? ⟨g, 2, none⟩ = some (.int .u32 (nw v.c)) ∧ V.cell? ⟨g, 3, none⟩ = some (.int .u32 (nw v.d)) ∧
    V.cell? ⟨g, 4, none⟩ = some (.int .u32 (nw v.e)) ∧ V.cell? ⟨g, 5, none⟩ = some (.int .u32 (nw v.f)) ∧ V.cell? ⟨g, 6, none⟩ = some (.int .u32 (nw v.g)) ∧ V.cell? ⟨g, 7, none⟩ = some (.int .u32 (nw v.h)) :=
  ⟨cell_of_row V g 0 _ _ _ h, cell_of_row V g 1 _ _ _ h, cell_of_row V g 2 _ _ _ h, cell_of_row V g 3 _ _ _ h, cell_of_row V g 4 _ _ _ h, cell_of_row V g 5 _ _ _ h, cell_of_row V g 6 _ _ _ h, cell_of_row V g 7 _ _ _ h⟩
section
variable {q q10 q11 : Nat} {w V : World} {s v : St} {ws : List W}
theorem B3.key (h : B3 q q10 q11 w V s v ws) (j : Nat) (hj : j < 64) : V.cell? ⟨q10, j, none⟩ = some (.int .u32 (nw (kk.getD j 0))) := by
  have : j < kk.length := hj
  rw [cell_of_row V _ j _ _ _ h.g10, wrow_get]
  simp [this, vw]
theorem B3.wd (h : B3 q q10 q11 w V s v ws) (j : Nat) (hj : j < ws.length) : V.cell? ⟨q + 1 + 1, j, none⟩ = some (.int .u32 (nw (ws.getD j 0))) := by
  rw [cell_of_row V _ j _ _ _ h.g5, wrow_get]
  simp [hj, vw]
theorem B3.drewN (h : B3 q q10 q11 w V s v ws) (n : Nat) : B3 q q10 q11 w (V.drewN n) s v ws := ⟨by simpa using h.g2, by simpa using h.g4, by simpa using h.g5, by simpa using h.g10, by simpa using h.g11, h.keeps.drewN n⟩
theorem B3.next {V' : World} {v' : St} (h : B3 q q10 q11 w V s v ws) (h1 : q + 1 + 1 < q10) (h2 : q10 < q11) (hq : w.heap.size ≤ q) (hk : Keeps (· = q11) V V') (g : V'.heap[q11]? = some (.cells (wrow v'.toL) 73 (0, 0))) : B3 q q10 q11 w V' s v' ws :=
  ⟨hk.row h.g2 (by omega), hk.row h.g4 (by omega), hk.row h.g5 (by omega), hk.row h.g10 (by omega), g, h.keeps.trans' hk (fun i e => .inr (by omega))⟩
end

def kparts : Array (Nat × Operand) := (kk.zipIdx.map fun p => (p.2, Operand.const (.int .u32 (nw p.1)))).toArray
def kvals : Array (Nat × Value) := (kk.zipIdx.map fun p => (p.2, Value.int .u32 (nw p.1))).toArray
theorem build57 (w : World) : (Instr.build 80 kvals).run Tryd.prog w = .ok (.agg (wrow kk)) w := by kernel_rfl
theorem kparts_eval (a : Act) : (kparts.map fun (i, x) => (i, a.eval x)) = kvals := by
  simp only [kparts, kvals, List.map_toArray, List.map_map]
  rfl
theorem wpList_build57 {ops : Array Oper} {rest : List Oper} {o : Oper} {a : Act} {w : World} {Q : Exit → Act → World → Prop} (hgd : o.guard = none) (ho : o.op = .build 80 kparts)
    (h : wpList Tryd.prog ops Q rest (a.put o.dst (.agg (wrow kk))) w) : wpList Tryd.prog ops Q (o :: rest) a w := by
  refine wpList_plain hgd fun K hK => ?_
  unfold Oper.wp execOp
  simp only [ho, kparts_eval, build57, Sem.run_bind, Result.andThen_ok, Sem.run_pure]
  exact hK _ _ h

set_option maxRecDepth 100000 in
theorem consts24 (w : World) : Calls Tryd.prog 35 #[] w fun e w' => e = .returned (.agg (wrow kk)) ∧ Keeps (fun _ => False) w w' := by
  have hz := zero57
  have hs1 : (Tryd.prog.info? 80).map (·.size) = some (wrow kk).size := by rw [size_wrow]; exact size57
  have hs2 : (wrow (pad [])).size = (wrow kk).size := by rw [size_wrow, size_wrow]; rfl
  have hone := wrow_one kk
  go_enter Tryd.func35, Tryd.ntmps35
  go_wp2_with (first | (refine wpList_build57 rfl (by rfl) ?_) | (refine wpList_store_all rfl 80 _ _ rfl w.heap.size rfl (wrow kk) rfl 80 (wrow (pad [])) (heap_alloc_new w _) hs1 hs2 hone ?_))
  refine bodyPost_ret (v := .agg (wrow kk)) ?_ rfl ⟨rfl, (keeps_alloc w _).setRow (.inr (Nat.le_refl _)) _⟩
  exact results_cell_row rfl _ _ w.heap.size 80 (wrow kk) (0, 0) _ rfl (setRow_heap _ _ _ _ _ _ (heap_alloc_new w _)) Tryd.underlying80 rfl hs1

set_option maxRecDepth 100000 in
set_option maxHeartbeats 4000000 in
theorem words18 (w : World) (s : St) (b o c : Nat) (blk : List B) (hn : blk.length = 64) (hc : 64 ≤ c) (hl : BytesAt w b o blk) :
    Calls Tryd.prog 30 #[.agg (wrow s.toL), .slice (some ⟨b, o, none⟩) 64 c] w fun e w' => e = .returned (.agg (wrow (s.comp blk).toL)) ∧ Keeps (fun _ => False) w w' := by
  have hz := zero57
  have hz9 := zero49
  go_enter Tryd.func30, Tryd.ntmps30
  go_wp2_with fail
  clear hz hz9
  go_loopw [6] (fun i wr => ∃ k : Nat, k ≤ 64 ∧ i = .int .i64 k ∧ BkIn w.heap.size w wr s (pad (sw blk k))) (fun i _ => 64 - (intOf i).toNat)
  case atStart => exact ⟨0, by omega, rfl, (heap3 w _ _ _ 0).1.trans (heap_alloc_new w _), (heap3 w _ _ _ 0).2.trans (heap_alloc2_new w _ _), heap3n w _ _ _, (((Keeps.refl _ _).alloc _).alloc _).alloc _⟩
  case round =>
    obtain ⟨k, hk, rfl, hS⟩ := hrel
    have hlp : (pad (sw blk k)).length = 64 := pad_len _ (by rw [sw_len]; exact hk)
    by_cases hlt : k < 64
    · have hlt' : (k : Int) < 64 := by omega
      by_cases h16 : k < 16
      · have h16' : (k : Int) < 16 := by omega
        have hS0 : BkIn w.heap.size w wr s ((pad (sw blk k)).set k (be ((blk.drop (4 * k)).take 0))) := by
          have e := set_zero (sw blk k) (by rw [sw_len]; exact hlt)
          rw [sw_len] at e
          rw [List.take_zero, show be [] = 0 from rfl, e]; exact hS
        go_wp2_with fail
        obtain ⟨w0, rfl⟩ : ∃ w0, w0 = wr := ⟨_, rfl⟩
        go_loopw [7] (fun i wq => ∃ j : Nat, j ≤ 4 ∧ i = .int .i64 j ∧ BkIn w.heap.size w wq s ((pad (sw blk k)).set k (be ((blk.drop (4 * k)).take j)))) (fun i _ => 4 - (intOf i).toNat)
        case atStart => exact ⟨0, by omega, rfl, hS0⟩
        case round =>
          clear hS hS0
          obtain ⟨j, hj, rfl, hS⟩ := hrel
          by_cases hj4 : j < 4
          · have hj4' : (j : Int) < 4 := by omega
            have c1 := hS.get k (by simp [hlp]; exact hlt)
            rw [getD_set_self _ _ _ (by rw [hlp]; exact hlt)] at c1
            have c2 := byte_at (hl.keeps hS.keeps (fun h => h)) (4 * k + j) (by omega)
            have hf := hS.free k
            have hsum : (0 : Int) ≤ 4 * (k : Int) + (j : Int) := by omega
            have hsum2 : 4 * (k : Int) + (j : Int) < 64 := by omega
            have Hnx : Hid (BkIn w.heap.size w (wr.setCell ⟨w.heap.size + 1 + 1, k, none⟩ (.int .u32 (nw (be ((blk.drop (4 * k)).take (j + 1)))))).drew s ((pad (sw blk k)).set k (be ((blk.drop (4 * k)).take (j + 1))))) := by
              have := (hS.set (Nat.le_refl _) k (be ((blk.drop (4 * k)).take (j + 1)))).drew
              rwa [List.set_set] at this
            have Hbe : Hid (be ((blk.drop (4 * k)).take (j + 1)) = be ((blk.drop (4 * k)).take j ++ [blk.getD (4 * k + j) 0])) := by show _ = _; rw [take_next blk k j (by omega)]
            generalize (blk.drop (4 * k)).take j = bt at *
            generalize blk.getD (4 * k + j) 0 = y at *
            have b1 := nw_lt (be bt)
            have b2 := nb_lt y
            clear hS hl
            go_wp2_with fail
            refine region_tail 15 (by kernel_rfl) (by kernel_rfl) ?_
            simp only [List.take_succ_cons, List.take_zero]
            iterate 15 (go_big_quiet_step (fail))
            refine wpQuiet_nil ?_
            simp only [List.drop_succ_cons, List.drop_zero]
            go_wp2
            rw [be_next3, ← Hbe.out]
            exact ⟨⟨j + 1, by omega, by go_num, Hnx.out⟩, by simp [intOf]; omega⟩
          · obtain rfl : j = 4 := by omega
            have hfin := hS
            rw [sw_next blk k hlt (be ((blk.drop (4 * k)).take 4)) (by simp [nxt, h16, word])] at hfin
            go_wp2
            exact ⟨⟨k + 1, by omega, by go_num, hfin⟩, by simp [intOf]; omega⟩
      · have h16' : ¬ (k : Int) < 16 := by omega
        have hlen := sw_len blk k
        have gp : ∀ j, j < k → wr.cell? ⟨w.heap.size + 1 + 1, j, none⟩ = some (.int .u32 (nw ((sw blk k).getD j 0))) := fun j hj => by
          have e : (pad (sw blk k)).getD j 0 = (sw blk k).getD j 0 := by
            have := pad_get (sw blk k) j (by omega)
            rw [List.getD_eq_getElem?_getD, this]; rfl
          rw [← e]; exact hS.get j (by omega)
        have c1 := gp (k - 16) (by omega)
        have c2 := gp (k - 15) (by omega)
        have c3 := gp (k - 7) (by omega)
        have c4 := gp (k - 2) (by omega)
        have hf := hS.free k
        have c5 := hS.get k (by omega)
        have hx := nxt_ref blk (sw blk k) k h16
        clear gp
        generalize (sw blk k).getD (k - 16) 0 = x16 at *
        generalize (sw blk k).getD (k - 15) 0 = x15 at *
        generalize (sw blk k).getD (k - 7) 0 = x7 at *
        generalize (sw blk k).getD (k - 2) 0 = x2 at *
        have b1 := nw_lt x16
        have b2 := nw_lt x15
        have b3 := nw_lt x7
        have b4 := nw_lt x2
        have Hx : Hid (nxt blk (sw blk k) k = x16 + x7 + ss0 x15 + ss1 x2) := hx
        have e15 : (15 : Int) ≤ (k : Int) := by omega
        clear hx hl
        go_wp2
        go_quiet (fail)
        go_wp2
        refine region_tail 29 (by kernel_rfl) (by kernel_rfl) ?_
        simp only [List.take_succ_cons, List.take_zero]
        iterate 29 (first | go_big_quiet_step (fail) | (go_big_quiet_want; go_big_quiet_op; (refine ⟨_, quiet_call (turn23i _ _ _ (by decide) (by decide)) rfl, ?_⟩); go_big_quiet_on))
        refine wpQuiet_nil ?_
        simp only [List.drop_succ_cons, List.drop_zero]
        go_wp2
        rw [ss0_nw, ss1_nw, add4_nw]
        have hfin := (hS.drewN (nq + 1)).set (Nat.le_refl _) k (x16 + x7 + ss0 x15 + ss1 x2)
        rw [sw_next blk k hlt _ Hx.out] at hfin
        exact ⟨⟨k + 1, by omega, by go_num, hfin⟩, by simp [intOf]; omega⟩
    · obtain rfl : k = 64 := by omega
      rw [pad_full _ (sw_len _ _)] at hS
      have hz := zero57
      have hz9 := zero49
      have hs1 : (Tryd.prog.info? 80).map (·.size) = some (wrow kk).size := by rw [size_wrow]; exact size57
      have hs2 : (wrow (pad [])).size = (wrow kk).size := by rw [size_wrow, size_wrow]; rfl
      have hone := wrow_one kk
      have hs3 : (Tryd.prog.info? 73).map (·.size) = some (wrow s.toL).size := by rw [size_wrow]; exact size49
      have hs4 : (wrow z8).size = (wrow s.toL).size := by rw [size_wrow, size_wrow]; rfl
      have hone3 := wrow_one s.toL
      obtain ⟨g2, g4, g5, hk0⟩ := hS
      have hlw := sw_len blk 64
      have Hcomp : Hid (s.comp blk = s.plus (rd (sw blk 64) s 64)) := rfl
      clear hlp hl hn hc
      generalize sw blk 64 = ws at *
      go_wp2_with (first | (go_at_call 35; refine (consts24 _).mono ?_; rintro e w1 ⟨rfl, hk1⟩) | (refine wpList_store_row rfl rfl 80 _ _ rfl w1.heap.size rfl (wrow kk) rfl 80 (wrow (pad [])) (heap_alloc_new w1 _) hs1 hs2 hone ?_; intro w2 g10 hk2 hz2; clear hz2; have k12 : Keeps (fun _ => False) wr w2 := ((hk1.alloc _).trans' hk2 (fun i e => .inr (by have := hk1.size; omega))); have l12 := hk1.size) | (refine wpList_load_row rfl 73 _ rfl w.heap.size rfl 73 (wrow s.toL) (0, 0) _ (k12.row g2 (fun h => h)) Tryd.underlying73 rfl hs3 ?_) | (refine wpList_store_row rfl rfl 73 _ _ rfl w2.heap.size rfl (wrow s.toL) rfl 73 (wrow z8) (heap_alloc_new w2 _) hs3 hs4 hone3 ?_; intro w3 g11 hk3 hz3; clear hz3; have k13 : Keeps (fun _ => False) wr w3 := ((k12.alloc _).trans' hk3 (fun i e => .inr (by have := k12.size; omega)))))
      have g10' := hk3.row ((keeps_alloc w2 (.cells (wrow z8) 73)).row g10 (fun h => h)) (by have := lt_of_row g10; omega)
      have hB : B3 w.heap.size w1.heap.size w2.heap.size w w3 s s ws := ⟨k13.row g2 (fun h => h), k13.row g4 (fun h => h), k13.row g5 (fun h => h), g10', g11, hk0.trans k13⟩
      have h12 : w1.heap.size < w2.heap.size := lt_of_row g10
      have h01 : w.heap.size + 1 + 1 < w1.heap.size := Nat.lt_of_lt_of_le (lt_of_row g5) l12
      clear hz hz9 hs1 hs2 hone hs3 hs4 hone3 g10 g10' g11 g2 g4 g5 k13 k12 hk1 hk2 hk3 l12 hk0
      generalize w1.heap.size = q10 at *
      generalize w2.heap.size = q11 at *
      go_loopw [12] (fun i wq => ∃ (k : Nat) (v : St), k ≤ 64 ∧ Hid (rd ws s k = v) ∧ i = .int .i64 k ∧ B3 w.heap.size q10 q11 w wq s v ws) (fun i _ => 64 - (intOf i).toNat)
      case atStart => exact ⟨0, s, by omega, rfl, rfl, hB⟩
      case round =>
        clear hB
        obtain ⟨k, v, hk, Hv, rfl, hB⟩ := hrel
        obtain ⟨a0, a1, a2, a3, a4, a5, a6, a7⟩ := words_at hB.g11
        by_cases hlt : k < 64
        · have hlt' : (k : Int) < 64 := by omega
          have hc1 := hB.key k hlt
          have hc2 := hB.wd k (by omega)
          have Hnx : Hid (rd ws s (k + 1) = v.step (kk.getD k 0) (ws.getD k 0)) := by
            show _ = _
            rw [rd_succ ws s k hlw hlt, Hv.out]
          generalize kk.getD k 0 = K at *
          generalize ws.getD k 0 = X at *
          have ba := nw_lt v.a
          have bb := nw_lt v.b
          have bc := nw_lt v.c
          have bd := nw_lt v.d
          have be := nw_lt v.e
          have bf := nw_lt v.f
          have bg := nw_lt v.g
          have bh := nw_lt v.h
          have bK := nw_lt K
          have bX := nw_lt X
          clear hlw Hv
          go_wp2
          simp only [show IntKind.u32.max = 4294967295 from rfl, ch_nw', maj_nw']
          have b1 := nw_lt (ch v.e v.f v.g)
          have b2 := nw_lt (maj v.a v.b v.c)
          go_quiet ((go_at_call 34; exact Calls.quiet_of_same (turn23i _ _ _ (by decide) (by decide))))
          simp only [bs1_nw, add5_nw, add5_nw'']
          have hB4 := hB.drewN nq
          clear a0 a1 a2 a3 a4 a5 a6 a7 hc1 hc2 hB
          generalize wr.drewN nq = w4 at *
          obtain ⟨a0, a1, a2, a3, a4, a5, a6, a7⟩ := words_at hB4.g11
          go_wp2
          go_quiet ((go_at_call 34; exact Calls.quiet_of_same (turn23i _ _ _ (by decide) (by decide))))
          simp only [bs0_nw, add_nw]
          have hB5 := hB4.drewN nq
          clear a0 a1 a2 a3 a4 a5 a6 a7 hB4
          generalize w4.drewN nq = w5 at *
          obtain ⟨a0, a1, a2, a3, a4, a5, a6, a7⟩ := words_at hB5.g11
          have b3 := nw_lt (v.h + bs1 v.e + ch v.e v.f v.g + K + X)
          have b4 := nw_lt (bs0 v.a + maj v.a v.b v.c)
          have Hxx : Hid (v.step K X = ⟨(v.h + bs1 v.e + ch v.e v.f v.g + K + X) + (bs0 v.a + maj v.a v.b v.c), v.a, v.b, v.c, v.d + (v.h + bs1 v.e + ch v.e v.f v.g + K + X), v.e, v.f, v.g⟩) := rfl
          generalize v.h + bs1 v.e + ch v.e v.f v.g + K + X = xx at *
          generalize bs0 v.a + maj v.a v.b v.c = yy at *
          have ho49 : (#[.int .u32 ((nw xx + nw yy) % 4294967296), .int .u32 (nw v.a), .int .u32 (nw v.b), .int .u32 (nw v.c), .int .u32 ((nw v.d + nw xx) % 4294967296), .int .u32 (nw v.e), .int .u32 (nw v.f), .int .u32 (nw v.g)] : Array Value).all (·.oneCell') = true := by rw [add_nw, add_nw]; exact wrow_one (St.toL ⟨xx + yy, v.a, v.b, v.c, v.d + xx, v.e, v.f, v.g⟩)
          go_wp2_with (refine wpList_store_row rfl rfl 73 _ _ rfl q11 rfl #[.int .u32 ((nw xx + nw yy) % 4294967296), .int .u32 (nw v.a), .int .u32 (nw v.b), .int .u32 (nw v.c), .int .u32 ((nw v.d + nw xx) % 4294967296), .int .u32 (nw v.e), .int .u32 (nw v.f), .int .u32 (nw v.g)] rfl 73 (wrow v.toL) hB5.g11 size49 (size_wrow _) ho49 ?_; intro w6 g6 hk6 hz6; clear hz6)
          rw [add_nw, add_nw] at g6
          exact ⟨⟨k + 1, v.step K X, by omega, Hnx, by go_num, hB5.next h01 h12 (Nat.le_refl _) hk6 (by rw [Hxx.out]; exact g6)⟩, by simp [intOf]; omega⟩
        · obtain rfl : k = 64 := by omega
          obtain ⟨e0, e1, e2, e3, e4, e5, e6, e7⟩ := words_at hB.g2
          have hs3 : (Tryd.prog.info? 73).map (·.size) = some (wrow (s.plus v).toL).size := by rw [size_wrow]; exact size49
          have Hc : Hid (s.comp blk = s.plus v) := by show _ = _; rw [Hcomp.out, Hv.out]
          have ba := nw_lt v.a
          have bb := nw_lt v.b
          have bc := nw_lt v.c
          have bd := nw_lt v.d
          have be := nw_lt v.e
          have bf := nw_lt v.f
          have bg := nw_lt v.g
          have bh := nw_lt v.h
          have ca := nw_lt s.a
          have cb := nw_lt s.b
          have cc := nw_lt s.c
          have cd := nw_lt s.d
          have ce := nw_lt s.e
          have cf := nw_lt s.f
          have cg := nw_lt s.g
          have ch := nw_lt s.h
          have hnew : (#[.int .u32 ((nw s.a + nw v.a) % 4294967296), .int .u32 ((nw s.b + nw v.b) % 4294967296), .int .u32 ((nw s.c + nw v.c) % 4294967296), .int .u32 ((nw s.d + nw v.d) % 4294967296), .int .u32 ((nw s.e + nw v.e) % 4294967296), .int .u32 ((nw s.f + nw v.f) % 4294967296), .int .u32 ((nw s.g + nw v.g) % 4294967296), .int .u32 ((nw s.h + nw v.h) % 4294967296)] : Array Value) = wrow (s.plus v).toL := by
            simp only [add_nw]; rfl
          have Hnew : Hid ((#[.int .u32 ((nw s.a + nw v.a) % 4294967296), .int .u32 ((nw s.b + nw v.b) % 4294967296), .int .u32 ((nw s.c + nw v.c) % 4294967296), .int .u32 ((nw s.d + nw v.d) % 4294967296), .int .u32 ((nw s.e + nw v.e) % 4294967296), .int .u32 ((nw s.f + nw v.f) % 4294967296), .int .u32 ((nw s.g + nw v.g) % 4294967296), .int .u32 ((nw s.h + nw v.h) % 4294967296)] : Array Value) = wrow (s.plus v).toL) := hnew
          have hone : (#[.int .u32 ((nw s.a + nw v.a) % 4294967296), .int .u32 ((nw s.b + nw v.b) % 4294967296), .int .u32 ((nw s.c + nw v.c) % 4294967296), .int .u32 ((nw s.d + nw v.d) % 4294967296), .int .u32 ((nw s.e + nw v.e) % 4294967296), .int .u32 ((nw s.f + nw v.f) % 4294967296), .int .u32 ((nw s.g + nw v.g) % 4294967296), .int .u32 ((nw s.h + nw v.h) % 4294967296)] : Array Value).all (·.oneCell') = true := by rw [hnew]; exact wrow_one _
          clear hnew
          go_wp2_with (refine wpList_store_row rfl rfl 73 _ _ rfl (w.heap.size + 1) rfl #[.int .u32 ((nw s.a + nw v.a) % 4294967296), .int .u32 ((nw s.b + nw v.b) % 4294967296), .int .u32 ((nw s.c + nw v.c) % 4294967296), .int .u32 ((nw s.d + nw v.d) % 4294967296), .int .u32 ((nw s.e + nw v.e) % 4294967296), .int .u32 ((nw s.f + nw v.f) % 4294967296), .int .u32 ((nw s.g + nw v.g) % 4294967296), .int .u32 ((nw s.h + nw v.h) % 4294967296)] rfl 73 (wrow z8) hB.g4 size49 (size_wrow _) hone ?_; intro w6 g6 hk6 hz6; clear hz6)
          rw [Hnew.out, ← Hc.out] at g6
          refine bodyPost_ret (v := .agg (wrow (s.comp blk).toL)) ?_ rfl ⟨rfl, hB.keeps.trans' hk6 (fun i e => .inr (by omega))⟩
          exact results_cell_row rfl _ _ (w.heap.size + 1) 73 (wrow (s.comp blk).toL) (0, 0) _ rfl g6 Tryd.underlying73 rfl (by rw [Hc.out]; exact hs3)

end Go.Proofs.YtanmopbhglokmaaDoor
