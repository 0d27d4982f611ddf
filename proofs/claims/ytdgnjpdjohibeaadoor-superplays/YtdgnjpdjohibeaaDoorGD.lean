
/-
  Packed texts: Rb, Rs, Rc.
-/
import Derived.Test.YtdgnjpdjohibeaaDoorGC
set_option linter.all false
set_option maxRecDepth 100000
namespace Go.Proofs.YtdgnjpdjohibeaaDoor

/-! Rb: The reference: constants, a block. -/
section
open Go.RowKit Go.Sort

def z8 : List W := List.replicate 8 0
theorem info49 : (Tryd.prog.info? 122).map (fun i => (i.zero, i.size)) = some (some (.agg (wrow z8)), 8) := by kernel_rfl
theorem zero49 (w : World) : (zeroValue 122).run Tryd.prog w = .ok (.agg (wrow z8)) w := (zero_of_info info49).1 w
theorem size49 : (Tryd.prog.info? 122).map (·.size) = some 8 := (zero_of_info info49).2

theorem or_add8 (x : W) (y : B) : (x <<< (8 : Nat)) + y.setWidth 32 = (x <<< (8 : Nat)) ||| y.setWidth 32 := by
  apply BitVec.add_eq_or_of_and_eq_zero
  apply BitVec.eq_of_getLsbD_eq
  intro i hi
  simp only [BitVec.getLsbD_and, BitVec.getLsbD_shiftLeft, BitVec.getLsbD_setWidth, BitVec.getLsbD_zero]
  by_cases h : i < 8
  · simp [h]
  · rw [BitVec.getLsbD_of_ge y i (by omega)]; simp
theorem be_next (l : List B) (x : B) : (nw (be l) * (256 : Int) % (4294967296 : Int) + nb x) % (4294967296 : Int) = nw (be (l ++ [x])) := by
  rw [shl8, nb_nw, add_nw, or_add8, be_snoc]
theorem be_next' (l : List B) (x : B) : (nw (be l) * (256 : Int) + nb x) % (4294967296 : Int) = nw (be (l ++ [x])) := by
  rw [← be_next, Int.emod_add_emod]

theorem be_next3 (l : List B) (x : B) : nw (be l) * (256 : Int) % (4294967296 : Int) + nb x = nw (be (l ++ [x])) := by
  rw [← be_next]
  have h1 := nw_lt (be l)
  have h2 := nb_lt x
  omega
theorem heap3 (w : World) (a b c : Obj) (g2 : TypeId) : (((w.alloc a).alloc b).alloc c).heap[w.heap.size]? = (w.alloc a).heap[w.heap.size]? ∧ (((w.alloc a).alloc b).alloc c).heap[w.heap.size + 1]? = ((w.alloc a).alloc b).heap[w.heap.size + 1]? := by
  refine ⟨?_, ?_⟩
  · rw [Below.heap_alloc _ c _ (by simp; omega), Below.heap_alloc _ b _ (by simp)]
  · rw [Below.heap_alloc _ c _ (by simp)]

theorem heap3n (w : World) (a b c : Obj) : (((w.alloc a).alloc b).alloc c).heap[w.heap.size + 1 + 1]? = some c := by
  have := heap_alloc2_new (w.alloc a) b c
  simpa using this

/-- While the words are made: the state's block q, the result's, the words'. -/
structure BkIn (q : Nat) (w V : World) (s : St) (L : List W) : Prop where
  g2 : V.heap[q]? = some (.cells (wrow s.toL) 122 (0, 0))
  g4 : V.heap[q + 1]? = some (.cells (wrow z8) 122 (0, 0))
  g5 : V.heap[q + 1 + 1]? = some (.cells (wrow L) 125 (0, 0))
  keeps : Keeps (fun _ => False) w V
section
variable {q : Nat} {w V : World} {s : St} {L : List W}
theorem BkIn.drew (h : BkIn q w V s L) : BkIn q w V.drew s L := ⟨h.g2, h.g4, h.g5, h.keeps.drew⟩
theorem BkIn.drewN (h : BkIn q w V s L) (n : Nat) : BkIn q w (V.drewN n) s L := ⟨by simpa using h.g2, by simpa using h.g4, by simpa using h.g5, h.keeps.drewN n⟩
theorem BkIn.set (h : BkIn q w V s L) (hq : w.heap.size ≤ q) (j : Nat) (x : W) : BkIn q w (V.setCell ⟨q + 1 + 1, j, none⟩ (.int .u32 (nw x))) s (L.set j x) := by
  refine ⟨?_, ?_, ?_, h.keeps.setCell (p := ⟨q + 1 + 1, j, none⟩) (.inr (by dsimp only; omega)) _⟩
  · rw [heap_setCell_other _ _ _ _ (by dsimp only; omega)]; exact h.g2
  · rw [heap_setCell_other _ _ _ _ (by simp)]; exact h.g4
  · rw [heap_setCell_same V _ j _ _ _ h.g5, wrow_set]
theorem BkIn.get (h : BkIn q w V s L) (j : Nat) (hj : j < L.length) : V.cell? ⟨q + 1 + 1, j, none⟩ = some (.int .u32 (nw (L.getD j 0))) := by
  rw [cell_of_row V _ j _ _ _ h.g5, wrow_get]
  simp [hj, vw]
theorem BkIn.free (h : BkIn q w V s L) (j : Nat) : V.frozen? ⟨q + 1 + 1, j, none⟩ = false := frozen_of_row V _ j _ _ h.g5
end

theorem pad_at (l : List W) (h : l.length < 64) : (pad l).getD l.length 0 = 0 := by
  rw [List.getD_eq_getElem?_getD, pad, List.getElem?_append_right (Nat.le_refl _), Nat.sub_self, List.getElem?_replicate]
  split <;> rfl
theorem set_zero (l : List W) (h : l.length < 64) : (pad l).set l.length 0 = pad l := by
  apply List.ext_getElem?
  intro i
  rw [List.getElem?_set]
  split
  · rename_i e
    subst e
    have := pad_at l h
    rw [List.getD_eq_getElem?_getD] at this
    have hl : l.length < (pad l).length := by rw [pad_len l (by omega)]; exact h
    rw [if_pos hl, List.getElem?_eq_getElem hl] at *
    simpa using this.symm
  · rfl
theorem getD_set_self (l : List W) (k : Nat) (x : W) (h : k < l.length) : (l.set k x).getD k 0 = x := by simp [h]
theorem nxt_ref (blk : List B) (l : List W) (k : Nat) (h : ¬ k < 16) : nxt blk l k = l.getD (k - 16) 0 + l.getD (k - 7) 0 + ss0 (l.getD (k - 15) 0) + ss1 (l.getD (k - 2) 0) := by
  unfold nxt
  rw [if_neg h]
  congr 1
  rw [BitVec.add_assoc, BitVec.add_assoc]
  congr 1
  exact BitVec.add_comm _ _
theorem sw_next (blk : List B) (k : Nat) (hk : k < 64) (x : W) (hx : nxt blk (sw blk k) k = x) : (pad (sw blk k)).set k x = pad (sw blk (k + 1)) := by
  have hlen := sw_len blk k
  have := pad_set (sw blk k) x (by omega)
  rw [hlen] at this
  rw [this, ← hx]; rfl
theorem byte_at {w : World} {b o : Nat} {blk : List B} (h : BytesAt w b o blk) (j : Nat) (hj : j < blk.length) : w.cell? ⟨b, o + j, none⟩ = some (.int .u8 (nb (blk.getD j 0))) := by
  have := h j blk[j] (by simp)
  rw [this]; simp [hj]
theorem take_next (blk : List B) (k j : Nat) (h : 4 * k + j < blk.length) : (blk.drop (4 * k)).take (j + 1) = (blk.drop (4 * k)).take j ++ [blk.getD (4 * k + j) 0] := by
  have h' : j < (blk.drop (4 * k)).length := by simp; omega
  rw [List.take_succ_eq_append_getElem h']
  simp [h]

theorem kk_len : kk.length = 64 := rfl
theorem add5_nw'' (a b c d e : W) : ((nw a + nw b + nw c + nw d) % (4294967296 : Int) + nw e) % (4294967296 : Int) = nw (a + b + c + d + e) := by
  rw [add4_nw, add_nw]
/-- While the rounds go: besides, the constants' block, and the block of the words that go round. -/
structure B3 (q q10 q11 : Nat) (w V : World) (s v : St) (ws : List W) : Prop where
  g2 : V.heap[q]? = some (.cells (wrow s.toL) 122 (0, 0))
  g4 : V.heap[q + 1]? = some (.cells (wrow z8) 122 (0, 0))
  g5 : V.heap[q + 1 + 1]? = some (.cells (wrow ws) 125 (0, 0))
  g10 : V.heap[q10]? = some (.cells (wrow kk) 125 (0, 0))
  g11 : V.heap[q11]? = some (.cells (wrow v.toL) 122 (0, 0))
  keeps : Keeps (fun _ => False) w V
theorem words_at {V : World} {g : Nat} {v : St} {t : TypeId} {fr : Nat × Nat} (h : V.heap[g]? = some (.cells (wrow v.toL) t fr)) :
    V.cell? ⟨g, 0, none⟩ = some (.int .u32 (nw v.a)) ∧ V.cell? ⟨g, 1, none⟩ = some (.int .u32 (nw v.b)) ∧ V.cell? ⟨g, 2, none⟩ = some (.int .u32 (nw v.c)) ∧ V.cell? ⟨g, 3, none⟩ = some (.int .u32 (nw v.d)) ∧
    V.cell? ⟨g, 4, none⟩ = some (.int .u32 (nw v.e)) ∧ V.cell? ⟨g, 5, none⟩ = some (.int .u32 (nw v.f)) ∧ V.cell? ⟨g, 6, none⟩ = some (.int .u32 (nw v.g)) ∧ V.cell? ⟨g, 7, none⟩ = some (.int .u32 (nw v.h)) :=
  ⟨cell_of_row V g 0 _ _ _ h, cell_of_row V g 1 _ _ _ h, cell_of_row V g 2 _ _ _ h, cell_of_row V g 3 _ _ _ h, cell_of_row V g 4 _ _ _ h, cell_of_row V g 5 _ _ _ h, cell_of_row V g 6 _ _ _ h, cell_of_row V g 7 _ _ _ h⟩
section
variable {q q10 q11 : Nat} {w V : World} {s v : St} {ws : List W}
theorem B3.key (h : B3 q q10 q11 w V s v ws) (j : Nat) (hj : j < 64) : V.cell? ⟨q10, j, none⟩ = some (.int .u32 (nw (kk.getD j 0))) := by
  have : j < kk.length := hj
  rw [cell_of_row V _ j _ _ _ h.g10, wrow_get]
  simp [this, vw]
theorem B3.wd (h : B3 q q10 q11 w V s v ws) (j : Nat) (hj : j < ws.length) : V.cell? ⟨q + 1 + 1, j, none⟩ = some (.int .u32 (nw (ws.getD j 0))) := by
  rw [cell_of_row V _ j _ _ _ h.g5, wrow_get]
  simp [hj, vw]
theorem B3.drewN (h : B3 q q10 q11 w V s v ws) (n : Nat) : B3 q q10 q11 w (V.drewN n) s v ws := ⟨by simpa using h.g2, by simpa using h.g4, by simpa using h.g5, by simpa using h.g10, by simpa using h.g11, h.keeps.drewN n⟩
theorem B3.next {V' : World} {v' : St} (h : B3 q q10 q11 w V s v ws) (h1 : q + 1 + 1 < q10) (h2 : q10 < q11) (hq : w.heap.size ≤ q) (hk : Keeps (· = q11) V V') (g : V'.heap[q11]? = some (.cells (wrow v'.toL) 122 (0, 0))) : B3 q q10 q11 w V' s v' ws :=
  ⟨hk.row h.g2 (by omega), hk.row h.g4 (by omega), hk.row h.g5 (by omega), hk.row h.g10 (by omega), g, h.keeps.trans' hk (fun i e => .inr (by omega))⟩
end

def kparts : Array (Nat × Operand) := (kk.zipIdx.map fun p => (p.2, Operand.const (.int .u32 (nw p.1)))).toArray
def kvals : Array (Nat × Value) := (kk.zipIdx.map fun p => (p.2, Value.int .u32 (nw p.1))).toArray
theorem build57 (w : World) : (Instr.build 125 kvals).run Tryd.prog w = .ok (.agg (wrow kk)) w := by kernel_rfl
theorem kparts_eval (a : Act) : (kparts.map fun (i, x) => (i, a.eval x)) = kvals := by
  simp only [kparts, kvals, List.map_toArray, List.map_map]
  rfl
theorem wpList_build57 {ops : Array Oper} {rest : List Oper} {o : Oper} {a : Act} {w : World} {Q : Exit → Act → World → Prop} (hgd : o.guard = none) (ho : o.op = .build 125 kparts)
    (h : wpList Tryd.prog ops Q rest (a.put o.dst (.agg (wrow kk))) w) : wpList Tryd.prog ops Q (o :: rest) a w := by
  refine wpList_plain hgd fun K hK => ?_
  unfold Oper.wp execOp
  simp only [ho, kparts_eval, build57, Sem.run_bind, Result.andThen_ok, Sem.run_pure]
  exact hK _ _ h

set_option maxRecDepth 100000 in
theorem consts24 (w : World) : Calls Tryd.prog 72 #[] w fun e w' => e = .returned (.agg (wrow kk)) ∧ Keeps (fun _ => False) w w' := by
  have hz := zero57
  have hs1 : (Tryd.prog.info? 125).map (·.size) = some (wrow kk).size := by rw [size_wrow]; exact size57
  have hs2 : (wrow (pad [])).size = (wrow kk).size := by rw [size_wrow, size_wrow]; rfl
  have hone := wrow_one kk
  go_enter Tryd.func72, Tryd.ntmps72
  go_wp2_with (first | (refine wpList_build57 rfl (by rfl) ?_) | (refine wpList_store_all rfl 125 _ _ rfl w.heap.size rfl (wrow kk) rfl 125 (wrow (pad [])) (heap_alloc_new w _) hs1 hs2 hone ?_))
  refine bodyPost_ret (v := .agg (wrow kk)) ?_ rfl ⟨rfl, (keeps_alloc w _).setRow (.inr (Nat.le_refl _)) _⟩
  exact results_cell_row rfl _ _ w.heap.size 125 (wrow kk) (0, 0) _ rfl (setRow_heap _ _ _ _ _ _ (heap_alloc_new w _)) Tryd.underlying125 rfl hs1

set_option maxRecDepth 100000 in
set_option maxHeartbeats 4000000 in
theorem words18 (w : World) (s : St) (b o c : Nat) (blk : List B) (hn : blk.length = 64) (hc : 64 ≤ c) (hl : BytesAt w b o blk) :
    Calls Tryd.prog 66 #[.agg (wrow s.toL), .slice (some ⟨b, o, none⟩) 64 c] w fun e w' => e = .returned (.agg (wrow (s.comp blk).toL)) ∧ Keeps (fun _ => False) w w' := by
  have hz := zero57
  have hz9 := zero49
  go_enter Tryd.func66, Tryd.ntmps66
  go_wp2_with fail
  clear hz hz9
  go_loopw [6] (fun i wr => ∃ k : Nat, k ≤ 64 ∧ i = .int .i64 k ∧ BkIn w.heap.size w wr s (pad (sw blk k))) (fun i _ => 64 - (intOf i).toNat)
  case atStart => exact ⟨0, by omega, rfl, (heap3 w _ _ _ 0).1.trans (heap_alloc_new w _), (heap3 w _ _ _ 0).2.trans (heap_alloc2_new w _ _), heap3n w _ _ _, (((Keeps.refl _ _).alloc _).alloc _).alloc _⟩
  case round =>
    obtain ⟨k, hk, rfl, hS⟩ := hrel
    have hlp : (pad (sw blk k)).length = 64 := pad_len _ (by rw [sw_len]; exact hk)
    by_cases hlt : k < 64
    · have hlt' : (k : Int) < 64 := by omega
      by_cases h16 : k < 16
      · have h16' : (k : Int) < 16 := by omega
        have hS0 : BkIn w.heap.size w wr s ((pad (sw blk k)).set k (be ((blk.drop (4 * k)).take 0))) := by
          have e := set_zero (sw blk k) (by rw [sw_len]; exact hlt)
          rw [sw_len] at e
          rw [List.take_zero, show be [] = 0 from rfl, e]; exact hS
        go_wp2_with fail
        obtain ⟨w0, rfl⟩ : ∃ w0, w0 = wr := ⟨_, rfl⟩
        go_loopw [7] (fun i wq => ∃ j : Nat, j ≤ 4 ∧ i = .int .i64 j ∧ BkIn w.heap.size w wq s ((pad (sw blk k)).set k (be ((blk.drop (4 * k)).take j)))) (fun i _ => 4 - (intOf i).toNat)
        case atStart => exact ⟨0, by omega, rfl, hS0⟩
        case round =>
          clear hS hS0
          obtain ⟨j, hj, rfl, hS⟩ := hrel
          by_cases hj4 : j < 4
          · have hj4' : (j : Int) < 4 := by omega
            have c1 := hS.get k (by simp [hlp]; exact hlt)
            rw [getD_set_self _ _ _ (by rw [hlp]; exact hlt)] at c1
            have c2 := byte_at (hl.keeps hS.keeps (fun h => h)) (4 * k + j) (by omega)
            have hf := hS.free k
            have hsum : (0 : Int) ≤ 4 * (k : Int) + (j : Int) := by omega
            have hsum2 : 4 * (k : Int) + (j : Int) < 64 := by omega
            have Hnx : Hid (BkIn w.heap.size w (wr.setCell ⟨w.heap.size + 1 + 1, k, none⟩ (.int .u32 (nw (be ((blk.drop (4 * k)).take (j + 1)))))).drew s ((pad (sw blk k)).set k (be ((blk.drop (4 * k)).take (j + 1))))) := by
              have := (hS.set (Nat.le_refl _) k (be ((blk.drop (4 * k)).take (j + 1)))).drew
              rwa [List.set_set] at this
            have Hbe : Hid (be ((blk.drop (4 * k)).take (j + 1)) = be ((blk.drop (4 * k)).take j ++ [blk.getD (4 * k + j) 0])) := by show _ = _; rw [take_next blk k j (by omega)]
            generalize (blk.drop (4 * k)).take j = bt at *
            generalize blk.getD (4 * k + j) 0 = y at *
            have b1 := nw_lt (be bt)
            have b2 := nb_lt y
            clear hS hl
            go_wp2_with fail
            refine region_tail 15 (by kernel_rfl) (by kernel_rfl) ?_
            simp only [List.take_succ_cons, List.take_zero]
            iterate 15 (go_big_quiet_step (fail))
            refine wpQuiet_nil ?_
            simp only [List.drop_succ_cons, List.drop_zero]
            go_wp2
            rw [be_next3, ← Hbe.out]
            exact ⟨⟨j + 1, by omega, by go_num, Hnx.out⟩, by simp [intOf]; omega⟩
          · obtain rfl : j = 4 := by omega
            have hfin := hS
            rw [sw_next blk k hlt (be ((blk.drop (4 * k)).take 4)) (by simp [nxt, h16, word])] at hfin
            go_wp2
            exact ⟨⟨k + 1, by omega, by go_num, hfin⟩, by simp [intOf]; omega⟩
      · have h16' : ¬ (k : Int) < 16 := by omega
        have hlen := sw_len blk k
        have gp : ∀ j, j < k → wr.cell? ⟨w.heap.size + 1 + 1, j, none⟩ = some (.int .u32 (nw ((sw blk k).getD j 0))) := fun j hj => by
          have e : (pad (sw blk k)).getD j 0 = (sw blk k).getD j 0 := by
            have := pad_get (sw blk k) j (by omega)
            rw [List.getD_eq_getElem?_getD, this]; rfl
          rw [← e]; exact hS.get j (by omega)
        have c1 := gp (k - 16) (by omega)
        have c2 := gp (k - 15) (by omega)
        have c3 := gp (k - 7) (by omega)
        have c4 := gp (k - 2) (by omega)
        have hf := hS.free k
        have c5 := hS.get k (by omega)
        have hx := nxt_ref blk (sw blk k) k h16
        clear gp
        generalize (sw blk k).getD (k - 16) 0 = x16 at *
        generalize (sw blk k).getD (k - 15) 0 = x15 at *
        generalize (sw blk k).getD (k - 7) 0 = x7 at *
        generalize (sw blk k).getD (k - 2) 0 = x2 at *
        have b1 := nw_lt x16
        have b2 := nw_lt x15
        have b3 := nw_lt x7
        have b4 := nw_lt x2
        have Hx : Hid (nxt blk (sw blk k) k = x16 + x7 + ss0 x15 + ss1 x2) := hx
        have e15 : (15 : Int) ≤ (k : Int) := by omega
        clear hx hl
        go_wp2
        go_quiet (fail)
        go_wp2
        refine region_tail 29 (by kernel_rfl) (by kernel_rfl) ?_
        simp only [List.take_succ_cons, List.take_zero]
        iterate 29 (first | go_big_quiet_step (fail) | (go_big_quiet_want; go_big_quiet_op; (refine ⟨_, quiet_call (turn23i _ _ _ (by decide) (by decide)) rfl, ?_⟩); go_big_quiet_on))
        refine wpQuiet_nil ?_
        simp only [List.drop_succ_cons, List.drop_zero]
        go_wp2
        rw [ss0_nw, ss1_nw, add4_nw]
        have hfin := (hS.drewN (nq + 1)).set (Nat.le_refl _) k (x16 + x7 + ss0 x15 + ss1 x2)
        rw [sw_next blk k hlt _ Hx.out] at hfin
        exact ⟨⟨k + 1, by omega, by go_num, hfin⟩, by simp [intOf]; omega⟩
    · obtain rfl : k = 64 := by omega
      rw [pad_full _ (sw_len _ _)] at hS
      have hz := zero57
      have hz9 := zero49
      have hs1 : (Tryd.prog.info? 125).map (·.size) = some (wrow kk).size := by rw [size_wrow]; exact size57
      have hs2 : (wrow (pad [])).size = (wrow kk).size := by rw [size_wrow, size_wrow]; rfl
      have hone := wrow_one kk
      have hs3 : (Tryd.prog.info? 122).map (·.size) = some (wrow s.toL).size := by rw [size_wrow]; exact size49
      have hs4 : (wrow z8).size = (wrow s.toL).size := by rw [size_wrow, size_wrow]; rfl
      have hone3 := wrow_one s.toL
      obtain ⟨g2, g4, g5, hk0⟩ := hS
      have hlw := sw_len blk 64
      have Hcomp : Hid (s.comp blk = s.plus (rd (sw blk 64) s 64)) := rfl
      clear hlp hl hn hc
      generalize sw blk 64 = ws at *
      go_wp2_with (first | (go_at_call 72; refine (consts24 _).mono ?_; rintro e w1 ⟨rfl, hk1⟩) | (refine wpList_store_row rfl rfl 125 _ _ rfl w1.heap.size rfl (wrow kk) rfl 125 (wrow (pad [])) (heap_alloc_new w1 _) hs1 hs2 hone ?_; intro w2 g10 hk2 hz2; clear hz2; have k12 : Keeps (fun _ => False) wr w2 := ((hk1.alloc _).trans' hk2 (fun i e => .inr (by have := hk1.size; omega))); have l12 := hk1.size) | (refine wpList_load_row rfl 122 _ rfl w.heap.size rfl 122 (wrow s.toL) (0, 0) _ (k12.row g2 (fun h => h)) Tryd.underlying122 rfl hs3 ?_) | (refine wpList_store_row rfl rfl 122 _ _ rfl w2.heap.size rfl (wrow s.toL) rfl 122 (wrow z8) (heap_alloc_new w2 _) hs3 hs4 hone3 ?_; intro w3 g11 hk3 hz3; clear hz3; have k13 : Keeps (fun _ => False) wr w3 := ((k12.alloc _).trans' hk3 (fun i e => .inr (by have := k12.size; omega)))))
      have g10' := hk3.row ((keeps_alloc w2 (.cells (wrow z8) 122)).row g10 (fun h => h)) (by have := lt_of_row g10; omega)
      have hB : B3 w.heap.size w1.heap.size w2.heap.size w w3 s s ws := ⟨k13.row g2 (fun h => h), k13.row g4 (fun h => h), k13.row g5 (fun h => h), g10', g11, hk0.trans k13⟩
      have h12 : w1.heap.size < w2.heap.size := lt_of_row g10
      have h01 : w.heap.size + 1 + 1 < w1.heap.size := Nat.lt_of_lt_of_le (lt_of_row g5) l12
      clear hz hz9 hs1 hs2 hone hs3 hs4 hone3 g10 g10' g11 g2 g4 g5 k13 k12 hk1 hk2 hk3 l12 hk0
      generalize w1.heap.size = q10 at *
      generalize w2.heap.size = q11 at *
      go_loopw [12] (fun i wq => ∃ (k : Nat) (v : St), k ≤ 64 ∧ Hid (rd ws s k = v) ∧ i = .int .i64 k ∧ B3 w.heap.size q10 q11 w wq s v ws) (fun i _ => 64 - (intOf i).toNat)
      case atStart => exact ⟨0, s, by omega, rfl, rfl, hB⟩
      case round =>
        clear hB
        obtain ⟨k, v, hk, Hv, rfl, hB⟩ := hrel
        obtain ⟨a0, a1, a2, a3, a4, a5, a6, a7⟩ := words_at hB.g11
        by_cases hlt : k < 64
        · have hlt' : (k : Int) < 64 := by omega
          have hc1 := hB.key k hlt
          have hc2 := hB.wd k (by omega)
          have Hnx : Hid (rd ws s (k + 1) = v.step (kk.getD k 0) (ws.getD k 0)) := by
            show _ = _
            rw [rd_succ ws s k hlw hlt, Hv.out]
          generalize kk.getD k 0 = K at *
          generalize ws.getD k 0 = X at *
          have ba := nw_lt v.a
          have bb := nw_lt v.b
          have bc := nw_lt v.c
          have bd := nw_lt v.d
          have be := nw_lt v.e
          have bf := nw_lt v.f
          have bg := nw_lt v.g
          have bh := nw_lt v.h
          have bK := nw_lt K
          have bX := nw_lt X
          clear hlw Hv
          go_wp2
          simp only [show IntKind.u32.max = 4294967295 from rfl, ch_nw', maj_nw']
          have b1 := nw_lt (ch v.e v.f v.g)
          have b2 := nw_lt (maj v.a v.b v.c)
          go_quiet ((go_at_call 71; exact Calls.quiet_of_same (turn23i _ _ _ (by decide) (by decide))))
          simp only [bs1_nw, add5_nw, add5_nw'']
          have hB4 := hB.drewN nq
          clear a0 a1 a2 a3 a4 a5 a6 a7 hc1 hc2 hB
          generalize wr.drewN nq = w4 at *
          obtain ⟨a0, a1, a2, a3, a4, a5, a6, a7⟩ := words_at hB4.g11
          go_wp2
          go_quiet ((go_at_call 71; exact Calls.quiet_of_same (turn23i _ _ _ (by decide) (by decide))))
          simp only [bs0_nw, add_nw]
          have hB5 := hB4.drewN nq
          clear a0 a1 a2 a3 a4 a5 a6 a7 hB4
          generalize w4.drewN nq = w5 at *
          obtain ⟨a0, a1, a2, a3, a4, a5, a6, a7⟩ := words_at hB5.g11
          have b3 := nw_lt (v.h + bs1 v.e + ch v.e v.f v.g + K + X)
          have b4 := nw_lt (bs0 v.a + maj v.a v.b v.c)
          have Hxx : Hid (v.step K X = ⟨(v.h + bs1 v.e + ch v.e v.f v.g + K + X) + (bs0 v.a + maj v.a v.b v.c), v.a, v.b, v.c, v.d + (v.h + bs1 v.e + ch v.e v.f v.g + K + X), v.e, v.f, v.g⟩) := rfl
          generalize v.h + bs1 v.e + ch v.e v.f v.g + K + X = xx at *
          generalize bs0 v.a + maj v.a v.b v.c = yy at *
          have ho49 : (#[.int .u32 ((nw xx + nw yy) % 4294967296), .int .u32 (nw v.a), .int .u32 (nw v.b), .int .u32 (nw v.c), .int .u32 ((nw v.d + nw xx) % 4294967296), .int .u32 (nw v.e), .int .u32 (nw v.f), .int .u32 (nw v.g)] : Array Value).all (·.oneCell') = true := by rw [add_nw, add_nw]; exact wrow_one (St.toL ⟨xx + yy, v.a, v.b, v.c, v.d + xx, v.e, v.f, v.g⟩)
          go_wp2_with (refine wpList_store_row rfl rfl 122 _ _ rfl q11 rfl #[.int .u32 ((nw xx + nw yy) % 4294967296), .int .u32 (nw v.a), .int .u32 (nw v.b), .int .u32 (nw v.c), .int .u32 ((nw v.d + nw xx) % 4294967296), .int .u32 (nw v.e), .int .u32 (nw v.f), .int .u32 (nw v.g)] rfl 122 (wrow v.toL) hB5.g11 size49 (size_wrow _) ho49 ?_; intro w6 g6 hk6 hz6; clear hz6)
          rw [add_nw, add_nw] at g6
          exact ⟨⟨k + 1, v.step K X, by omega, Hnx, by go_num, hB5.next h01 h12 (Nat.le_refl _) hk6 (by rw [Hxx.out]; exact g6)⟩, by simp [intOf]; omega⟩
        · obtain rfl : k = 64 := by omega
          obtain ⟨e0, e1, e2, e3, e4, e5, e6, e7⟩ := words_at hB.g2
          have hs3 : (Tryd.prog.info? 122).map (·.size) = some (wrow (s.plus v).toL).size := by rw [size_wrow]; exact size49
          have Hc : Hid (s.comp blk = s.plus v) := by show _ = _; rw [Hcomp.out, Hv.out]
          have ba := nw_lt v.a
          have bb := nw_lt v.b
          have bc := nw_lt v.c
          have bd := nw_lt v.d
          have be := nw_lt v.e
          have bf := nw_lt v.f
          have bg := nw_lt v.g
          have bh := nw_lt v.h
          have ca := nw_lt s.a
          have cb := nw_lt s.b
          have cc := nw_lt s.c
          have cd := nw_lt s.d
          have ce := nw_lt s.e
          have cf := nw_lt s.f
          have cg := nw_lt s.g
          have ch := nw_lt s.h
          have hnew : (#[.int .u32 ((nw s.a + nw v.a) % 4294967296), .int .u32 ((nw s.b + nw v.b) % 4294967296), .int .u32 ((nw s.c + nw v.c) % 4294967296), .int .u32 ((nw s.d + nw v.d) % 4294967296), .int .u32 ((nw s.e + nw v.e) % 4294967296), .int .u32 ((nw s.f + nw v.f) % 4294967296), .int .u32 ((nw s.g + nw v.g) % 4294967296), .int .u32 ((nw s.h + nw v.h) % 4294967296)] : Array Value) = wrow (s.plus v).toL := by
            simp only [add_nw]; rfl
          have Hnew : Hid ((#[.int .u32 ((nw s.a + nw v.a) % 4294967296), .int .u32 ((nw s.b + nw v.b) % 4294967296), .int .u32 ((nw s.c + nw v.c) % 4294967296), .int .u32 ((nw s.d + nw v.d) % 4294967296), .int .u32 ((nw s.e + nw v.e) % 4294967296), .int .u32 ((nw s.f + nw v.f) % 4294967296), .int .u32 ((nw s.g + nw v.g) % 4294967296), .int .u32 ((nw s.h + nw v.h) % 4294967296)] : Array Value) = wrow (s.plus v).toL) := hnew
          have hone : (#[.int .u32 ((nw s.a + nw v.a) % 4294967296), .int .u32 ((nw s.b + nw v.b) % 4294967296), .int .u32 ((nw s.c + nw v.c) % 4294967296), .int .u32 ((nw s.d + nw v.d) % 4294967296), .int .u32 ((nw s.e + nw v.e) % 4294967296), .int .u32 ((nw s.f + nw v.f) % 4294967296), .int .u32 ((nw s.g + nw v.g) % 4294967296), .int .u32 ((nw s.h + nw v.h) % 4294967296)] : Array Value).all (·.oneCell') = true := by rw [hnew]; exact wrow_one _
          clear hnew
          go_wp2_with (refine wpList_store_row rfl rfl 122 _ _ rfl (w.heap.size + 1) rfl #[.int .u32 ((nw s.a + nw v.a) % 4294967296), .int .u32 ((nw s.b + nw v.b) % 4294967296), .int .u32 ((nw s.c + nw v.c) % 4294967296), .int .u32 ((nw s.d + nw v.d) % 4294967296), .int .u32 ((nw s.e + nw v.e) % 4294967296), .int .u32 ((nw s.f + nw v.f) % 4294967296), .int .u32 ((nw s.g + nw v.g) % 4294967296), .int .u32 ((nw s.h + nw v.h) % 4294967296)] rfl 122 (wrow z8) hB.g4 size49 (size_wrow _) hone ?_; intro w6 g6 hk6 hz6; clear hz6)
          rw [Hnew.out, ← Hc.out] at g6
          refine bodyPost_ret (v := .agg (wrow (s.comp blk).toL)) ?_ rfl ⟨rfl, hB.keeps.trans' hk6 (fun i e => .inr (by omega))⟩
          exact results_cell_row rfl _ _ (w.heap.size + 1) 122 (wrow (s.comp blk).toL) (0, 0) _ rfl g6 Tryd.underlying122 rfl (by rw [Hc.out]; exact hs3)
end

/-! Rs: The reference: Sum. -/
section
open Go.RowKit Go.Sort

theorem own_nil (w : World) : OwnB (w.alloc (.cells #[] 5)) w.heap.size (.slice (some ⟨w.heap.size, 0, none⟩) 0 0) [] :=
  OwnB.row (t := 5) (l := []) (heap_alloc_new w _) (Nat.le_refl _) (by simp)
theorem OwnB.keeps {S : Nat → Prop} {w w' : World} {base : Nat} {v : Value} {l : List B} (h : OwnB w base v l) (hk : Keeps S w w') (hS : ∀ i, i < w.heap.size → S i → i < base) : OwnB w' base v l := by
  obtain ⟨h1, h2⟩ := h.owns
  refine ⟨h1, ?_⟩
  rcases h2 with h2 | ⟨g, cap, cur, rfl, hb, hg, h3⟩
  · exact .inl h2
  · exact .inr ⟨g, cap, cur, rfl, hb, hk.row hg (fun hs => by have := hS g (lt_of_row hg) hs; omega), h3⟩
theorem wpList_buildSlice0 {ops : Array Oper} {rest : List Oper} {o : Oper} {a : Act} {w : World} {Q : Exit → Act → World → Prop} (hgd : o.guard = none) (ho : o.op = .buildSlice 51 0 #[])
    (h : wpList Tryd.prog ops Q rest (a.put o.dst (.slice (some ⟨w.heap.size, 0, none⟩) 0 0)) (w.alloc (.cells #[] 5))) : wpList Tryd.prog ops Q (o :: rest) a w := by
  refine wpList_plain hgd fun K hK => ?_
  unfold Oper.wp execOp
  simp only [ho, List.map_toArray, List.map_nil, buildSlice0, Sem.run_bind, Result.andThen_ok, Sem.run_pure]
  exact hK _ _ h
theorem slb_new (w : World) (x : B) (k : Int) (h : nb x = k) : SlB (w.alloc (.cells #[.int .u8 k] 5)) (some ⟨w.heap.size, 0, none⟩) 1 1 [x] := by subst h; exact slb_one x 1 (by omega) (cell_new1 _ _ _)
theorem own_step {w : World} {base : Nat} {v : Value} {l : List B} (o : Obj) (h : OwnB w base v l) : OwnB (w.alloc o) base v l :=
  h.keeps (S := fun _ => False) (keeps_alloc w _) (fun _ _ h => h.elim)

/-- While it grows: the result's block stands ahead of the row's, all else is as it was. -/
structure Gr (q : Nat) (w V : World) (v : Value) (l : List B) : Prop where
  g : V.heap[q]? = some (.cells (brow (zb 32)) 24 (0, 0))
  own : OwnB V (q + 1) v l
  keeps : Keeps (fun _ => False) w V
theorem Gr.next {q : Nat} {w V V' : World} {v v' : Value} {l l' : List B} {o : Obj} (h : Gr q w V v l) (hq : w.heap.size = q) (ho : OwnB V' (q + 1) v' l') (hk : Keeps (fun k => q + 1 ≤ k) (V.alloc o) V') : Gr q w V' v' l' :=
  ⟨hk.row ((keeps_alloc V o).row h.g (fun h => h)) (by omega), ho, (h.keeps.alloc o).trans' hk (fun i e => .inr (by omega))⟩
theorem gr_first {w w1 : World} {v1 : Value} {l : List B} (hk1 : Keeps (fun k => w.heap.size + 1 ≤ k) ((w.alloc (.cells (brow (zb 32)) 24)).alloc (.cells #[] 5)) w1) (O1 : OwnB w1 (w.heap.size + 1) v1 ([] ++ l)) : Gr w.heap.size w w1 v1 l := by
  refine ⟨hk1.row (heap_alloc2_old w _ _) (by omega), O1, ?_⟩
  exact (((Keeps.refl (fun _ => False) w).alloc _).alloc _).trans' hk1 (fun i e => .inr (by omega))
theorem Gr.size {q : Nat} {w V : World} {v : Value} {l : List B} (h : Gr q w V v l) : q + 1 ≤ V.heap.size := by have := lt_of_row h.g; omega

/-- The padding ahead of the length: the bit and m zeros. -/
def bitz (m : Nat) : List B := 128 :: List.replicate m 0
theorem bitz_len (m : Nat) : (bitz m).length = m + 1 := by simp [bitz]
theorem bitz_snoc (m : Nat) : bitz m ++ [0] = bitz (m + 1) := by simp [bitz, List.replicate_succ']

theorem len_byte (x j : Nat) (hj : j < 8) : (beN 8 x)[j]? = some (BitVec.ofNat 8 (x / 256 ^ (7 - j))) := by
  simp [beN, hj]
theorem len_int (n j : Nat) (hj : j < 8) : nb (BitVec.ofNat 8 (n * 8 / 256 ^ (7 - j))) = (n : Int) * 8 / 2 ^ (56 - 8 * j) % 256 := by
  rw [nb_ofNat, show (256 : Nat) = 2 ^ 8 from rfl, ← Nat.pow_mul, show 8 * (7 - j) = 56 - 8 * j by omega, Int.natCast_ediv, Int.natCast_mul, Int.natCast_pow]
  rfl
theorem len_take (x j : Nat) (hj : j < 8) : (beN 8 x).take (j + 1) = (beN 8 x).take j ++ [BitVec.ofNat 8 (x / 256 ^ (7 - j))] := by
  rw [List.take_succ, len_byte x j hj]; rfl
theorem padd_is (l : List B) (n m : Nat) (h : m + 1 = plen n) : l ++ bitz m ++ (beN 8 (n * 8)).take 8 = l ++ padd n := by
  rw [List.take_of_length_le (by rw [beN_len]; omega), List.append_assoc]
  unfold padd bitz
  rw [← h, Nat.add_sub_cancel]

/-- While block after block is taken in. -/
structure S3 (q q6 b o : Nat) (w V : World) (PP : List B) (s : St) : Prop where
  g : V.heap[q]? = some (.cells (brow (zb 32)) 24 (0, 0))
  g6 : V.heap[q6]? = some (.cells (wrow s.toL) 122 (0, 0))
  by_ : BytesAt V b o PP
  keeps : Keeps (fun _ => False) w V
theorem S3.drew {q q6 b o : Nat} {w V : World} {PP : List B} {s : St} (h : S3 q q6 b o w V PP s) : S3 q q6 b o w V.drew PP s := ⟨h.g, h.g6, h.by_.keeps (S := fun _ => False) ((Keeps.refl _ _).drew) (fun h => h), h.keeps.drew⟩
theorem S3.next {q q6 b o : Nat} {w V V1 V2 : World} {PP : List B} {s s' : St} (h : S3 q q6 b o w V PP s) (hq : q < q6) (hb : b ≠ q6) (hw : w.heap.size ≤ q6) (k1 : Keeps (fun _ => False) V V1) (k2 : Keeps (· = q6) V1 V2) (g : V2.heap[q6]? = some (.cells (wrow s'.toL) 122 (0, 0))) : S3 q q6 b o w V2 PP s' :=
  ⟨k2.row (k1.row h.g (fun h => h)) (by omega), g, (h.by_.keeps k1 (fun h => h)).keeps k2 hb, (h.keeps.trans k1).trans' k2 (fun i e => .inr (by omega))⟩
theorem words_to {s s' : St} {blk : List B} (h : Hid (s.comp blk = s')) (w : World) (b o c : Nat) (hn : blk.length = 64) (hc : 64 ≤ c) (hl : BytesAt w b o blk) :
    Calls Tryd.prog 66 #[.agg (wrow s.toL), .slice (some ⟨b, o, none⟩) 64 c] w fun e w' => e = .returned (.agg (wrow s'.toL)) ∧ Keeps (fun _ => False) w w' := by
  rw [← h.out]; exact words18 w s b o c blk hn hc hl
theorem wrange {V : World} {g : Nat} {l : List W} {t : TypeId} {fr : Nat × Nat} (h : V.heap[g]? = some (.cells (wrow l) t fr)) : V.rangeAt g 0 (wrow l).toList := fun j v hv => by
  rw [cell_of_row V _ _ _ _ _ h, Nat.zero_add]
  simpa [wrow] using hv

/-- The first m bytes of the hash, then zeros. -/
def dg (s : St) (m : Nat) : List B := s.dig.take m ++ zb (32 - m)
theorem dg_len (s : St) (m : Nat) (hm : m ≤ 32) : (dg s m).length = 32 := by simp [dg, dig_len, zb_len]; omega
theorem dg_all (s : St) : dg s 32 = s.dig := by unfold dg; rw [List.take_of_length_le (by rw [dig_len]; omega)]; exact List.append_nil _
theorem dg_set (s : St) (m : Nat) (hm : m < 32) (x : B) (hx : s.dig[m]? = some x) : (dg s m).set m x = dg s (m + 1) := by
  unfold dg zb
  have h1 : (s.dig.take m).length = m := by rw [List.length_take, dig_len]; omega
  rw [List.set_append_right _ _ (by omega), h1, Nat.sub_self, show 32 - m = (32 - (m + 1)) + 1 by omega, List.replicate_succ, List.set_cons_zero, List.take_succ, hx]
  simp
theorem dig_at (s : St) (i j : Nat) (hi : i < 8) (hj : j < 4) : s.dig[4 * i + j]? = some (BitVec.ofNat 8 ((s.toL.getD i 0).toNat / 256 ^ (3 - j))) := by
  obtain rfl | rfl | rfl | rfl | rfl | rfl | rfl | rfl : i = 0 ∨ i = 1 ∨ i = 2 ∨ i = 3 ∨ i = 4 ∨ i = 5 ∨ i = 6 ∨ i = 7 := by omega
  all_goals
    obtain rfl | rfl | rfl | rfl : j = 0 ∨ j = 1 ∨ j = 2 ∨ j = 3 := by omega
    all_goals rfl
theorem dig_int (x : W) (j : Nat) (hj : j < 4) : nb (BitVec.ofNat 8 (x.toNat / 256 ^ (3 - j))) = nw x / 2 ^ (24 - 8 * j) % 256 := by
  rw [nb_ofNat, show (256 : Nat) = 2 ^ 8 from rfl, ← Nat.pow_mul, show 8 * (3 - j) = 24 - 8 * j by omega, Int.natCast_ediv, Int.natCast_pow]
  rfl
structure S4 (q q8 q9 : Nat) (w V : World) (s : St) (m : Nat) : Prop where
  g : V.heap[q]? = some (.cells (brow (zb 32)) 24 (0, 0))
  g8 : V.heap[q8]? = some (.cells (wrow s.toL) 22 (0, 0))
  g9 : V.heap[q9]? = some (.cells (brow (dg s m)) 24 (0, 0))
  keeps : Keeps (fun _ => False) w V
theorem S4.next {q q8 q9 m : Nat} {w V : World} {s : St} (h : S4 q q8 q9 w V s m) (h1 : q < q9) (h2 : q8 < q9) (hw : w.heap.size ≤ q9) (hm : m < 32) (x : B) (hx : s.dig[m]? = some x) : S4 q q8 q9 w (V.setCell ⟨q9, m, none⟩ (.int .u8 (nb x))) s (m + 1) := by
  refine ⟨?_, ?_, ?_, h.keeps.setCell (p := ⟨q9, m, none⟩) (.inr hw) _⟩
  · rw [heap_setCell_other _ _ _ _ (by dsimp only; omega)]; exact h.g
  · rw [heap_setCell_other _ _ _ _ (by dsimp only; omega)]; exact h.g8
  · rw [heap_setCell_same V _ m _ _ _ h.g9, brow_set, dg_set s m hm x hx]

set_option maxRecDepth 100000 in
set_option maxHeartbeats 4000000 in
theorem sum9 (w : World) (a : Option Addr) (n c : Nat) (l : List B) (hl : SlB w a n c l) (hnc : a = none → c = 0) (hn : n < 800000) :
    Calls Tryd.prog 59 #[.slice a n c] w fun e w' => e = .returned (.agg (brow (sha l))) ∧ Keeps (fun _ => False) w w' := by
  have hz := zero24
  have hlen := hl.len
  have k1 := keeps_alloc w (.cells (brow (zb 32)) 24)
  have k2 := k1.alloc (.cells #[] 5)
  have o1 := own_nil (w.alloc (.cells (brow (zb 32)) 24))
  have g1 : ((w.alloc (.cells (brow (zb 32)) 24)).alloc (.cells #[] 5)).heap[w.heap.size]? = some (.cells (brow (zb 32)) 24 (0, 0)) := heap_alloc2_old w _ _
  rw [show (w.alloc (.cells (brow (zb 32)) 24)).heap.size = w.heap.size + 1 by simp] at o1
  go_enter Tryd.func59, Tryd.ntmps59
  go_wp2_with (first | (refine wpList_buildSlice0 rfl rfl ?_) | (refine wpList_app rfl _ _ rfl (w.heap.size + 1) _ [] rfl o1 a n c l rfl (hl.keeps k2 (fun _ _ _ _ h => h)) hnc (by simp; omega) (by simp) ?_; intro v1 w1 O1 hk1; have G1 := gr_first hk1 O1; have z1 := G1.size; clear hk1 O1) | (refine wpList_buildSlice1 rfl _ rfl _ rfl ?_) | (refine wpList_app rfl _ _ rfl (w.heap.size + 1) v1 l rfl (own_step _ G1.own) _ 1 1 [128] rfl (slb_new w1 128 128 rfl) (fun e => by cases e) (by omega) (by simp; omega) ?_; intro v2 w2 O2 hk2; have G2 := G1.next rfl O2 hk2; clear O2 hk2))
  clear hz k1 k2 o1 g1 z1 G1
  have hpl := plen_le n
  have hpp := plen_pos n
  have G2' : Gr w.heap.size w w2 v2 (l ++ bitz 0) := G2
  go_loopw [3] (fun x wr => ∃ m : Nat, m + 1 ≤ plen n ∧ Gr w.heap.size w wr x (l ++ bitz m)) (fun x _ => n + plen n - lenOf x)
  case atStart => exact ⟨0, by omega, G2'⟩
  case round =>
    clear G2 G2'
    obtain ⟨m, hm, G⟩ := hrel
    obtain ⟨a', n', c', rfl, hs, _, _⟩ := G.own.slice
    have hn' : n' = n + m + 1 := by have := hs.len; simp [bitz_len] at this; omega
    have Hn' : Hid (n' = n + m + 1) := hn'
    have hz1 := G.size
    by_cases hend : m + 1 = plen n
    · have h56 : (n' : Int) % 64 = 56 := by unfold plen at hend; omega
      have hsmall : n' < 900000 := by omega
      have Hend : Hid (m + 1 = plen n) := hend
      clear hend hn' hm
      go_wp2_with fail
      have G0 : Gr w.heap.size w wr (.slice a' n' c') (l ++ bitz m ++ (beN 8 (n * 8)).take 0) := by rw [List.take_zero, List.append_nil]; exact G
      have Hlp : Hid ((l ++ bitz m).length = n') := hs.len
      go_loopw [3, 5] (fun x i wq => ∃ j : Nat, j ≤ 8 ∧ i = .int .i64 (56 - 8 * (j : Int)) ∧ Gr w.heap.size w wq x (l ++ bitz m ++ (beN 8 (n * 8)).take j)) (fun x i _ => (intOf i + 8).toNat)
      case atStart => exact ⟨0, by omega, rfl, G0⟩
      case round =>
        clear G G0 hs h56
        obtain ⟨j, hj, rfl, G⟩ := hrel
        obtain ⟨a4, n4, c4, rfl, hs, _, _⟩ := G.own.slice
        have hn4 : n4 = n' + j := by have h1 := hs.len; rw [List.length_append, Hlp.out, List.length_take, beN_len] at h1; omega
        have Hn4 : Hid (n4 = n' + j) := hn4
        have hz1 := G.size
        have hsm4 : n4 < 900010 := by omega
        clear hn4
        by_cases hj8 : j < 8
        · have hj8' : (0 : Int) ≤ 56 - 8 * (j : Int) := by omega
          have hj64 : 56 - 8 * (j : Int) < 64 := by omega
          go_wp2_with (first | (refine wpList_buildSlice1 rfl _ rfl _ rfl ?_) | (refine wpList_app rfl _ _ rfl (w.heap.size + 1) (.slice a4 n4 c4) (l ++ bitz m ++ (beN 8 (n * 8)).take j) rfl (own_step _ G.own) _ 1 1 [BitVec.ofNat 8 (n * 8 / 256 ^ (7 - j))] rfl (slb_new wr _ _ (len_int n j hj8)) (fun e => by cases e) (by rw [hs.len]; omega) (by simp; omega) ?_; intro v3 w3 O3 hk3; have G3 := G.next rfl O3 hk3; clear O3 hk3))
          rw [List.append_assoc, ← len_take (n * 8) j hj8] at G3
          exact ⟨⟨j + 1, by omega, by go_num, G3⟩, by simp [intOf]; omega⟩
        · obtain rfl : j = 8 := by omega
          rw [padd_is l n m Hend.out] at G hs
          have hlP : (l ++ padd n).length = n + plen n + 8 := by simp [padd_len, hlen]; omega
          have h64 := plen_mod n
          have hlt : n4 = n + plen n + 8 := by rw [← hs.len]; exact hlP
          have Hsha : Hid (sha l = (hashN (l ++ padd n) (n4 / 64)).dig) := by show _ = _; rw [hlt, ← hlen]; rfl
          have hm64 : n4 % 64 = 0 := by omega
          generalize l ++ padd n = PP at *
          have hz9 := zero49
          have hb0 : (#[.int .u32 1779033703, .int .u32 3144134277, .int .u32 1013904242, .int .u32 2773480762, .int .u32 1359893119, .int .u32 2600822924, .int .u32 528734635, .int .u32 1541459225] : Array Value) = wrow h0.toL := rfl
          have hs3 : (Tryd.prog.info? 122).map (·.size) = some (wrow h0.toL).size := by rw [size_wrow]; exact size49
          have hs4 : (wrow z8).size = (wrow h0.toL).size := by rw [size_wrow, size_wrow]; rfl
          have hone3 := wrow_one h0.toL
          have hpos : 0 < n4 := by omega
          clear hlt h64 hlP Hlp Hn4 Hend Hn' hj
          go_wp2_with (refine wpList_store_row rfl rfl 122 _ _ rfl wr.heap.size rfl (wrow h0.toL) rfl 122 (wrow z8) (heap_alloc_new wr _) hs3 hs4 hone3 ?_; intro w3 g3 hk3 hz3; clear hz3)
          obtain ⟨b, o, rfl, hby, _⟩ := hs.bytes n4 hpos (Nat.le_refl _)
          rw [List.take_of_length_le (by rw [hs.len]; omega)] at hby
          have hbw : b < wr.heap.size := World.block_lt_of_cell? wr _ (hby 0 _ (List.getElem?_eq_getElem (by rw [hs.len]; exact hpos)))
          have hqw : w.heap.size < wr.heap.size := by omega
          have hS : S3 w.heap.size wr.heap.size b o w w3 PP (hashN PP 0) := ⟨hk3.row ((keeps_alloc wr (.cells (wrow z8) 122)).row G.g (fun h => h)) (by omega), g3, (hby.keeps (keeps_alloc wr (.cells (wrow z8) 122)) (fun h => h)).keeps hk3 (by omega), (G.keeps.alloc _).trans' hk3 (fun i e => .inr (by omega))⟩
          have hbig : (n4 : Int) < 1000000 := by omega
          have hcap := hs.cap
          have hlenP := hs.len
          clear hk3 g3 hby G hs hz9 hb0 hs3 hs4 hone3 hsm4 hz1
          generalize wr.heap.size = q6 at *
          go_loopw [7] (fun i wq => ∃ k : Nat, 64 * k ≤ n4 ∧ i = .int .i64 (64 * (k : Int)) ∧ S3 w.heap.size q6 b o w wq PP (hashN PP k)) (fun i _ => n4 - (intOf i).toNat)
          case atStart => exact ⟨0, by omega, rfl, hS⟩
          case round =>
            clear hS
            obtain ⟨k, hk, rfl, hS⟩ := hrel
            have Hnx : Hid ((hashN PP k).comp ((PP.drop (64 * k)).take 64) = hashN PP (k + 1)) := rfl
            obtain ⟨s, hse⟩ : ∃ s, hashN PP k = s := ⟨_, rfl⟩
            obtain ⟨s', hse'⟩ : ∃ s', hashN PP (k + 1) = s' := ⟨_, rfl⟩
            rw [hse, hse'] at Hnx
            rw [hse] at hS
            have Hse : Hid (hashN PP k = s ∧ hashN PP (k + 1) = s') := ⟨hse, hse'⟩
            clear hse hse'
            by_cases hlt : 64 * k < n4
            · have hlt' : 64 * (k : Int) < (n4 : Int) := by omega
              have h2 : 64 * (k : Int) + 64 ≤ (n4 : Int) := by omega
              have h3 : (n4 : Int) ≤ (c4 : Int) := by omega
              have hrow := wrange hS.drew.g6
              have hi49 : (Tryd.prog.info? 122).map (·.size) = some (wrow s.toL).size := by rw [size_wrow]; exact size49
              have Hrow : Hid (wr.drew.rangeAt q6 0 (wrow s.toL).toList) := hrow
              have Hi49 : Hid ((Tryd.prog.info? 122).map (·.size) = some (wrow s.toL).size) := hi49
              clear hrow hi49
              go_wp2_with fail
              refine region_tail 6 (by kernel_rfl) (by kernel_rfl) ?_
              simp only [List.take_succ_cons, List.take_zero]
              go_big_quiet_want
              refine quiet_row_at _ _ rfl q6 0 rfl (wrow s.toL) (fun w' hp => hp ▸ Hrow.out) Tryd.underlying122 rfl Hi49.out ?_
              simp only [Act.put, List.setIfInBounds_toArray, List.set_cons_zero, List.set_cons_succ]
              go_big_quiet_on
              iterate 5 (go_big_quiet_step (fail))
              refine wpQuiet_nil ?_
              simp only [List.drop_succ_cons, List.drop_zero]
              go_wp2_with (first | (go_at_call 66; refine (words_to Hnx _ b (o + 64 * k) _ (by simp; omega) (by omega) (hS.drew.by_.part (64 * k) 64)).mono ?_; rintro e w4 ⟨rfl, hk4⟩) | (refine wpList_store_row rfl rfl 122 _ _ rfl q6 rfl (wrow s'.toL) rfl 122 (wrow s.toL) (hk4.row hS.drew.g6 (fun h => h)) (by rw [size_wrow]; exact size49) (by rw [size_wrow, size_wrow]; rfl) (wrow_one _) ?_; intro w5 g5 hk5 hz5; clear hz5))
              exact ⟨⟨k + 1, by omega, by go_num, by rw [Hse.out.2]; exact hS.drew.next hqw (by omega) (by omega) hk4 hk5 g5⟩, by simp [intOf]; omega⟩
            · have hk64 : Hid (n4 / 64 = k) := by show _ = _; omega
              obtain ⟨a0, a1, a2, a3, a4, a5, a6, a7⟩ := words_at hS.g6
              have hz := zero24
              have hlt' : ¬ 64 * (k : Int) < (n4 : Int) := by omega
              clear hbig hcap hlenP hpl hpp hsmall hm64 hk hpos
              go_wp2_with fail
              have hqr : q6 < wr.heap.size := lt_of_row hS.g6
              have hS4 : S4 w.heap.size wr.heap.size (wr.heap.size + 1) w ((wr.alloc (.cells (wrow s.toL) 22)).alloc (.cells (brow (zb 32)) 24)) s 0 := ⟨(((keeps_alloc wr (.cells (wrow s.toL) 22)).alloc _).row hS.g (fun h => h)), heap_alloc2_old wr _ _, heap_alloc2_new wr _ _, (hS.keeps.alloc _).alloc _⟩
              clear a0 a1 a2 a3 a4 a5 a6 a7 hS hz
              generalize wr.heap.size = q8 at *
              have hqq : w.heap.size < q8 := by omega
              go_loopw [10] (fun x wq => ∃ i : Nat, i ≤ 8 ∧ x = .int .i64 i ∧ S4 w.heap.size q8 (q8 + 1) w wq s (4 * i)) (fun x _ => 8 - (intOf x).toNat)
              case atStart => exact ⟨0, by omega, rfl, hS4⟩
              case round =>
                clear hS4
                obtain ⟨i, hi, rfl, hS4⟩ := hrel
                by_cases hi8 : i < 8
                · have hi8' : (i : Int) < 8 := by omega
                  go_wp2_with fail
                  go_loopw [11] (fun x wq => ∃ j : Nat, j ≤ 4 ∧ x = .int .i64 j ∧ S4 w.heap.size q8 (q8 + 1) w wq s (4 * i + j)) (fun x _ => 4 - (intOf x).toNat)
                  case atStart => exact ⟨0, by omega, rfl, hS4⟩
                  case round =>
                    clear hS4
                    obtain ⟨j, hj, rfl, hS4⟩ := hrel
                    by_cases hj4 : j < 4
                    · have hj4' : (j : Int) < 4 := by omega
                      have h24 : (0 : Int) ≤ 24 - 8 * (j : Int) := by omega
                      have h24' : 24 - 8 * (j : Int) < 32 := by omega
                      have hx0 : (0 : Int) ≤ 4 * (i : Int) + (j : Int) := by omega
                      have hx1 : 4 * (i : Int) + (j : Int) < 32 := by omega
                      have hnx := hS4.next (by omega) (by omega) (by omega) (by omega) _ (dig_at s i j hi8 hj4)
                      have hc1 : wr.cell? ⟨q8, i, none⟩ = some (.int .u32 (nw (s.toL.getD i 0))) := by
                        rw [cell_of_row wr _ i _ _ _ hS4.g8, wrow_get]
                        have : i < s.toL.length := by rw [toL_len]; exact hi8
                        simp [this, vw]
                      have hf := frozen_of_row wr _ (4 * i + j) _ _ hS4.g9
                      have hc2 : ∃ v, wr.cell? ⟨q8 + 1, 4 * i + j, none⟩ = some v := by
                        have : 4 * i + j < (dg s (4 * i + j)).length := by rw [dg_len _ _ (by omega)]; omega
                        rw [cell_of_row wr _ (4 * i + j) _ _ _ hS4.g9, brow_get]; simp [this]
                      obtain ⟨v0, hc2⟩ := hc2
                      rw [dig_int _ j hj4] at hnx
                      have Hnx2 : Hid (S4 w.heap.size q8 (q8 + 1) w (wr.setCell ⟨q8 + 1, 4 * i + j, none⟩ (.int .u8 (nw (s.toL.getD i 0) / 2 ^ (24 - 8 * j) % 256))) s (4 * i + j + 1)) := hnx
                      clear hnx hS4
                      generalize s.toL.getD i 0 = X at *
                      have bX := nw_lt X
                      go_wp2_with fail
                      exact ⟨⟨j + 1, by omega, by go_num, Hnx2.out⟩, by simp [intOf]; omega⟩
                    · obtain rfl : j = 4 := by omega
                      go_wp2_with fail
                      exact ⟨⟨i + 1, by omega, by go_num, hS4⟩, by simp [intOf]; omega⟩
                · obtain rfl : i = 8 := by omega
                  have g9 := hS4.g9
                  rw [show 4 * 8 = 32 from rfl, dg_all] at g9
                  have Hd : Hid (sha l = s.dig) := by show _ = _; rw [Hsha.out, hk64.out, Hse.out.1]
                  have hs5 : (Tryd.prog.info? 24).map (·.size) = some (brow s.dig).size := by rw [size_brow, dig_len]; exact size24
                  have hs6 : (brow (zb 32)).size = (brow s.dig).size := by rw [size_brow, size_brow, dig_len, zb_len]
                  have hone5 := brow_one s.dig
                  generalize s.dig = dd at *
                  go_wp2_with (first | (refine wpList_load_row rfl 24 _ rfl (q8 + 1) rfl 24 (brow dd) (0, 0) _ g9 Tryd.underlying24 rfl hs5 ?_) | (refine wpList_store_all rfl 24 _ _ rfl w.heap.size rfl (brow dd) rfl 24 (brow (zb 32)) hS4.g hs5 hs6 hone5 ?_))
                  rw [Hd.out]
                  refine bodyPost_ret (v := .agg (brow dd)) ?_ rfl ⟨rfl, hS4.keeps.setRow (.inr (Nat.le_refl _)) _⟩
                  exact results_cell_row rfl _ _ w.heap.size 24 (brow dd) (0, 0) _ rfl (setRow_heap wr _ _ _ _ _ hS4.g) Tryd.underlying24 rfl hs5
    · have h56 : ¬ (n' : Int) % 64 = 56 := by unfold plen at hend hm; omega
      have hm2 : m + 1 + 1 ≤ plen n := by omega
      have hsmall : n' < 900000 := by omega
      clear hend hn'
      go_wp2_with (first | (refine wpList_buildSlice1 rfl _ rfl _ rfl ?_) | (refine wpList_app rfl _ _ rfl (w.heap.size + 1) (.slice a' n' c') (l ++ bitz m) rfl (own_step _ G.own) _ 1 1 [0] rfl (slb_new wr 0 0 rfl) (fun e => by cases e) (by rw [hs.len]; omega) (by simp; omega) ?_; intro v3 w3 O3 hk3; have G3 := G.next rfl O3 hk3; clear O3 hk3; obtain ⟨a3, n3, c3, rfl, hs3, _, _⟩ := G3.own.slice))
      have e3 : n3 = n' + 1 := by have h1 := hs3.len; have h2 := hs.len; simp at h1 h2; omega
      rw [List.append_assoc, bitz_snoc] at G3
      exact ⟨⟨m + 1, hm2, G3⟩, by have := Hn'.out; simp [lenOf]; omega⟩
end

/-! Rc: The reference: Of, Check. -/
section
open Go.RowKit Go.Sort

theorem own_mod (w : World) (k : Int) : OwnB (w.alloc (.cells #[.int .u8 (k % 256)] 5)) w.heap.size (.slice (some ⟨w.heap.size, 0, none⟩) 1 1) [kb k] := by
  have h := own_kb w (k % 256) (by omega)
  rwa [show kb (k % 256) = kb k from nb_inj (by rw [nb_kb, nb_kb]; omega)] at h

theorem rsum_to {L X : List B} (hX : Hid (sha L = X)) (w : World) (a : Option Addr) (n c : Nat) (hl : SlB w a n c L) (hnc : a = none → c = 0) (hn : n < 800000) :
    Calls Tryd.prog 59 #[.slice a n c] w fun e w' => e = .returned (.agg (brow X)) ∧ Keeps (fun _ => False) w w' := by
  rw [← hX.out]; exact sum9 w a n c L hl hnc hn

set_option maxRecDepth 100000 in
set_option maxHeartbeats 1000000 in
theorem check13 {X C : List B} (w : World) (a : Option Addr) (n c : Nat) (l : List B) (hl : SlB w a n c l) (hnc : a = none → c = 0) (hn : n < 700000) (HX : Hid (sha l = X)) (HC : Hid (X.take 4 = C)) :
    Calls Tryd.prog 51 #[.slice a n c] w fun e w' => ∃ a' n' c', e = .returned (.slice a' n' c') ∧ SlB w' a' n' c' C ∧ Keeps (fun _ => False) w w' := by
  have hz := zero24
  have lX : X.length = 32 := by rw [← HX.out]; exact sha_len _
  have hs3 : (Tryd.prog.info? 24).map (·.size) = some (brow X).size := by rw [size_brow, lX]; exact size24
  have hs4 : (brow (zb 32)).size = (brow X).size := by rw [size_brow, size_brow, lX, zb_len]
  have hone2 := brow_one X
  go_enter Tryd.func51, Tryd.ntmps51
  go_wp2_with (first | (go_at_call 59; refine (rsum_to HX _ _ _ _ hl hnc (by omega)).mono ?_; rintro e w1 ⟨rfl, hk1⟩) | (refine wpList_store_row rfl rfl 24 _ _ rfl w1.heap.size rfl (brow X) rfl 24 (brow (zb 32)) (heap_alloc_new w1 _) hs3 hs4 hone2 ?_; intro w2 g2 hk2 hz2; clear hz2; have k2 : Keeps (fun _ => False) w w2 := (hk1.alloc _).trans' hk2 (fun i e => .inr (by have := hk1.size; omega)); have sC : SlB w2 (some ⟨w1.heap.size, 0, none⟩) 4 32 C := (by have := SlB.ofRow g2 0 4 32 (by rw [lX]; omega) (by omega); rwa [List.drop_zero, HC.out] at this); have o2 := own_nil w2; have k3 := keeps_alloc w2 (.cells #[] 5)) | (refine wpList_buildSlice0 rfl rfl ?_) | (refine wpList_app rfl _ _ rfl w2.heap.size _ [] rfl o2 _ 4 32 C rfl (sC.keeps k3 (fun _ _ _ _ h => h)) (fun e => by cases e) (by simp) (by simp) ?_; intro v' w3 O3 hk3; obtain ⟨a', n', c', rfl, hs3', _, _⟩ := O3.slice))
  go_ret
  exact ⟨_, _, _, rfl, hs3', (k2.alloc _).trans' hk3 (fun i e => .inr (by have := k2.size; omega))⟩
end

end Go.Proofs.YtdgnjpdjohibeaaDoor
