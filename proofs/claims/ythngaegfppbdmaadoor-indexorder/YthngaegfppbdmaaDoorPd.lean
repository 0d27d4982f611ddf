/-
  sealed of the program's leaf.
-/
import Derived.Test.YthngaegfppbdmaaDoorPc
set_option linter.all false
namespace Go.Proofs.YthngaegfppbdmaaDoor
open Go.RowKit Go.Sort

/-- In block g lie the four bytes C. -/
structure FoAt (w : World) (g : Nat) (C : List B) : Prop where
  row : w.heap[g]? = some (.cells (brow C) 46 (0, 0))
  len : C.length = 4
theorem FoAt.lt {w : World} {g : Nat} {C : List B} (h : FoAt w g C) : g < w.heap.size := lt_of_row h.row
theorem FoAt.keeps {S : Nat → Prop} {a w : World} {g : Nat} {C : List B} (h : FoAt a g C) (hk : Keeps S a w) (hs : ¬ S g) : FoAt w g C := ⟨hk.row h.row hs, h.len⟩
theorem FoAt.keep {a w : World} {g : Nat} {C : List B} (h : FoAt a g C) (hk : Keeps (fun _ => False) a w) : FoAt w g C := h.keeps hk (fun h => h)
theorem FoAt.cell {w : World} {g : Nat} {C : List B} (h : FoAt w g C) {j : Nat} (hj : j < 4) : w.cell? ⟨g, j, none⟩ = some (.int .u8 (nb (C.getD j 0))) := by
  have hl := h.len
  rw [cell_of_row w _ _ _ _ _ h.row, brow_get, List.getElem?_eq_getElem (by omega), getD_lt (by omega)]; rfl
theorem FoAt.slb {w : World} {g : Nat} {C : List B} (h : FoAt w g C) : SlB w (some ⟨g, 0, none⟩) 4 4 C := by
  have := slb_box h.row
  rwa [h.len] at this
theorem zero46' (w : World) : (zeroValue 46).run Tryd.prog w = .ok (.agg (brow (zb 4))) w := by kernel_rfl
theorem size46' : (Tryd.prog.info? 46).map (·.size) = some 4 := by kernel_rfl
theorem wpList_alloc4b {ops : Array Oper} {rest : List Oper} {o : Oper} {a : Act} {w : World} {Q : Exit → Act → World → Prop} (hgd : o.guard = none) (ho : o.op = .alloc 46)
    (h : ∀ g w', FoAt w' g (zb 4) → w.heap.size ≤ g → Keeps (fun _ => False) w w' → wpList Tryd.prog ops Q rest (a.put o.dst (.pointer (some ⟨g, 0, none⟩))) w') : wpList Tryd.prog ops Q (o :: rest) a w := by
  refine wpList_plain hgd fun K hK => ?_
  unfold Oper.wp execOp
  simp only [ho, Instr.alloc, zero46', newVar, newRow, Sem.run_bind, Result.andThen_ok, Sem.run_pure]
  exact hK _ _ (h w.heap.size _ ⟨heap_alloc_new w _, zb_len _⟩ (Nat.le_refl _) (keeps_alloc w _))
theorem wpList_store4b {ops : Array Oper} {rest : List Oper} {o : Oper} {a : Act} {w : World} {Q : Exit → Act → World → Prop} (hgd : o.guard = none) (x y : Operand) (ho : o.op = .store 46 x y) (g : Nat) (hx : a.eval x = .pointer (some ⟨g, 0, none⟩)) (L : List B) (hy : a.eval y = .agg (brow L)) (hL : L.length = 4)
    (L' : List B) (hb : FoAt w g L') (h : ∀ w', FoAt w' g L → Keeps (· = g) w w' → wpList Tryd.prog ops Q rest (a.put o.dst undef) w') : wpList Tryd.prog ops Q (o :: rest) a w := by
  refine wpList_plain hgd fun K hK => ?_
  unfold Oper.wp execOp
  simp only [ho, hx, hy, Instr.storeAt, Instr.sureAddr, Sem.run_bind, Sem.run_pure, Result.andThen_ok, run_storeVar_row w g 46 46 (brow L') (brow L) hb.row (by rw [size_brow, hL]; exact size46') (by rw [size_brow, size_brow, hL, hb.len]) (brow_one L)]
  exact hK _ _ (h _ ⟨setRow_heap w g _ _ _ _ hb.row, hL⟩ ((Keeps.refl (· = g) w).setRow (.inl rfl) _))

theorem splice_check {t C : List B} {n : Nat} (ht : t.length = n) (hn : n ≤ 124) (hC : C.length = 4) : splice ((first128 t).map vb) n (C.map vb) = (t ++ (C ++ zb (124 - n))).map vb := by
  have hf : first128 t = t ++ zb (128 - n) := by unfold first128; rw [List.take_of_length_le (by omega), ht]
  unfold splice
  rw [hf, ← List.map_take, ← List.map_drop, List.take_append_of_le_length (by omega), List.take_of_length_le (by omega), List.length_map, hC, List.drop_append, List.drop_of_length_le (by omega), List.nil_append, ht, show n + 4 - n = 4 by omega]
  have : (zb (128 - n)).drop 4 = zb (124 - n) := by simp only [zb, List.drop_replicate]; congr 1; omega
  rw [this]
  simp

set_option maxRecDepth 100000 in
set_option maxHeartbeats 2000000 in
theorem sealed46 (w : World) (a : Option Addr) (n c : Nat) (t : List B) (hT : Tabs w) (hl : SlB w a n c t) (hn0 : 0 < n) (hn : n ≤ 124) {L : List B} (HL : Hid (blk5 t = L)) :
    Calls Tryd.prog 46 #[.slice a n c] w fun e w' => e = .returned (.agg (brow L)) ∧ Keeps (fun _ => False) w w' := by
  have hlen := hl.len
  obtain ⟨X, hX⟩ : ∃ X, sha t = X := ⟨_, rfl⟩
  obtain ⟨C, hC⟩ : ∃ C, X.take 4 = C := ⟨_, rfl⟩
  have HX : Hid (sha t = X) := hX
  have HC : Hid (X.take 4 = C) := hC
  have lC : C.length = 4 := by rw [← hC, ← hX, List.length_take, sha_len]; rfl
  have HF : Hid (splice ((first128 t).map vb) n (C.map vb) = L.map vb) := by
    show _ = _
    rw [splice_check hlen hn lC, ← HL.out, ← hC, ← hX]
    unfold blk5
    rw [hlen]
  have lL : L.length = 128 := by rw [← HL.out]; exact blk5_len (by omega)
  clear hX hC
  obtain ⟨b, o, rfl, _⟩ := hl.bytes n hn0 (Nat.le_refl _)
  have lb : b < w.heap.size := slb_lt hl hn0 rfl
  have hn' : (n : Int) ≤ 128 := by omega
  go_enter Tryd.func46, Tryd.ntmps46
  go_wp2_with (first
    | (refine wpList_alloc26 rfl rfl ?_; have := k1; intro g3 w2 b2 z2 k2; have B1 := b1.keep k2; have K2 := k1.trans k2; have h23 : g2 ≠ g3 := (by have := b1.lt; omega); have z3 : w.heap.size ≤ g3 := (by have := k1.size; omega))
    | (refine wpList_alloc26 rfl rfl ?_; intro g2 w1 b1 z1 k1)
    | (go_at_call 27; refine (check_at HX HC _ (hT.keeps K2 (fun h => h) (fun h => h)) _ _ _ (hl.keeps K2 (fun _ _ _ _ h => h)) (by omega)).mono ?_; rintro e w4 ⟨rfl, k4⟩; have B14 := B1.keep k4; have B24 := b2.keep k4; have K4 := K2.trans k4)
    | (refine wpList_alloc4b rfl rfl ?_; intro g4 w5 b5 z5 k5; have B15 := B14.keep k5; have B25 := B24.keep k5; have K5 := K4.trans k5; have h34 : g3 ≠ g4 := (by have := B24.lt; omega))
    | (refine wpList_store4b rfl _ _ rfl g4 rfl C rfl lC _ b5 ?_; intro w6 b6 k6; have z4 : w.heap.size ≤ g4 := (by have := K4.size; omega); have K6 : Keeps (fun _ => False) w w6 := K5.trans' k6 (fun i e => .inr (by omega)); have B16 := B15.keeps k6 (by have := B14.lt; omega); have B26 := B25.keeps k6 (by omega)))
  clear b1 b2 k1 k2 B1 K2 B14 B24 k4 K4 b5 k5 B15 B25 K5 k6 z2 z5
  simp only [Act.put, List.setIfInBounds_toArray, List.set_cons_zero, List.set_cons_succ]
  refine region_plan (S := fun w' => ∃ p : Regrown, w' = grow (redrawn w p.d) p.os) [([0, 1, 4], 2), ([3], 5)] [] (by kernel_rfl) (by kernel_rfl) (by kernel_rfl) (by kernel_rfl) (cls_keeps K6.drew) ?_
  simp only [wpPlan, opsAt, pick]
  repeat (go_big_quiet_step (fail))
  refine wpQuiet_nil ?_
  have kd : Keeps (fun _ => False) w6 w6.drew := (Keeps.refl _ _).drew
  have KD := K6.trans kd
  have B2d := B26.keep kd
  go_wp2_with (refine wpList_copy_new rfl _ _ rfl g3 _ b o n c rfl rfl t (hl.keeps KD (fun _ _ _ _ h => h)) B2d.row n (by omega) ?_; intro w7 r7 k7)
  have K7 : Keeps (fun _ => False) w w7 := KD.trans' k7 (fun i e => .inr (by omega))
  refine ⟨cls_keeps K7, ?_⟩
  simp only [wpPlan, opsAt, pick]
  repeat (go_big_quiet_step (fail))
  refine wpQuiet_nil ?_
  have b7 := ((b6.keep kd).keeps k7 (Ne.symm h34)).slb
  have hsrc : ∀ j v, (C.map vb)[j]? = some v → w7.cell? ((⟨g4, 0, none⟩ : Addr).add j) = some v := fun j v hv => by
    rw [List.getElem?_map] at hv
    cases hq : C[j]? with
    | none => rw [hq] at hv; cases hv
    | some x =>
      rw [hq] at hv
      obtain ⟨b', o', e', hc⟩ := b7.at_ j x hq
      cases e'
      rw [Addr_add]
      cases hv
      exact hc
  have hm1 : (C.map vb).length = Nat.min 4 (128 - n) := by rw [List.length_map, lC]; show 4 = min 4 (128 - n); omega
  have hm2 : n + (C.map vb).length ≤ ((first128 t).map vb).length := by rw [List.length_map, List.length_map, lC, first128_len]; omega
  go_wp2_with (refine wpList_copy_over rfl _ _ 48 48 rfl 5 Tryd.underlying48 size5 _ _ _ _ _ _ rfl rfl g3 n ((first128 t).map vb) 25 r7 (C.map vb) hm1 (fun _ => ⟨rfl, _, rfl, hsrc⟩) hm2 (one_bytes C) ?_; intro w8 r8 k8 z8; rw [HF.out] at r8)
  have r8' := r8.out
  have B28 : BlAt w8 g3 L := ⟨r8', lL⟩
  have K8 : Keeps (fun _ => False) w w8 := K7.trans' k8 (fun i e => .inr (by omega))
  have B18 := ((B16.keep kd).keeps k7 h23).keeps k8 h23
  have z2' : w.heap.size ≤ g2 := by omega
  refine ⟨cls_keeps K8, ?_⟩
  simp only [wpPlan, opsAt, pick]
  refine wpQuiet_nil ?_
  refine NoPanic.normal ?_
  go_wp2_with (first
    | (refine wpList_load26 rfl _ rfl g3 rfl L B28 ?_)
    | (refine wpList_store26 rfl _ _ rfl g2 rfl L rfl lL _ B18 ?_; intro w9 b9 k9))
  refine bodyPost_ret (v := .agg (brow L)) (results_cell_row rfl _ _ g2 25 (brow L) (0, 0) _ rfl b9.row Tryd.underlying25 rfl (by rw [b9.size]; exact size26)) rfl ⟨rfl, K8.trans' k9 (fun i e => .inr (by omega))⟩

end Go.Proofs.YthngaegfppbdmaaDoor
