/-
  An entry put together; the entries of a block, one behind the other: the iterator.
-/
import Derived.Test.YthngaegfppbdmaaDoorPf
import Derived.Test.YthngaegfppbdmaaDoorGH
set_option linter.all false
namespace Go.Proofs.YthngaegfppbdmaaDoor
open Go.RowKit Go.Sort Go.Shelf

theorem fold_pre (b C D : List Value) (h : C.length = b.length) :
    b.toArray.zipIdx.foldl (fun (cs : Array Value) (y : Value × Nat) => cs.setIfInBounds (0 + y.2) y.1) (C ++ D).toArray = (b ++ D).toArray := by
  suffices H : ∀ (b : List Value) (o : Nat) (A C : List Value), A.length = o → C.length = b.length →
      List.foldl (fun (cs : Array Value) (y : Value × Nat) => cs.setIfInBounds (0 + y.2) y.1) (A ++ C ++ D).toArray (b.zipIdx o) = (A ++ b ++ D).toArray by
    have := H b 0 [] C rfl h
    simp at this
    rw [← Array.foldl_toList]
    simpa using this
  intro b
  induction b with
  | nil => intro o A C hA hC; simp [List.eq_nil_of_length_eq_zero hC]
  | cons v b ih =>
    intro o A C hA hC
    cases C with
    | nil => simp at hC
    | cons c C =>
      rw [List.zipIdx_cons, List.foldl_cons]
      dsimp only
      have e : ((A ++ c :: C ++ D).toArray.setIfInBounds (0 + o) v) = ((A ++ [v]) ++ C ++ D).toArray := by
        simp [← hA]
      rw [e, ih (o + 1) (A ++ [v]) C (by simp; omega) (by simpa using hC)]
      simp

theorem built54 (K : List B) (hK : K.length = 32) (p b r : Int) : Tryd.prog.built 54 [(0, .agg (brow K)), (1, .int .i64 p), (2, .int .i64 b), (3, .int .i64 r)] = some (En.mk K p b r).cells.toArray := by
  obtain ⟨i, hi, hz, hs, hb⟩ := info46'
  obtain ⟨i3, hi3, _, h3s, _⟩ := info3'
  have hk : ∃ i, Tryd.prog.info? 52 = some i ∧ i.size = 32 := by
    cases hq : Tryd.prog.info? 52 with
    | none => have := sizeKey; rw [hq] at this; cases this
    | some i => have := sizeKey; rw [hq] at this; exact ⟨i, rfl, by simpa using this⟩
  obtain ⟨ik, hik, hks⟩ := hk
  unfold Program.built
  rw [hi, Tryd.underlying54]
  dsimp only
  rw [hz]
  have hpl : (List.mapM (fun f : Field => (Tryd.prog.info? f.type).map fun i => (f.offset, i.size)) [{ name := "Key", type := 52, offset := 0, embedded := false, tag := "", pkgPath := "", byteOffset := 0 }, { name := "Place", type := 3, offset := 32, embedded := false, tag := "", pkgPath := "", byteOffset := 32 }, { name := "Blocks", type := 3, offset := 33, embedded := false, tag := "", pkgPath := "", byteOffset := 40 }, { name := "Refs", type := 3, offset := 34, embedded := false, tag := "", pkgPath := "", byteOffset := 48 }]) = some [(0, 32), (32, 1), (33, 1), (34, 1)] := by
    simp [List.mapM_cons, hik, hi3, hks, h3s]
  rw [hpl]
  dsimp only
  have hc : (Value.agg (e0 0 0 0).cells.toArray).cells = ((zb 32).map vb ++ [Value.int .i64 0, Value.int .i64 0, Value.int .i64 0]).toArray := rfl
  have hkc : (Value.agg (brow K)).cells = (K.map vb).toArray := rfl
  have hf := fold_pre (K.map vb) ((zb 32).map vb) [.int .i64 0, .int .i64 0, .int .i64 0] (by simp [hK, zb])
  rw [hc]
  unfold Instr.fill
  dsimp only
  rw [show ([((0 : Nat), (32 : Nat)), (32, 1), (33, 1), (34, 1)].toArray[(0 : Nat)]?) = some (0, 32) from rfl]
  dsimp only
  rw [hkc, if_neg (by simp [hK, zb]), hf]
  have h32 : (K.map vb).length = 32 := by simp [hK]
  unfold Instr.fill Instr.fill Instr.fill Instr.fill
  simp [Value.cells, En.cells, h32, hK]

theorem run_build54 (K : List B) (hK : K.length = 32) (p b r : Int) (w : World) : (Instr.build 54 #[(0, .agg (brow K)), (1, .int .i64 p), (2, .int .i64 b), (3, .int .i64 r)]).run Tryd.prog w = .ok (.agg (En.mk K p b r).cells.toArray) w :=
  run_build w 54 _ _ (built54 K hK p b r)
theorem quiet_build54 {o : Oper} {a : Act} {C : World → Prop} {K : Act → Prop} (k x y z : Operand) (ho : o.op = .build 54 #[(0, k), (1, x), (2, y), (3, z)]) (Y : List B) (hY : Y.length = 32) (p b r : Int) (hk' : a.eval k = .agg (brow Y)) (hx : a.eval x = .int .i64 p) (hy : a.eval y = .int .i64 b) (hz : a.eval z = .int .i64 r) (hk : K (a.put o.dst (.agg (En.mk Y p b r).cells.toArray))) : o.quiet Tryd.prog a C K := by
  refine ⟨.agg (En.mk Y p b r).cells.toArray, fun w hw => ?_, hk⟩
  unfold Oper.quietAt execOp
  simp only [ho, hk', hx, hy, hz, List.map_toArray, List.map_cons, List.map_nil, run_build54 Y hY, Sem.run_bind, Sem.run_pure, Result.andThen_ok]
  exact ⟨rfl, rfl⟩
set_option maxRecDepth 100000 in
theorem quiet_arr {o : Oper} {a : Act} {C : World → Prop} {K : Act → Prop} (x : Operand) (ho : o.op = .sliceToArrayPointer 52 x) (p : Option Addr) (c : Nat) (hx : a.eval x = .slice p 32 c) (hk : K (a.put o.dst (.pointer p))) : o.quiet Tryd.prog a C K := by
  refine ⟨.pointer p, fun w hw => ?_, hk⟩
  unfold Oper.quietAt execOp
  simp only [ho, hx, run_arrayAt 52 5 32 p 32 c Tryd.underlying52 (Nat.le_refl _), Sem.run_bind, Sem.run_pure, Result.andThen_ok]
  exact ⟨rfl, rfl⟩
theorem BlAt.mid {w : World} {g : Nat} {L : List B} (h : BlAt w g L) (A m : Nat) (hA : A + m ≤ 128) : w.rangeAt g A (brow ((L.drop A).take m)).toList := fun j v hv => by
  have hl := h.len
  have hj : j < m := by
    have := (List.getElem?_eq_some_iff.1 hv).1
    rw [Array.length_toList, size_brow, List.length_take] at this; omega
  rw [h.cell (j := A + j) (by omega)]
  simp only [brow, List.getElem?_map, List.getElem?_take, hj, if_true, List.getElem?_drop] at hv
  rw [List.getElem?_eq_getElem (by omega)] at hv
  rw [getD_lt (by omega)]
  simp at hv
  rw [← hv]; rfl

theorem entries48 (w : World) (x : List B) (hx : x.length = 128) (n : Int) :
    Calls Tryd.prog 48 #[.agg (brow x), .int .i64 n] w fun e w' => ∃ gn gb, e = .returned (.func (.func 64) #[] #[.pointer (some ⟨gn, 0, none⟩), .pointer (some ⟨gb, 0, none⟩)]) ∧ w'.heap[gn]? = some (.cells #[.int .i64 n] 3 (0, 0)) ∧ BlAt w' gb x ∧ w.heap.size ≤ gn ∧ w.heap.size ≤ gb ∧ Keeps (fun _ => False) w w' := by
  go_enter Tryd.func48, Tryd.ntmps48
  go_wp2_with (refine wpList_box26 rfl _ rfl x hx rfl ?_; intro g2 w1 b1 z1 k1)
  go_ret
  exact ⟨_, _, rfl, heap_alloc_new w1 _, b1.keep (keeps_alloc w1 _), by have := k1.size; omega, z1, k1.trans (keeps_alloc w1 _)⟩

theorem or_nb (x y : B) : bits .or .i64 (nb x * 256) (nb y) = nb x * 256 + nb y := by
  have hx := x.isLt
  have hy := y.isLt
  show IntKind.i64.wrap ((BitVec.ofInt 64 (nb x * 256) ||| BitVec.ofInt 64 (nb y)).toNat : Int) = _
  unfold nb
  have e1 : BitVec.ofInt 64 ((x.toNat : Int) * 256) = BitVec.ofNat 64 (2 ^ 8 * x.toNat) := by
    rw [show (x.toNat : Int) * 256 = ((2 ^ 8 * x.toNat : Nat) : Int) by omega, BitVec.ofInt_natCast]
  rw [e1, BitVec.ofInt_natCast, BitVec.toNat_or, BitVec.toNat_ofNat, BitVec.toNat_ofNat, Nat.mod_eq_of_lt (by omega), Nat.mod_eq_of_lt (by omega), ← Nat.two_pow_add_eq_or_of_lt (by omega)]
  rw [IntKind.wrap_i64]
  omega

def encE (e : En) : Array Value := #[.agg e.cells.toArray]
theorem entN_at (x : List B) {k i : Nat} (h : i < k) : (entN x k)[i]? = some (entAt x i) := by simp [entN, h]

/-- What the iterator has at hand. -/
structure ItE (x : List B) (n gn gb : Nat) (J : List En → World → Prop) (W : World) (pre : List En) (wr : World) : Prop where
  j : J pre wr
  num : wr.heap[gn]? = some (.cells #[.int .i64 (n : Int)] 3 (0, 0))
  blk : BlAt wr gb x
  size : W.heap.size ≤ wr.heap.size
theorem ItE.keep {x : List B} {n gn gb : Nat} {J : List En → World → Prop} {W wr w' : World} {pre : List En} (hJ : OwnFrom W.heap.size J) (h : ItE x n gn gb J W pre wr) (kp : Keeps (fun _ => False) wr w') : ItE x n gn gb J W pre w' :=
  ⟨hJ pre wr w' none h.j (grown_of_keeps kp) (fun r e => by cases e), kp.row h.num (fun h => h), h.blk.keep kp, Nat.le_trans h.size kp.size⟩

set_option maxRecDepth 100000 in
set_option maxHeartbeats 2000000 in
theorem ents64 (S : Nat → Prop) (w : World) (gn gb : Nat) (x : List B) (n : Nat) (hn3 : n ≤ 3) (hgn : w.heap[gn]? = some (.cells #[.int .i64 (n : Int)] 3 (0, 0))) (hgb : BlAt w gb x) (hS1 : ¬ S gn) (hS2 : ¬ S gb) :
    SeqO Tryd.prog 64 #[.pointer (some ⟨gn, 0, none⟩), .pointer (some ⟨gb, 0, none⟩)] encE (KpX S) (entN x n) w := by
  intro ly ny J Jx W hW hJ hJx hY h0
  have hwW : Keeps (fun _ => False) w W := ⟨hW.os, hW.tape, hW.output, hW.size, fun k hk _ => hW.block k hk⟩
  have hI : ItE x n gn gb J W [] W := ⟨h0, hwW.row hgn (fun h => h), hgb.keep hwW, Nat.le_refl _⟩
  have hx := hgb.len
  have Hx : Hid (x.length = 128) := hx
  have HJ : Hid (OwnFrom W.heap.size J) := hJ
  have cg : W.cell? ⟨gn, 0, none⟩ = some (.int .i64 (n : Int)) := by simp [World.cell?, hI.num]
  clear hgn hgb hwW h0 hJ hJx hx
  refine callsIn_of_wp Tryd.func64 rfl trivial ?_ rfl
  simp only [Tryd.ntmps64, List.size_toArray, List.length_cons, List.length_nil, Nat.reduceAdd, Nat.reduceSub, Array.replicate_succ, Array.replicate_zero, List.push_toArray, List.append_toArray, List.nil_append, List.cons_append]
  gi_wp2
  clear cg
  gi_loopw [9] (fun t wr => ∃ i : Nat, i ≤ n ∧ t = .int .i64 (i : Int) ∧ ItE x n gn gb J W ((entN x n).take i) wr) (fun t _ => n - (intOf t).toNat)
  case atStart => exact ⟨0, by omega, rfl, hI⟩
  case round =>
    clear hI
    obtain ⟨i, hi, rfl, hR⟩ := hrel
    by_cases hlt : i < n
    · have hlt' : (i : Int) < (n : Int) := by omega
      have hi0 : (0 : Int) ≤ (i : Int) := by omega
      have hi3 : (i : Int) ≤ 3 := by omega
      have hat := entN_at x (k := n) (i := i) hlt
      have HX : Hid (entN x n = (entN x n).take i ++ entAt x i :: (entN x n).drop (i + 1)) := split_at hat
      have HN : Hid ((entN x n).take (i + 1) = (entN x n).take i ++ [entAt x i]) := take_snocL hat
      have hY1 : Hid (∀ w1, J ((entN x n).take i) w1 → _) := fun w1 hj1 => hY _ _ _ w1 HX.out hj1
      clear hY hat
      obtain ⟨A, hA⟩ : ∃ A, 2 + 36 * i = A := ⟨_, rfl⟩
      have hAi : 2 + (i : Int) * 36 = (A : Int) := by omega
      have hA74 : A ≤ 74 := by omega
      have HE : Hid (entAt x i = ⟨(x.drop A).take 32, nb (x.getD (A + 32) 0), nb (x.getD (A + 33) 0), nb (x.getD (A + 34) 0) * 256 + nb (x.getD (A + 35) 0)⟩) := by show _ = _; unfold entAt; rw [hA]
      have hA0 : (0 : Int) ≤ (A : Int) := by omega
      have hA1 : (A : Int) ≤ 128 := by omega
      have hA2 : (36 : Int) ≤ ((128 - A : Nat) : Int) := by omega
      clear hA
      have hA3 : (32 : Int) ≤ ((128 - A : Nat) : Int) := by omega
      obtain ⟨Y, hY⟩ : ∃ Y, (x.drop A).take 32 = Y := ⟨_, rfl⟩
      have lY : Y.length = 32 := by rw [← hY, List.length_take, List.length_drop, Hx.out]; omega
      have hey : ∀ w', BlAt w' gb x → w'.rangeAt gb A (brow Y).toList := fun w' h => by rw [← hY]; exact h.mid A 32 (by omega)
      rw [hY] at HE
      have c32 : ∀ d os, (grow (redrawn wr d) os).cell? ⟨gb, A + 32, none⟩ = some (.int .u8 (nb (x.getD (A + 32) 0))) := fun d os => (hR.blk.cls ⟨⟨d, os⟩, rfl⟩).cell (by omega)
      have c33 : ∀ d os, (grow (redrawn wr d) os).cell? ⟨gb, A + 32 + 1, none⟩ = some (.int .u8 (nb (x.getD (A + 33) 0))) := fun d os => (hR.blk.cls ⟨⟨d, os⟩, rfl⟩).cell (j := A + 33) (by omega)
      have c34 : ∀ d os, (grow (redrawn wr d) os).cell? ⟨gb, A + 32 + 2, none⟩ = some (.int .u8 (nb (x.getD (A + 34) 0))) := fun d os => (hR.blk.cls ⟨⟨d, os⟩, rfl⟩).cell (j := A + 34) (by omega)
      have c35 : ∀ d os, (grow (redrawn wr d) os).cell? ⟨gb, A + 32 + 3, none⟩ = some (.int .u8 (nb (x.getD (A + 35) 0))) := fun d os => (hR.blk.cls ⟨⟨d, os⟩, rfl⟩).cell (j := A + 35) (by omega)
      have hbl : ∀ d os, BlAt (grow (redrawn wr d) os) gb x := fun d os => hR.blk.cls ⟨⟨d, os⟩, rfl⟩
      have hor := or_nb (x.getD (A + 34) 0) (x.getD (A + 35) 0)
      have n32 := nb_lt (x.getD (A + 32) 0)
      have n33 := nb_lt (x.getD (A + 33) 0)
      have n34 := nb_lt (x.getD (A + 34) 0)
      have n35 := nb_lt (x.getD (A + 35) 0)
      generalize x.getD (A + 32) 0 = y1 at *
      generalize x.getD (A + 33) 0 = y2 at *
      generalize x.getD (A + 34) 0 = y3 at *
      generalize x.getD (A + 35) 0 = y4 at *
      clear hY
      gi_wp2
      refine region_plan_in (S := fun w' => ∃ p : Regrown, w' = grow (redrawn wr p.d) p.os) [([0, 1, 2, 3, 4, 5, 6, 7, 8, 9, 10, 11, 12, 13, 14, 15, 16, 17, 18, 19, 20, 21, 22], 23), ([], 24)] [] (sem_wide _) (by kernel_rfl) (by kernel_rfl) (by kernel_rfl) (by kernel_rfl) (cls_keeps ((Keeps.refl _ _).drew)) ?_
      simp only [wpPlanIn, opsAt, pick]
      repeat (first
        | (go_big_quiet_want; refine quiet_arr _ rfl _ _ rfl ?_; simp only [Act.put, List.setIfInBounds_toArray, List.set_cons_zero, List.set_cons_succ]; go_big_quiet_on)
        | (go_big_quiet_want; refine quiet_row_at _ _ rfl gb A rfl (brow Y) (by rintro _ ⟨p, rfl⟩; exact hey _ (hbl _ _)) Tryd.underlying52 rfl (by rw [size_brow, lY]; exact sizeKey) ?_; simp only [Act.put, List.setIfInBounds_toArray, List.set_cons_zero, List.set_cons_succ]; go_big_quiet_on)
        | (go_big_quiet_want; refine quiet_build54 _ _ _ _ rfl Y lY (nb y1) (nb y2) (nb y3 * 256 + nb y4) rfl rfl rfl rfl ?_; simp only [Act.put, List.setIfInBounds_toArray, List.set_cons_zero, List.set_cons_succ]; go_big_quiet_on)
        | go_big_quiet_step (fail))
      refine wpQuiet_nil ?_
      gi_wp2_with (refine in_wide (fun _ h => by cases h) ?_; refine wpList_alloc46 rfl rfl ?_; intro g7 w3 r3 z7 k3; refine OnlyN.go ?_)
      have kd : Keeps (fun _ => False) wr wr.drew := (Keeps.refl _ _).drew
      have K3 := kd.trans k3
      have z7' : wr.heap.size ≤ g7 := z7
      refine ⟨cls_keeps K3, ?_⟩
      simp only [wpPlanIn, opsAt, pick]
      refine wpQuiet_nil ?_
      obtain ⟨e, hee⟩ : ∃ e, entAt x i = e := ⟨_, rfl⟩
      have hE2 : En.mk Y (nb y1) (nb y2) (nb y3 * 256 + nb y4) = e := by rw [← hee]; exact HE.out.symm
      rw [hee] at HX HN hY1
      have le : e.key.length = 32 := by rw [← hE2]; exact lY
      gi_wp2_with (refine in_wide (fun _ h => by cases h) ?_; refine wpList_store46 rfl _ _ rfl g7 rfl e (by rw [← hE2]; rfl) le _ r3 ?_; intro w4 r4 k4; refine OnlyN.go ?_)
      have K4 : Keeps (fun _ => False) wr w4 := K3.trans' k4 (fun i e => .inr (by omega))
      refine ⟨cls_keeps K4, ?_⟩
      simp only [wpPlanIn, opsAt, pick]
      refine wpQuiet_nil ?_
      refine NoPanic.normal ?_
      have R4 := hR.keep HJ.out K4
      have Hc : Hid (encE e = #[.agg e.cells.toArray]) := rfl
      obtain ⟨fn, tmps, assign, body, hy, hRd⟩ := hY1.out _ R4.j
      rw [Hc.out] at hy
      clear hE2 hee r3 k3 c32 c33 c34 c35 hbl hor n32 n33 n34 n35 hey
      gi_wp2_with (refine in_wide (fun _ h => by cases h) ?_; refine wpList_load46 rfl _ rfl g7 0 rfl e r4.at_ ?_; refine OnlyN.go ?_)
      refine ⟨fun h => by (cases h), hRd.mono ?_⟩
      rintro ed W3 ⟨hkf3, (⟨rfl, hJ3, hk3⟩ | ⟨rfl, hJx3⟩)⟩
      · have hN3 := hk3.2 gn _ _ _ R4.num hS1
        have hB3 : BlAt W3 gb x := ⟨hk3.2 gb _ _ _ R4.blk.row hS2, R4.blk.len⟩
        have hs3 : W.heap.size ≤ W3.heap.size := by have := hk3.1; have := R4.size; omega
        gi_wp2
        exact ⟨⟨i + 1, by omega, rfl, by rw [HN.out]; exact ⟨hJ3, hN3, hB3, hs3⟩⟩, by simp [intOf]; omega⟩
      · gi_wp2
        refine bodyPost_ret (results_none rfl _ _ _) rfl ?_
        exact ⟨⟨_, rfl⟩, .inr ⟨_, _, _, HX.out, hJx3⟩⟩
    · obtain rfl : i = n := by omega
      have hlt' : ¬ (i : Int) < (i : Int) := by omega
      have hT : (entN x i).take i = entN x i := List.take_of_length_le (by rw [entN_len]; omega)
      rw [hT] at hR
      clear hT
      gi_wp2
      go_end0
      exact ⟨⟨_, rfl⟩, .inl hR.j⟩

end Go.Proofs.YthngaegfppbdmaaDoor
