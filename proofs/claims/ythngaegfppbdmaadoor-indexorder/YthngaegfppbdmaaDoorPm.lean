/-
  wakes of the leaf's laws: the walk.
-/
import Derived.Test.YthngaegfppbdmaaDoorPl
set_option linter.all false
namespace Go.Proofs.YthngaegfppbdmaaDoor
open Go.RowKit Go.Sort Go.Shelf
attribute [local go_sem] Oper.semAt_some

theorem decP_is {x : List B} {l : List En} (h : isLf x = true) (hl : ents x = l) (w : World) (hT : Tabs w) (hx : x.length = 128) :
    Calls Tryd.prog 17 #[.agg (brow x)] w fun e w' => (∃ a c, e = .returned (.tuple #[.slice a l.length c, .int .i64 0]) ∧ SlE w' a l.length c l) ∧ Keeps (fun _ => False) w w' :=
  (decP w hT x hx).mono fun e w' ⟨hd, hk⟩ => by
    cases hd with
    | ok _ a c he hs => exact ⟨⟨a, c, by rw [he, hl], by rw [← hl]; exact hs⟩, hk⟩
    | no h' _ => rw [h] at h'; cases h'
theorem decP_not {x : List B} (h : isLf x = false) (w : World) (hT : Tabs w) (hx : x.length = 128) :
    Calls Tryd.prog 17 #[.agg (brow x)] w fun e w' => e = .returned (.tuple #[.slice none 0 0, .int .i64 11]) ∧ Keeps (fun _ => False) w w' :=
  (decP w hT x hx).mono fun e w' ⟨hd, hk⟩ => by
    cases hd with
    | ok h' _ _ _ _ => rw [h] at h'; cases h'
    | no _ he => exact ⟨he, hk⟩
theorem leavesP_is {x : List B} {l : List Int} (h : isRt x = true) (hl : plcs x = l) (w : World) (hT : Tabs w) (hx : x.length = 128) :
    Calls Tryd.prog 21 #[.agg (brow x)] w fun e w' => (∃ a c, e = .returned (.tuple #[.slice a l.length c, .int .i64 0]) ∧ SlI w' a l.length c l) ∧ Keeps (fun _ => False) w w' :=
  (leavesP w hT x hx).mono fun e w' ⟨hd, hk⟩ => by
    cases hd with
    | ok _ a c he hs => exact ⟨⟨a, c, by rw [he, hl], by rw [← hl]; exact hs⟩, hk⟩
    | no h' _ => rw [h] at h'; cases h'
theorem leavesP_not {x : List B} (h : isRt x = false) (w : World) (hT : Tabs w) (hx : x.length = 128) :
    Calls Tryd.prog 21 #[.agg (brow x)] w fun e w' => e = .returned (.tuple #[.slice none 0 0, .int .i64 11]) ∧ Keeps (fun _ => False) w w' :=
  (leavesP w hT x hx).mono fun e w' ⟨hd, hk⟩ => by
    cases hd with
    | ok h' _ _ _ _ => rw [h] at h'; cases h'
    | no _ he => exact ⟨he, hk⟩
theorem entries_at {l m : List En} {v : Bool} (h : Hid (decide (l = m) = v)) (w : World) (a1 a2 : Option Addr) (n1 c1 n2 c2 : Nat) (h1 : SlE w a1 n1 c1 l) (h2 : SlE w a2 n2 c2 m) (hn : n1 ≤ 9223372036854775807) :
    Calls Tryd.prog 25 #[.slice a1 n1 c1, .slice a2 n2 c2] w fun e w' => e = .returned (.bool v) ∧ Keeps (fun _ => False) w w' := by
  rw [← h.out]; exact entries10 w a1 a2 n1 c1 n2 c2 l m h1 h2 hn
theorem ints_at {l m : List Int} {v : Bool} (h : Hid (decide (l = m) = v)) (w : World) (a1 a2 : Option Addr) (n1 c1 n2 c2 : Nat) (h1 : SlI w a1 n1 c1 l) (h2 : SlI w a2 n2 c2 m) (hn : n1 ≤ 9223372036854775807) :
    Calls Tryd.prog 26 #[.slice a1 n1 c1, .slice a2 n2 c2] w fun e w' => e = .returned (.bool v) ∧ Keeps (fun _ => False) w w' := by
  rw [← h.out]; exact ints12 w a1 a2 n1 c1 n2 c2 l m h1 h2 hn
theorem run_buildI2 (x y : Int) (w : World) : (Instr.buildSlice 23 2 #[(0, .int .i64 x), (1, .int .i64 y)]).run Tryd.prog w = .ok (.slice (some ⟨w.heap.size, 0, none⟩) 2 2) (w.alloc (.cells #[.int .i64 x, .int .i64 y] 3)) := by kernel_rfl
theorem wpList_buildI2 {ops : Array Oper} {rest : List Oper} {o : Oper} {a : Act} {w : World} {Q : Exit → Act → World → Prop} (hgd : Region.wanted o (yielded ops a.tmps) = true) (x y : Operand) (ho : o.op = .buildSlice 23 2 #[(0, x), (1, y)]) (p q : Int) (hx : a.eval x = .int .i64 p) (hy : a.eval y = .int .i64 q)
    (h : ∀ g w', SlI w' (some ⟨g, 0, none⟩) 2 2 [p, q] → w.heap.size ≤ g → Keeps (fun _ => False) w w' → wpList Tryd.prog ops Q rest (a.put o.dst (.slice (some ⟨g, 0, none⟩) 2 2)) w') : wpList Tryd.prog ops Q (o :: rest) a w := by
  unfold wpList
  rw [if_pos hgd]
  left
  unfold Oper.wp execOp
  simp only [ho, hx, hy, List.map_toArray, List.map_cons, List.map_nil, run_buildI2, Sem.run_bind, Result.andThen_ok, Sem.run_pure]
  refine h w.heap.size _ ⟨rfl, Nat.le_refl _, fun j v hv => ⟨w.heap.size, 0, rfl, ?_⟩⟩ (Nat.le_refl _) (keeps_alloc w _)
  rw [cell_of_row _ _ _ _ _ _ (heap_alloc_new w _), Nat.zero_add]
  match j, hv with
  | 0, hv => cases hv; rfl
  | 1, hv => cases hv; rfl
  | j + 2, hv => simp at hv
theorem wpList_bK {ops : Array Oper} {rest : List Oper} {o : Oper} {a : Act} {w : World} {Q : Exit → Act → World → Prop} (hgd : o.guard = none) (x : Operand) (ho : o.op = .build 52 #[(0, x)]) (v : Int) (K : List B) (hx : a.eval x = .int .u8 v) (hr : ∀ w, (Instr.build 52 #[(0, .int .u8 v)]).run Tryd.prog w = .ok (.agg (brow K)) w)
    (h : wpList Tryd.prog ops Q rest (a.put o.dst (.agg (brow K))) w) : wpList Tryd.prog ops Q (o :: rest) a w := by
  refine wpList_plain hgd fun K' hK => ?_
  unfold Oper.wp execOp
  simp only [ho, hx, List.map_toArray, List.map_cons, List.map_nil, hr, Sem.run_bind, Result.andThen_ok, Sem.run_pure]
  exact hK _ _ h
theorem wpList_b54 {ops : Array Oper} {rest : List Oper} {o : Oper} {a : Act} {w : World} {Q : Exit → Act → World → Prop} (hgd : o.guard = none) (k x y z : Operand) (ho : o.op = .build 54 #[(0, k), (1, x), (2, y), (3, z)]) (K : List B) (p b r : Int) (e : En) (hk : a.eval k = .agg (brow K)) (hx : a.eval x = .int .i64 p) (hy : a.eval y = .int .i64 b) (hz : a.eval z = .int .i64 r)
    (hr : ∀ w, (Instr.build 54 #[(0, .agg (brow K)), (1, .int .i64 p), (2, .int .i64 b), (3, .int .i64 r)]).run Tryd.prog w = .ok (.agg e.cells.toArray) w)
    (h : wpList Tryd.prog ops Q rest (a.put o.dst (.agg e.cells.toArray)) w) : wpList Tryd.prog ops Q (o :: rest) a w := by
  refine wpList_plain hgd fun K' hK => ?_
  unfold Oper.wp execOp
  simp only [ho, hk, hx, hy, hz, List.map_toArray, List.map_cons, List.map_nil, hr, Sem.run_bind, Result.andThen_ok, Sem.run_pure]
  exact hK _ _ h
theorem wpList_b54c {ops : Array Oper} {rest : List Oper} {o : Oper} {a : Act} {w : World} {Q : Exit → Act → World → Prop} (hgd : o.guard = none) (k x y : Operand) (ho : o.op = .build 54 #[(0, k), (1, x), (2, y)]) (K : List B) (p b : Int) (e : En) (hk : a.eval k = .agg (brow K)) (hx : a.eval x = .int .i64 p) (hy : a.eval y = .int .i64 b)
    (hr : ∀ w, (Instr.build 54 #[(0, .agg (brow K)), (1, .int .i64 p), (2, .int .i64 b)]).run Tryd.prog w = .ok (.agg e.cells.toArray) w)
    (h : wpList Tryd.prog ops Q rest (a.put o.dst (.agg e.cells.toArray)) w) : wpList Tryd.prog ops Q (o :: rest) a w := by
  refine wpList_plain hgd fun K' hK => ?_
  unfold Oper.wp execOp
  simp only [ho, hk, hx, hy, List.map_toArray, List.map_cons, List.map_nil, hr, Sem.run_bind, Result.andThen_ok, Sem.run_pure]
  exact hK _ _ h
theorem results_tmp {fn : Func} {p : Tmp} (h : fn.results = #[.tmp p]) (tmps : Array Value) (P : Program) (w : World) : (results fn tmps).run P w = .ok (tmps.getD p undef) w := by
  simp [results, h]
theorem BlAt.byte {w : World} {g : Nat} {L : List B} (h : BlAt w g L) {j : Nat} (hj : j < 128) {x : B} (hx : L.getD j 0 = x) : w.cell? ⟨g, j, none⟩ = some (.int .u8 (nb x)) := by rw [h.cell hj, hx]

set_option maxRecDepth 100000 in
set_option maxHeartbeats 4000000 in
theorem wakes14 (w : World) (hT : Tabs w) : Calls Tryd.prog 14 #[] w fun e w' => e = .returned (.bool true) ∧ Keeps (fun _ => False) w w' := by
  have R0 : Hid (∀ w, (Instr.build 54 #[(0, .agg (brow (1#8 :: zb 31))), (1, .int .i64 9), (2, .int .i64 2), (3, .int .i64 258)]).run Tryd.prog w = .ok (.agg w0.cells.toArray) w) := buildW0
  have R1 : Hid (∀ w, (Instr.build 54 #[(0, .agg (brow (2#8 :: zb 31))), (1, .int .i64 5), (2, .int .i64 1)]).run Tryd.prog w = .ok (.agg w1.cells.toArray) w) := buildW1
  have RK1 : Hid (∀ w, (Instr.build 52 #[(0, .int .u8 1)]).run Tryd.prog w = .ok (.agg (brow (1#8 :: zb 31))) w) := buildK1
  have RK2 : Hid (∀ w, (Instr.build 52 #[(0, .int .u8 2)]).run Tryd.prog w = .ok (.agg (brow (2#8 :: zb 31))) w) := buildK2
  have l0 : w0.key.length = 32 := by decide
  have l1 : w1.key.length = 32 := by decide
  have HE0 : Hid (encR [w0, w1] = (lf [w0, w1], 0)) := by show _ = _; unfold encR; rw [gd_w]; rfl
  have HE1 : Hid (encR [w1, w0] = (zb 128, 11)) := by show _ = _; unfold encR; rw [gd_w']; rfl
  have HR : Hid (rootR [7, 3] = (rt [7, 3], 0)) := by show _ = _; unfold rootR; rw [okR_w]; rfl
  have HI : Hid (isLf (lf [w0, w1]) = true) := isLf_lf keyed_w gd_w
  have HN : Hid (ents (lf [w0, w1]) = [w0, w1]) := ents_lf keyed_w gd_w
  have HJ : Hid (isRt (rt [7, 3]) = true) := isRt_rt okR_w
  have HP : Hid (plcs (rt [7, 3]) = [7, 3]) := plcs_rt okR_w
  have HG : Hid (gd [w0, w1] = true) := gd_w
  have lF : (lf [w0, w1]).length = 128 := lf_len keyed_w (by simp)
  have lR : (rt [7, 3]).length = 128 := rt_len (by simp)
  have B0 : Hid ((lf [w0, w1]).getD 0 0 = 76#8) := (lf_0 _).trans (by decide)
  have B1 : Hid ((lf [w0, w1]).getD 1 0 = 2#8) := (lf_1 _).trans (by decide)
  have B2 : Hid ((lf [w0, w1]).getD 2 0 = 1#8) := lf_w2
  have B34 : Hid ((lf [w0, w1]).getD 34 0 = 9#8) := lf_w34
  have B35 : Hid ((lf [w0, w1]).getD 35 0 = 2#8) := lf_w35
  have B36 : Hid ((lf [w0, w1]).getD 36 0 = 1#8) := lf_w36
  have B37 : Hid ((lf [w0, w1]).getD 37 0 = 2#8) := lf_w37
  have C0 : Hid ((rt [7, 3]).getD 0 0 = 82#8) := (rt_0 _).trans (by decide)
  have C2 : Hid ((rt [7, 3]).getD 2 0 = 7#8) := rt_w2
  generalize lf [w0, w1] = LF at *
  generalize rt [7, 3] = RF at *
  generalize w0 = E0 at *
  generalize Go.Proofs.YthngaegfppbdmaaDoor.w1 = E1 at *
  generalize (1#8 :: zb 31) = KA at *
  generalize (2#8 :: zb 31) = KB at *
  refine (callsIn_wide (n := 9)).1 ?_
  refine callsIn_of_wp Tryd.func14 rfl trivial ?_ rfl
  simp only [Tryd.ntmps14, List.size_toArray, List.length_cons, List.length_nil, Nat.reduceAdd, Nat.reduceSub, Array.replicate_succ, Array.replicate_zero, List.push_toArray, List.append_toArray, List.nil_append, List.cons_append]
  gi_wp2_with (first
    | (refine in_wide (fun _ h => by cases h) ?_; refine wpList_bK rfl _ rfl 1 KA rfl RK1.out ?_; refine OnlyN.go ?_)
    | (refine in_wide (fun _ h => by cases h) ?_; refine wpList_bK rfl _ rfl 2 KB rfl RK2.out ?_; refine OnlyN.go ?_)
    | (refine in_wide (fun _ h => by cases h) ?_; refine wpList_b54 rfl _ _ _ _ rfl KA 9 2 258 E0 rfl rfl rfl rfl R0.out ?_; refine OnlyN.go ?_)
    | (refine in_wide (fun _ h => by cases h) ?_; refine wpList_b54c rfl _ _ _ rfl KB 5 1 E1 rfl rfl rfl R1.out ?_; refine OnlyN.go ?_)
    | (refine in_wide (fun _ h => by cases h) ?_; refine wpList_build2E rfl _ _ rfl E0 E1 rfl rfl l0 l1 ?_; intro gA w1 b1 z1 k1; refine OnlyN.go ?_)
    | (refine ⟨trivial, ?_⟩; gi_at_call 15; refine (callsIn_wide.2 (encP_at HE0.out _ (hT.keeps k1 (fun h => h) (fun h => h)) _ 2 2 b1.sl)).mono ?_; rintro e w2 ⟨rfl, k2⟩; have b2 := b1.keep k2; have K2 := k1.trans k2)
    | (refine in_wide (fun _ h => by cases h) ?_; refine wpList_alloc26 rfl rfl ?_; have := K6; intro g6 w8 f8 z8 k8; refine OnlyN.go ?_; have b8 := b7.keep k8; have F8 := F7.keep k8; have s8 := s7.keep k8; have K8 := K7.trans k8)
    | (refine in_wide (fun _ h => by cases h) ?_; refine wpList_alloc26 rfl rfl ?_; intro g2 w3 f3 z3 k3; refine OnlyN.go ?_; have b3 := b2.keep k3; have K3 := K2.trans k3)
    | (refine in_wide (fun _ h => by cases h) ?_; refine wpList_store26 rfl _ _ rfl g2 rfl LF rfl lF _ f3 ?_; intro w4 f4 k4; refine OnlyN.go ?_; have K4 : Keeps (fun _ => False) w w4 := K3.trans' k4 (fun i e => .inr (by have := K2.size; omega)); have b4 := b3.keeps k4 (by have := b2.lt; omega))
    | (refine in_wide (fun _ h => by cases h) ?_; refine wpList_store26 rfl _ _ rfl g6 rfl RF rfl lR _ f8 ?_; intro w9 f9 k9; refine OnlyN.go ?_; have K9 : Keeps (fun _ => False) w w9 := K8.trans' k9 (fun i e => .inr (by have := K7.size; omega)); have b9 := b8.keeps k9 (by have := b7.lt; omega); have F9 := F8.keeps k9 (by have := F7.lt; omega); have s9 := s8.keeps k9 (fun h0 b o e => by have := Hs.out h0 b o e; have := k6.size; have := k7.size; omega))
    | (refine in_wide (fun _ h => by cases h) ?_; refine wpList_load26 rfl _ rfl g2 rfl LF f4 ?_; refine OnlyN.go ?_)
    | (refine in_wide (fun _ h => by cases h) ?_; refine wpList_load26 rfl _ rfl g6 rfl RF f9 ?_; refine OnlyN.go ?_)
    | (refine ⟨trivial, ?_⟩; gi_at_call 17; refine (callsIn_wide.2 (decP_is HI.out HN.out _ (hT.keeps K4 (fun h => h) (fun h => h)) lF)).mono ?_; rintro e w5 ⟨⟨a5, c5, rfl, s5⟩, k5⟩; have b5 := b4.keep k5; have F5 := f4.keep k5; have K5 := K4.trans k5; have Hs : Hid (0 < 2 → ∀ b o, a5 = some ⟨b, o, none⟩ → b < w5.heap.size) := (fun h0 b o e => by obtain ⟨b', o', e', hE⟩ := s5.ent (i := 0) (by simp); rw [e] at e'; cases e'; exact slb_lt hE.slb (by omega) rfl))
    | (refine in_wide (fun _ h => by cases h) ?_; refine wpList_buildI2 rfl _ _ rfl 7 3 rfl rfl ?_; intro gI w6 i6 z6 k6; refine OnlyN.go ?_; have b6 := b5.keep k6; have F6 := F5.keep k6; have s6 := s5.keep k6; have K6 := K5.trans k6)
    | (refine ⟨trivial, ?_⟩; gi_at_call 19; refine (callsIn_wide.2 (rootP_at HR.out _ (hT.keeps K6 (fun h => h) (fun h => h)) _ 2 2 i6)).mono ?_; rintro e w7 ⟨rfl, k7⟩; have b7 := b6.keep k7; have F7 := F6.keep k7; have s7 := s6.keep k7; have K7 := K6.trans k7)
    | (refine ⟨trivial, ?_⟩; gi_at_call 21; refine (callsIn_wide.2 (leavesP_is HJ.out HP.out _ (hT.keeps K9 (fun h => h) (fun h => h)) lR)).mono ?_; rintro e w10 ⟨⟨a10, c10, rfl, s10⟩, k10⟩))
  have b10 := b9.keep k10
  have F10 := F9.keep k10
  have G10 := f9.keep k10
  have S10 := s9.keep k10
  have K10 := K9.trans k10
  have hT10 := hT.keeps K10 (fun h => h) (fun h => h)
  clear b1 k1 b2 K2 f3 b3 K3 f4 k4 K4 b4 s5 k5 b5 F5 K5 Hs i6 b6 F6 s6 K6 b7 F7 s7 K7 f8 b8 F8 s8 K8 f9 k9 K9 b9 F9 s9 k10 k2 k3 k6 k7 k8 hT
  have kd : Keeps (fun _ => False) w10 w10.drew := (Keeps.refl _ _).drew
  refine region_tree_in (S := fun w' => ∃ p : Regrown, w' = grow (redrawn w10 p.d) p.os) (.two [0, 1, 2, 3, 4, 5] 6 (.two [] 7 (.one [8, 9, 10] 11 (.one [] 12 (.last [13]))) 11 (.one [] 7 (.one [8, 9, 10] 12 (.last [13])))) 11 (.one [] 6 (.one [] 7 (.one [8, 9, 10] 12 (.last [13]))))) (sem_wide _) (by kernel_rfl) (by kernel_rfl) (by kernel_rfl) (by kernel_rfl) (cls_keeps kd) ?_
  simp only [wpTreeIn, opsAt, pick]
  repeat (first
    | (go_big_quiet_want; refine quiet_load46 _ rfl gA 35 rfl E1 (fun w' hp => b10.second.cls hp) ?_; simp only [Act.put, List.setIfInBounds_toArray, List.set_cons_zero, List.set_cons_succ]; go_big_quiet_on)
    | (go_big_quiet_want; refine quiet_load46 _ rfl gA 0 rfl E0 (fun w' hp => b10.first.cls hp) ?_; simp only [Act.put, List.setIfInBounds_toArray, List.set_cons_zero, List.set_cons_succ]; go_big_quiet_on)
    | go_big_quiet_step (fail))
  refine wpQuiet_nil ⟨?_, ?_⟩
  · gi_wp2_with (refine in_wide (fun _ h => by cases h) ?_; refine wpList_build2E rfl _ _ rfl E1 E0 rfl rfl l1 l0 ?_; intro gB wB bB zB kB; refine OnlyN.go ?_)
    have KB := kd.trans kB
    refine ⟨cls_keeps KB, ?_⟩
    simp only [wpTreeIn, opsAt, pick]
    repeat (go_big_quiet_step (fail))
    refine wpQuiet_nil ⟨?_, ?_⟩
    · gi_wp2_with (refine ⟨trivial, ?_⟩; gi_at_call 15; refine (callsIn_wide.2 (encP_at HE1.out _ (hT10.keeps KB (fun h => h) (fun h => h)) _ 2 2 bB.sl)).mono ?_; rintro e wC ⟨rfl, kC⟩)
      have KC := KB.trans kC
      refine ⟨cls_keeps KC, ?_⟩
      simp only [wpTreeIn, opsAt, pick]
      repeat (go_big_quiet_step (fail))
      refine wpQuiet_nil ?_
      gi_wp2_with (refine in_wide (fun _ h => by cases h) ?_; refine wpList_alloc26 rfl rfl ?_; intro gD wD fD zD kD; refine OnlyN.go ?_)
      have KD := KC.trans kD
      refine ⟨cls_keeps KD, ?_⟩
      simp only [wpTreeIn, opsAt, pick]
      repeat (go_big_quiet_step (fail))
      refine wpQuiet_nil ?_
      gi_wp2_with (refine in_wide (fun _ h => by cases h) ?_; refine wpList_store26 rfl _ _ rfl gD rfl (zb 128) rfl (zb_len _) _ fD ?_; intro w7' fE kE; refine OnlyN.go ?_)
      have zE : w10.heap.size ≤ gD := by have : w10.drew.heap.size = w10.heap.size := rfl; have := KC.size; omega
      have KW : Keeps (fun _ => False) w10 w7' := KD.trans' kE (fun i e => .inr (by omega))
      refine ⟨cls_keeps KW, ?_⟩
      simp only [wpTreeIn, opsAt, pick]
      repeat (go_big_quiet_step (fail))
      refine wpQuiet_nil ?_
      refine NoPanic.normal ?_
      have F7 := F10.keep KW
      have G7 := G10.keep KW
      have S7 := S10.keep KW
      have s7 := s10.keep KW
      have A7 := b10.keep KW
      have c0 : w7'.cell? ⟨g2, 0, none⟩ = some (.int .u8 76) := F7.byte (by omega) B0.out
      have c1 : w7'.cell? ⟨g2, 1, none⟩ = some (.int .u8 2) := F7.byte (by omega) B1.out
      have c2 : w7'.cell? ⟨g2, 2, none⟩ = some (.int .u8 1) := F7.byte (by omega) B2.out
      have c34 : w7'.cell? ⟨g2, 34, none⟩ = some (.int .u8 9) := F7.byte (by omega) B34.out
      have c35 : w7'.cell? ⟨g2, 35, none⟩ = some (.int .u8 2) := F7.byte (by omega) B35.out
      have c36 : w7'.cell? ⟨g2, 36, none⟩ = some (.int .u8 1) := F7.byte (by omega) B36.out
      have c37 : w7'.cell? ⟨g2, 37, none⟩ = some (.int .u8 2) := F7.byte (by omega) B37.out
      have HD1 : Hid (decide ([E0, E1] = [E0, E1]) = true) := decide_eq_true rfl
      clear F7
      gi_wp2_with (first
        | (refine ⟨trivial, ?_⟩; gi_at_call 25; refine (callsIn_wide.2 (entries_at HD1 _ _ _ _ _ _ _ S7 A7.sl (by simp))).mono ?_; rintro e wF ⟨rfl, kF⟩; have GF := G7.keep kF; have e0 : wF.cell? ⟨g6, 0, none⟩ = some (.int .u8 82) := GF.byte (by omega) C0.out; have e2 : wF.cell? ⟨g6, 2, none⟩ = some (.int .u8 7) := GF.byte (by omega) C2.out)
        | (refine in_wide (fun _ h => by cases h) ?_; refine wpList_buildI2 rfl _ _ rfl 7 3 rfl rfl ?_; intro gJ wG iG zG kG; refine OnlyN.go ?_; have KG := kF.trans kG)
        | (refine ⟨trivial, ?_⟩; gi_at_call 26; refine (callsIn_wide.2 (ints_at (l := [7, 3]) (m := [7, 3]) (v := true) (decide_eq_true rfl) _ _ _ _ _ _ _ (s7.keep KG) iG (by simp))).mono ?_; rintro e wH ⟨rfl, kH⟩; have KH := KG.trans kH)
        | (refine ⟨trivial, ?_⟩; gi_at_call 23; refine (callsIn_wide.2 (good23_at HG.out _ _ 2 2 (A7.keep KH).sl)).mono ?_; rintro e wI ⟨rfl, kI⟩))
      refine bodyPost_ret (results_tmp (p := 0) rfl _ _ _) rfl ?_
      exact ⟨rfl, ((K10.trans KW).trans KH).trans kI⟩
    · gi_wp2_with (refine in_wide (fun _ h => by cases h) ?_; refine wpList_alloc26 rfl rfl ?_; intro gD wD fD zD kD; refine OnlyN.go ?_)
      have KD := KB.trans kD
      refine ⟨cls_keeps KD, ?_⟩
      simp only [wpTreeIn, opsAt, pick]
      repeat (go_big_quiet_step (fail))
      refine wpQuiet_nil ?_
      gi_wp2_with (refine ⟨trivial, ?_⟩; gi_at_call 15; refine (callsIn_wide.2 (encP_at HE1.out _ (hT10.keeps KD (fun h => h) (fun h => h)) _ 2 2 (bB.keep kD).sl)).mono ?_; rintro e wC ⟨rfl, kC⟩)
      have KC := KD.trans kC
      refine ⟨cls_keeps KC, ?_⟩
      simp only [wpTreeIn, opsAt, pick]
      repeat (go_big_quiet_step (fail))
      refine wpQuiet_nil ?_
      gi_wp2_with (refine in_wide (fun _ h => by cases h) ?_; refine wpList_store26 rfl _ _ rfl gD rfl (zb 128) rfl (zb_len _) _ (fD.keep kC) ?_; intro w7' fE kE; refine OnlyN.go ?_)
      have zE : w10.heap.size ≤ gD := by have : w10.drew.heap.size = w10.heap.size := rfl; have := KB.size; omega
      have KW : Keeps (fun _ => False) w10 w7' := KC.trans' kE (fun i e => .inr (by omega))
      refine ⟨cls_keeps KW, ?_⟩
      simp only [wpTreeIn, opsAt, pick]
      repeat (go_big_quiet_step (fail))
      refine wpQuiet_nil ?_
      refine NoPanic.normal ?_
      have F7 := F10.keep KW
      have G7 := G10.keep KW
      have S7 := S10.keep KW
      have s7 := s10.keep KW
      have A7 := b10.keep KW
      have c0 : w7'.cell? ⟨g2, 0, none⟩ = some (.int .u8 76) := F7.byte (by omega) B0.out
      have c1 : w7'.cell? ⟨g2, 1, none⟩ = some (.int .u8 2) := F7.byte (by omega) B1.out
      have c2 : w7'.cell? ⟨g2, 2, none⟩ = some (.int .u8 1) := F7.byte (by omega) B2.out
      have c34 : w7'.cell? ⟨g2, 34, none⟩ = some (.int .u8 9) := F7.byte (by omega) B34.out
      have c35 : w7'.cell? ⟨g2, 35, none⟩ = some (.int .u8 2) := F7.byte (by omega) B35.out
      have c36 : w7'.cell? ⟨g2, 36, none⟩ = some (.int .u8 1) := F7.byte (by omega) B36.out
      have c37 : w7'.cell? ⟨g2, 37, none⟩ = some (.int .u8 2) := F7.byte (by omega) B37.out
      have HD1 : Hid (decide ([E0, E1] = [E0, E1]) = true) := decide_eq_true rfl
      clear F7
      gi_wp2_with (first
        | (refine ⟨trivial, ?_⟩; gi_at_call 25; refine (callsIn_wide.2 (entries_at HD1 _ _ _ _ _ _ _ S7 A7.sl (by simp))).mono ?_; rintro e wF ⟨rfl, kF⟩; have GF := G7.keep kF; have e0 : wF.cell? ⟨g6, 0, none⟩ = some (.int .u8 82) := GF.byte (by omega) C0.out; have e2 : wF.cell? ⟨g6, 2, none⟩ = some (.int .u8 7) := GF.byte (by omega) C2.out)
        | (refine in_wide (fun _ h => by cases h) ?_; refine wpList_buildI2 rfl _ _ rfl 7 3 rfl rfl ?_; intro gJ wG iG zG kG; refine OnlyN.go ?_; have KG := kF.trans kG)
        | (refine ⟨trivial, ?_⟩; gi_at_call 26; refine (callsIn_wide.2 (ints_at (l := [7, 3]) (m := [7, 3]) (v := true) (decide_eq_true rfl) _ _ _ _ _ _ _ (s7.keep KG) iG (by simp))).mono ?_; rintro e wH ⟨rfl, kH⟩; have KH := KG.trans kH)
        | (refine ⟨trivial, ?_⟩; gi_at_call 23; refine (callsIn_wide.2 (good23_at HG.out _ _ 2 2 (A7.keep KH).sl)).mono ?_; rintro e wI ⟨rfl, kI⟩))
      refine bodyPost_ret (results_tmp (p := 0) rfl _ _ _) rfl ?_
      exact ⟨rfl, ((K10.trans KW).trans KH).trans kI⟩
  · gi_wp2_with (refine in_wide (fun _ h => by cases h) ?_; refine wpList_alloc26 rfl rfl ?_; intro gD wD fD zD kD; refine OnlyN.go ?_)
    have KD := kd.trans kD
    refine ⟨cls_keeps KD, ?_⟩
    simp only [wpTreeIn, opsAt, pick]
    repeat (go_big_quiet_step (fail))
    refine wpQuiet_nil ?_
    gi_wp2_with (refine in_wide (fun _ h => by cases h) ?_; refine wpList_build2E rfl _ _ rfl E1 E0 rfl rfl l1 l0 ?_; intro gB wB bB zB kB; refine OnlyN.go ?_)
    have KB := KD.trans kB
    refine ⟨cls_keeps KB, ?_⟩
    simp only [wpTreeIn, opsAt, pick]
    repeat (go_big_quiet_step (fail))
    refine wpQuiet_nil ?_
    gi_wp2_with (refine ⟨trivial, ?_⟩; gi_at_call 15; refine (callsIn_wide.2 (encP_at HE1.out _ (hT10.keeps KB (fun h => h) (fun h => h)) _ 2 2 bB.sl)).mono ?_; rintro e wC ⟨rfl, kC⟩)
    have KC := KB.trans kC
    refine ⟨cls_keeps KC, ?_⟩
    simp only [wpTreeIn, opsAt, pick]
    repeat (go_big_quiet_step (fail))
    refine wpQuiet_nil ?_
    gi_wp2_with (refine in_wide (fun _ h => by cases h) ?_; refine wpList_store26 rfl _ _ rfl gD rfl (zb 128) rfl (zb_len _) _ ((fD.keep kB).keep kC) ?_; intro w7' fE kE; refine OnlyN.go ?_)
    have zE : w10.heap.size ≤ gD := by have : w10.drew.heap.size = w10.heap.size := rfl; omega
    have KW : Keeps (fun _ => False) w10 w7' := KC.trans' kE (fun i e => .inr (by omega))
    refine ⟨cls_keeps KW, ?_⟩
    simp only [wpTreeIn, opsAt, pick]
    repeat (go_big_quiet_step (fail))
    refine wpQuiet_nil ?_
    refine NoPanic.normal ?_
    have F7 := F10.keep KW
    have G7 := G10.keep KW
    have S7 := S10.keep KW
    have s7 := s10.keep KW
    have A7 := b10.keep KW
    have c0 : w7'.cell? ⟨g2, 0, none⟩ = some (.int .u8 76) := F7.byte (by omega) B0.out
    have c1 : w7'.cell? ⟨g2, 1, none⟩ = some (.int .u8 2) := F7.byte (by omega) B1.out
    have c2 : w7'.cell? ⟨g2, 2, none⟩ = some (.int .u8 1) := F7.byte (by omega) B2.out
    have c34 : w7'.cell? ⟨g2, 34, none⟩ = some (.int .u8 9) := F7.byte (by omega) B34.out
    have c35 : w7'.cell? ⟨g2, 35, none⟩ = some (.int .u8 2) := F7.byte (by omega) B35.out
    have c36 : w7'.cell? ⟨g2, 36, none⟩ = some (.int .u8 1) := F7.byte (by omega) B36.out
    have c37 : w7'.cell? ⟨g2, 37, none⟩ = some (.int .u8 2) := F7.byte (by omega) B37.out
    have HD1 : Hid (decide ([E0, E1] = [E0, E1]) = true) := decide_eq_true rfl
    clear F7
    gi_wp2_with (first
      | (refine ⟨trivial, ?_⟩; gi_at_call 25; refine (callsIn_wide.2 (entries_at HD1 _ _ _ _ _ _ _ S7 A7.sl (by simp))).mono ?_; rintro e wF ⟨rfl, kF⟩; have GF := G7.keep kF; have e0 : wF.cell? ⟨g6, 0, none⟩ = some (.int .u8 82) := GF.byte (by omega) C0.out; have e2 : wF.cell? ⟨g6, 2, none⟩ = some (.int .u8 7) := GF.byte (by omega) C2.out)
      | (refine in_wide (fun _ h => by cases h) ?_; refine wpList_buildI2 rfl _ _ rfl 7 3 rfl rfl ?_; intro gJ wG iG zG kG; refine OnlyN.go ?_; have KG := kF.trans kG)
      | (refine ⟨trivial, ?_⟩; gi_at_call 26; refine (callsIn_wide.2 (ints_at (l := [7, 3]) (m := [7, 3]) (v := true) (decide_eq_true rfl) _ _ _ _ _ _ _ (s7.keep KG) iG (by simp))).mono ?_; rintro e wH ⟨rfl, kH⟩; have KH := KG.trans kH)
      | (refine ⟨trivial, ?_⟩; gi_at_call 23; refine (callsIn_wide.2 (good23_at HG.out _ _ 2 2 (A7.keep KH).sl)).mono ?_; rintro e wI ⟨rfl, kI⟩))
    refine bodyPost_ret (results_tmp (p := 0) rfl _ _ _) rfl ?_
    exact ⟨rfl, ((K10.trans KW).trans KH).trans kI⟩

end Go.Proofs.YthngaegfppbdmaaDoor
