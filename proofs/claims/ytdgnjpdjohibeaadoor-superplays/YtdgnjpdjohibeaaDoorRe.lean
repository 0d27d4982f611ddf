/-
  Encode of the reference.
-/
import Derived.Test.YtdgnjpdjohibeaaDoorNt
import Derived.Test.YtdgnjpdjohibeaaDoorKd
set_option linter.all false
set_option maxRecDepth 100000
namespace Go.Proofs.YtdgnjpdjohibeaaDoor
open Go.RowKit Go.Sort Go.Shelf

theorem buildSlice7 (x y z u v r q : Int) (w : World) : (Instr.buildSlice 51 7 #[(0, .int .u8 x), (1, .int .u8 y), (2, .int .u8 z), (3, .int .u8 u), (4, .int .u8 v), (5, .int .u8 r), (6, .int .u8 q)]).run Tryd.prog w = .ok (.slice (some ⟨w.heap.size, 0, none⟩) 7 7) (w.alloc (.cells #[.int .u8 x, .int .u8 y, .int .u8 z, .int .u8 u, .int .u8 v, .int .u8 r, .int .u8 q] 5)) := by kernel_rfl
theorem wpList_build7 {ops : Array Oper} {rest : List Oper} {o : Oper} {a : Act} {w : World} {Q : Exit → Act → World → Prop} (hgd : o.guard = none) (x y z u v f g : Operand) (ho : o.op = .buildSlice 51 7 #[(0, x), (1, y), (2, z), (3, u), (4, v), (5, f), (6, g)]) (p q r s t k l x' y' z' u' v' f' g' : Int) (hx : a.eval x = .int .u8 x') (hy : a.eval y = .int .u8 y') (hz : a.eval z = .int .u8 z') (hu : a.eval u = .int .u8 u') (hv : a.eval v = .int .u8 v') (hf : a.eval f = .int .u8 f') (hg : a.eval g = .int .u8 g')
    (hp : x' = p % 256) (hq : y' = q % 256) (hr : z' = r % 256) (hs : u' = s % 256) (ht : v' = t % 256) (hk : f' = k % 256) (hl : g' = l % 256)
    (h : ∀ b w', OwnB w' w.heap.size (.slice (some ⟨b, 0, none⟩) 7 7) [kb p, kb q, kb r, kb s, kb t, kb k, kb l] → Keeps (fun _ => False) w w' → wpList Tryd.prog ops Q rest (a.put o.dst (.slice (some ⟨b, 0, none⟩) 7 7)) w') : wpList Tryd.prog ops Q (o :: rest) a w := by
  subst hp hq hr hs ht hk hl
  refine wpList_plain hgd fun K hK => ?_
  unfold Oper.wp execOp
  simp only [ho, hx, hy, hz, hu, hv, hf, hg, List.map_toArray, List.map_cons, List.map_nil, buildSlice7, Sem.run_bind, Result.andThen_ok, Sem.run_pure]
  refine hK _ _ (h w.heap.size _ ?_ (keeps_alloc w _))
  have := OwnB.row (w := w.alloc (.cells #[.int .u8 (p % 256), .int .u8 (q % 256), .int .u8 (r % 256), .int .u8 (s % 256), .int .u8 (t % 256), .int .u8 (k % 256), .int .u8 (l % 256)] 5)) (base := w.heap.size) (g := w.heap.size) (l := [kb p, kb q, kb r, kb s, kb t, kb k, kb l]) (t := 5) (by rw [vb_mod, vb_mod, vb_mod, vb_mod, vb_mod, vb_mod, vb_mod]; exact heap_alloc_new w _) (Nat.le_refl _) (by simp)
  exact this
theorem results_blk11 (tm : Array Value) (g2 : Nat) (wr : World) (X : List B) (v : Int) (h1 : tm.getD 2 undef = .pointer (some ⟨g2, 0, none⟩)) (h2 : tm.getD 3 undef = .int .i64 v) (h3 : BlAt wr g2 X) : (results Tryd.f11 tm).run Tryd.prog wr = .ok (toldB (X, v)) wr :=
  results_row_slot rfl tm wr g2 X _ h1 h2 h3

theorem encQ_no (w : World) (s : Su) (hs : s.Ok) (hg : s.good = false) :
    Calls Tryd.prog 11 #[.agg s.cells] w fun e w' => e = .returned (toldB (encR s)) ∧ Keeps (fun _ => False) w w' := by
  have hR : Hid (encR s = (zb 128, 11)) := by show _ = _; unfold encR; rw [hg]; rfl
  have T0 : Hid True := trivial
  go_enter Tryd.func11, Tryd.ntmps11
  go_wp2_with (first
    | (have tt := T0; refine boxS_at (.tmp 0) rfl rfl s rfl ?_; intro g1 w1 b1 z1 k1; clear T0 tt; have T1 : Hid True := trivial)
    | (have tt := T1; refine wpList_alloc26 rfl rfl ?_; intro g2 w2 c2 z2 k2; have b2 := RoAt.keep b1 k2; clear T1 tt; have T2 : Hid True := trivial)
    | (have tt := T2; refine wpList_loadS rfl _ rfl g1 rfl s hs b2 ?_; clear T2 tt; have T3 : Hid True := trivial)
    | (have tt := T3; go_at_call 15; refine (good15 _ s hs hg).mono ?_; rintro e w3 ⟨rfl, k3⟩; have c3 := c2.keep k3; clear T3 tt; have T4 : Hid True := trivial)
    | (have tt := T4; refine wpList_build26 rfl rfl ?_; clear T4 tt; have T5 : Hid True := trivial)
    | (have tt := T5; refine wpList_store26 rfl _ _ rfl g2 rfl (zb 128) rfl (zb_len _) _ c3 ?_; intro w4 c4 k4; clear T5 tt))
  have z := k1.size
  rw [hR.out]
  exact bodyPost_ret (v := toldB (zb 128, 11)) (results_blk11 _ g2 _ _ _ rfl rfl c4) rfl ⟨rfl, ((k1.trans k2).trans k3).trans' k4 (fun i e => .inr (by omega))⟩

set_option maxHeartbeats 4000000 in
theorem encQ_ok (w : World) (s : Su) (hs : s.Ok) (hg : s.good = true) :
    Calls Tryd.prog 11 #[.agg s.cells] w fun e w' => e = .returned (toldB (encR s)) ∧ Keeps (fun _ => False) w w' := by
  have hgn := hs.gen
  have hTx := stxt_len hs
  obtain ⟨L, hL⟩ : ∃ L, sblk s = L := ⟨_, rfl⟩
  have lL : L.length = 128 := by rw [← hL]; exact sblk_len hs
  have HL : Hid (blk5 (stxt s) = L) := hL
  have hR : Hid (encR s = (L, 0)) := by show _ = _; unfold encR; rw [hg, ← hL]; rfl
  have HE : Hid ([kb 83, kb ((s.gen : Int) / 16777216), kb ((s.gen : Int) / 65536), kb ((s.gen : Int) / 256), kb (s.gen : Int), kb s.blocks, kb s.root] ++ s.log ++ s.used = stxt s) := rfl
  clear hL
  have T0 : Hid True := trivial
  go_enter Tryd.func11, Tryd.ntmps11
  go_wp2_with (first
    | (have tt := T0; refine boxS_at (.tmp 0) rfl rfl s rfl ?_; intro g1 w1 b1 z1 k1; clear T0 tt; have T1 : Hid True := trivial)
    | (have tt := T1; refine wpList_alloc26 rfl rfl ?_; intro g2 w2 c2 z2 k2; have b2 := RoAt.keep b1 k2; have hz2 : w.heap.size ≤ g2 := (by have := k1.size; omega); clear T1 tt; have T2 : Hid True := trivial)
    | (have tt := T2; refine wpList_loadS rfl _ rfl g1 rfl s hs b2 ?_; clear T2 tt; have T3 : Hid True := trivial)
    | (have tt := T3; go_at_call 15; refine (good15 _ s hs hg).mono ?_; rintro e w3 ⟨rfl, k3⟩; have b3 := RoAt.keep b2 k3; have c3 := c2.keep k3; have K3 := (k1.trans k2).trans k3; obtain ⟨p0, p1, p2⟩ := SuAt.parts b3; clear T3 tt; have T4 : Hid True := trivial)
    | (have tt := T4; refine wpList_build7 rfl _ _ _ _ _ _ _ rfl 83 ((s.gen : Int) / 16777216) ((s.gen : Int) / 65536) ((s.gen : Int) / 256) (s.gen : Int) s.blocks s.root _ _ _ _ _ _ _ rfl rfl rfl rfl rfl rfl rfl (by first | rfl | omega) (by first | rfl | omega) (by first | rfl | omega) (by first | rfl | omega) (by first | rfl | omega) (by first | rfl | omega) (by first | rfl | omega) ?_; intro g4 w4 o4 k4; have b4 := RoAt.keep b3 k4; have c4 := c3.keep k4; have K4 := K3.trans k4; clear T4 tt))
  have z4 := k4.size
  have z3 := K3.size
  have lb3 := RoAt.lt b3
  have lc3 := c3.lt
  clear k1 b1 k2 b2 c2 k3 b3 c3 p0 p1 p2 k4 z1 z2
  have kd : Keeps (fun _ => False) w4 w4.drew := (Keeps.refl _ _).drew
  refine region_plan (S := fun w' => ∃ p : Regrown, w' = grow (redrawn w p.d) p.os) [([0, 1, 2, 4, 5], 3), ([], 6), ([], 7), ([], 8)] [9] (by kernel_rfl) (by kernel_rfl) (by kernel_rfl) (by kernel_rfl) (cls_keeps K4.drew) ?_
  simp only [wpPlan, opsAt, pick]
  repeat (go_big_quiet_step (fail))
  refine wpQuiet_nil ?_
  have b5 := RoAt.keep b4 kd
  have o5 := o4.keeps kd (fun _ _ h => h.elim)
  go_wp2_with (refine wpList_app rfl _ _ rfl w3.heap.size _ _ rfl o5 _ 32 32 s.log rfl (SuAt.sllog b5 hs 32 (by omega)) (fun e => by cases e) (by simp) (by show w3.heap.size ≤ w4.heap.size; omega) ?_; intro v6 w6 o6 k6)
  have K6 : Keeps (fun _ => False) w w6 := (K4.trans kd).trans' k6 (fun i e => .inr (by omega))
  have b6 := RoAt.keeps b5 k6 (by omega)
  have c6 := (c4.keep kd).keeps k6 (by omega)
  refine ⟨cls_keeps K6, ?_⟩
  simp only [wpPlan, opsAt, pick]
  refine wpQuiet_nil ?_
  go_wp2_with (refine wpList_app rfl _ _ rfl w3.heap.size _ _ rfl o6 _ 16 16 s.used rfl (SuAt.slused b6 hs 16 (by omega)) (fun e => by cases e) (by have := hs.log; simp; omega) (by have : w4.heap.size ≤ w6.heap.size := k6.size; omega) ?_; intro v7 w7 o7 k7; rw [HE.out] at o7)
  have K7 : Keeps (fun _ => False) w w7 := K6.trans' k7 (fun i e => .inr (by omega))
  have c7 := c6.keeps k7 (by omega)
  obtain ⟨a7, n7, c7', rfl, s7, hb7, hc7⟩ := o7.slice
  obtain rfl : n7 = 55 := s7.len.symm.trans hTx
  refine ⟨cls_keeps K7, ?_⟩
  simp only [wpPlan, opsAt, pick]
  refine wpQuiet_nil ?_
  go_wp2_with (go_at_call 34; refine (block22 _ a7 55 c7' (stxt s) s7 hc7 (by omega) HL).mono ?_; rintro e w8 ⟨rfl, k8⟩)
  have K8 := K7.trans k8
  refine ⟨cls_keeps K8, ?_⟩
  simp only [wpPlan, opsAt, pick]
  refine wpQuiet_nil ?_
  go_wp2_with (refine wpList_store26 rfl _ _ rfl g2 rfl L rfl lL _ (c7.keep k8) ?_; intro w9 c9 k9)
  have K9 : Keeps (fun _ => False) w w9 := K8.trans' k9 (fun i e => .inr (by omega))
  refine ⟨cls_keeps K9, ?_⟩
  simp only [wpPlan, opsAt, pick]
  repeat (go_big_quiet_step (fail))
  refine wpQuiet_nil ?_
  refine NoPanic.normal ?_
  go_wp2
  rw [hR.out]
  exact bodyPost_ret (v := toldB (L, 0)) (results_blk11 _ g2 _ _ _ rfl rfl c9) rfl ⟨rfl, K9⟩

theorem encQ_is {s : Su} {p : List B × Int} (h : encR s = p) (w : World) (hs : s.Ok) :
    Calls Tryd.prog 11 #[.agg s.cells] w fun e w' => e = .returned (.tuple #[.agg (brow p.1), .int .i64 p.2]) ∧ Keeps (fun _ => False) w w' := by
  rw [← h]
  cases hg : s.good with
  | false => exact encQ_no w s hs hg
  | true => exact encQ_ok w s hs hg
end Go.Proofs.YtdgnjpdjohibeaaDoor
