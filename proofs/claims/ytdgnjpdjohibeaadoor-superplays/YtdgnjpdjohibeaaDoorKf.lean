/-
  Encode of the program.
-/
import Derived.Test.YtdgnjpdjohibeaaDoorKc
set_option linter.all false
set_option maxRecDepth 100000
namespace Go.Proofs.YtdgnjpdjohibeaaDoor
open Go.RowKit Go.Sort Go.Shelf

theorem results_blk10 (tm : Array Value) (g2 : Nat) (wr : World) (X : List B) (v : Int) (h1 : tm.getD 2 undef = .pointer (some ⟨g2, 0, none⟩)) (h2 : tm.getD 3 undef = .int .i64 v) (h3 : BlAt wr g2 X) : (results Tryd.f10 tm).run Tryd.prog wr = .ok (toldB (X, v)) wr :=
  results_row_slot rfl tm wr g2 X _ h1 h2 h3

theorem encP_no (w : World) (s : Su) (hs : s.Ok) (hg : s.good = false) :
    Calls Tryd.prog 10 #[.agg s.cells] w fun e w' => e = .returned (toldB (encR s)) ∧ Keeps (fun _ => False) w w' := by
  have hR : Hid (encR s = (zb 128, 11)) := by show _ = _; unfold encR; rw [hg]; rfl
  have T0 : Hid True := trivial
  go_enter Tryd.func10, Tryd.ntmps10
  go_wp2_with (first
    | (have := T0; refine boxS_at (.tmp 0) rfl rfl s rfl ?_; intro g1 w1 b1 z1 k1; clear T0; have T1 : Hid True := trivial)
    | (have := T1; refine wpList_alloc26 rfl rfl ?_; intro g2 w2 c2 z2 k2; have b2 := b1.keep k2; clear T1; have T2 : Hid True := trivial)
    | (have := T2; refine wpList_loadS rfl _ rfl g1 rfl s hs b2 ?_; clear T2; have T3 : Hid True := trivial)
    | (have := T3; go_at_call 14; refine (good14 _ s hs hg).mono ?_; rintro e w3 ⟨rfl, k3⟩; have c3 := c2.keep k3; clear T3; have T4 : Hid True := trivial)
    | (have := T4; refine wpList_build26 rfl rfl ?_; clear T4; have T5 : Hid True := trivial)
    | (have := T5; refine wpList_store26 rfl _ _ rfl g2 rfl (zb 128) rfl (zb_len _) _ c3 ?_; intro w4 c4 k4; clear T5))
  have z := k1.size
  rw [hR.out]
  exact bodyPost_ret (v := toldB (zb 128, 11)) (results_blk10 _ g2 _ _ _ rfl rfl c4) rfl ⟨rfl, ((k1.trans k2).trans k3).trans' k4 (fun i e => .inr (by omega))⟩

set_option maxHeartbeats 4000000 in
theorem encP_ok (w : World) (hT : Tabs w) (s : Su) (hs : s.Ok) (hg : s.good = true) :
    Calls Tryd.prog 10 #[.agg s.cells] w fun e w' => e = .returned (toldB (encR s)) ∧ Keeps (fun _ => False) w w' := by
  have hgn := hs.gen
  have hTx := stxt_len hs
  obtain ⟨X, hX⟩ : ∃ X, sha (stxt s) = X := ⟨_, rfl⟩
  obtain ⟨C, hC⟩ : ∃ C, X.take 4 = C := ⟨_, rfl⟩
  obtain ⟨L, hL⟩ : ∃ L, sblk s = L := ⟨_, rfl⟩
  have HX : Hid (sha (stxt s) = X) := hX
  have HC : Hid (X.take 4 = C) := hC
  have lC : C.length = 4 := by rw [← hC, ← hX, List.length_take, sha_len]; rfl
  have lL : L.length = 128 := by rw [← hL]; exact sblk_len hs
  have HF : Hid (splice ((first128 (stxt s)).map vb) 55 (C.map vb) = L.map vb) := by
    show _ = _
    rw [splice_check hTx (by omega) lC, ← hL, ← hC, ← hX]
    unfold sblk blk5
    rw [hTx]
  have hR : Hid (encR s = (L, 0)) := by show _ = _; unfold encR; rw [hg, ← hL]; rfl
  have HE : Hid ((([] ++ [kb 83, kb ((s.gen : Int) / 16777216), kb ((s.gen : Int) / 65536), kb ((s.gen : Int) / 256), kb (s.gen : Int)]) ++ [kb s.blocks, kb s.root]) ++ s.log ++ s.used = stxt s) := by show _ = _; unfold stxt; rw [List.nil_append]
  have l5 : ([] ++ [kb 83, kb ((s.gen : Int) / 16777216), kb ((s.gen : Int) / 65536), kb ((s.gen : Int) / 256), kb (s.gen : Int)]).length = 5 := rfl
  clear hX hC hL
  have T0 : Hid True := trivial
  go_enter Tryd.func10, Tryd.ntmps10
  go_wp2_with (first
    | (have := T0; refine boxS_at (.tmp 0) rfl rfl s rfl ?_; intro g1 w1 b1 z1 k1; clear T0; have T1 : Hid True := trivial)
    | (have := T1; refine wpList_alloc26 rfl rfl ?_; intro g2 w2 c2 z2 k2; have b2 := b1.keep k2; clear T1; have T2 : Hid True := trivial)
    | (have := T2; refine wpList_loadS rfl _ rfl g1 rfl s hs b2 ?_; clear T2; have T3 : Hid True := trivial)
    | (have := T3; go_at_call 14; refine (good14 _ s hs hg).mono ?_; rintro e w3 ⟨rfl, k3⟩; have b3 := b2.keep k3; have c3 := c2.keep k3; clear T3; have T4 : Hid True := trivial)
    | (have := T4; refine wpList_make_b rfl _ _ rfl rfl 55 _ rfl rfl (by omega) ?_; intro v4 w4 o4 k4; have b4 := b3.keep k4; have c4 := c3.keep k4; obtain ⟨p0, p1, p2⟩ := SuAt.parts b4; clear T4; have T5 : Hid True := trivial)
    | (have := T5; refine wpList_build5 rfl _ _ _ _ _ rfl 83 ((s.gen : Int) / 16777216) ((s.gen : Int) / 65536) ((s.gen : Int) / 256) (s.gen : Int) _ _ _ _ _ rfl rfl rfl rfl rfl (by first | rfl | omega) (by first | rfl | omega) (by first | rfl | omega) (by first | rfl | omega) (by first | rfl | omega) ?_; intro g5 w5 s5 z5 l5' k5; clear T5; have T6 : Hid True := trivial)
    | (have := T6; refine wpList_app rfl _ _ rfl w3.heap.size _ [] rfl (o4.keeps k5 (fun _ _ h => h.elim)) _ 5 5 _ rfl s5 (fun e => by cases e) (by simp) (by have := k4.size; have := k5.size; omega) ?_; intro v6 w6 o6 k6; have K6 : Keeps (fun k => w3.heap.size ≤ k) w3 w6 := ((k4.trans k5).mono (fun _ _ h => h.elim)).trans k6; have b6 := b3.keeps K6 (by have := b3.lt; omega); obtain ⟨q0, q1, q2⟩ := SuAt.parts b6; clear T6; have T7 : Hid True := trivial)
    | (have := T7; refine wpList_build2 rfl _ _ rfl s.blocks s.root _ _ rfl rfl (by first | rfl | omega) (by first | rfl | omega) ?_; intro g7 w7 s7 z7 l7 k7; clear T7; have T8 : Hid True := trivial)
    | (have := T8; refine wpList_app rfl _ _ rfl w3.heap.size _ _ rfl (o6.keeps k7 (fun _ _ h => h.elim)) _ 2 2 _ rfl s7 (fun e => by cases e) (by rw [l5]; omega) (by have := K6.size; have := k7.size; omega) ?_; intro v8 w8 o8 k8; have K8 : Keeps (fun k => w3.heap.size ≤ k) w3 w8 := (K6.trans (k7.mono (fun _ _ h => h.elim))).trans k8; have b8 := b3.keeps K8 (by have := b3.lt; omega); clear T8; have T9 : Hid True := trivial)
    | (have := T9; refine wpList_app rfl _ _ rfl w3.heap.size _ _ rfl o8 _ 32 32 s.log rfl (SuAt.sllog b8 hs 32 (by omega)) (fun e => by cases e) (by rw [List.length_append, l5]; simp) (by have := K8.size; omega) ?_; intro v9 w9 o9 k9; have K9 : Keeps (fun k => w3.heap.size ≤ k) w3 w9 := K8.trans k9; have b9 := b3.keeps K9 (by have := b3.lt; omega); clear T9; have T10 : Hid True := trivial)
    | (have := T10; refine wpList_app rfl _ _ rfl w3.heap.size _ _ rfl o9 _ 16 16 s.used rfl (SuAt.slused b9 hs 16 (by omega)) (fun e => by cases e) (by have := hs.log; simp; omega) (by have := K9.size; omega) ?_; intro v10 w10 o10 k10; have K10 : Keeps (fun k => w3.heap.size ≤ k) w3 w10 := K9.trans k10; rw [HE.out] at o10; obtain ⟨a10, n10, c10, rfl, s10, hb10, _⟩ := o10.slice; have K0 : Keeps (fun _ => False) w w10 := ((k1.trans k2).trans k3).trans' K10 (fun i e => .inr (by have := ((k1.trans k2).trans k3).size; omega)); have c10' := c3.keeps K10 (by have := c3.lt; omega); obtain rfl : n10 = 55 := s10.len.symm.trans hTx; clear T10; have T11 : Hid True := trivial)
    | (have := T11; go_at_call 32; refine (check_at HX HC _ (hT.keeps K0 (fun h => h) (fun h => h)) _ _ _ s10 (by omega)).mono ?_; rintro e w11 ⟨rfl, k11⟩; clear T11; have T12 : Hid True := trivial)
    | (have := T12; refine wpList_alloc4b rfl rfl ?_; intro g12 w12 f12 z12 k12; clear T12; have T13 : Hid True := trivial)
    | (have := T13; refine wpList_store4b rfl _ _ rfl g12 rfl C rfl lC _ f12 ?_; intro w13 f13 k13; clear T13; have T14 : Hid True := trivial)
    | (have := T14; refine wpList_alloc26 rfl rfl ?_; intro g14 w14 e14 z14 k14; clear T14))
  have K3 := (k1.trans k2).trans k3
  have z3 := K3.size
  have z10 := K10.size
  have z11 := k11.size
  have z12' := k12.size
  have z13 := k13.size
  have lg2 := c3.lt
  have lf12 := f12.lt
  have kk : Keeps (fun _ => False) w10 w14 := ((k11.trans k12).trans' k13 (fun i e => .inr (by omega))).trans k14
  have KW : Keeps (fun _ => False) w w14 := K0.trans kk
  have C14 := c10'.keep kk
  have S14 := s10.keeps kk (fun _ _ _ _ h => h)
  have F14 := f13.keep k14
  obtain ⟨b, o, rfl, _⟩ := s10.bytes 55 (by omega) (Nat.le_refl _)
  have lb : b < w10.heap.size := slb_lt s10 (by omega) rfl
  have hb3 : w3.heap.size ≤ b := hb10 _ _ rfl
  have h14 : g14 ≠ g2 := by omega
  have hz2 : w.heap.size ≤ g2 := by have := k1.size; omega
  have h12 : g12 ≠ g14 := by omega
  clear k1 k2 k3 k4 k5 k6 k7 k8 k9 k10 K6 K8 K9 o4 o6 o8 o9 o10 s5 s7 b1 b2 b3 b4 b6 b8 b9 c2 c3 c4 c10' p0 p1 p2 q0 q1 q2 k11 k12 k13 k14 f12 f13 kk K0 K3 K10 s10 hb10 z1 z2 z5 z7 l7 l5'
  simp only [Act.put, List.setIfInBounds_toArray, List.set_cons_zero, List.set_cons_succ]
  refine region_plan (S := fun w' => ∃ p : Regrown, w' = grow (redrawn w p.d) p.os) [([0, 1, 4], 2), ([3], 5)] [] (by kernel_rfl) (by kernel_rfl) (by kernel_rfl) (by kernel_rfl) (cls_keeps KW.drew) ?_
  simp only [wpPlan, opsAt, pick]
  repeat (go_big_quiet_step (fail))
  refine wpQuiet_nil ?_
  have kd : Keeps (fun _ => False) w14 w14.drew := (Keeps.refl _ _).drew
  have KD := KW.trans kd
  have Ed := e14.keep kd
  have hw14 : w14.drew.heap.size = w14.heap.size := rfl
  go_wp2_with (refine wpList_copy_new rfl _ _ rfl g14 _ b o 55 c10 rfl rfl (stxt s) (S14.keeps kd (fun _ _ _ _ h => h)) Ed.row 55 (by omega) ?_; intro w15 r15 k15)
  have K15 : Keeps (fun _ => False) w w15 := KD.trans' k15 (fun i e => .inr (by omega))
  refine ⟨cls_keeps K15, ?_⟩
  simp only [wpPlan, opsAt, pick]
  repeat (go_big_quiet_step (fail))
  refine wpQuiet_nil ?_
  have b15 := ((F14.keep kd).keeps k15 h12).slb
  have hsrc : ∀ j v, (C.map vb)[j]? = some v → w15.cell? ((⟨g12, 0, none⟩ : Addr).add j) = some v := fun j v hv => by
    rw [List.getElem?_map] at hv
    cases hq : C[j]? with
    | none => rw [hq] at hv; cases hv
    | some x =>
      rw [hq] at hv
      obtain ⟨b', o', e', hc⟩ := b15.at_ j x hq
      cases e'
      rw [Addr_add]
      cases hv
      exact hc
  have hm1 : (C.map vb).length = Nat.min 4 73 := by rw [List.length_map, lC]; rfl
  have hm2 : 55 + (C.map vb).length ≤ ((first128 (stxt s)).map vb).length := by rw [List.length_map, List.length_map, lC, first128_len]; omega
  go_wp2_with (refine wpList_copy_over rfl _ _ 51 51 rfl 5 Tryd.underlying51 size5 _ _ _ _ _ _ rfl rfl g14 55 ((first128 (stxt s)).map vb) 30 r15 (C.map vb) hm1 (fun _ => ⟨rfl, _, rfl, hsrc⟩) hm2 (one_bytes C) ?_; intro w16 r16 k16 z16; rw [HF.out] at r16)
  have r16' := r16.out
  have B16 : BlAt w16 g14 L := ⟨r16', lL⟩
  have K16 : Keeps (fun _ => False) w w16 := K15.trans' k16 (fun i e => .inr (by omega))
  have C16 := ((C14.keep kd).keeps k15 (Ne.symm h14)).keeps k16 (Ne.symm h14)
  refine ⟨cls_keeps K16, ?_⟩
  simp only [wpPlan, opsAt, pick]
  refine wpQuiet_nil ?_
  refine NoPanic.normal ?_
  go_wp2_with (first
    | (refine wpList_load26 rfl _ rfl g14 rfl L B16 ?_)
    | (refine wpList_store26 rfl _ _ rfl g2 rfl L rfl lL _ C16 ?_; intro w17 b17 k17))
  rw [hR.out]
  exact bodyPost_ret (v := toldB (L, 0)) (results_blk10 _ g2 _ _ _ rfl rfl b17) rfl ⟨rfl, K16.trans' k17 (fun i e => .inr (by omega))⟩

theorem encP (w : World) (hT : Tabs w) (s : Su) (hs : s.Ok) :
    Calls Tryd.prog 10 #[.agg s.cells] w fun e w' => e = .returned (toldB (encR s)) ∧ Keeps (fun _ => False) w w' := by
  cases hg : s.good with
  | false => exact encP_no w s hs hg
  | true => exact encP_ok w hT s hs hg
end Go.Proofs.YtdgnjpdjohibeaaDoor
