/-
  SuperCodes: the walk.
-/
import Derived.Test.YtdgnjpdjohibeaaDoorRk
set_option linter.all false
set_option maxRecDepth 100000
namespace Go.Proofs.YtdgnjpdjohibeaaDoor
open Go.RowKit Go.Sort Go.Shelf

theorem wakesC_cls {w0 w1 : World} (hT : Tabs w0) (hw : ∃ p : Regrown, w1 = grow (redrawn w0 p.d) p.os) :
    Calls Tryd.prog 16 #[] w1 fun e w'' => e = .returned (.bool true) ∧ ∃ p : Regrown, w'' = grow (redrawn w0 p.d) p.os :=
  call_cls (wakes16 w1 (hT.keeps (keeps_cls hw) (fun h => h) (fun h => h))) hw
set_option maxHeartbeats 8000000 in
theorem codesL (w : World) (hT : Tabs w) (s : Su) (hs : s.Ok) (D : List B) (hD : D.length = 128) :
    Calls Tryd.prog 3 #[.agg s.cells, .agg (brow D)] w fun e w' => e = .returned (.bool true) ∧ Keeps (fun _ => False) w w' := by
  have lX := encR_len hs
  have oT := decR_ok hD
  obtain ⟨X, e1, hE⟩ : ∃ X e, encR s = (X, e) := ⟨_, _, pair_eta _⟩
  obtain ⟨t, e2, hDe⟩ : ∃ t e, decR D = (t, e) := ⟨_, _, pair_eta _⟩
  obtain ⟨v, hv⟩ : ∃ v, s.good = v := ⟨_, rfl⟩
  rw [hE] at lX
  rw [hDe] at oT
  dsimp only at lX oT
  have HE : Hid (encR s = (X, e1)) := hE
  have HD : Hid (decR D = (t, e2)) := hDe
  have HV : Hid (s.good = v) := hv
  have qX := eq26 lX lX
  rw [decide_eq_true rfl] at qX
  have qt := eqS oT oT (v := true) (decide_eq_true rfl)
  clear hE hDe hv
  have T0 : Hid True := trivial
  go_enter Tryd.func3, Tryd.ntmps3
  go_wp2_with (first
    | (have tt := T0; refine boxS_at (.tmp 0) rfl rfl s rfl ?_; intro g2 w1 b1 z1 k1; clear T0 tt; have T1 : Hid True := trivial)
    | (have tt := T1; refine wpList_box26 rfl _ rfl D hD rfl ?_; intro g3 w2 c2 z2 k2; have b2 := RoAt.keep b1 k2; have K2 := k1.trans k2; clear T1 tt; have T2 : Hid True := trivial)
    | (have tt := T2; refine wpList_loadS rfl (.tmp 2) rfl g2 rfl s hs b2 ?_; clear T2 tt; have T3 : Hid True := trivial)
    | (have tt := T3; go_at_call 10; refine (encP_is HE.out _ (hT.keeps K2 (fun h => h) (fun h => h)) hs).mono ?_; rintro e w3 ⟨rfl, k3⟩; have b3 := RoAt.keep b2 k3; have c3 := c2.keep k3; have K3 := K2.trans k3; clear T3 tt; have T4 : Hid True := trivial)
    | (have tt := T4; refine wpList_alloc26 rfl rfl ?_; intro g5 w4 d4 z4 k4; have b4 := RoAt.keep b3 k4; have c4 := c3.keep k4; have K4 := K3.trans k4; have z5 : w.heap.size ≤ g5 := (by have := K3.size; omega); have n25 : g2 ≠ g5 := (by have := RoAt.lt b3; omega); have n35 : g3 ≠ g5 := (by have := c3.lt; omega); clear T4 tt; have T5 : Hid True := trivial)
    | (have tt := T5; refine wpList_store26 rfl _ _ rfl g5 rfl X rfl lX _ d4 ?_; intro w5 d5 k5; have b5 := RoAt.keeps b4 k5 n25; have c5 := c4.keeps k5 n35; have K5 : Keeps (fun _ => False) w w5 := K4.trans' k5 (fun i e => .inr (by omega)); clear T5 tt; have T6 : Hid True := trivial)
    | (have tt := T6; refine wpList_loadS rfl (.tmp 2) rfl g2 rfl s hs b5 ?_; clear T6 tt; have T7 : Hid True := trivial)
    | (have tt := T7; go_at_call 11; refine (encQ_is HE.out _ hs).mono ?_; rintro e w6 ⟨rfl, k6⟩; have b6 := RoAt.keep b5 k6; have c6 := c5.keep k6; have d6 := d5.keep k6; have K6 := K5.trans k6; clear T7 tt; have T8 : Hid True := trivial)
    | (have tt := T8; refine wpList_alloc26 rfl rfl ?_; intro g7 w7 f7 z7 k7; have b7 := RoAt.keep b6 k7; have c7 := c6.keep k7; have d7 := d6.keep k7; have K7 := K6.trans k7; have z7' : w.heap.size ≤ g7 := (by have := K6.size; omega); have n27 : g2 ≠ g7 := (by have := RoAt.lt b6; omega); have n37 : g3 ≠ g7 := (by have := c6.lt; omega); have n57 : g5 ≠ g7 := (by have := d6.lt; omega); clear T8 tt; have T9 : Hid True := trivial)
    | (have tt := T9; refine wpList_store26 rfl _ _ rfl g7 rfl X rfl lX _ f7 ?_; intro w8 f8 k8; have b8 := RoAt.keeps b7 k8 n27; have c8 := c7.keeps k8 n37; have d8 := d7.keeps k8 n57; have K8 : Keeps (fun _ => False) w w8 := K7.trans' k8 (fun i e => .inr (by omega)); clear T9 tt; have T10 : Hid True := trivial)
    | (have tt := T10; refine wpList_load26 rfl (.tmp 3) rfl g3 rfl D c8 ?_; clear T10 tt; have T11 : Hid True := trivial)
    | (have tt := T11; go_at_call 12; refine (decP_is HD.out _ (hT.keeps K8 (fun h => h) (fun h => h)) hD).mono ?_; rintro e w9 ⟨rfl, k9⟩; have b9 := RoAt.keep b8 k9; have c9 := c8.keep k9; have d9 := d8.keep k9; have f9 := f8.keep k9; have K9 := K8.trans k9; clear T11 tt; have T12 : Hid True := trivial)
    | (have tt := T12; refine wpList_allocS rfl rfl ?_; intro g9 w10 u10 z10 k10; have b10 := RoAt.keep b9 k10; have c10 := c9.keep k10; have d10 := d9.keep k10; have f10 := f9.keep k10; have K10 := K9.trans k10; have z9' : w.heap.size ≤ g9 := (by have := K9.size; omega); have n29 : g2 ≠ g9 := (by have := RoAt.lt b9; omega); have n39 : g3 ≠ g9 := (by have := c9.lt; omega); have n59 : g5 ≠ g9 := (by have := d9.lt; omega); have n79 : g7 ≠ g9 := (by have := f9.lt; omega); clear T12 tt; have T13 : Hid True := trivial)
    | (have tt := T13; refine wpList_storeS rfl _ _ rfl g9 rfl t oT rfl su0 su0_ok u10 ?_; intro w11 u11 k11; have b11 := RoAt.keeps b10 k11 n29; have c11 := c10.keeps k11 n39; have d11 := d10.keeps k11 n59; have f11 := f10.keeps k11 n79; have K11 : Keeps (fun _ => False) w w11 := K10.trans' k11 (fun i e => .inr (by omega)); clear T13 tt; have T14 : Hid True := trivial)
    | (have tt := T14; refine wpList_load26 rfl (.tmp 3) rfl g3 rfl D c11 ?_; clear T14 tt; have T15 : Hid True := trivial)
    | (have tt := T15; go_at_call 13; refine (decQ_is HD.out _ hD).mono ?_; rintro e w12 ⟨rfl, k12⟩; have b12 := RoAt.keep b11 k12; have d12 := d11.keep k12; have f12 := f11.keep k12; have u12 := RoAt.keep u11 k12; have K12 := K11.trans k12; clear T15 tt; have T16 : Hid True := trivial)
    | (have tt := T16; refine wpList_allocS rfl rfl ?_; intro g11 w13 y13 z13 k13; have b13 := RoAt.keep b12 k13; have d13 := d12.keep k13; have f13 := f12.keep k13; have u13 := RoAt.keep u12 k13; have K13 := K12.trans k13; have z11' : w.heap.size ≤ g11 := (by have := K12.size; omega); have n2b : g2 ≠ g11 := (by have := RoAt.lt b12; omega); have n5b : g5 ≠ g11 := (by have := d12.lt; omega); have n7b : g7 ≠ g11 := (by have := f12.lt; omega); have n9b : g9 ≠ g11 := (by have := RoAt.lt u12; omega); clear T16 tt; have T17 : Hid True := trivial)
    | (have tt := T17; refine wpList_storeS rfl _ _ rfl g11 rfl t oT rfl su0 su0_ok y13 ?_; intro w14 y14 k14; have b14 := RoAt.keeps b13 k14 n2b; have d14 := d13.keeps k14 n5b; have f14 := f13.keeps k14 n7b; have u14 := RoAt.keeps u13 k14 n9b; have K14 : Keeps (fun _ => False) w w14 := K13.trans' k14 (fun i e => .inr (by omega)); clear T17 tt))
  have hT14 := hT.keeps K14 (fun h => h) (fun h => h)
  refine wp_region_quiet_below (by kernel_rfl) (by kernel_rfl) ?_
  repeat (first
    | go_big_quiet_skip
    | (go_big_quiet_want; refine quiet_loadS (.tmp 2) rfl g2 rfl s hs (fun w' hp => RoAt.cls b14 hp) ?_; simp only [Act.put, List.setIfInBounds_toArray, List.set_cons_zero, List.set_cons_succ]; go_big_quiet_on)
    | (go_big_quiet_want; refine quiet_loadS (.tmp 9) rfl g9 rfl t oT (fun w' hp => RoAt.cls u14 hp) ?_; simp only [Act.put, List.setIfInBounds_toArray, List.set_cons_zero, List.set_cons_succ]; go_big_quiet_on)
    | (go_big_quiet_want; refine quiet_loadS (.tmp 11) rfl g11 rfl t oT (fun w' hp => RoAt.cls y14 hp) ?_; simp only [Act.put, List.setIfInBounds_toArray, List.set_cons_zero, List.set_cons_succ]; go_big_quiet_on)
    | (go_big_quiet_want; refine quiet_load26 (.tmp 5) rfl g5 rfl X (fun w' hp => BlAt.cls d14 hp) ?_; simp only [Act.put, List.setIfInBounds_toArray, List.set_cons_zero, List.set_cons_succ]; go_big_quiet_on)
    | (go_big_quiet_want; refine quiet_load26 (.tmp 7) rfl g7 rfl X (fun w' hp => BlAt.cls f14 hp) ?_; simp only [Act.put, List.setIfInBounds_toArray, List.set_cons_zero, List.set_cons_succ]; go_big_quiet_on)
    | go_big_quiet_step (fail)
    | (have := Q2; go_big_quiet_want; go_big_quiet_op; apply Exists.intro; refine ⟨fun q => wakesC_cls hT14 ⟨q, rfl⟩, ?_⟩; go_big_quiet_on)
    | (have := Q1; go_big_quiet_want; go_big_quiet_op; apply Exists.intro; refine ⟨fun q => call_cls (good15 _ s hs HV.out) ⟨q, rfl⟩, ?_⟩; go_big_quiet_on; have Q2 : Hid True := trivial)
    | (go_big_quiet_want; go_big_quiet_op; apply Exists.intro; refine ⟨fun q => call_cls (good14 _ s hs HV.out) ⟨q, rfl⟩, ?_⟩; go_big_quiet_on; have Q1 : Hid True := trivial))
  refine wpQuiet_nil ?_
  intro w15 hw15
  go_wp2
  go_ret
  exact ⟨rfl, K14.trans (keeps_cls hw15)⟩
end Go.Proofs.YtdgnjpdjohibeaaDoor
