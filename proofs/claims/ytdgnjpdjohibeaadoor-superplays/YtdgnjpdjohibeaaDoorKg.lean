/-
  Decode of the program.
-/
import Derived.Test.YtdgnjpdjohibeaaDoorKf
import Derived.Test.YtdgnjpdjohibeaaDoorKr
set_option linter.all false
set_option maxRecDepth 100000
namespace Go.Proofs.YtdgnjpdjohibeaaDoor
open Go.RowKit Go.Sort Go.Shelf

theorem results_ro_slot {fn : Func} {p q : Tmp} {t : TypeId} (h : fn.results = #[.cell p t, .tmp q]) (tmps : Array Value) (w : World) (g : Nat) (cs : Array Value) (v : Value) (hp : tmps.getD p undef = .pointer (some ⟨g, 0, none⟩)) (hq : tmps.getD q undef = v) (hb : RoAt w g t cs) (hs : RowTy t cs.size) :
    (results fn tmps).run Tryd.prog w = .ok (.tuple #[.agg cs, v]) w := by
  have hp' : tmps[p]?.getD undef = .pointer (some ⟨g, 0, none⟩) := by simpa using hp
  have hq' : tmps[q]?.getD undef = v := by simpa using hq
  simp [results, h, hp', hq', asAddr, run_loadR hb hs]
theorem results_su12 (tm : Array Value) (g2 : Nat) (wr : World) (s : Su) (hs : s.Ok) (v : Int) (h1 : tm.getD 2 undef = .pointer (some ⟨g2, 0, none⟩)) (h2 : tm.getD 3 undef = .int .i64 v) (h3 : SuAt wr g2 s) : (results Tryd.f12 tm).run Tryd.prog wr = .ok (toldS (s, v)) wr :=
  results_ro_slot rfl tm wr g2 s.cells _ h1 h2 h3 hs.ty
theorem encP_is {s : Su} {p : List B × Int} (h : encR s = p) (w : World) (hT : Tabs w) (hs : s.Ok) :
    Calls Tryd.prog 10 #[.agg s.cells] w fun e w' => e = .returned (.tuple #[.agg (brow p.1), .int .i64 p.2]) ∧ Keeps (fun _ => False) w w' := by
  rw [← h]; exact encP w hT s hs


set_option maxHeartbeats 4000000 in
theorem decP_no (w : World) (hT : Tabs w) (L : List B) (hL : L.length = 128) {s : Su} (hS : srd L = s) (hg : s.good = false) :
    Calls Tryd.prog 12 #[.agg (brow L)] w fun e w' => e = .returned (toldS (decR L)) ∧ Keeps (fun _ => False) w w' := by
  have hs : s.Ok := by rw [← hS]; exact srd_ok hL
  have HS : Hid (srd L = s) := hS
  have HE : Hid (encR s = (zb 128, 11)) := by show _ = _; unfold encR; rw [hg]; rfl
  have HD : Hid (decR L = (su0, 11)) := by show _ = _; unfold decR; rw [hS, if_neg (by rw [hg]; simp)]
  clear hg
  clear hS
  have T0 : Hid True := trivial
  go_enter Tryd.func12, Tryd.ntmps12
  go_wp2_with (first
    | (have := T0; refine wpList_box26 rfl _ rfl L hL rfl ?_; intro g1 w1 b1 z1 k1; clear T0; have T1 : Hid True := trivial)
    | (have := T1; refine wpList_allocS rfl rfl ?_; intro g2 w2 c2 z2 k2; have b2 := b1.keep k2; have K2 := k1.trans k2; clear T1; have T2 : Hid True := trivial)
    | (have := T2; refine wpList_load26 rfl _ rfl g1 rfl L b2 ?_; clear T2; have T3 : Hid True := trivial)
    | (have := T3; go_at_call 35; refine (read35 _ L hL HS).mono ?_; rintro e w3 ⟨rfl, k3⟩; have b3 := b2.keep k3; have c3 := RoAt.keep c2 k3; have K3 := K2.trans k3; clear T3; have T4 : Hid True := trivial)
    | (have := T4; refine wpList_allocS rfl rfl ?_; intro g4 w4 d4 z4 k4; have b4 := b3.keep k4; have c4 := RoAt.keep c3 k4; have K4 := K3.trans k4; have z4' : w.heap.size ≤ g4 := (by have := K3.size; omega); have n41 : g1 ≠ g4 := (by have := b3.lt; omega); have n42 : g2 ≠ g4 := (by have := c3.lt; omega); clear T4; have T5 : Hid True := trivial)
    | (have := T5; refine wpList_storeS rfl _ _ rfl g4 rfl s hs rfl su0 su0_ok d4 ?_; intro w5 d5 k5; have b5 := b4.keeps k5 n41; have c5 := RoAt.keeps c4 k5 n42; have K5 : Keeps (fun _ => False) w w5 := K4.trans' k5 (fun i e => .inr (by omega)); clear T5; have T6 : Hid True := trivial)
    | (have := T6; refine wpList_loadS rfl _ rfl g4 rfl s hs d5 ?_; clear T6; have T7 : Hid True := trivial)
    | (have := T7; go_at_call 10; refine (encP_is HE.out _ (hT.keeps K5 (fun h => h) (fun h => h)) hs).mono ?_; rintro e w6 ⟨rfl, k6⟩; have b6 := b5.keep k6; have c6 := RoAt.keep c5 k6; have d6 := RoAt.keep d5 k6; have K6 := K5.trans k6; clear T7; have T8 : Hid True := trivial)
    | (have := T8; refine wpList_alloc26 rfl rfl ?_; intro g7 w7 e7 z7 k7; have b7 := b6.keep k7; have c7 := RoAt.keep c6 k7; have d7 := RoAt.keep d6 k7; have K7 := K6.trans k7; have z7' : w.heap.size ≤ g7 := (by have := K6.size; omega); have n71 : g1 ≠ g7 := (by have := b6.lt; omega); have n72 : g2 ≠ g7 := (by have := c6.lt; omega); have n74 : g4 ≠ g7 := (by have := d6.lt; omega); clear T8; have T9 : Hid True := trivial)
    | (have := T9; refine wpList_store26 rfl _ _ rfl g7 rfl (zb 128) rfl (zb_len _) _ e7 ?_; intro w8 e8 k8; have b8 := b7.keeps k8 n71; have c8 := RoAt.keeps c7 k8 n72; have d8 := RoAt.keeps d7 k8 n74; have K8 : Keeps (fun _ => False) w w8 := K7.trans' k8 (fun i e => .inr (by omega)); clear T9; have T10 : Hid True := trivial)
    | (have := T10; refine wpList_buildS0 rfl rfl ?_; clear T10; have T13 : Hid True := trivial)
    | (have := T13; refine wpList_storeS rfl _ _ rfl g2 rfl su0 su0_ok rfl su0 su0_ok c8 ?_; intro w9 c9 k9; clear T13))
  have hz2 : w.heap.size ≤ g2 := by have := k1.size; omega
  rw [HD.out]
  exact bodyPost_ret (v := toldS (su0, 11)) (results_su12 _ g2 _ su0 su0_ok 11 rfl rfl c9) rfl ⟨rfl, K8.trans' k9 (fun i e => .inr (by omega))⟩


set_option maxHeartbeats 4000000 in
theorem decP_other (w : World) (hT : Tabs w) (L : List B) (hL : L.length = 128) {s : Su} (hS : srd L = s) (hg : s.good = true) {M : List B} (hM : sblk s = M) (hne : M ≠ L) :
    Calls Tryd.prog 12 #[.agg (brow L)] w fun e w' => e = .returned (toldS (decR L)) ∧ Keeps (fun _ => False) w w' := by
  have hs : s.Ok := by rw [← hS]; exact srd_ok hL
  have HS : Hid (srd L = s) := hS
  have lM : M.length = 128 := by rw [← hM]; exact sblk_len hs
  have HE : Hid (encR s = (M, 0)) := by show _ = _; unfold encR; rw [hg, ← hM]; rfl
  have HD : Hid (decR L = (su0, 11)) := by show _ = _; unfold decR; rw [hS, hM, if_neg (by intro h; exact hne h.2)]
  have heq := eq26 lM hL
  rw [decide_eq_false hne] at heq
  clear hg hM hne
  clear hS
  have T0 : Hid True := trivial
  go_enter Tryd.func12, Tryd.ntmps12
  go_wp2_with (first
    | (have := T0; refine wpList_box26 rfl _ rfl L hL rfl ?_; intro g1 w1 b1 z1 k1; clear T0; have T1 : Hid True := trivial)
    | (have := T1; refine wpList_allocS rfl rfl ?_; intro g2 w2 c2 z2 k2; have b2 := b1.keep k2; have K2 := k1.trans k2; clear T1; have T2 : Hid True := trivial)
    | (have := T2; refine wpList_load26 rfl _ rfl g1 rfl L b2 ?_; clear T2; have T3 : Hid True := trivial)
    | (have := T3; go_at_call 35; refine (read35 _ L hL HS).mono ?_; rintro e w3 ⟨rfl, k3⟩; have b3 := b2.keep k3; have c3 := RoAt.keep c2 k3; have K3 := K2.trans k3; clear T3; have T4 : Hid True := trivial)
    | (have := T4; refine wpList_allocS rfl rfl ?_; intro g4 w4 d4 z4 k4; have b4 := b3.keep k4; have c4 := RoAt.keep c3 k4; have K4 := K3.trans k4; have z4' : w.heap.size ≤ g4 := (by have := K3.size; omega); have n41 : g1 ≠ g4 := (by have := b3.lt; omega); have n42 : g2 ≠ g4 := (by have := c3.lt; omega); clear T4; have T5 : Hid True := trivial)
    | (have := T5; refine wpList_storeS rfl _ _ rfl g4 rfl s hs rfl su0 su0_ok d4 ?_; intro w5 d5 k5; have b5 := b4.keeps k5 n41; have c5 := RoAt.keeps c4 k5 n42; have K5 : Keeps (fun _ => False) w w5 := K4.trans' k5 (fun i e => .inr (by omega)); clear T5; have T6 : Hid True := trivial)
    | (have := T6; refine wpList_loadS rfl _ rfl g4 rfl s hs d5 ?_; clear T6; have T7 : Hid True := trivial)
    | (have := T7; go_at_call 10; refine (encP_is HE.out _ (hT.keeps K5 (fun h => h) (fun h => h)) hs).mono ?_; rintro e w6 ⟨rfl, k6⟩; have b6 := b5.keep k6; have c6 := RoAt.keep c5 k6; have d6 := RoAt.keep d5 k6; have K6 := K5.trans k6; clear T7; have T8 : Hid True := trivial)
    | (have := T8; refine wpList_alloc26 rfl rfl ?_; intro g7 w7 e7 z7 k7; have b7 := b6.keep k7; have c7 := RoAt.keep c6 k7; have d7 := RoAt.keep d6 k7; have K7 := K6.trans k7; have z7' : w.heap.size ≤ g7 := (by have := K6.size; omega); have n71 : g1 ≠ g7 := (by have := b6.lt; omega); have n72 : g2 ≠ g7 := (by have := c6.lt; omega); have n74 : g4 ≠ g7 := (by have := d6.lt; omega); clear T8; have T9 : Hid True := trivial)
    | (have := T9; refine wpList_store26 rfl _ _ rfl g7 rfl M rfl lM _ e7 ?_; intro w8 e8 k8; have b8 := b7.keeps k8 n71; have c8 := RoAt.keeps c7 k8 n72; have d8 := RoAt.keeps d7 k8 n74; have K8 : Keeps (fun _ => False) w w8 := K7.trans' k8 (fun i e => .inr (by omega)); clear T9; have T10 : Hid True := trivial)
    | (have := T10; refine wpList_load26 rfl _ rfl g7 rfl M e8 ?_; clear T10; have T11 : Hid True := trivial)
    | (have := T11; refine wpList_load26 rfl _ rfl g1 rfl L b8 ?_; clear T11; have T12 : Hid True := trivial)
    | (have := T12; refine wpList_buildS0 rfl rfl ?_; clear T12; have T13 : Hid True := trivial)
    | (have := T13; refine wpList_storeS rfl _ _ rfl g2 rfl su0 su0_ok rfl su0 su0_ok c8 ?_; intro w9 c9 k9; clear T13))
  have hz2 : w.heap.size ≤ g2 := by have := k1.size; omega
  rw [HD.out]
  exact bodyPost_ret (v := toldS (su0, 11)) (results_su12 _ g2 _ su0 su0_ok 11 rfl rfl c9) rfl ⟨rfl, K8.trans' k9 (fun i e => .inr (by omega))⟩


set_option maxHeartbeats 4000000 in
theorem decP_same (w : World) (hT : Tabs w) (L : List B) (hL : L.length = 128) {s : Su} (hS : srd L = s) (hg : s.good = true) {M : List B} (hM : sblk s = M) (hme : M = L) :
    Calls Tryd.prog 12 #[.agg (brow L)] w fun e w' => e = .returned (toldS (decR L)) ∧ Keeps (fun _ => False) w w' := by
  have hs : s.Ok := by rw [← hS]; exact srd_ok hL
  have HS : Hid (srd L = s) := hS
  have lM : M.length = 128 := by rw [← hM]; exact sblk_len hs
  have HE : Hid (encR s = (M, 0)) := by show _ = _; unfold encR; rw [hg, ← hM]; rfl
  have HD : Hid (decR L = (s, 0)) := by show _ = _; unfold decR; rw [hS, hM, if_pos ⟨hg, hme⟩]
  have heq := eq26 lM hL
  rw [decide_eq_true hme] at heq
  clear hg hM hme
  clear hS
  have T0 : Hid True := trivial
  go_enter Tryd.func12, Tryd.ntmps12
  go_wp2_with (first
    | (have := T0; refine wpList_box26 rfl _ rfl L hL rfl ?_; intro g1 w1 b1 z1 k1; clear T0; have T1 : Hid True := trivial)
    | (have := T1; refine wpList_allocS rfl rfl ?_; intro g2 w2 c2 z2 k2; have b2 := b1.keep k2; have K2 := k1.trans k2; clear T1; have T2 : Hid True := trivial)
    | (have := T2; refine wpList_load26 rfl _ rfl g1 rfl L b2 ?_; clear T2; have T3 : Hid True := trivial)
    | (have := T3; go_at_call 35; refine (read35 _ L hL HS).mono ?_; rintro e w3 ⟨rfl, k3⟩; have b3 := b2.keep k3; have c3 := RoAt.keep c2 k3; have K3 := K2.trans k3; clear T3; have T4 : Hid True := trivial)
    | (have := T4; refine wpList_allocS rfl rfl ?_; intro g4 w4 d4 z4 k4; have b4 := b3.keep k4; have c4 := RoAt.keep c3 k4; have K4 := K3.trans k4; have z4' : w.heap.size ≤ g4 := (by have := K3.size; omega); have n41 : g1 ≠ g4 := (by have := b3.lt; omega); have n42 : g2 ≠ g4 := (by have := c3.lt; omega); clear T4; have T5 : Hid True := trivial)
    | (have := T5; refine wpList_storeS rfl _ _ rfl g4 rfl s hs rfl su0 su0_ok d4 ?_; intro w5 d5 k5; have b5 := b4.keeps k5 n41; have c5 := RoAt.keeps c4 k5 n42; have K5 : Keeps (fun _ => False) w w5 := K4.trans' k5 (fun i e => .inr (by omega)); clear T5; have T6 : Hid True := trivial)
    | (have := T6; refine wpList_loadS rfl _ rfl g4 rfl s hs d5 ?_; clear T6; have T7 : Hid True := trivial)
    | (have := T7; go_at_call 10; refine (encP_is HE.out _ (hT.keeps K5 (fun h => h) (fun h => h)) hs).mono ?_; rintro e w6 ⟨rfl, k6⟩; have b6 := b5.keep k6; have c6 := RoAt.keep c5 k6; have d6 := RoAt.keep d5 k6; have K6 := K5.trans k6; clear T7; have T8 : Hid True := trivial)
    | (have := T8; refine wpList_alloc26 rfl rfl ?_; intro g7 w7 e7 z7 k7; have b7 := b6.keep k7; have c7 := RoAt.keep c6 k7; have d7 := RoAt.keep d6 k7; have K7 := K6.trans k7; have z7' : w.heap.size ≤ g7 := (by have := K6.size; omega); have n71 : g1 ≠ g7 := (by have := b6.lt; omega); have n72 : g2 ≠ g7 := (by have := c6.lt; omega); have n74 : g4 ≠ g7 := (by have := d6.lt; omega); clear T8; have T9 : Hid True := trivial)
    | (have := T9; refine wpList_store26 rfl _ _ rfl g7 rfl M rfl lM _ e7 ?_; intro w8 e8 k8; have b8 := b7.keeps k8 n71; have c8 := RoAt.keeps c7 k8 n72; have d8 := RoAt.keeps d7 k8 n74; have K8 : Keeps (fun _ => False) w w8 := K7.trans' k8 (fun i e => .inr (by omega)); clear T9; have T10 : Hid True := trivial)
    | (have := T10; refine wpList_load26 rfl _ rfl g7 rfl M e8 ?_; clear T10; have T11 : Hid True := trivial)
    | (have := T11; refine wpList_load26 rfl _ rfl g1 rfl L b8 ?_; clear T11; have T12 : Hid True := trivial)
    | (have := T12; refine wpList_loadS rfl _ rfl g4 rfl s hs d8 ?_; clear T12; have T13 : Hid True := trivial)
    | (have := T13; refine wpList_storeS rfl _ _ rfl g2 rfl s hs rfl su0 su0_ok c8 ?_; intro w9 c9 k9; clear T13))
  have hz2 : w.heap.size ≤ g2 := by have := k1.size; omega
  rw [HD.out]
  exact bodyPost_ret (v := toldS (s, 0)) (results_su12 _ g2 _ s hs 0 rfl rfl c9) rfl ⟨rfl, K8.trans' k9 (fun i e => .inr (by omega))⟩


theorem decP (w : World) (hT : Tabs w) (L : List B) (hL : L.length = 128) :
    Calls Tryd.prog 12 #[.agg (brow L)] w fun e w' => e = .returned (toldS (decR L)) ∧ Keeps (fun _ => False) w w' := by
  cases hg : (srd L).good with
  | false => exact decP_no w hT L hL rfl hg
  | true =>
    by_cases h : sblk (srd L) = L
    · exact decP_same w hT L hL rfl hg rfl h
    · exact decP_other w hT L hL rfl hg rfl h
theorem decP_is {L : List B} {p : Su × Int} (h : decR L = p) (w : World) (hT : Tabs w) (hL : L.length = 128) :
    Calls Tryd.prog 12 #[.agg (brow L)] w fun e w' => e = .returned (.tuple #[.agg p.1.cells, .int .i64 p.2]) ∧ Keeps (fun _ => False) w w' := by
  rw [← h]; exact decP w hT L hL
end Go.Proofs.YtdgnjpdjohibeaaDoor
