/-
  SuperPlaces: the walk.
-/
import Derived.Test.YtdgnjpdjohibeaaDoorKx
set_option linter.all false
set_option maxRecDepth 100000
namespace Go.Proofs.YtdgnjpdjohibeaaDoor
open Go.RowKit Go.Sort Go.Shelf

theorem wakes_cls {w0 w1 : World} (hT : Tabs w0) (hw : ∃ p : Regrown, w1 = grow (redrawn w0 p.d) p.os) :
    Calls Tryd.prog 16 #[] w1 fun e w'' => e = .returned (.bool true) ∧ ∃ p : Regrown, w'' = grow (redrawn w0 p.d) p.os :=
  call_cls (wakes16 w1 (hT.keeps (keeps_cls hw) (fun h => h) (fun h => h))) hw

set_option maxHeartbeats 4000000 in
theorem placesL_no (w : World) (hT : Tabs w) (s : Su) (hs : s.Ok) (hg : s.good = false) :
    Calls Tryd.prog 7 #[.agg s.cells] w fun e w' => e = .returned (.bool true) ∧ Keeps (fun _ => False) w w' := by
  have HE : Hid (encR s = (zb 128, 11)) := by show _ = _; unfold encR; rw [hg]; rfl
  have Hg : Hid (s.good = false) := hg
  have heq := eq26 (zb_len 128) (zb_len 128)
  rw [decide_eq_true rfl] at heq
  have B0 : Hid (∀ {ops : Array Oper} {rest : List Oper} {o : Oper} {a : Act} {w : World} {Q : Exit → Act → World → Prop}, o.guard = none → o.op = .build 30 #[] → wpList Tryd.prog ops Q rest (a.put o.dst (.agg (brow (zb 128)))) w → wpList Tryd.prog ops Q (o :: rest) a w) := fun a b c => wpList_build26 a b c
  have lz := zb_len 128
  have A0 : Hid (∀ {ops : Array Oper} {rest : List Oper} {o : Oper} {a : Act} {w : World} {Q : Exit → Act → World → Prop}, o.guard = none → o.op = .alloc 30 → (∀ g w', BlAt w' g (zb 128) → w.heap.size ≤ g → Keeps (fun _ => False) w w' → wpList Tryd.prog ops Q rest (a.put o.dst (.pointer (some ⟨g, 0, none⟩))) w') → wpList Tryd.prog ops Q (o :: rest) a w) := fun a b c => wpList_alloc26 a b c
  generalize zb 128 = z at *
  clear hg
  have T0 : Hid True := trivial
  go_enter Tryd.func7, Tryd.ntmps7
  go_wp2_with (first
    | (have := T0; refine boxS_at (.tmp 0) rfl rfl s rfl ?_; intro g1 w1 b1 z1 k1; clear T0; have T1 : Hid True := trivial)
    | (have := T1; refine wpList_loadS rfl _ rfl g1 rfl s hs b1 ?_; clear T1; have T2 : Hid True := trivial)
    | (have := T2; go_at_call 10; refine (encP_is HE.out _ (hT.keeps k1 (fun h => h) (fun h => h)) hs).mono ?_; rintro e w2 ⟨rfl, k2⟩; have b2 := RoAt.keep b1 k2; have K2 := k1.trans k2; clear T2; have T3 : Hid True := trivial)
    | (have := T3; refine A0.out rfl rfl ?_; intro g3 w3 c3 z3 k3; have b3 := RoAt.keep b2 k3; have K3 := K2.trans k3; have z3' : w.heap.size ≤ g3 := (by have := K2.size; omega); have n13 : g1 ≠ g3 := (by have := RoAt.lt b2; omega); clear T3; have T4 : Hid True := trivial)
    | (have := T4; refine wpList_store26 rfl _ _ rfl g3 rfl z rfl lz _ c3 ?_; intro w4 c4 k4; have b4 := RoAt.keeps b3 k4 n13; have K4 : Keeps (fun _ => False) w w4 := K3.trans' k4 (fun i e => .inr (by omega)); clear T4; have T5 : Hid True := trivial)
    | (have := T5; refine wpList_load26 rfl _ rfl g3 rfl z c4 ?_; clear T5; have T6 : Hid True := trivial)
    | (have := T6; refine B0.out rfl rfl ?_; clear T6; have T7 : Hid True := trivial)
    | (have := T7; refine wpList_loadS rfl _ rfl g1 rfl s hs b4 ?_; clear T7; have T8 : Hid True := trivial)
    | (have := T8; go_at_call 14; refine (good14 _ s hs Hg.out).mono ?_; rintro e w5 ⟨rfl, k5⟩; have K5 := K4.trans k5; clear T8; have T9 : Hid True := trivial)
    | (have := T9; go_at_call 16; refine (wakes16 _ (hT.keeps K5 (fun h => h) (fun h => h))).mono ?_; rintro e w6 ⟨rfl, k6⟩; have K6 := K5.trans k6; clear T9))
  go_ret
  exact ⟨rfl, K6⟩

/-- What stands where in a superblock's block. -/
structure Plc (s : Su) (L C : List B) (z : B) : Prop where
  len : L.length = 128
  b0 : nb (L.getD 0 0) = 83
  b1 : nb (L.getD 1 0) = (s.gen : Int) / 16777216
  b2 : nb (L.getD 2 0) = (s.gen : Int) / 65536 % 256
  b3 : nb (L.getD 3 0) = (s.gen : Int) / 256 % 256
  b4 : nb (L.getD 4 0) = (s.gen : Int) % 256
  b5 : nb (L.getD 5 0) = s.blocks
  b6 : nb (L.getD 6 0) = s.root
  log : (L.drop 7).take 32 = s.log
  used : (L.drop 39).take 16 = s.used
  check : (L.drop 55).take 4 = C
  zeros : ∀ i, 59 ≤ i → i < 128 → nb (L.getD i 0) = 0
  text : L.take 55 = stxt s
  c : (sha (stxt s)).take 4 = C
theorem plc_of {s : Su} (hs : s.Ok) (hg : s.good = true) : Plc s (sblk s) ((sha (stxt s)).take 4) 0 := by
  have e := sblk_form s
  have hr := srd_good hs hg
  have hb := good_bounds hg
  have ht := stxt_len hs
  have hl : (sblk s).length = 128 := sblk_len hs
  have hx : sblk s = stxt s ++ ((sha (stxt s)).take 4 ++ zb 69) := by unfold sblk blk5; rw [ht]
  have lC : ((sha (stxt s)).take 4).length = 4 := by rw [List.length_take, sha_len]; rfl
  refine ⟨hl, ?_, ?_, ?_, ?_, ?_, congrArg Su.blocks hr, congrArg Su.root hr, congrArg Su.log hr, congrArg Su.used hr, ?_, ?_, ?_, rfl⟩
  · rw [e]; rfl
  · rw [e]; simp only [List.getD_cons_succ, List.getD_cons_zero, nb_kb]; have := hb.2.1; omega
  · rw [e]; simp only [List.getD_cons_succ, List.getD_cons_zero, nb_kb]
  · rw [e]; simp only [List.getD_cons_succ, List.getD_cons_zero, nb_kb]
  · rw [e]; simp only [List.getD_cons_succ, List.getD_cons_zero, nb_kb]
  · rw [hx, List.drop_append_of_le_length (by omega), List.drop_of_length_le (by omega), List.nil_append, List.take_append_of_le_length (by omega), List.take_of_length_le (by omega)]
  · intro i h1 h2
    rw [hx, List.getD_eq_getElem?_getD, List.getElem?_append_right (by omega), List.getElem?_append_right (by omega)]
    simp only [zb, List.getElem?_replicate]
    rw [if_pos (by omega)]; rfl
  · rw [hx, List.take_append_of_le_length (by omega), List.take_of_length_le (by omega)]

set_option maxHeartbeats 8000000 in
theorem placesL_yes (w : World) (hT : Tabs w) (s : Su) (hs : s.Ok) (hg : s.good = true) {L C : List B} {z : B} (P : Plc s L C z) (hL : sblk s = L) :
    Calls Tryd.prog 7 #[.agg s.cells] w fun e w' => e = .returned (.bool true) ∧ Keeps (fun _ => False) w w' := by
  have HE : Hid (encR s = (L, 0)) := by show _ = _; unfold encR; rw [hg, ← hL]; rfl
  have lL := P.len
  have lC : C.length = 4 := by rw [← P.c, List.length_take, sha_len]; rfl
  have HC : Hid (sha (stxt s) = sha (stxt s)) := rfl
  have HP : Hid (Plc s L C z) := P
  have hgn := hs.gen
  have hbk := hs.blocks
  have hrt := hs.root
  clear hg hL
  have T0 : Hid True := trivial
  go_enter Tryd.func7, Tryd.ntmps7
  go_wp2_with (first
    | (have := T0; refine boxS_at (.tmp 0) rfl rfl s rfl ?_; intro g1 w1 b1 z1 k1; clear T0; have T1 : Hid True := trivial)
    | (have := T1; refine wpList_loadS rfl _ rfl g1 rfl s hs b1 ?_; clear T1; have T2 : Hid True := trivial)
    | (have := T2; go_at_call 10; refine (encP_is HE.out _ (hT.keeps k1 (fun h => h) (fun h => h)) hs).mono ?_; rintro e w2 ⟨rfl, k2⟩; have b2 := RoAt.keep b1 k2; have K2 := k1.trans k2; clear T2; have T3 : Hid True := trivial)
    | (have := T3; refine wpList_alloc26 rfl rfl ?_; intro g3 w3 c3 z3 k3; have b3 := RoAt.keep b2 k3; have K3 := K2.trans k3; have z3' : w.heap.size ≤ g3 := (by have := K2.size; omega); have n13 : g1 ≠ g3 := (by have := RoAt.lt b2; omega); clear T3; have T4 : Hid True := trivial)
    | (have := T4; refine wpList_store26 rfl _ _ rfl g3 rfl L rfl lL _ c3 ?_; intro w4 c4 k4; have b4 := RoAt.keeps b3 k4 n13; have K4 : Keeps (fun _ => False) w w4 := K3.trans' k4 (fun i e => .inr (by omega)); clear T4))
  clear k1 b1 k2 b2 K2 c3 z3 k3 b3 K3 k4
  have hT4 := hT.keeps K4 (fun h => h) (fun h => h)
  have cl : ∀ j, j < 128 → ∀ d os, (grow (redrawn w4 d) os).cell? ⟨g3, j, none⟩ = some (.int .u8 (nb (L.getD j 0))) := fun j hj d os => (c4.cls ⟨⟨d, os⟩, rfl⟩).cell hj
  have c0 := cl 0 (by omega)
  have c5 := cl 5 (by omega)
  have c6 := cl 6 (by omega)
  rw [HP.out.b0] at c0
  rw [HP.out.b5] at c5
  rw [HP.out.b6] at c6
  have p1 : ∀ d os, (grow (redrawn w4 d) os).cell? ⟨g1, 1, none⟩ = some (.int .i64 s.blocks) := fun d os => (SuAt.parts (RoAt.cls b4 ⟨{ d := d, os := os }, rfl⟩)).2.1
  have p2 : ∀ d os, (grow (redrawn w4 d) os).cell? ⟨g1, 2, none⟩ = some (.int .i64 s.root) := fun d os => (SuAt.parts (RoAt.cls b4 ⟨{ d := d, os := os }, rfl⟩)).2.2
  have s1 : SlB w4 (some ⟨g3, 7, none⟩) 32 121 s.log := by have := SlB.ofRow c4.row 7 32 121 (by omega) (by omega); rw [HP.out.log] at this; exact this
  have s2 : SlB w4 (some ⟨g3, 39, none⟩) 16 89 s.used := by have := SlB.ofRow c4.row 39 16 89 (by omega) (by omega); rw [HP.out.used] at this; exact this
  have s3 := SuAt.sllog b4 hs 32 (by omega)
  have s4 := SuAt.slused b4 hs 16 (by omega)
  clear cl
  refine wp_region_quiet_below (by kernel_rfl) (by kernel_rfl) ?_
  repeat (first
    | go_big_quiet_skip
    | go_big_quiet_step (fail)
    | (have := Q1; go_big_quiet_want; go_big_quiet_op; apply Exists.intro; refine ⟨fun q => bytes_cls s2 s4 ⟨q, rfl⟩, ?_⟩; go_big_quiet_on)
    | (go_big_quiet_want; go_big_quiet_op; apply Exists.intro; refine ⟨fun q => bytes_cls s1 s3 ⟨q, rfl⟩, ?_⟩; go_big_quiet_on; have Q1 : Hid True := trivial))
  refine wpQuiet_nil ?_
  intro w5 hw5
  have k5 := keeps_cls hw5
  have c5' := c4.keep k5
  have b5' := RoAt.keep b4 k5
  have K5 := K4.trans k5
  clear c0 c5 c6 p1 p2 s1 s2 s3 s4 hw5 k5 K4 b4 c4 hT4
  go_wp2
  go_loopw [5] (fun t wr => ∃ i : Nat, i ≤ 4 ∧ t = .int .i64 (i : Int) ∧ Keeps (fun _ => False) w5 wr) (fun t _ => 4 - (intOf t).toNat)
  case atStart => exact ⟨0, by omega, rfl, Keeps.refl _ _⟩
  case round =>
    obtain ⟨i, hi, rfl, kr⟩ := hrel
    have cr := c5'.keep kr
    have br := RoAt.keep b5' kr
    by_cases hlt : i < 4
    · have hlt' : (i : Int) < 4 := by omega
      go_wp2
      have p0 : ∀ d os, (grow (redrawn wr d) os).cell? ⟨g1, 0, none⟩ = some (.int .u32 (s.gen : Int)) := fun d os => (SuAt.parts (RoAt.cls br ⟨{ d := d, os := os }, rfl⟩)).1
      have hcase : i = 0 ∨ i = 1 ∨ i = 2 ∨ i = 3 := by omega
      clear hlt'
      rcases hcase with rfl | rfl | rfl | rfl
      · have cg : ∀ d os, (grow (redrawn wr d) os).cell? ⟨g3, 1, none⟩ = some (.int .u8 (nb (L.getD 1 0))) := fun d os => (cr.cls ⟨⟨d, os⟩, rfl⟩).cell (by omega)
        rw [HP.out.b1] at cg
        refine wp_region_quiet_below (by kernel_rfl) (by kernel_rfl) ?_
        repeat (go_big_quiet_step (fail))
        refine wpQuiet_nil ?_
        intro w6 hw6
        go_wp2
        exact ⟨⟨1, by omega, by first | rfl | simp, kr.trans (keeps_cls hw6)⟩, by simp [intOf]⟩
      · have cg : ∀ d os, (grow (redrawn wr d) os).cell? ⟨g3, 2, none⟩ = some (.int .u8 (nb (L.getD 2 0))) := fun d os => (cr.cls ⟨⟨d, os⟩, rfl⟩).cell (by omega)
        rw [HP.out.b2] at cg
        refine wp_region_quiet_below (by kernel_rfl) (by kernel_rfl) ?_
        repeat (go_big_quiet_step (fail))
        refine wpQuiet_nil ?_
        intro w6 hw6
        go_wp2
        exact ⟨⟨2, by omega, by first | rfl | simp, kr.trans (keeps_cls hw6)⟩, by simp [intOf]⟩
      · have cg : ∀ d os, (grow (redrawn wr d) os).cell? ⟨g3, 3, none⟩ = some (.int .u8 (nb (L.getD 3 0))) := fun d os => (cr.cls ⟨⟨d, os⟩, rfl⟩).cell (by omega)
        rw [HP.out.b3] at cg
        refine wp_region_quiet_below (by kernel_rfl) (by kernel_rfl) ?_
        repeat (go_big_quiet_step (fail))
        refine wpQuiet_nil ?_
        intro w6 hw6
        go_wp2
        exact ⟨⟨3, by omega, by first | rfl | simp, kr.trans (keeps_cls hw6)⟩, by simp [intOf]⟩
      · have cg : ∀ d os, (grow (redrawn wr d) os).cell? ⟨g3, 4, none⟩ = some (.int .u8 (nb (L.getD 4 0))) := fun d os => (cr.cls ⟨⟨d, os⟩, rfl⟩).cell (by omega)
        rw [HP.out.b4] at cg
        refine wp_region_quiet_below (by kernel_rfl) (by kernel_rfl) ?_
        repeat (go_big_quiet_step (fail))
        refine wpQuiet_nil ?_
        intro w6 hw6
        go_wp2
        exact ⟨⟨4, by omega, by first | rfl | simp, kr.trans (keeps_cls hw6)⟩, by simp [intOf]⟩
    · obtain rfl : i = 4 := by omega
      have hlt' : ¬ ((4 : Nat) : Int) < 4 := by omega
      have KR := K5.trans kr
      have st : SlB wr (some ⟨g3, 0, none⟩) 55 128 (stxt s) := by have := SlB.ofRow cr.row 0 55 128 (by omega) (by omega); rw [List.drop_zero, HP.out.text] at this; exact this
      have T0 : Hid True := trivial
      have HCc : Hid ((sha (stxt s)).take 4 = C) := HP.out.c
      go_wp2_with (first
        | (have := T0; go_at_call 32; refine (check_at (show Hid (sha (stxt s) = sha (stxt s)) from rfl) HCc _ (hT.keeps KR (fun h => h) (fun h => h)) _ _ _ st (by omega)).mono ?_; rintro e w6 ⟨rfl, k6⟩; have c6 := cr.keep k6; clear T0; have T1 : Hid True := trivial)
        | (have := T1; refine wpList_alloc4b rfl rfl ?_; intro g6 w7 f7 z7 k7; have c7 := c6.keep k7; clear T1; have T2 : Hid True := trivial)
        | (have := T2; refine wpList_store4b rfl _ _ rfl g6 rfl C rfl lC _ f7 ?_; intro w8 f8 k8; have c8 := c7.keeps k8 (by have := c6.lt; omega); clear T2))
      have KS : Keeps (fun _ => False) w w8 := ((KR.trans k6).trans k7).trans' k8 (fun i e => .inr (by have := (KR.trans k6).size; omega))
      go_loopw [7] (fun t wr => ∃ i : Nat, 59 ≤ i ∧ i ≤ 128 ∧ t = .int .i64 (i : Int) ∧ BlAt wr g3 L ∧ FoAt wr g6 C ∧ Keeps (fun _ => False) w wr) (fun t _ => 128 - (intOf t).toNat)
      case atStart => exact ⟨59, by omega, by omega, rfl, c8, f8, KS⟩
      case round =>
        clear c8 f8 KS k8 f7 c7 k7 k6 cr st kr br KR
        obtain ⟨i, hi1, hi2, rfl, c8, f8, KS⟩ := hrel
        by_cases hlt : i < 128
        · have hlt2 : (i : Int) < 128 := by omega
          have hi0 : (0 : Int) ≤ (i : Int) := by omega
          have cz := c8.cell (j := i) hlt
          rw [HP.out.zeros i hi1 hlt] at cz
          go_wp2
          exact ⟨⟨i + 1, by omega, by omega, rfl, c8, f8, KS⟩, by simp [intOf]; omega⟩
        · obtain rfl : i = 128 := by omega
          have hlt2 : ¬ ((128 : Nat) : Int) < 128 := by omega
          have s5 := SlB.ofRow c8.row 55 4 73 (by omega) (by omega)
          rw [HP.out.check] at s5
          have s6 := f8.slb
          have hT8 := hT.keeps KS (fun h => h) (fun h => h)
          go_wp2
          refine wp_region_quiet_below (by kernel_rfl) (by kernel_rfl) ?_
          repeat (first
            | go_big_quiet_skip
            | go_big_quiet_step (fail)
            | (have := Q1; go_big_quiet_want; go_big_quiet_op; apply Exists.intro; refine ⟨fun q => wakes_cls hT8 ⟨q, rfl⟩, ?_⟩; go_big_quiet_on)
            | (go_big_quiet_want; go_big_quiet_op; apply Exists.intro; refine ⟨fun q => bytes_cls s5 s6 ⟨q, rfl⟩, ?_⟩; go_big_quiet_on; have Q1 : Hid True := trivial))
          refine wpQuiet_nil ?_
          intro w9 hw9
          go_wp2
          go_ret
          exact ⟨rfl, KS.trans (keeps_cls hw9)⟩

theorem placesL (w : World) (hT : Tabs w) (s : Su) (hs : s.Ok) :
    Calls Tryd.prog 7 #[.agg s.cells] w fun e w' => e = .returned (.bool true) ∧ Keeps (fun _ => False) w w' := by
  cases hg : s.good with
  | false => exact placesL_no w hT s hs hg
  | true => exact placesL_yes w hT s hs hg (plc_of hs hg) rfl
end Go.Proofs.YtdgnjpdjohibeaaDoor
