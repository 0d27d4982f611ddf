/-
  LeafPlaces: the walk.
-/
import Derived.Test.YthngaegfppbdmaaDoorLb
set_option linter.all false
namespace Go.Proofs.YthngaegfppbdmaaDoor
open Go.RowKit Go.Sort

theorem BlAt.slm {w : World} {g : Nat} {L : List B} (h : BlAt w g L) (A m : Nat) (hA : A + m ≤ 128) : SlB w (some ⟨g, A, none⟩) m (128 - A) ((L.drop A).take m) :=
  ⟨by rw [List.length_take, List.length_drop, h.len]; omega, by omega, fun j x hx => ⟨g, A, rfl, by
    have hl := h.len
    rw [List.getElem?_take] at hx
    split at hx
    · rename_i hj
      rw [h.cell (j := A + j) (by omega), getD_lt (by omega)]
      rw [List.getElem?_drop, List.getElem?_eq_getElem (by omega)] at hx
      cases hx
      rfl
    · cases hx⟩⟩

set_option maxRecDepth 100000 in
theorem places_long (w : World) (hT : Tabs w) (a1 a2 : Option Addr) (n1 c1 n2 c2 : Nat) (h : 20 < n1 ∨ 300 < n2) :
    Calls Tryd.prog 5 #[.slice a1 n1 c1, .slice a2 n2 c2] w fun e w' => e = .returned (.bool true) ∧ Keeps (fun _ => False) w w' := by
  have cs : (20 : Int) < (n1 : Int) ∨ (¬ (20 : Int) < (n1 : Int) ∧ (300 : Int) < (n2 : Int)) := by omega
  clear h
  go_enter Tryd.func5, Tryd.ntmps5
  rcases cs with h1 | ⟨h1, h2⟩
  all_goals
    go_wp2_with (go_at_call 14; refine (wakes14 _ hT).mono ?_; rintro e w2 ⟨rfl, k2⟩)
    go_ret
    exact ⟨rfl, k2⟩

set_option maxRecDepth 100000 in
theorem places_no (w : World) (hT : Tabs w) (a1 a2 : Option Addr) (n1 c1 n2 c2 : Nat) (l : List En) (hl : SlE w a1 n1 c1 l) (h1 : n1 ≤ 20) (h2 : n2 ≤ 300) (hg : gd l = false) :
    Calls Tryd.prog 5 #[.slice a1 n1 c1, .slice a2 n2 c2] w fun e w' => e = .returned (.bool true) ∧ Keeps (fun _ => False) w w' := by
  have h1' : ¬ (20 : Int) < (n1 : Int) := by omega
  have h2' : ¬ (300 : Int) < (n2 : Int) := by omega
  have HE : Hid (encR l = (zb 128, 11)) := by show _ = _; unfold encR; rw [hg]; rfl
  have HG : Hid (gd l = false) := hg
  have hzz := eq26_at (x := zb 128) (y := zb 128) (v := true) (decide_eq_true rfl) (zb_len _) (zb_len _)
  clear hg
  go_enter Tryd.func5, Tryd.ntmps5
  go_wp2_with (first
    | (go_at_call 15; refine (encP_at HE.out _ hT _ _ _ hl).mono ?_; rintro e w1 ⟨rfl, k1⟩)
    | (refine wpList_alloc26 rfl rfl ?_; intro g5 w2 b2 z2 k2; have K2 := k1.trans k2)
    | (refine wpList_store26 rfl _ _ rfl g5 rfl (zb 128) rfl (zb_len _) _ b2 ?_; intro w3 b3 k3; have K3 : Keeps (fun _ => False) w w3 := K2.trans' k3 (fun i e => .inr (by have := k1.size; omega)))
    | (refine wpList_load26 rfl _ rfl g5 rfl (zb 128) b3 ?_)
    | (refine wpList_build26g rfl rfl ?_)
    | (go_at_call 23; refine (good23_at HG.out _ _ _ _ (hl.keep K3)).mono ?_; rintro e w4 ⟨rfl, k4⟩; have K4 := K3.trans k4)
    | (go_at_call 14; refine (wakes14 _ (hT.keeps K4 (fun h => h) (fun h => h))).mono ?_; rintro e w5 ⟨rfl, k5⟩))
  go_ret
  exact ⟨rfl, K4.trans k5⟩

set_option maxRecDepth 100000 in
set_option maxHeartbeats 8000000 in
theorem places_ok (w : World) (hT : Tabs w) (a1 a2 : Option Addr) (n1 c1 n2 c2 : Nat) (l : List En) (p : List Int) (hl : SlE w a1 n1 c1 l) (hp : SlI w a2 n2 c2 p) (h1 : n1 ≤ 20) (h2 : n2 ≤ 300) (hg : gd l = true) :
    Calls Tryd.prog 5 #[.slice a1 n1 c1, .slice a2 n2 c2] w fun e w' => e = .returned (.bool true) ∧ Keeps (fun _ => False) w w' := by
  have h1' : ¬ (20 : Int) < (n1 : Int) := by omega
  have h2' : ¬ (300 : Int) < (n2 : Int) := by omega
  have hn3 := gd_len hg
  rw [hl.len] at hn3
  obtain ⟨hn1, hn3⟩ := hn3
  have hlen := hl.len
  obtain ⟨X, hX⟩ : ∃ X, lf l = X := ⟨_, rfl⟩
  have lX : X.length = 128 := by rw [← hX]; exact lf_len hl.keyed (by omega)
  have HE : Hid (encR l = (X, 0)) := by show _ = _; unfold encR; rw [hg, ← hX]; rfl
  have Hent : Hid (∀ i, i < n1 → entAt X i = l.getD i default) := fun i hi => by rw [← hX]; exact entAt_lf hl.keyed hg (by omega)
  have Hzero : Hid (∀ j, 6 + 36 * n1 ≤ j → X.getD j 0 = 0) := fun j hj => by
    rw [← hX]; unfold lf; exact blk5_zero (by rw [ltxt_len hl.keyed]; omega)
  have HX0 : Hid (X.getD 0 0 = kb 76) := by show _ = _; rw [← hX]; exact lf_0 l
  have HX1 : Hid (X.getD 1 0 = kb (n1 : Int)) := by show _ = _; rw [← hX, lf_1 l, hlen]
  have hx1 : nb (kb (n1 : Int)) = (n1 : Int) := by rw [nb_kb]; omega
  have hx0 : nb (kb 76) = 76 := by rw [nb_kb]; rfl
  have Hlen : Hid (l.length = n1) := hlen
  have hts := hT.size
  have hn3' : (n1 : Int) ≤ 3 := by omega
  clear hX hlen hg
  go_enter Tryd.func5, Tryd.ntmps5
  go_wp2_with (first
    | (go_at_call 15; refine (encP_at HE.out _ hT _ _ _ hl).mono ?_; rintro e w1 ⟨rfl, k1⟩)
    | (refine wpList_alloc26 rfl rfl ?_; intro g5 w2 b2 z2 k2; have K2 := k1.trans k2)
    | (refine wpList_store26 rfl _ _ rfl g5 rfl X rfl lX _ b2 ?_; intro w3 b3 k3; have K3 : Keeps (fun _ => False) w w3 := K2.trans' k3 (fun i e => .inr (by have := k1.size; omega)); have c0 : w3.cell? ⟨g5, 0, none⟩ = some (.int .u8 76) := (by rw [b3.cell (by omega), HX0.out, hx0]); have c1' : w3.cell? ⟨g5, 1, none⟩ = some (.int .u8 (n1 : Int)) := (by rw [b3.cell (by omega), HX1.out, hx1])))
  clear b2 k2 K2 k1 c0 c1' hx0 hx1
  go_loopw [7] (fun t wr => ∃ i : Nat, i ≤ n1 ∧ t = .int .i64 (i : Int) ∧ Keeps (fun _ => False) w3 wr) (fun t _ => n1 - (intOf t).toNat)
  case atStart => exact ⟨0, by omega, rfl, Keeps.refl _ _⟩
  case round =>
    obtain ⟨i, hi, rfl, KR⟩ := hrel
    have BR := b3.keep KR
    have KW := K3.trans KR
    by_cases hlt : i < n1
    · have hlt' : (i : Int) < (n1 : Int) := by omega
      have hi0 : (0 : Int) ≤ (i : Int) := by omega
      obtain ⟨b, o, rfl, hE⟩ := (hl.keep KW).ent hlt
      have hE1 := Hent.out i hlt
      generalize l.getD i default = e at *
      obtain ⟨A, hA⟩ : ∃ A, 2 + 36 * i = A := ⟨_, rfl⟩
      have hAi : 2 + 36 * (i : Int) = (A : Int) := by omega
      have hA74 : A ≤ 74 := by omega
      unfold entAt at hE1
      rw [hA] at hE1
      obtain ⟨ek, ep, eb, er⟩ := e
      simp only [En.mk.injEq] at hE1
      obtain ⟨q1, q2, q3, q4⟩ := hE1
      have S1 := BR.slm A 32 (by omega)
      rw [q1] at S1
      have S2 := hE.slb
      have i32 : (A : Int) + 32 < 128 := by omega
      have i33 : (A : Int) + 33 < 128 := by omega
      have i34 : (A : Int) + 34 < 128 := by omega
      have i35 : (A : Int) + 35 < 128 := by omega
      have j32 : (A : Int) + 32 ≤ 128 := by omega
      have t32 : ((A : Int) + 32).toNat = A + 32 := by omega
      have t33 : ((A : Int) + 33).toNat = A + 33 := by omega
      have t34 : ((A : Int) + 34).toNat = A + 34 := by omega
      have t35 : ((A : Int) + 35).toNat = A + 35 := by omega
      have hA0 : (0 : Int) ≤ (A : Int) := by omega
      have hA3 : (A : Int) ≤ (A : Int) + 32 := by omega
      have d32 : ∀ d os, (grow (redrawn wr d) os).cell? ⟨g5, A + 32, none⟩ = some (.int .u8 (nb (X.getD (A + 32) 0))) := fun d os => (BR.cls ⟨⟨d, os⟩, rfl⟩).cell (by omega)
      have d33 : ∀ d os, (grow (redrawn wr d) os).cell? ⟨g5, A + 33, none⟩ = some (.int .u8 (nb (X.getD (A + 33) 0))) := fun d os => (BR.cls ⟨⟨d, os⟩, rfl⟩).cell (by omega)
      have d34 : ∀ d os, (grow (redrawn wr d) os).cell? ⟨g5, A + 34, none⟩ = some (.int .u8 (nb (X.getD (A + 34) 0))) := fun d os => (BR.cls ⟨⟨d, os⟩, rfl⟩).cell (by omega)
      have d35 : ∀ d os, (grow (redrawn wr d) os).cell? ⟨g5, A + 35, none⟩ = some (.int .u8 (nb (X.getD (A + 35) 0))) := fun d os => (BR.cls ⟨⟨d, os⟩, rfl⟩).cell (by omega)
      have f32 : ∀ d os, (grow (redrawn wr d) os).cell? ⟨b, o + i * 35 + 32, none⟩ = some (.int .i64 (nb (X.getD (A + 32) 0))) := fun d os => by have := (hE.cls ⟨⟨d, os⟩, rfl⟩).place; dsimp only at this; rw [q2]; exact this
      have f33 : ∀ d os, (grow (redrawn wr d) os).cell? ⟨b, o + i * 35 + 33, none⟩ = some (.int .i64 (nb (X.getD (A + 33) 0))) := fun d os => by have := (hE.cls ⟨⟨d, os⟩, rfl⟩).blocks; dsimp only at this; rw [q3]; exact this
      have f34 : ∀ d os, (grow (redrawn wr d) os).cell? ⟨b, o + i * 35 + 34, none⟩ = some (.int .i64 (nb (X.getD (A + 34) 0) * 256 + nb (X.getD (A + 35) 0))) := fun d os => by have := (hE.cls ⟨⟨d, os⟩, rfl⟩).refs; dsimp only at this; rw [q4]; exact this
      have n32 := nb_lt (X.getD (A + 32) 0)
      have n33 := nb_lt (X.getD (A + 33) 0)
      have n34 := nb_lt (X.getD (A + 34) 0)
      have n35 := nb_lt (X.getD (A + 35) 0)
      generalize X.getD (A + 32) 0 = y1 at *
      generalize X.getD (A + 33) 0 = y2 at *
      generalize X.getD (A + 34) 0 = y3 at *
      generalize X.getD (A + 35) 0 = y4 at *
      clear hA q1 q2 q3 q4 hE
      go_wp2_with fail
      refine wp_region_quiet_below (by kernel_rfl) (by kernel_rfl) ?_
      iterate 57 (first
        | go_big_quiet_step (fail)
        | (go_big_quiet_want; go_big_quiet_op; apply Exists.intro; refine ⟨fun _ => bytes_cls S1 S2 ⟨_, rfl⟩, ?_⟩; go_big_quiet_on))
      refine wpQuiet_nil ?_
      intro w5 hw5
      go_wp2
      exact ⟨⟨i + 1, by omega, by go_num, KR.trans (keeps_cls hw5)⟩, by simp [intOf]; omega⟩
    · obtain rfl : i = n1 := by omega
      have hlt' : ¬ (i : Int) < (i : Int) := by omega
      obtain ⟨Z, hZ⟩ : ∃ Z, 6 + 36 * i = Z := ⟨_, rfl⟩
      have hZi : 6 + 36 * (i : Int) = (Z : Int) := by omega
      have hZ1 : Z ≤ 114 := by omega
      rw [hZ] at Hzero
      clear hZ
      go_wp2
      go_loop [9] (fun t => ∃ j : Nat, Z ≤ j ∧ j ≤ 128 ∧ t = .int .i64 (j : Int)) (fun t => 128 - (intOf t).toNat)
      case atStart => exact ⟨Z, by omega, by omega, rfl⟩
      case round =>
        obtain ⟨j, hj1, hj2, rfl⟩ := hrel
        by_cases hlj : j < 128
        · have hlj' : (j : Int) < 128 := by omega
          have hj0 : (0 : Int) ≤ (j : Int) := by omega
          have cj : wr.cell? ⟨g5, j, none⟩ = some (.int .u8 0) := by rw [BR.cell hlj, Hzero.out j hj1]; rfl
          go_wp2
          go_round
          case rel => exact ⟨j + 1, by omega, by omega, by go_num⟩
          case measure => simp [intOf]; omega
        · obtain rfl : j = 128 := by omega
          have hlj' : ¬ ((128 : Nat) : Int) < 128 := by omega
          have hTw := hT.keeps KW (fun h => h) (fun h => h)
          have hpw := hp.keep KW
          cases hk : okR p with
          | false =>
            have HR : Hid (rootR p = (zb 128, 11)) := by show _ = _; unfold rootR; rw [hk]; rfl
            have hzz := eq26_at (x := zb 128) (y := zb 128) (v := true) (decide_eq_true rfl) (zb_len _) (zb_len _)
            clear hk
            go_wp2_with (first
              | (go_at_call 19; refine (rootP_at HR.out _ hTw _ _ _ hpw).mono ?_; rintro e w5 ⟨rfl, k5⟩; have K5 := KW.trans k5)
              | (refine wpList_alloc26 rfl rfl ?_; intro g10 w6 b6 z6 k6; have K6 := K5.trans k6)
              | (refine wpList_store26 rfl _ _ rfl g10 rfl (zb 128) rfl (zb_len _) _ b6 ?_; intro w7 b7 k7; have K7 : Keeps (fun _ => False) w w7 := K6.trans' k7 (fun i e => .inr (by have := K5.size; omega)))
              | (refine wpList_load26 rfl _ rfl g10 rfl (zb 128) b7 ?_)
              | (refine wpList_build26g rfl rfl ?_)
              | (go_at_call 14; refine (wakes14 _ (hT.keeps K7 (fun h => h) (fun h => h))).mono ?_; rintro e w8 ⟨rfl, k8⟩))
            go_ret
            exact ⟨rfl, K7.trans k8⟩
          | true =>
            obtain ⟨R, hRr⟩ : ∃ R, rt p = R := ⟨_, rfl⟩
            have hq := okR_iff.1 hk
            rw [hp.len] at hq
            obtain ⟨⟨hq1, hq2⟩, hqb⟩ := hq
            have lR : R.length = 128 := by rw [← hRr]; exact rt_len (by rw [hp.len]; omega)
            have HR : Hid (rootR p = (R, 0)) := by show _ = _; unfold rootR; rw [hk, ← hRr]; rfl
            have HR0 : Hid (R.getD 0 0 = kb 82) := by show _ = _; rw [← hRr]; exact rt_0 p
            have HR1 : Hid (R.getD 1 0 = kb (n2 : Int)) := by show _ = _; rw [← hRr, rt_1 p, hp.len]
            have HRi : Hid (∀ i, i < n2 → R.getD (2 + i) 0 = kb (p.getD i 0) ∧ nb (kb (p.getD i 0)) = p.getD i 0) := fun i hi => by
              refine ⟨by rw [← hRr]; exact rt_get (by rw [hp.len]; exact hi), ?_⟩
              have := hqb i hi
              unfold rbad at this
              simp only [Bool.or_eq_false_iff, decide_eq_false_iff_not] at this
              rw [nb_kb]; omega
            obtain ⟨S, hS⟩ : ∃ S, sha (rtxt p) = S := ⟨_, rfl⟩
            obtain ⟨C, hC⟩ : ∃ C, S.take 4 = C := ⟨_, rfl⟩
            have HS : Hid (sha (rtxt p) = S) := hS
            have HC : Hid (S.take 4 = C) := hC
            have lC : C.length = 4 := by rw [← hC, ← hS, List.length_take, sha_len]; rfl
            have hrl := rtxt_len p
            rw [hp.len] at hrl
            have Htk : Hid (R.take (2 + n2) = rtxt p) := by show _ = _; rw [← hRr]; unfold rt; rw [← hrl]; exact blk5_take _
            have Hck : Hid ((R.drop (2 + n2)).take 4 = C) := by show _ = _; rw [← hRr, ← hC, ← hS]; unfold rt; rw [← hrl]; exact blk5_check _
            have hr0 : nb (kb 82) = 82 := by rw [nb_kb]; rfl
            have hr1 : nb (kb (n2 : Int)) = (n2 : Int) := by rw [nb_kb]; omega
            obtain ⟨b2, o2, rfl, _, hcell⟩ := hp.ent (by omega)
            have Hcell : Hid (∀ w', Keeps (fun _ => False) w w' → ∀ i, i < n2 → w'.cell? ⟨b2, o2 + i, none⟩ = some (.int .i64 (p.getD i 0))) := hcell
            obtain ⟨Bn, hBn⟩ : ∃ Bn, 2 + n2 = Bn := ⟨_, rfl⟩
            rw [hBn] at Htk Hck
            have hB2 : 2 + (n2 : Int) = (Bn : Int) := by omega
            obtain ⟨Cn, hCn⟩ : ∃ Cn, 6 + n2 = Cn := ⟨_, rfl⟩
            have hC6 : 6 + (n2 : Int) = (Cn : Int) := by omega
            have hCB : Cn - Bn = 4 := by omega
            have hB0 : (0 : Int) ≤ (Bn : Int) := by omega
            have hB1 : (Bn : Int) ≤ 128 := by omega
            have hBC : (Bn : Int) ≤ (Cn : Int) := by omega
            have hC1 : (Cn : Int) ≤ 128 := by omega
            have hBm : Bn + 4 ≤ 128 := by omega
            have hq3 : (n2 : Int) ≤ 100 := by omega
            clear hk hRr hqb hS hC hcell hBn hCn hrl
            go_wp2_with (first
              | (go_at_call 19; refine (rootP_at HR.out _ hTw _ _ _ hpw).mono ?_; rintro e w5 ⟨rfl, k5⟩; have K5 := KW.trans k5)
              | (refine wpList_alloc26 rfl rfl ?_; intro g10 w6 b6 z6 k6; have K6 := K5.trans k6)
              | (refine wpList_store26 rfl _ _ rfl g10 rfl R rfl lR _ b6 ?_; intro w7 b7 k7; have K7 : Keeps (fun _ => False) w w7 := K6.trans' k7 (fun i e => .inr (by have := K5.size; omega)); have e0 : w7.cell? ⟨g10, 0, none⟩ = some (.int .u8 82) := (by rw [b7.cell (by omega), HR0.out, hr0]); have e1 : w7.cell? ⟨g10, 1, none⟩ = some (.int .u8 (n2 : Int)) := (by rw [b7.cell (by omega), HR1.out, hr1])))
            clear e0 e1 hr0 hr1 b6 k6 K6 k7
            go_loopw [12] (fun t wq => ∃ i : Nat, i ≤ n2 ∧ t = .int .i64 (i : Int) ∧ Keeps (fun _ => False) w7 wq) (fun t _ => n2 - (intOf t).toNat)
            case atStart => exact ⟨0, by omega, rfl, Keeps.refl _ _⟩
            case round =>
              obtain ⟨i, hi, rfl, KQ⟩ := hrel
              have BQ := b7.keep KQ
              have KY := K7.trans KQ
              by_cases hli : i < n2
              · have hli' : (i : Int) < (n2 : Int) := by omega
                have hi0 : (0 : Int) ≤ (i : Int) := by omega
                obtain ⟨r1, r2⟩ := HRi.out i hli
                have cR : ∀ d os, (grow (redrawn wr d) os).cell? ⟨g10, 2 + i, none⟩ = some (.int .u8 (p.getD i 0)) := fun d os => by rw [(BQ.cls ⟨⟨d, os⟩, rfl⟩).cell (by omega), r1, r2]
                have cP : ∀ d os, (grow (redrawn wr d) os).cell? ⟨b2, o2 + i, none⟩ = some (.int .i64 (p.getD i 0)) := fun d os => Hcell.out _ (KY.trans (keeps_cls ⟨⟨d, os⟩, rfl⟩)) i hli
                have hv : 0 ≤ p.getD i 0 ∧ p.getD i 0 < 256 := by have := nb_lt (kb (p.getD i 0)); rw [r2] at this; exact this
                obtain ⟨hv1, hv2⟩ := hv
                generalize p.getD i 0 = v at *
                have t2 : (2 + (i : Int)).toNat = 2 + i := by omega
                have t3 : 2 + (i : Int) < 128 := by omega
                have t4 : 0 ≤ 2 + (i : Int) := by omega
                clear r1 r2
                go_wp2_with fail
                refine wp_region_quiet_below (by kernel_rfl) (by kernel_rfl) ?_
                iterate 10 (go_big_quiet_step (fail))
                refine wpQuiet_nil ?_
                intro w8 hw8
                go_wp2
                exact ⟨⟨i + 1, by omega, by go_num, KQ.trans (keeps_cls hw8)⟩, by simp [intOf]; omega⟩
              · obtain rfl : i = n2 := by omega
                have hli' : ¬ (i : Int) < (i : Int) := by omega
                have T1 := BQ.slb Bn (by omega)
                rw [Htk.out] at T1
                go_wp2_with (first
                  | (go_at_call 27; refine (check_at HS HC _ (hT.keeps KY (fun h => h) (fun h => h)) _ _ _ T1 (by omega)).mono ?_; rintro e w9 ⟨rfl, k9⟩; have B9 := BQ.keep k9; have K9 := KY.trans k9)
                  | (refine wpList_alloc4b rfl rfl ?_; intro g13 wa fa za ka; have Ba := B9.keep ka; have Ka := K9.trans ka)
                  | (refine wpList_store4b rfl _ _ rfl g13 rfl C rfl lC _ fa ?_; intro wb fb kb'; have Kb : Keeps (fun _ => False) w wb := Ka.trans' kb' (fun i e => .inr (by have := K9.size; omega)); have Bb := Ba.keeps kb' (by have := B9.lt; omega)))
                have S1 := Bb.slm Bn 4 hBm
                rw [Hck.out] at S1
                have S2 := fb.slb
                have hTb := hT.keeps Kb (fun h => h) (fun h => h)
                simp only [Act.put, List.setIfInBounds_toArray, List.set_cons_zero, List.set_cons_succ]
                refine wp_region_quiet_below (by kernel_rfl) (by kernel_rfl) ?_
                iterate 13 (first
                  | go_big_quiet_step (fail)
                  | (have := Q1; go_big_quiet_want; go_big_quiet_op; apply Exists.intro; refine ⟨fun _ => call_cls (wakes14 _ (hTb.keeps (keeps_cls ⟨_, rfl⟩) (fun h => h) (fun h => h))) ⟨_, rfl⟩, ?_⟩; go_big_quiet_on)
                  | (go_big_quiet_want; go_big_quiet_op; apply Exists.intro; refine ⟨fun _ => bytes_cls S1 S2 ⟨_, rfl⟩, ?_⟩; go_big_quiet_on; have Q1 : Hid True := trivial))
                refine wpQuiet_nil ?_
                intro wz hwz
                go_wp2
                go_ret
                exact ⟨rfl, Kb.trans (keeps_cls hwz)⟩

theorem placesL (w : World) (hT : Tabs w) (a1 : Option Addr) (n1 c1 : Nat) (l : List En) (hl : SlE w a1 n1 c1 l) (hn1 : n1 ≤ 9223372036854775807) (a2 : Option Addr) (n2 c2 : Nat) (p : List Int) (hp : SlI w a2 n2 c2 p) (hn2 : n2 ≤ 9223372036854775807) :
    Calls Tryd.prog 5 #[.slice a1 n1 c1, .slice a2 n2 c2] w fun e w' => e = .returned (.bool true) ∧ Keeps (fun _ => False) w w' := by
  by_cases h : 20 < n1 ∨ 300 < n2
  · exact places_long w hT a1 a2 n1 c1 n2 c2 h
  · cases hg : gd l with
    | false => exact places_no w hT a1 a2 n1 c1 n2 c2 l hl (by omega) (by omega) hg
    | true => exact places_ok w hT a1 a2 n1 c1 n2 c2 l p hl hp (by omega) (by omega) hg

end Go.Proofs.YthngaegfppbdmaaDoor
