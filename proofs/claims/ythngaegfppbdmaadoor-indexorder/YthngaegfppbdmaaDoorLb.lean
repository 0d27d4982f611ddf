/-
  LeafBack: the walk.
-/
import Derived.Test.YthngaegfppbdmaaDoorTn
set_option linter.all false
namespace Go.Proofs.YthngaegfppbdmaaDoor
open Go.RowKit Go.Sort

theorem BlAt.slb {w : World} {g : Nat} {L : List B} (h : BlAt w g L) (A : Nat) (hA : A ≤ 128) : SlB w (some ⟨g, 0, none⟩) A 128 (L.take A) :=
  ⟨by rw [List.length_take, h.len]; omega, hA, fun j x hx => ⟨g, 0, rfl, by
    have hl := h.len
    rw [List.getElem?_take] at hx
    split at hx
    · rename_i hj
      rw [Nat.zero_add, h.cell (j := j) (by omega), getD_lt (by omega)]
      rw [List.getElem?_eq_getElem (by omega)] at hx
      cases hx
      rfl
    · cases hx⟩⟩
theorem blk5_chk0 (t : List B) : (blk5 t).getD t.length 0 = ((sha t).take 4).getD 0 0 := by
  unfold blk5
  rw [List.getD_eq_getElem?_getD, List.getElem?_append_right (Nat.le_refl _), Nat.sub_self, List.getElem?_append_left (by rw [List.length_take, sha_len]; omega), List.getD_eq_getElem?_getD]
theorem eq26_at {x y : List B} {v : Bool} (h : Hid (decide (x = y) = v)) (hx : x.length = 128) (hy : y.length = 128) : ∀ w, (Op.equalIn 10000 25 (.agg (brow x)) (.agg (brow y))).run Tryd.prog w = .ok v w := fun w => by rw [← h.out]; exact eq26 hx hy w

theorem wpList_build26g {ops : Array Oper} {rest : List Oper} {o : Oper} {a : Act} {w : World} {Q : Exit → Act → World → Prop} (hw : Region.wanted o (yielded ops a.tmps) = true) (ho : o.op = .build 25 #[])
    (h : wpList Tryd.prog ops Q rest (a.put o.dst (.agg (brow (zb 128)))) w) : wpList Tryd.prog ops Q (o :: rest) a w := by
  unfold wpList
  rw [if_pos hw]
  left
  unfold Oper.wp execOp
  simp only [ho, List.map_toArray, List.map_nil, build26, Sem.run_bind, Result.andThen_ok, Sem.run_pure]
  exact h

theorem back_long (w : World) (hT : Tabs w) (a1 a2 a3 : Option Addr) (n1 c1 n2 c2 n3 c3 : Nat) (h : 20 < n1 ∨ 20 < n2 ∨ 300 < n3) :
    Calls Tryd.prog 4 #[.slice a1 n1 c1, .slice a2 n2 c2, .slice a3 n3 c3] w fun e w' => e = .returned (.bool true) ∧ Keeps (fun _ => False) w w' := by
  have cs : (20 : Int) < (n1 : Int) ∨ (¬ (20 : Int) < (n1 : Int) ∧ (20 : Int) < (n2 : Int)) ∨ (¬ (20 : Int) < (n1 : Int) ∧ ¬ (20 : Int) < (n2 : Int) ∧ (300 : Int) < (n3 : Int)) := by omega
  clear h
  go_enter Tryd.func4, Tryd.ntmps4
  rcases cs with h1 | ⟨h1, h2⟩ | ⟨h1, h2, h3⟩
  all_goals
    go_wp2_with (go_at_call 14; refine (wakes14 _ hT).mono ?_; rintro e w1 ⟨rfl, k1⟩)
    go_ret
    exact ⟨rfl, k1⟩

/-- What comes behind the two leaves: the root. -/
theorem okR_ways (l : List Int) : (okR l = true ∧ ∃ R : List B, R.length = 128 ∧ rootR l = (R, 0) ∧ isRt R = true ∧ plcs R = l ∧ isLf R = false) ∨ (okR l = false ∧ rootR l = (zb 128, 11)) := by
  cases h : okR l with
  | true => exact .inl ⟨rfl, rt l, rt_len (okR_iff.1 h).1.2, by unfold rootR; rw [h]; rfl, isRt_rt h, plcs_rt h, rt_noLf⟩
  | false => exact .inr ⟨rfl, by unfold rootR; rw [h]; rfl⟩
theorem gd_ways {l : List En} (hk : Keyed l) : (gd l = true ∧ ∃ X : List B, X.length = 128 ∧ lf l = X ∧ encR l = (X, 0) ∧ isLf X = true ∧ ents X = l ∧ isRt X = false ∧ l.length ≤ 3 ∧ X.take (2 + 36 * l.length) = ltxt l ∧ X.getD (2 + 36 * l.length) 0 = ((sha (ltxt l)).take 4).getD 0 0) ∨ (gd l = false ∧ encR l = (zb 128, 11)) := by
  cases h : gd l with
  | true =>
    have h3 := (gd_len h).2
    have ht := ltxt_len hk
    exact .inl ⟨rfl, lf l, lf_len hk h3, rfl, by unfold encR; rw [h]; rfl, isLf_lf hk h, ents_lf hk h, lf_noRt, h3, by unfold lf; rw [← ht]; exact blk5_take _, by unfold lf; rw [← ht]; exact blk5_chk0 _⟩
  | false => exact .inr ⟨rfl, by unfold encR; rw [h]; rfl⟩

set_option maxRecDepth 100000 in
set_option maxHeartbeats 4000000 in
theorem back_no (w : World) (hT : Tabs w) (a1 a2 a3 : Option Addr) (n1 c1 n2 c2 n3 c3 : Nat) (l m : List En) (p : List Int) (hl : SlE w a1 n1 c1 l) (hm : SlE w a2 n2 c2 m) (hp : SlI w a3 n3 c3 p) (h1 : n1 ≤ 20) (h2 : n2 ≤ 20) (h3 : n3 ≤ 300) (hg : encR l = (zb 128, 11)) :
    Calls Tryd.prog 4 #[.slice a1 n1 c1, .slice a2 n2 c2, .slice a3 n3 c3] w fun e w' => e = .returned (.bool true) ∧ Keeps (fun _ => False) w w' := by
  have h1' : ¬ (20 : Int) < (n1 : Int) := by omega
  have h2' : ¬ (20 : Int) < (n2 : Int) := by omega
  have h3' : ¬ (300 : Int) < (n3 : Int) := by omega
  have HL : Hid (encR l = (zb 128, 11)) := hg
  obtain ⟨Y, f, hY⟩ : ∃ Y f, encR m = (Y, f) := ⟨_, _, rfl⟩
  have lY : Y.length = 128 := by
    rcases gd_ways hm.keyed with ⟨_, X, hX, _, e, _⟩ | ⟨_, e⟩
    · rw [hY] at e; cases e; exact hX
    · rw [hY] at e; cases e; exact zb_len _
  have HM : Hid (encR m = (Y, f)) := hY
  have hzz := eq26_at (x := zb 128) (y := zb 128) (v := true) (decide_eq_true rfl) (zb_len _) (zb_len _)
  have hts := hT.size
  clear hY hg
  rcases okR_ways p with ⟨_, R, lR, hR, hI, hP, hN⟩ | ⟨_, hR⟩
  all_goals
    have HR : Hid (rootR p = _) := hR
    clear hR
    go_enter Tryd.func4, Tryd.ntmps4
    go_wp2_with (first
      | (go_at_call 15; have := K3; refine (encP_at HM.out _ (hT.keeps K3 (fun h => h) (fun h => h)) _ _ _ (hm.keep K3)).mono ?_; rintro e w4 ⟨rfl, k4⟩; have K4 := K3.trans k4; have B4 := b3.keep k4)
      | (go_at_call 15; refine (encP_at HL.out _ hT _ _ _ hl).mono ?_; rintro e w1 ⟨rfl, k1⟩)
      | (refine wpList_alloc26 rfl rfl ?_; have := K4; intro g9 w5 d5 z5 k5; have K5 := K4.trans k5; have B5 := B4.keep k5; have h79 : g7 ≠ g9 := (by have := B4.lt; omega))
      | (refine wpList_alloc26 rfl rfl ?_; intro g7 w2 b2 z2 k2; have K2 := k1.trans k2)
      | (refine wpList_store26 rfl _ _ rfl g9 rfl Y rfl lY _ d5 ?_; intro w6 d6 k6; have K6 : Keeps (fun _ => False) w w6 := K5.trans' k6 (fun i e => .inr (by have := K4.size; omega)); have B6 := B5.keeps k6 h79)
      | (refine wpList_store26 rfl _ _ rfl g7 rfl (zb 128) rfl (zb_len _) _ b2 ?_; intro w3 b3 k3; have K3 : Keeps (fun _ => False) w w3 := K2.trans' k3 (fun i e => .inr (by have := k1.size; omega))))
    have kd : Keeps (fun _ => False) w6 w6.drew := (Keeps.refl _ _).drew
    refine region_plan (S := fun w' => ∃ q : Regrown, w' = grow (redrawn w6 q.d) q.os) [([0, 1, 2, 3, 4, 5, 6, 7, 8, 9, 10, 11], 12)] [13, 14] (by kernel_rfl) (by kernel_rfl) (by kernel_rfl) (by kernel_rfl) (cls_keeps kd) ?_
    simp only [wpPlan, opsAt, pick]
    repeat (go_big_quiet_step (fail))
    refine wpQuiet_nil ?_
    go_wp2
    refine ⟨cls_keeps kd, ?_⟩
    simp only [wpPlan, opsAt, pick]
    repeat (go_big_quiet_step (fail))
    refine wpQuiet_nil ?_
    refine NoPanic.normal ?_
    have K7 := K6.trans kd
    go_wp2_with (first
      | (go_at_call 19; refine (rootP_at HR.out _ (hT.keeps K7 (fun h => h) (fun h => h)) _ _ _ (hp.keep K7)).mono ?_; rintro e w8 ⟨rfl, k8⟩; have K8 := K7.trans k8)
      | (refine wpList_alloc26 rfl rfl ?_; intro g16 w9 b9 z9 k9; have K9 := K8.trans k9)
      | (refine wpList_store26 rfl _ _ rfl g16 rfl (zb 128) rfl (zb_len _) _ b9 ?_; intro w10 b10 k10; have K10 : Keeps (fun _ => False) w w10 := K9.trans' k10 (fun i e => .inr (by have := K8.size; omega)))
      | (refine wpList_store26 rfl _ _ rfl g16 rfl R rfl lR _ b9 ?_; intro w10 b10 k10; have K10 : Keeps (fun _ => False) w w10 := K9.trans' k10 (fun i e => .inr (by have := K8.size; omega)))
      | (refine wpList_load26 rfl _ rfl g16 rfl (zb 128) b10 ?_)
      | (refine wpList_load26 rfl _ rfl g16 rfl R b10 ?_)
      | (refine wpList_load26 rfl _ rfl g16 rfl R b11 ?_)
      | (refine wpList_build26g rfl rfl ?_)
      | (go_at_call 21; refine (leavesP_is hI hP _ (hT.keeps K10 (fun h => h) (fun h => h)) lR).mono ?_; rintro e w11 ⟨⟨a11, c11, rfl, s11⟩, k11⟩; have b11 := b10.keep k11; have K11 := K10.trans k11)
      | (go_at_call 17; refine (decP_not hN _ (hT.keeps K11 (fun h => h) (fun h => h)) lR).mono ?_; rintro e w12 ⟨rfl, k12⟩; have K12 := K11.trans k12; have s12 := s11.keep k12)
      | (go_at_call 26; refine (ints_at (decide_eq_true rfl) _ _ _ _ _ _ _ s12 (hp.keep K12) (by have := hp.len; omega)).mono ?_; rintro e w13 ⟨rfl, k13⟩; have K13 := K12.trans k13)
      | (go_at_call 14; have := K13; refine (wakes14 _ (hT.keeps K13 (fun h => h) (fun h => h))).mono ?_; rintro e w14 ⟨rfl, k14⟩; have KZ := K13.trans k14)
      | (go_at_call 14; refine (wakes14 _ (hT.keeps K10 (fun h => h) (fun h => h))).mono ?_; rintro e w14 ⟨rfl, k14⟩; have KZ := K10.trans k14))
    go_ret
    exact ⟨rfl, KZ⟩

set_option maxRecDepth 100000 in
set_option maxHeartbeats 8000000 in
theorem back_ok (w : World) (hT : Tabs w) (a1 a2 a3 : Option Addr) (n1 c1 n2 c2 n3 c3 : Nat) (l m : List En) (p : List Int) (hl : SlE w a1 n1 c1 l) (hm : SlE w a2 n2 c2 m) (hp : SlI w a3 n3 c3 p) (h1 : n1 ≤ 20) (h2 : n2 ≤ 20) (h3 : n3 ≤ 300) (X : List B) (lX : X.length = 128) (hXl : lf l = X) (hX : encR l = (X, 0)) (hI1 : isLf X = true) (hE1 : ents X = l) (hN1 : isRt X = false) (hl3 : l.length ≤ 3) (htk : X.take (2 + 36 * l.length) = ltxt l) (hck : X.getD (2 + 36 * l.length) 0 = ((sha (ltxt l)).take 4).getD 0 0) (hgl : gd l = true) :
    Calls Tryd.prog 4 #[.slice a1 n1 c1, .slice a2 n2 c2, .slice a3 n3 c3] w fun e w' => e = .returned (.bool true) ∧ Keeps (fun _ => False) w w' := by
  have h1' : ¬ (20 : Int) < (n1 : Int) := by omega
  have h2' : ¬ (20 : Int) < (n2 : Int) := by omega
  have h3' : ¬ (300 : Int) < (n3 : Int) := by omega
  have HL : Hid (encR l = (X, 0)) := hX
  have HI1 : Hid (isLf X = true) := hI1
  have HE1 : Hid (ents X = l) := hE1
  have HN1 : Hid (isRt X = false) := hN1
  have hlen := hl.len
  rw [hlen] at hl3 htk hck
  obtain ⟨A, hA⟩ : ∃ A, 2 + 36 * n1 = A := ⟨_, rfl⟩
  rw [hA] at htk hck
  have hA2 : 2 + 36 * (n1 : Int) = (A : Int) := by omega
  have hA110 : A ≤ 110 := by omega
  have hA0 : (0 : Int) ≤ (A : Int) := by omega
  have hA128 : (A : Int) ≤ 128 := by omega
  have hA127 : (A : Int) < 128 := by omega
  have Htk : Hid (X.take A = ltxt l) := htk
  obtain ⟨S, hS⟩ : ∃ S, sha (ltxt l) = S := ⟨_, rfl⟩
  obtain ⟨C, hC⟩ : ∃ C, S.take 4 = C := ⟨_, rfl⟩
  have HS : Hid (sha (ltxt l) = S) := hS
  have HC : Hid (S.take 4 = C) := hC
  have lC : C.length = 4 := by rw [← hC, ← hS, List.length_take, sha_len]; rfl
  rw [hS, hC] at hck
  obtain ⟨y, hy⟩ : ∃ y, C.getD 0 0 = y := ⟨_, rfl⟩
  rw [hy] at hck
  have Hy : Hid (C.getD 0 0 = y) := hy
  have Hck : Hid (X.getD A 0 = y) := hck
  have hts := hT.size
  have hzz := eq26_at (x := zb 128) (y := zb 128) (v := true) (decide_eq_true rfl) (zb_len _) (zb_len _)
  obtain ⟨Y, f, lY, hM, hw⟩ : ∃ (Y : List B) (f : Int), Y.length = 128 ∧ encR m = (Y, f) ∧ ((f = 0 ∧ decide (X = Y) = true ∧ decide (l = m) = true) ∨ (f = 0 ∧ decide (X = Y) = false ∧ decide (l = m) = false) ∨ f = 11) := by
    rcases gd_ways hm.keyed with ⟨hgm, Y, lY, hYm, hM, _⟩ | ⟨_, hM⟩
    · refine ⟨Y, 0, lY, hM, ?_⟩
      by_cases e : l = m
      · exact .inl ⟨rfl, decide_eq_true (by rw [← hXl, ← hYm, e]), decide_eq_true e⟩
      · exact .inr (.inl ⟨rfl, decide_eq_false (fun h => e (lf_inj hl.keyed hm.keyed hgl hgm (by rw [hXl, hYm, h]))), decide_eq_false e⟩)
    · exact ⟨zb 128, 11, zb_len _, hM, .inr (.inr rfl)⟩
  have HM : Hid (encR m = (Y, f)) := hM
  clear hX hI1 hE1 hN1 htk hck hy hS hC hM hXl hgl hA hlen
  rcases okR_ways p with ⟨_, R, lR, hR, hI, hP, hN⟩ | ⟨_, hR⟩ <;> rcases hw with ⟨rfl, hv1, hv2⟩ | ⟨rfl, hv1, hv2⟩ | rfl
  all_goals
    first
      | (have hXY := eq26_at hv1 lX lY; have HV : Hid (_ = _) := hv2; clear hv1 hv2)
      | skip
    have HR : Hid (rootR p = _) := hR
    clear hR
    go_enter Tryd.func4, Tryd.ntmps4
    go_wp2_with (first
      | (go_at_call 15; have := K3; refine (encP_at HM.out _ (hT.keeps K3 (fun h => h) (fun h => h)) _ _ _ (hm.keep K3)).mono ?_; rintro e w4 ⟨rfl, k4⟩; have K4 := K3.trans k4; have B4 := b3.keep k4)
      | (go_at_call 15; refine (encP_at HL.out _ hT _ _ _ hl).mono ?_; rintro e w1 ⟨rfl, k1⟩)
      | (refine wpList_alloc26 rfl rfl ?_; have := K4; intro g9 w5 d5 z5 k5; have K5 := K4.trans k5; have B5 := B4.keep k5; have h79 : g7 ≠ g9 := (by have := B4.lt; omega))
      | (refine wpList_alloc26 rfl rfl ?_; intro g7 w2 b2 z2 k2; have K2 := k1.trans k2)
      | (refine wpList_store26 rfl _ _ rfl g9 rfl Y rfl lY _ d5 ?_; intro w6 d6 k6; have K6 : Keeps (fun _ => False) w w6 := K5.trans' k6 (fun i e => .inr (by have := K4.size; omega)); have B6 := B5.keeps k6 h79)
      | (refine wpList_store26 rfl _ _ rfl g7 rfl X rfl lX _ b2 ?_; intro w3 b3 k3; have K3 : Keeps (fun _ => False) w w3 := K2.trans' k3 (fun i e => .inr (by have := k1.size; omega)))
      | (refine wpList_load26 rfl _ rfl g7 rfl X B7 ?_)
      | (refine wpList_load26 rfl _ rfl g7 rfl X B6 ?_)
      | (go_at_call 17; refine (decP_is HI1.out HE1.out _ (hT.keeps K6 (fun h => h) (fun h => h)) lX).mono ?_; rintro e w7 ⟨⟨a7, c7, rfl, s7⟩, k7⟩; have B7 := B6.keep k7; have D7 := d6.keep k7; have K7 := K6.trans k7)
      | (go_at_call 21; refine (leavesP_not HN1.out _ (hT.keeps K7 (fun h => h) (fun h => h)) lX).mono ?_; rintro e w8 ⟨rfl, k8⟩; have B8 := B7.keep k8; have D8 := D7.keep k8; have s8 := s7.keep k8; have K8 := K7.trans k8; have T8 := B8.slb A (by omega); rw [Htk.out] at T8)
      | (go_at_call 27; refine (check_at HS HC _ (hT.keeps K8 (fun h => h) (fun h => h)) _ _ _ T8 (by omega)).mono ?_; rintro e w9 ⟨rfl, k9⟩; have B9 := B8.keep k9; have D9 := D8.keep k9; have s9 := s8.keep k9; have K9 := K8.trans k9)
      | (refine wpList_alloc4b rfl rfl ?_; intro g15 wa fa za ka; have Ba := B9.keep ka; have Da := D9.keep ka; have sa := s9.keep ka; have Ka := K9.trans ka)
      | (refine wpList_store4b rfl _ _ rfl g15 rfl C rfl lC _ fa ?_; intro wb fb kb'; have Kb : Keeps (fun _ => False) w wb := Ka.trans' kb' (fun i e => .inr (by have := K9.size; omega)); have Bb := Ba.keeps kb' (by have := B9.lt; omega); have Db := Da.keeps kb' (by have := D9.lt; omega); have sb := sa.keeps kb' (fun h0 b o e h => by obtain ⟨b', o', e', hE⟩ := s9.ent (i := 0) h0; rw [e] at e'; cases e'; have := slb_lt hE.slb (by omega) rfl; omega)))
    have cA : ∀ d os, (grow (redrawn wb d) os).cell? ⟨g7, A, none⟩ = some (.int .u8 (nb y)) := fun d os => by rw [(Bb.cls ⟨⟨d, os⟩, rfl⟩).cell (j := A) (by omega), Hck.out]
    have cC : ∀ d os, (grow (redrawn wb d) os).cell? ⟨g15, 0, none⟩ = some (.int .u8 (nb y)) := fun d os => by rw [(fb.keep (keeps_cls ⟨⟨d, os⟩, rfl⟩)).cell (j := 0) (by omega), Hy.out]
    have hlb := hl.keep Kb
    have hn1 : l.length ≤ 9223372036854775807 := by have := hl.len; omega
    simp only [Act.put, List.setIfInBounds_toArray, List.set_cons_zero, List.set_cons_succ]
    refine wp_region_quiet_below (by kernel_rfl) (by kernel_rfl) ?_
    iterate 23 (first
      | go_big_quiet_step (fail)
      | (go_big_quiet_want; go_big_quiet_op; apply Exists.intro; refine ⟨fun _ => call_cls (entries_at (decide_eq_true rfl) _ _ _ _ _ _ _ (sb.keep (keeps_cls ⟨_, rfl⟩)) (hlb.keep (keeps_cls ⟨_, rfl⟩)) hn1) ⟨_, rfl⟩, ?_⟩; go_big_quiet_on))
    refine wpQuiet_nil ?_
    intro wc hwc
    have kc := keeps_cls hwc
    have Kc := Kb.trans kc
    have Bc := Bb.keep kc
    have Dc := Db.keep kc
    have hlc := hl.keep Kc
    have hmc := hm.keep Kc
    go_wp2
    have kd : Keeps (fun _ => False) wc wc.drew := (Keeps.refl _ _).drew
    refine region_plan (S := fun w' => ∃ q : Regrown, w' = grow (redrawn wc q.d) q.os) [([0, 1, 2, 3, 4, 5, 6, 7, 8, 9, 10, 11], 12)] [13, 14] (by kernel_rfl) (by kernel_rfl) (by kernel_rfl) (by kernel_rfl) (cls_keeps kd) ?_
    simp only [wpPlan, opsAt, pick]
    repeat (first
      | (go_big_quiet_want; refine quiet_load26 _ rfl g7 rfl X (fun w' hp => Bc.cls hp) ?_; simp only [Act.put, List.setIfInBounds_toArray, List.set_cons_zero, List.set_cons_succ]; go_big_quiet_on)
      | (go_big_quiet_want; refine quiet_load26 _ rfl g9 rfl Y (fun w' hp => Dc.cls hp) ?_; simp only [Act.put, List.setIfInBounds_toArray, List.set_cons_zero, List.set_cons_succ]; go_big_quiet_on)
      | go_big_quiet_step (fail))
    refine wpQuiet_nil ?_
    first
      | (go_wp2_with (go_at_call 25; refine (entries_at HV _ _ _ _ _ _ _ (hlc.keep kd) (hmc.keep kd) (by have := hl.len; omega)).mono ?_; rintro e wd ⟨rfl, kd1⟩); have KD := kd.trans kd1; refine ⟨cls_keeps KD, ?_⟩)
      | (go_wp2; have KD := kd; refine ⟨cls_keeps KD, ?_⟩)
    simp only [wpPlan, opsAt, pick]
    repeat (go_big_quiet_step (fail))
    refine wpQuiet_nil ?_
    refine NoPanic.normal ?_
    have K7 := Kc.trans KD
    clear cA cC
    go_wp2_with (first
      | (go_at_call 19; refine (rootP_at HR.out _ (hT.keeps K7 (fun h => h) (fun h => h)) _ _ _ (hp.keep K7)).mono ?_; rintro e w8 ⟨rfl, k8⟩; have K8 := K7.trans k8)
      | (refine wpList_alloc26 rfl rfl ?_; intro g16 w9 b9 z9 k9; have K9 := K8.trans k9)
      | (refine wpList_store26 rfl _ _ rfl g16 rfl (zb 128) rfl (zb_len _) _ b9 ?_; intro w10 b10 k10; have K10 : Keeps (fun _ => False) w w10 := K9.trans' k10 (fun i e => .inr (by have := K8.size; omega)))
      | (refine wpList_store26 rfl _ _ rfl g16 rfl R rfl lR _ b9 ?_; intro w10 b10 k10; have K10 : Keeps (fun _ => False) w w10 := K9.trans' k10 (fun i e => .inr (by have := K8.size; omega)))
      | (refine wpList_load26 rfl _ rfl g16 rfl (zb 128) b10 ?_)
      | (refine wpList_load26 rfl _ rfl g16 rfl R b10 ?_)
      | (refine wpList_load26 rfl _ rfl g16 rfl R b11 ?_)
      | (refine wpList_build26g rfl rfl ?_)
      | (go_at_call 21; refine (leavesP_is hI hP _ (hT.keeps K10 (fun h => h) (fun h => h)) lR).mono ?_; rintro e w11 ⟨⟨a11, c11, rfl, s11⟩, k11⟩; have b11 := b10.keep k11; have K11 := K10.trans k11)
      | (go_at_call 17; refine (decP_not hN _ (hT.keeps K11 (fun h => h) (fun h => h)) lR).mono ?_; rintro e w12 ⟨rfl, k12⟩; have K12 := K11.trans k12; have s12 := s11.keep k12)
      | (go_at_call 26; refine (ints_at (decide_eq_true rfl) _ _ _ _ _ _ _ s12 (hp.keep K12) (by have := hp.len; omega)).mono ?_; rintro e w13 ⟨rfl, k13⟩; have K13 := K12.trans k13)
      | (go_at_call 14; have := K13; refine (wakes14 _ (hT.keeps K13 (fun h => h) (fun h => h))).mono ?_; rintro e w14 ⟨rfl, k14⟩; have KZ := K13.trans k14)
      | (go_at_call 14; refine (wakes14 _ (hT.keeps K10 (fun h => h) (fun h => h))).mono ?_; rintro e w14 ⟨rfl, k14⟩; have KZ := K10.trans k14))
    go_ret
    exact ⟨rfl, KZ⟩

theorem backL (w : World) (hT : Tabs w) (a1 : Option Addr) (n1 c1 : Nat) (l : List En) (hl : SlE w a1 n1 c1 l) (hn1 : n1 ≤ 9223372036854775807) (a2 : Option Addr) (n2 c2 : Nat) (m : List En) (hm : SlE w a2 n2 c2 m) (hn2 : n2 ≤ 9223372036854775807) (a3 : Option Addr) (n3 c3 : Nat) (p : List Int) (hp : SlI w a3 n3 c3 p) (hn3 : n3 ≤ 9223372036854775807) :
    Calls Tryd.prog 4 #[.slice a1 n1 c1, .slice a2 n2 c2, .slice a3 n3 c3] w fun e w' => e = .returned (.bool true) ∧ Keeps (fun _ => False) w w' := by
  by_cases h : 20 < n1 ∨ 20 < n2 ∨ 300 < n3
  · exact back_long w hT a1 a2 a3 n1 c1 n2 c2 n3 c3 h
  · rcases gd_ways hl.keyed with ⟨hg, X, lX, e1, e2, e3, e4, e5, e6, e7, e8⟩ | ⟨_, e⟩
    · exact back_ok w hT a1 a2 a3 n1 c1 n2 c2 n3 c3 l m p hl hm hp (by omega) (by omega) (by omega) X lX e1 e2 e3 e4 e5 e6 e7 e8 hg
    · exact back_no w hT a1 a2 a3 n1 c1 n2 c2 n3 c3 l m p hl hm hp (by omega) (by omega) (by omega) e

end Go.Proofs.YthngaegfppbdmaaDoor
