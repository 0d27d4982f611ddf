/-
  The program's Good.
-/
import Derived.Test.YtkcnnkakpkdhkaaDoorXh
set_option linter.all false
set_option maxRecDepth 100000
namespace Go.Proofs.YtkcnnkakpkdhkaaDoor
open Go.RowKit Go.Sort Go.Shelf
attribute [local go_sem] Oper.semAt_some

theorem gdP_bad {k : Int} {ws : List (List UInt8)} (h : ws.all gdW = false) : gdP (k, ws) = false := by
  unfold gdP
  simp only
  rw [h]; simp
theorem gdP_eq {k : Int} {ws : List (List UInt8)} (h : ws.all gdW = true) : gdP (k, ws) = (!(decide (ws.length = 0) && decide (k ≠ 4)) && decide (knd (lineP (k, ws)) = k)) := by
  rw [part_eq k ws h]
  unfold gdP
  simp only
  rw [h, Bool.and_true]

set_option maxHeartbeats 8000000 in
theorem isPart33 (w : World) (hT : Lib.Utf8Tabs 0 1 w) (k : Int) (a : Option Addr) (m c : Nat) (ws : List (List UInt8)) (h : SlT w a m c ws) (hm : m ≤ 90000) (hw : ∀ x ∈ ws, x.length ≤ 90000) :
    Calls Tryd.prog 33 #[.agg #[.int .i64 k, .slice a m c]] w fun z w' => z = .returned (.bool (gdP (k, ws))) ∧ Keeps (fun _ => False) w w' := by
  obtain ⟨R, hR⟩ : ∃ R, gdP (k, ws) = R := ⟨_, rfl⟩
  have HR : Hid (gdP (k, ws) = R) := hR
  have HW := Hid.mk' hw
  have HM : Hid (ws.length = m) := h.len
  have hj := Hid.mk' (fun W (hW : Keeps (fun _ => False) w W) => written30 W k a m c ws (h.keep hW) hm hw)
  rw [hR]
  clear hR hw
  go_enter Tryd.func33, Tryd.ntmps33
  go_wp2_with (refine wpList_box41 rfl _ rfl k a m c rfl ?_; intro g w1 r1 z1 k1; have d0 : w1.cell? ⟨g, 0, none⟩ = some (.int .i64 k) := (by rw [cell_of_row w1 g 0 _ _ _ r1.row]; rfl); have d1 : w1.cell? ⟨g, 1, none⟩ = some (.slice a m c) := (by rw [cell_of_row w1 g 1 _ _ _ r1.row]; rfl))
  have K1 := Hid.mk' k1
  have D0 := Hid.mk' d0
  have D1 := Hid.mk' d1
  clear r1 z1 k1
  clear d0 d1
  go_loopw [8] (fun t wr => ∃ j : Nat, t = .int .i64 (j : Int) ∧ j ≤ m ∧ (ws.take j).all gdW = true ∧ Keeps (fun _ => False) w1 wr) (fun t _ => m - (intOf t).toNat)
  case atStart => exact ⟨0, rfl, by omega, by simp, Keeps.refl _ _⟩
  case round =>
    obtain ⟨j, rfl, hjm, hall, hk⟩ := hrel
    have Hall := Hid.mk' hall
    have HK := Hid.mk' hk
    have d0 := cell_keeps hk D0.out (fun h => h)
    have d1 := cell_keeps hk D1.out (fun h => h)
    clear hall
    by_cases hlt : j < m
    · have hlt' : (j : Int) < (m : Int) := by omega
      have hj0 : (0 : Int) ≤ (j : Int) := by omega
      obtain ⟨b, o, rfl, _, hcx⟩ := (h.keep (K1.out.trans hk)).ent2 hlt
      obtain ⟨x, hx⟩ : ∃ x, ws.getD j [] = x := ⟨_, rfl⟩
      rw [hx] at hcx
      have Hx := Hid.mk' hx
      have hxl : x.length ≤ 90000 := by
        rw [← hx, List.getD_eq_getElem?_getD, List.getElem?_eq_getElem (by rw [HM.out]; exact hlt)]
        exact HW.out _ (List.getElem_mem _)
      have hq := isWord45 wr (Tabs.keep (Tabs.keep hT K1.out) hk) (bs x) (by rw [bs_size]; omega)
      rw [bs_data] at hq
      obtain ⟨G, hG⟩ : ∃ G, gdW x = G := ⟨_, rfl⟩
      rw [hG] at hq
      obtain ⟨X, hX⟩ : ∃ X, bs x = X := ⟨_, rfl⟩
      rw [hX] at hcx hq
      cases G with
      | false =>
        have HR0 : Hid (R = false) := by
          show _ = _
          rw [← HR.out, gdP_bad (all_badW (by rw [HM.out]; exact hlt) (by rw [hx]; exact hG))]
        clear hx hX hxl hG hk d0 d1
        go_wp2_with (go_at_call 45; refine hq.mono ?_; rintro e w2 ⟨rfl, k2⟩)
        go_ret
        exact ⟨by rw [HR0.out]; rfl, (K1.out.trans HK.out).trans k2⟩
      | true =>
        have HA : Hid ((ws.take (j + 1)).all gdW = true) := by
          show _ = _
          rw [all_snocW (by rw [HM.out]; exact hlt), Hall.out, hx, hG]; rfl
        clear hx hX hxl hG hk d0 d1
        go_wp2_with (go_at_call 45; refine hq.mono ?_; rintro e w2 ⟨rfl, k2⟩)
        exact ⟨⟨j + 1, rfl, by omega, HA.out, HK.out.trans k2⟩, by simp [intOf]; omega⟩
    · obtain rfl : m = j := by omega
      have hlt' : ¬ (m : Int) < (m : Int) := by omega
      have hg := gdP_eq (k := k) (ws := ws) (by have := Hall.out; rwa [List.take_of_length_le (by rw [HM.out]; exact Nat.le_refl _)] at this)
      rw [HR.out, HM.out] at hg
      clear hlt hjm Hall hk
      by_cases hm0 : m = 0
      · have t0 : ((m : Int) == (0 : Int)) = true := by simp [hm0]
        by_cases hk4 : k = 4
        · have t1 : (k != (4 : Int)) = false := by simp [hk4]
          have HG : Hid (R = decide (knd (lineP (k, ws)) = k)) := by show _ = _; rw [hg]; simp [hk4]
          have Hjj := Hid.mk' (fun W (hW : Keeps (fun _ => False) wr W) => hj.out W ((K1.out.trans HK.out).trans hW))
          clear hg hj hm0 hk4
          have hq := fun W => kind40 W (bs (lineP (k, ws)))
          rw [bs_data] at hq
          obtain ⟨X, hX⟩ : ∃ X, bs (lineP (k, ws)) = X := ⟨_, rfl⟩
          obtain ⟨q, hqq⟩ : ∃ q, knd (lineP (k, ws)) = q := ⟨_, rfl⟩
          rw [hX, hqq] at hq
          have HX := Hid.mk' hX
          rw [hqq] at HG
          obtain ⟨r, hr, HR1⟩ : ∃ r, (q == k) = r ∧ Hid (R = r) := ⟨_, rfl, by show _ = _; rw [HG.out]; rfl⟩
          have f0 : ∀ dd os, (grow (redrawn wr dd) os).cell? ⟨g, 0, none⟩ = some (.int .i64 k) := fun dd os => cell_keeps (keeps_cls ⟨⟨dd, os⟩, rfl⟩) d0 (fun h => h)
          have kd : Keeps (fun _ => False) wr wr.drew := (Keeps.refl _ _).drew
          have c0 := cell_keeps kd d0 (fun h => h)
          have c1 := cell_keeps kd d1 (fun h => h)
          have Hjj2 : Hid (∀ W, Keeps (fun _ => False) wr W → _) := fun W hW => hX ▸ Hjj.out W hW
          clear HG hX hqq Hjj
          go_wp2_with fail
          refine region_plan (S := fun w' => ∃ q : Regrown, w' = grow (redrawn wr q.d) q.os) [([3, 4], 0), ([], 1), ([], 2)] [5, 6] (by kernel_rfl) (by kernel_rfl) (by kernel_rfl) (by kernel_rfl) (cls_keeps kd) ?_
          simp only [wpPlan, opsAt, pick]
          repeat (go_big_quiet_step (fail))
          refine wpQuiet_nil ?_
          go_wp2_with (refine wpList_load41 rfl _ rfl g 0 rfl _ _ c0 c1 ?_)
          refine ⟨cls_keeps kd, ?_⟩
          simp only [wpPlan, opsAt, pick]
          repeat (go_big_quiet_step (fail))
          refine wpQuiet_nil ?_
          go_wp2_with (go_at_call 30; refine (Hjj2.out _ kd).mono ?_; rintro e w2 ⟨rfl, k2⟩)
          have K2 := kd.trans k2
          refine ⟨cls_keeps K2, ?_⟩
          simp only [wpPlan, opsAt, pick]
          repeat (go_big_quiet_step (fail))
          refine wpQuiet_nil ?_
          go_wp2_with (go_at_call 40; refine (hq _).mono ?_; rintro e w' ⟨rfl, rfl⟩)
          refine ⟨cls_keeps K2, ?_⟩
          simp only [wpPlan, opsAt, pick]
          repeat (go_big_quiet_step (fail))
          refine wpQuiet_nil ?_
          refine NoPanic.normal ?_
          go_wp2
          go_ret
          exact ⟨by rw [HR1.out]; rfl, (K1.out.trans HK.out).trans K2⟩
        · have t1 : (k != (4 : Int)) = true := by simp [hk4]
          have HR0 : Hid (R = false) := by show _ = _; rw [hg]; simp [hk4, hm0]
          clear hg hj hm0 hk4
          go_wp2
          go_ret
          exact ⟨by rw [HR0.out]; rfl, K1.out.trans HK.out⟩
      · have t0 : ((m : Int) == (0 : Int)) = false := by simp; exact hm0
        have HG : Hid (R = decide (knd (lineP (k, ws)) = k)) := by show _ = _; rw [hg]; simp [hm0]
        have Hjj := Hid.mk' (fun W (hW : Keeps (fun _ => False) wr W) => hj.out W ((K1.out.trans HK.out).trans hW))
        clear hg hj hm0
        have hq := fun W => kind40 W (bs (lineP (k, ws)))
        rw [bs_data] at hq
        obtain ⟨X, hX⟩ : ∃ X, bs (lineP (k, ws)) = X := ⟨_, rfl⟩
        obtain ⟨q, hqq⟩ : ∃ q, knd (lineP (k, ws)) = q := ⟨_, rfl⟩
        rw [hX, hqq] at hq
        have HX := Hid.mk' hX
        rw [hqq] at HG
        obtain ⟨r, hr, HR1⟩ : ∃ r, (q == k) = r ∧ Hid (R = r) := ⟨_, rfl, by show _ = _; rw [HG.out]; rfl⟩
        have f0 : ∀ dd os, (grow (redrawn wr dd) os).cell? ⟨g, 0, none⟩ = some (.int .i64 k) := fun dd os => cell_keeps (keeps_cls ⟨⟨dd, os⟩, rfl⟩) d0 (fun h => h)
        have kd : Keeps (fun _ => False) wr wr.drew := (Keeps.refl _ _).drew
        have c0 := cell_keeps kd d0 (fun h => h)
        have c1 := cell_keeps kd d1 (fun h => h)
        have Hjj2 : Hid (∀ W, Keeps (fun _ => False) wr W → _) := fun W hW => hX ▸ Hjj.out W hW
        clear HG hX hqq Hjj
        go_wp2_with fail
        refine region_plan (S := fun w' => ∃ q : Regrown, w' = grow (redrawn wr q.d) q.os) [([3, 4], 0), ([], 1), ([], 2)] [5, 6] (by kernel_rfl) (by kernel_rfl) (by kernel_rfl) (by kernel_rfl) (cls_keeps kd) ?_
        simp only [wpPlan, opsAt, pick]
        repeat (go_big_quiet_step (fail))
        refine wpQuiet_nil ?_
        go_wp2_with (refine wpList_load41 rfl _ rfl g 0 rfl _ _ c0 c1 ?_)
        refine ⟨cls_keeps kd, ?_⟩
        simp only [wpPlan, opsAt, pick]
        repeat (go_big_quiet_step (fail))
        refine wpQuiet_nil ?_
        go_wp2_with (go_at_call 30; refine (Hjj2.out _ kd).mono ?_; rintro e w2 ⟨rfl, k2⟩)
        have K2 := kd.trans k2
        refine ⟨cls_keeps K2, ?_⟩
        simp only [wpPlan, opsAt, pick]
        repeat (go_big_quiet_step (fail))
        refine wpQuiet_nil ?_
        go_wp2_with (go_at_call 40; refine (hq _).mono ?_; rintro e w' ⟨rfl, rfl⟩)
        refine ⟨cls_keeps K2, ?_⟩
        simp only [wpPlan, opsAt, pick]
        repeat (go_big_quiet_step (fail))
        refine wpQuiet_nil ?_
        refine NoPanic.normal ?_
        go_wp2
        go_ret
        exact ⟨by rw [HR1.out]; rfl, (K1.out.trans HK.out).trans K2⟩

end Go.Proofs.YtkcnnkakpkdhkaaDoor
