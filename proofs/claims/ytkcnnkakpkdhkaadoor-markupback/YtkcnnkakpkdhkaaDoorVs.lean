
/-
  Parts held against each other.
-/
import Derived.Test.YtkcnnkakpkdhkaaDoorVr
set_option linter.all false
set_option maxRecDepth 100000
namespace Go.Proofs.YtkcnnkakpkdhkaaDoor
open Go.RowKit Go.Sort Go.Shelf
attribute [local go_sem] Oper.semAt_some

set_option maxHeartbeats 2000000 in
theorem parts15 (w : World) (a b : Option Addr) (n m c d : Nat) (P Q : List Pt) (hl : SlP w a n c P) (hr : SlP w b m d Q) (hn : n ≤ 100000) (hP : ∀ p ∈ P, p.2.length ≤ 100000) :
    Calls Tryd.prog 15 #[.slice a n c, .slice b m d] w fun e w' => e = .returned (.bool (decide (P = Q))) ∧ Keeps (fun _ => False) w w' := by
  by_cases hnm : n = m
  · subst hnm
    obtain ⟨R, hR⟩ : ∃ R, decide (P = Q) = R := ⟨_, rfl⟩
    have HR : Hid (decide (P = Q) = R) := hR
    have HP := Hid.mk' hP
    rw [hR]
    clear hR hP
    have hne : ((n : Int) == (n : Int)) = true := by simp
    go_enter Tryd.func15, Tryd.ntmps15
    go_wp2
    go_loopw [5] (fun t wr => ∃ i : Nat, t = .int .i64 (i : Int) ∧ i ≤ n ∧ (∀ j, j < i → P.getD j (0, []) = Q.getD j (0, [])) ∧ Keeps (fun _ => False) w wr) (fun t _ => n - (intOf t).toNat)
    case atStart => exact ⟨0, rfl, by omega, fun j h => by omega, Keeps.refl _ _⟩
    case round =>
      obtain ⟨i, rfl, hi, hall, hk⟩ := hrel
      have Hall := Hid.mk' hall
      have HK := Hid.mk' hk
      clear hall
      by_cases hlt : i < n
      · have hlt' : (i : Int) < (n : Int) := by omega
        have hi0 : (0 : Int) ≤ (i : Int) := by omega
        obtain ⟨p, hp⟩ : ∃ p, P[i]? = some p := ⟨_, List.getElem?_eq_getElem (by rw [hl.len]; exact hlt)⟩
        obtain ⟨q, hq⟩ : ∃ q, Q[i]? = some q := ⟨_, List.getElem?_eq_getElem (by rw [hr.len]; exact hlt)⟩
        obtain ⟨b1, o1, rfl, h1, a1, n1, c1, h1', s1, _⟩ := (hl.keep hk).at_ i p hp
        obtain ⟨b2, o2, rfl, h2, a2, n2, c2, h2', s2, _⟩ := (hr.keep hk).at_ i q hq
        have Hp : Hid (P.getD i (0, []) = p) := by show _ = _; rw [List.getD_eq_getElem?_getD, hp]; rfl
        have Hq : Hid (Q.getD i (0, []) = q) := by show _ = _; rw [List.getD_eq_getElem?_getD, hq]; rfl
        have hn1 : n1 ≤ 100000 := by rw [← s1.len]; exact HP.out p (List.mem_of_getElem? hp)
        have hcall := fun W (hW : Keeps (fun _ => False) wr W) => texts18 W a1 a2 n1 n2 c1 c2 p.2 q.2 (s1.keep hW) (s2.keep hW) hn1
        obtain ⟨k1, t1⟩ := p
        obtain ⟨k2, t2⟩ := q
        simp only at h1 h2 hcall
        have e1 : ∀ dd os, (grow (redrawn wr dd) os).cell? ⟨b1, o1 + i * 2, none⟩ = some (.int .i64 k1) := fun dd os => cell_keeps (keeps_cls ⟨⟨dd, os⟩, rfl⟩) h1 (fun h => h)
        have e2 : ∀ dd os, (grow (redrawn wr dd) os).cell? ⟨b2, o2 + i * 2, none⟩ = some (.int .i64 k2) := fun dd os => cell_keeps (keeps_cls ⟨⟨dd, os⟩, rfl⟩) h2 (fun h => h)
        have e3 : ∀ dd os, (grow (redrawn wr dd) os).cell? ⟨b1, o1 + i * 2 + 1, none⟩ = some (.slice a1 n1 c1) := fun dd os => cell_keeps (keeps_cls ⟨⟨dd, os⟩, rfl⟩) h1' (fun h => h)
        have e4 : ∀ dd os, (grow (redrawn wr dd) os).cell? ⟨b2, o2 + i * 2 + 1, none⟩ = some (.slice a2 n2 c2) := fun dd os => cell_keeps (keeps_cls ⟨⟨dd, os⟩, rfl⟩) h2' (fun h => h)
        have kd : Keeps (fun _ => False) wr wr.drew := (Keeps.refl _ _).drew
        clear hp hq h1 h2 h1' h2' s1 s2 hn1
        by_cases hkk : k1 = k2
        · subst hkk
          by_cases htt : t1 = t2
          · have hc2 := fun W hW => hcall W hW
            rw [decide_eq_true htt] at hc2
            have Htt := Hid.mk' htt
            clear htt hcall
            go_wp2_with fail
            refine region_plan (S := fun w' => ∃ q : Regrown, w' = grow (redrawn wr q.d) q.os) [([0, 1, 2, 3, 4, 5, 6, 7, 8, 9, 10, 11, 12, 13, 14, 15, 16, 17, 18, 19, 20, 21], 22)] [23, 24] (by kernel_rfl) (by kernel_rfl) (by kernel_rfl) (by kernel_rfl) (cls_keeps kd) ?_
            simp only [wpPlan, opsAt, pick]
            repeat (go_big_quiet_step (fail))
            refine wpQuiet_nil ?_
            go_wp2_with (go_at_call 18; refine (hc2 _ kd).mono ?_; rintro e w3 ⟨rfl, k3⟩)
            have K3 := kd.trans k3
            refine ⟨cls_keeps K3, ?_⟩
            simp only [wpPlan, opsAt, pick]
            repeat (go_big_quiet_step (fail))
            refine wpQuiet_nil ?_
            refine NoPanic.normal ?_
            go_wp2
            refine ⟨⟨i + 1, rfl, by omega, fun j hj => ?_, HK.out.trans K3⟩, by simp [intOf]; omega⟩
            rcases Nat.lt_or_ge j i with h | h
            · exact Hall.out j h
            · obtain rfl : j = i := by omega
              rw [Hp.out, Hq.out, Htt.out]
          · have hc2 := fun W hW => hcall W hW
            rw [decide_eq_false htt] at hc2
            have Htt := Hid.mk' htt
            clear htt hcall
            go_wp2_with fail
            refine region_plan (S := fun w' => ∃ q : Regrown, w' = grow (redrawn wr q.d) q.os) [([0, 1, 2, 3, 4, 5, 6, 7, 8, 9, 10, 11, 12, 13, 14, 15, 16, 17, 18, 19, 20, 21], 22)] [23, 24] (by kernel_rfl) (by kernel_rfl) (by kernel_rfl) (by kernel_rfl) (cls_keeps kd) ?_
            simp only [wpPlan, opsAt, pick]
            repeat (go_big_quiet_step (fail))
            refine wpQuiet_nil ?_
            go_wp2_with (go_at_call 18; refine (hc2 _ kd).mono ?_; rintro e w3 ⟨rfl, k3⟩)
            have K3 := kd.trans k3
            refine ⟨cls_keeps K3, ?_⟩
            simp only [wpPlan, opsAt, pick]
            repeat (go_big_quiet_step (fail))
            refine wpQuiet_nil ?_
            refine NoPanic.normal ?_
            go_wp2
            go_ret
            refine ⟨?_, HK.out.trans K3⟩
            rw [← HR.out, decide_eq_false (fun h => Htt.out (by have e1 := Hp.out; rw [h, Hq.out] at e1; cases e1; rfl))]; rfl
        · have hkn : (k1 != k2) = true := by simp [hkk]
          have Hkk := Hid.mk' hkk
          clear hcall
          go_wp2_with fail
          refine region_plan (S := fun w' => ∃ q : Regrown, w' = grow (redrawn wr q.d) q.os) [([0, 1, 2, 3, 4, 5, 6, 7, 8, 9, 10, 11, 12, 13, 14, 15, 16, 17, 18, 19, 20, 21], 22)] [23, 24] (by kernel_rfl) (by kernel_rfl) (by kernel_rfl) (by kernel_rfl) (cls_keeps kd) ?_
          simp only [wpPlan, opsAt, pick]
          repeat (go_big_quiet_step (fail))
          refine wpQuiet_nil ?_
          go_wp2_with fail
          refine ⟨cls_keeps kd, ?_⟩
          simp only [wpPlan, opsAt, pick]
          repeat (go_big_quiet_step (fail))
          refine wpQuiet_nil ?_
          refine NoPanic.normal ?_
          go_wp2
          go_ret
          refine ⟨?_, HK.out.trans kd⟩
          rw [← HR.out, decide_eq_false (fun h => Hkk.out (by have e1 := Hp.out; rw [h, Hq.out] at e1; cases e1; rfl))]; rfl
      · obtain rfl : i = n := by omega
        have hlt' : ¬ (i : Int) < (i : Int) := by omega
        have HT : Hid (R = true) := by
          show _ = _
          rw [← HR.out, decide_eq_true (ext_getD (d := ((0 : Int), ([] : List (List UInt8)))) (hl.len.trans hr.len.symm) (fun j hj => Hall.out j (by rw [hl.len] at hj; exact hj)))]
        clear hk hlt hi
        go_wp2
        go_ret
        exact ⟨by rw [HT.out]; rfl, HK.out⟩
  · have hR : decide (P = Q) = false := decide_eq_false (fun e => hnm (by rw [← hl.len, ← hr.len, e]))
    rw [hR]
    have hne : ((n : Int) == (m : Int)) = false := by simp; omega
    clear hR
    go_enter Tryd.func15, Tryd.ntmps15
    go_wp2
    go_ret
    exact ⟨rfl, Keeps.refl _ _⟩

end Go.Proofs.YtkcnnkakpkdhkaaDoor
