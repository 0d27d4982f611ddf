/-
  The law of what utf tells.
-/
import Derived.Test.YtppliejbpgkaiaaDoorUp
set_option linter.all false
namespace Go.Proofs.YtppliejbpgkaiaaDoor
open Go.RowKit Go.Sort Go.Shelf
attribute [local go_sem] Oper.semAt_some

theorem SlI.past2 {w1 w2 w3 : World} {a : Option Addr} {n c base : Nat} {l l0 : List Int} {v : Value} (h : SlI w1 a n c l) (h2 : SlI w2 a n c l) (k : Keeps (fun k => v.ownBlock = some k) w2 w3) (o : OwnI w2 base v l0) (hb : w1.heap.size ≤ base) : SlI w3 a n c l :=
  h2.keeps k (fun h0 b o' e hS => by
    obtain ⟨b', o2, e', lt, _⟩ := h.ent h0
    cases e.symm.trans e'
    have := (OwnI.from o hS).1
    omega)


set_option maxRecDepth 100000 in
set_option maxHeartbeats 4000000 in
theorem tells_t1 (w : World) (hT : Lib.Utf8Tabs 0 1 w) (s : ByteArray) (hs : s.size ≤ 2000) (a3 : Option Addr) (n3 c3 : Nat) (l : List Int) (hl : SlI w a3 n3 c3 l) (hnc : a3 = none → c3 = 0) (hn : n3 ≤ 1000) (v : Int) (hv : -9223372036854775808 ≤ v ∧ v ≤ 9223372036854775807)
    (h1 : vd s.data.toList = true) (h3 : allS l) :
    Calls Tryd.prog 3 #[.string s, .slice a3 n3 c3, .int .i64 v] w fun e w' => e = .returned (.bool true) ∧ Keeps (fun _ => False) w w' := by
  obtain ⟨A, hA⟩ : ∃ A, sg s.data.toList = A := ⟨_, rfl⟩
  obtain ⟨nA, hnA⟩ : ∃ nA, A.length = nA := ⟨_, rfl⟩
  have bA : nA ≤ 2000 := by have := sg_len s.data.toList; rw [hA, hnA, sz_len] at this; omega
  have C13 := signs_own hA
  rw [hnA] at C13
  have C8 : ∀ W, Calls Tryd.prog 8 #[.string s] W fun e w' => (∃ a c, e = .returned (.agg #[.slice a nA c, .bool true]) ∧ SlI w' a nA c A) ∧ Keeps (fun _ => False) W w' := fun W => by
    refine (rsigns8 W s (by omega)).mono ?_
    rintro e w' ⟨⟨a, n, c, rfl, h2, h4⟩, k⟩
    rw [hA] at h2 h4
    rw [h1]
    rw [hnA] at h2
    subst h2
    exact ⟨⟨a, c, rfl, h4⟩, k⟩
  have C11 : ∀ W, Lib.Utf8Tabs 0 1 W → Calls Tryd.prog 11 #[.string s] W fun e w' => e = .returned (.bool true) ∧ Keeps (fun _ => False) W w' := fun W h => by
    rw [← h1]; exact valid11 W h s (by omega)
  obtain ⟨T, hTT⟩ : ∃ T, bs (encs l) = T := ⟨_, rfl⟩
  have C9 : ∀ W a c, SlI W a n3 c l → Calls Tryd.prog 9 #[.slice a n3 c] W fun e w' => e = .returned (.tuple #[.string T, .int .i64 0]) ∧ Keeps (fun _ => False) W w' := fun W a c h => by
    have := text9 W a n3 c l h (by omega)
    rw [show txt l = (encs l, 0) by unfold txt; rw [if_pos h3], hTT] at this
    exact this
  have C10 : ∀ W a c, SlI W a n3 c l → Calls Tryd.prog 10 #[.slice a n3 c] W fun e w' => e = .returned (.tuple #[.string T, .bool true]) ∧ Keeps (fun _ => False) W w' := fun W a c h => by
    have := rtext10 W a n3 c l h (by omega)
    rw [show rtx l = (encs l, true) by unfold rtx; rw [if_pos h3], hTT] at this
    exact this
  obtain ⟨u, hu⟩ : ∃ u, low v = u := ⟨_, rfl⟩
  obtain ⟨b, hb⟩ : ∃ b, isL v = b := ⟨_, rfl⟩
  have C14 := fun W => lower14 W v (by omega)
  have C15 := fun W => rlower15 W v (by omega)
  have C16 := fun W => letter16 W v
  have C17 := fun W => rletter17 W v (by omega)
  rw [hu] at C14 C15
  rw [hb] at C16 C17
  have hlen := hl.len
  have g0 : ¬ (2000 : Int) < (s.size : Int) := by omega
  have g1 : ¬ (1000 : Int) < (n3 : Int) := by omega
  clear hA hnA hTT h1 h3 hu hb
  go_enter Tryd.func3, Tryd.ntmps3
  go_wp2_with (first
    | (go_at_call 8; refine (C8 _).mono ?_; rintro e w1 ⟨⟨a1, c1, rfl, s1⟩, k1⟩)
    | (refine wpList_alloc25 rfl rfl ?_; intro g7 w2 r2 z2 k2; have s2 := s1.keep k2)
    | (refine wpList_store25 rfl _ _ rfl g7 rfl a1 nA c1 _ rfl _ _ r2 ?_; intro w3 r3 k3; have K3 : Keeps (fun _ => False) w w3 := (k1.trans k2).trans' k3 (fun i e => .inr (by have := k1.size; omega)); have s3 := s2.keeps k3 (fun h0 b o e h => by obtain ⟨b', o2, e', lt, _⟩ := s1.ent h0; cases e.symm.trans e'; omega); have l3 := hl.keep K3)
    | (refine wpList_build0I rfl rfl ?_; intro gb w4 o4 z4 k4; have K4 := K3.trans k4; have s4 := s3.keep k4; have r4 := r3.keep k4; have l4 := hl.keep K4)
    | (refine wpList_appIs rfl _ _ rfl w3.heap.size _ [] rfl o4 a3 n3 c3 l rfl l4 hnc (by simp; omega) (by have := k4.size; omega) ?_; intro v5 w5 o5 k5; rw [List.nil_append] at o5; obtain ⟨a5, c5, rfl, s5, _⟩ := o5.slice2; rw [hlen] at s5 ⊢; have K5 : Keeps (fun _ => False) w w5 := K4.trans' k5 (fun i e => .inr (by have := (OwnI.from o4 e).1; have := K3.size; omega)); have t5 := SlI.past2 s3 s4 k5 o4 (Nat.le_refl _); have r5 := r4.keeps k5 (fun e => by have := (OwnI.from o4 e).1; have := r3.lt; omega); have l5 := hl.keep K5)
    | (go_at_call 9; refine (C9 _ _ _ s5).mono ?_; rintro e w6 ⟨rfl, k6⟩; have K6 := K5.trans k6; have s6 := s5.keep k6; have t6 := t5.keep k6; have r6 := r5.keep k6; have l6 := hl.keep K6)
    | (go_at_call 10; refine (C10 _ _ _ l6).mono ?_; rintro e w7 ⟨rfl, k7⟩; have K7 := K6.trans k7; have s7 := s6.keep k7; have t7 := t6.keep k7; have r7 := r6.keep k7; have l7 := hl.keep K7))
  clear k1 k2 k3 k4 k5 k6 k7 K3 K4 K5 K6 s1 s2 s3 s4 s5 s6 t5 t6 r2 r3 r4 r5 r6 l3 l4 l5 l6 o4 o5 z2 z4
  have q0 : ∀ d os, (grow (redrawn w7 d) os).cell? ⟨g7, 0, none⟩ = some (.slice a1 nA c1) := fun d os => by
    rw [cell_of_row _ _ _ _ _ _ (r7.keep (keeps_cls ⟨⟨d, os⟩, rfl⟩)).row]; rfl
  have q1 : ∀ d os, (grow (redrawn w7 d) os).cell? ⟨g7, 1, none⟩ = some (.bool true) := fun d os => by
    rw [cell_of_row _ _ _ _ _ _ (r7.keep (keeps_cls ⟨⟨d, os⟩, rfl⟩)).row]; rfl
  have kd : Keeps (fun _ => False) w7 w7.drew := (Keeps.refl _ _).drew
  refine region_plan (S := fun w' => ∃ x : Regrown, w' = grow (redrawn w7 x.d) x.os) [([0, 2, 3], 1), ([4, 5, 6, 8, 9], 7), ([], 10), ([11, 12, 13, 14, 15, 16, 17, 18, 19, 20, 21, 22, 23, 24, 25, 26, 27, 28, 29, 30, 31, 33], 32), ([], 34), ([35, 36, 37, 38, 40], 39), ([], 41), ([42, 43, 44, 45, 46], 47), ([48, 49], 50)] [51, 52] (by kernel_rfl) (by kernel_rfl) (by kernel_rfl) (by kernel_rfl) (cls_keeps kd) ?_
  simp only [wpPlan, opsAt, pick]
  repeat (go_big_quiet_step (fail))
  refine wpQuiet_nil ?_
  go_wp2_with (go_at_call 11; refine (C11 _ (Tabs.keep hT (K7.trans kd))).mono ?_; rintro e wx0 ⟨rfl, kx0⟩)
  have kd0 := kd.trans kx0
  refine ⟨cls_keeps kd0, ?_⟩
  simp only [wpPlan, opsAt, pick]
  repeat (go_big_quiet_step (fail))
  refine wpQuiet_nil ?_
  go_wp2_with (go_at_call 13; refine (C13 _ (Tabs.keep hT (K7.trans kd0)) (by omega)).mono ?_; rintro e wx1 ⟨⟨aS, cS, rfl, sS, _⟩, kx1⟩)
  have kd1 := kd0.trans kx1
  refine ⟨cls_keeps kd1, ?_⟩
  simp only [wpPlan, opsAt, pick]
  repeat (go_big_quiet_step (fail))
  refine wpQuiet_nil ?_
  go_wp2_with (go_at_call 12; refine (ints_same _ _ _ _ _ sS (t7.keep kd1) (by omega)).mono ?_; rintro e wx2 ⟨rfl, kx2⟩)
  have kd2 := kd1.trans kx2
  refine ⟨cls_keeps kd2, ?_⟩
  simp only [wpPlan, opsAt, pick]
  repeat (go_big_quiet_step (fail))
  refine wpQuiet_nil ?_
  go_wp2_with (go_at_call 14; refine (C14 _).mono ?_; rintro e w' ⟨rfl, rfl⟩)
  refine ⟨cls_keeps kd2, ?_⟩
  simp only [wpPlan, opsAt, pick]
  repeat (go_big_quiet_step (fail))
  refine wpQuiet_nil ?_
  go_wp2_with (go_at_call 15; refine (C15 _).mono ?_; rintro e w' ⟨rfl, rfl⟩)
  refine ⟨cls_keeps kd2, ?_⟩
  simp only [wpPlan, opsAt, pick]
  repeat (go_big_quiet_step (fail))
  refine wpQuiet_nil ?_
  go_wp2_with (go_at_call 16; refine (C16 _).mono ?_; rintro e w' ⟨rfl, rfl⟩)
  refine ⟨cls_keeps kd2, ?_⟩
  simp only [wpPlan, opsAt, pick]
  repeat (go_big_quiet_step (fail))
  refine wpQuiet_nil ?_
  go_wp2_with (go_at_call 17; refine (C17 _).mono ?_; rintro e w' ⟨rfl, rfl⟩)
  refine ⟨cls_keeps kd2, ?_⟩
  simp only [wpPlan, opsAt, pick]
  repeat (go_big_quiet_step (fail))
  refine wpQuiet_nil ?_
  go_wp2_with (go_at_call 12; refine (ints_same _ _ _ _ _ (s7.keep kd2) (l7.keep kd2) (by omega)).mono ?_; rintro e wx7 ⟨rfl, kx7⟩)
  have kd7 := kd2.trans kx7
  refine ⟨cls_keeps kd7, ?_⟩
  simp only [wpPlan, opsAt, pick]
  repeat (go_big_quiet_step (fail))
  refine wpQuiet_nil ?_
  go_wp2_with (go_at_call 7; refine (wakes7 _ (Tabs.keep hT (K7.trans kd7))).mono ?_; rintro e wx8 ⟨rfl, kx8⟩)
  have kd8 := kd7.trans kx8
  refine ⟨cls_keeps kd8, ?_⟩
  simp only [wpPlan, opsAt, pick]
  repeat (go_big_quiet_step (fail))
  refine wpQuiet_nil ?_
  refine NoPanic.normal ?_
  go_wp2_with fail
  go_ret
  exact ⟨rfl, K7.trans kd8⟩

set_option maxRecDepth 100000 in
set_option maxHeartbeats 4000000 in
theorem tells_t0 (w : World) (hT : Lib.Utf8Tabs 0 1 w) (s : ByteArray) (hs : s.size ≤ 2000) (a3 : Option Addr) (n3 c3 : Nat) (l : List Int) (hl : SlI w a3 n3 c3 l) (hnc : a3 = none → c3 = 0) (hn : n3 ≤ 1000) (v : Int) (hv : -9223372036854775808 ≤ v ∧ v ≤ 9223372036854775807)
    (h1 : vd s.data.toList = true) (h3 : ¬ allS l) :
    Calls Tryd.prog 3 #[.string s, .slice a3 n3 c3, .int .i64 v] w fun e w' => e = .returned (.bool true) ∧ Keeps (fun _ => False) w w' := by
  obtain ⟨A, hA⟩ : ∃ A, sg s.data.toList = A := ⟨_, rfl⟩
  obtain ⟨nA, hnA⟩ : ∃ nA, A.length = nA := ⟨_, rfl⟩
  have bA : nA ≤ 2000 := by have := sg_len s.data.toList; rw [hA, hnA, sz_len] at this; omega
  have C13 := signs_own hA
  rw [hnA] at C13
  have C8 : ∀ W, Calls Tryd.prog 8 #[.string s] W fun e w' => (∃ a c, e = .returned (.agg #[.slice a nA c, .bool true]) ∧ SlI w' a nA c A) ∧ Keeps (fun _ => False) W w' := fun W => by
    refine (rsigns8 W s (by omega)).mono ?_
    rintro e w' ⟨⟨a, n, c, rfl, h2, h4⟩, k⟩
    rw [hA] at h2 h4
    rw [h1]
    rw [hnA] at h2
    subst h2
    exact ⟨⟨a, c, rfl, h4⟩, k⟩
  have C11 : ∀ W, Lib.Utf8Tabs 0 1 W → Calls Tryd.prog 11 #[.string s] W fun e w' => e = .returned (.bool true) ∧ Keeps (fun _ => False) W w' := fun W h => by
    rw [← h1]; exact valid11 W h s (by omega)
  obtain ⟨T, hTT⟩ : ∃ T, bs ([]) = T := ⟨_, rfl⟩
  have C9 : ∀ W a c, SlI W a n3 c l → Calls Tryd.prog 9 #[.slice a n3 c] W fun e w' => e = .returned (.tuple #[.string T, .int .i64 11]) ∧ Keeps (fun _ => False) W w' := fun W a c h => by
    have := text9 W a n3 c l h (by omega)
    rw [show txt l = ([], 11) by unfold txt; rw [if_neg h3], hTT] at this
    exact this
  have C10 : ∀ W a c, SlI W a n3 c l → Calls Tryd.prog 10 #[.slice a n3 c] W fun e w' => e = .returned (.tuple #[.string T, .bool false]) ∧ Keeps (fun _ => False) W w' := fun W a c h => by
    have := rtext10 W a n3 c l h (by omega)
    rw [show rtx l = ([], false) by unfold rtx; rw [if_neg h3], hTT] at this
    exact this
  obtain ⟨u, hu⟩ : ∃ u, low v = u := ⟨_, rfl⟩
  obtain ⟨b, hb⟩ : ∃ b, isL v = b := ⟨_, rfl⟩
  have C14 := fun W => lower14 W v (by omega)
  have C15 := fun W => rlower15 W v (by omega)
  have C16 := fun W => letter16 W v
  have C17 := fun W => rletter17 W v (by omega)
  rw [hu] at C14 C15
  rw [hb] at C16 C17
  have hlen := hl.len
  have g0 : ¬ (2000 : Int) < (s.size : Int) := by omega
  have g1 : ¬ (1000 : Int) < (n3 : Int) := by omega
  clear hA hnA hTT h1 h3 hu hb
  go_enter Tryd.func3, Tryd.ntmps3
  go_wp2_with (first
    | (go_at_call 8; refine (C8 _).mono ?_; rintro e w1 ⟨⟨a1, c1, rfl, s1⟩, k1⟩)
    | (refine wpList_alloc25 rfl rfl ?_; intro g7 w2 r2 z2 k2; have s2 := s1.keep k2)
    | (refine wpList_store25 rfl _ _ rfl g7 rfl a1 nA c1 _ rfl _ _ r2 ?_; intro w3 r3 k3; have K3 : Keeps (fun _ => False) w w3 := (k1.trans k2).trans' k3 (fun i e => .inr (by have := k1.size; omega)); have s3 := s2.keeps k3 (fun h0 b o e h => by obtain ⟨b', o2, e', lt, _⟩ := s1.ent h0; cases e.symm.trans e'; omega); have l3 := hl.keep K3)
    | (refine wpList_build0I rfl rfl ?_; intro gb w4 o4 z4 k4; have K4 := K3.trans k4; have s4 := s3.keep k4; have r4 := r3.keep k4; have l4 := hl.keep K4)
    | (refine wpList_appIs rfl _ _ rfl w3.heap.size _ [] rfl o4 a3 n3 c3 l rfl l4 hnc (by simp; omega) (by have := k4.size; omega) ?_; intro v5 w5 o5 k5; rw [List.nil_append] at o5; obtain ⟨a5, c5, rfl, s5, _⟩ := o5.slice2; rw [hlen] at s5 ⊢; have K5 : Keeps (fun _ => False) w w5 := K4.trans' k5 (fun i e => .inr (by have := (OwnI.from o4 e).1; have := K3.size; omega)); have t5 := SlI.past2 s3 s4 k5 o4 (Nat.le_refl _); have r5 := r4.keeps k5 (fun e => by have := (OwnI.from o4 e).1; have := r3.lt; omega); have l5 := hl.keep K5)
    | (go_at_call 9; refine (C9 _ _ _ s5).mono ?_; rintro e w6 ⟨rfl, k6⟩; have K6 := K5.trans k6; have s6 := s5.keep k6; have t6 := t5.keep k6; have r6 := r5.keep k6; have l6 := hl.keep K6)
    | (go_at_call 10; refine (C10 _ _ _ l6).mono ?_; rintro e w7 ⟨rfl, k7⟩; have K7 := K6.trans k7; have s7 := s6.keep k7; have t7 := t6.keep k7; have r7 := r6.keep k7; have l7 := hl.keep K7))
  clear k1 k2 k3 k4 k5 k6 k7 K3 K4 K5 K6 s1 s2 s3 s4 s5 s6 t5 t6 r2 r3 r4 r5 r6 l3 l4 l5 l6 o4 o5 z2 z4
  have q0 : ∀ d os, (grow (redrawn w7 d) os).cell? ⟨g7, 0, none⟩ = some (.slice a1 nA c1) := fun d os => by
    rw [cell_of_row _ _ _ _ _ _ (r7.keep (keeps_cls ⟨⟨d, os⟩, rfl⟩)).row]; rfl
  have q1 : ∀ d os, (grow (redrawn w7 d) os).cell? ⟨g7, 1, none⟩ = some (.bool true) := fun d os => by
    rw [cell_of_row _ _ _ _ _ _ (r7.keep (keeps_cls ⟨⟨d, os⟩, rfl⟩)).row]; rfl
  have kd : Keeps (fun _ => False) w7 w7.drew := (Keeps.refl _ _).drew
  refine region_plan (S := fun w' => ∃ x : Regrown, w' = grow (redrawn w7 x.d) x.os) [([0, 2, 3], 1), ([4, 5, 6, 8, 9], 7), ([], 10), ([11, 12, 13, 14, 15, 16, 17, 18, 19, 20, 21, 22, 23, 24, 25, 26, 27, 28, 29, 30, 31, 33], 32), ([], 34), ([35, 36, 37, 38, 40], 39), ([], 41), ([42, 43, 44, 45, 46], 47), ([48, 49], 50)] [51, 52] (by kernel_rfl) (by kernel_rfl) (by kernel_rfl) (by kernel_rfl) (cls_keeps kd) ?_
  simp only [wpPlan, opsAt, pick]
  repeat (go_big_quiet_step (fail))
  refine wpQuiet_nil ?_
  go_wp2_with (go_at_call 11; refine (C11 _ (Tabs.keep hT (K7.trans kd))).mono ?_; rintro e wx0 ⟨rfl, kx0⟩)
  have kd0 := kd.trans kx0
  refine ⟨cls_keeps kd0, ?_⟩
  simp only [wpPlan, opsAt, pick]
  repeat (go_big_quiet_step (fail))
  refine wpQuiet_nil ?_
  go_wp2_with (go_at_call 13; refine (C13 _ (Tabs.keep hT (K7.trans kd0)) (by omega)).mono ?_; rintro e wx1 ⟨⟨aS, cS, rfl, sS, _⟩, kx1⟩)
  have kd1 := kd0.trans kx1
  refine ⟨cls_keeps kd1, ?_⟩
  simp only [wpPlan, opsAt, pick]
  repeat (go_big_quiet_step (fail))
  refine wpQuiet_nil ?_
  go_wp2_with (go_at_call 12; refine (ints_same _ _ _ _ _ sS (t7.keep kd1) (by omega)).mono ?_; rintro e wx2 ⟨rfl, kx2⟩)
  have kd2 := kd1.trans kx2
  refine ⟨cls_keeps kd2, ?_⟩
  simp only [wpPlan, opsAt, pick]
  repeat (go_big_quiet_step (fail))
  refine wpQuiet_nil ?_
  go_wp2_with (go_at_call 14; refine (C14 _).mono ?_; rintro e w' ⟨rfl, rfl⟩)
  refine ⟨cls_keeps kd2, ?_⟩
  simp only [wpPlan, opsAt, pick]
  repeat (go_big_quiet_step (fail))
  refine wpQuiet_nil ?_
  go_wp2_with (go_at_call 15; refine (C15 _).mono ?_; rintro e w' ⟨rfl, rfl⟩)
  refine ⟨cls_keeps kd2, ?_⟩
  simp only [wpPlan, opsAt, pick]
  repeat (go_big_quiet_step (fail))
  refine wpQuiet_nil ?_
  go_wp2_with (go_at_call 16; refine (C16 _).mono ?_; rintro e w' ⟨rfl, rfl⟩)
  refine ⟨cls_keeps kd2, ?_⟩
  simp only [wpPlan, opsAt, pick]
  repeat (go_big_quiet_step (fail))
  refine wpQuiet_nil ?_
  go_wp2_with (go_at_call 17; refine (C17 _).mono ?_; rintro e w' ⟨rfl, rfl⟩)
  refine ⟨cls_keeps kd2, ?_⟩
  simp only [wpPlan, opsAt, pick]
  repeat (go_big_quiet_step (fail))
  refine wpQuiet_nil ?_
  go_wp2_with (go_at_call 12; refine (ints_same _ _ _ _ _ (s7.keep kd2) (l7.keep kd2) (by omega)).mono ?_; rintro e wx7 ⟨rfl, kx7⟩)
  have kd7 := kd2.trans kx7
  refine ⟨cls_keeps kd7, ?_⟩
  simp only [wpPlan, opsAt, pick]
  repeat (go_big_quiet_step (fail))
  refine wpQuiet_nil ?_
  go_wp2_with (go_at_call 7; refine (wakes7 _ (Tabs.keep hT (K7.trans kd7))).mono ?_; rintro e wx8 ⟨rfl, kx8⟩)
  have kd8 := kd7.trans kx8
  refine ⟨cls_keeps kd8, ?_⟩
  simp only [wpPlan, opsAt, pick]
  repeat (go_big_quiet_step (fail))
  refine wpQuiet_nil ?_
  refine NoPanic.normal ?_
  go_wp2_with fail
  go_ret
  exact ⟨rfl, K7.trans kd8⟩

set_option maxRecDepth 100000 in
set_option maxHeartbeats 4000000 in
theorem tells_f1 (w : World) (hT : Lib.Utf8Tabs 0 1 w) (s : ByteArray) (hs : s.size ≤ 2000) (a3 : Option Addr) (n3 c3 : Nat) (l : List Int) (hl : SlI w a3 n3 c3 l) (hnc : a3 = none → c3 = 0) (hn : n3 ≤ 1000) (v : Int) (hv : -9223372036854775808 ≤ v ∧ v ≤ 9223372036854775807)
    (h1 : vd s.data.toList = false) (h3 : allS l) :
    Calls Tryd.prog 3 #[.string s, .slice a3 n3 c3, .int .i64 v] w fun e w' => e = .returned (.bool true) ∧ Keeps (fun _ => False) w w' := by
  obtain ⟨A, hA⟩ : ∃ A, sg s.data.toList = A := ⟨_, rfl⟩
  obtain ⟨nA, hnA⟩ : ∃ nA, A.length = nA := ⟨_, rfl⟩
  have bA : nA ≤ 2000 := by have := sg_len s.data.toList; rw [hA, hnA, sz_len] at this; omega
  have C13 := signs_own hA
  rw [hnA] at C13
  have C8 : ∀ W, Calls Tryd.prog 8 #[.string s] W fun e w' => (∃ a c, e = .returned (.agg #[.slice a nA c, .bool false]) ∧ SlI w' a nA c A) ∧ Keeps (fun _ => False) W w' := fun W => by
    refine (rsigns8 W s (by omega)).mono ?_
    rintro e w' ⟨⟨a, n, c, rfl, h2, h4⟩, k⟩
    rw [hA] at h2 h4
    rw [h1]
    rw [hnA] at h2
    subst h2
    exact ⟨⟨a, c, rfl, h4⟩, k⟩
  have C11 : ∀ W, Lib.Utf8Tabs 0 1 W → Calls Tryd.prog 11 #[.string s] W fun e w' => e = .returned (.bool false) ∧ Keeps (fun _ => False) W w' := fun W h => by
    rw [← h1]; exact valid11 W h s (by omega)
  obtain ⟨T, hTT⟩ : ∃ T, bs (encs l) = T := ⟨_, rfl⟩
  have C9 : ∀ W a c, SlI W a n3 c l → Calls Tryd.prog 9 #[.slice a n3 c] W fun e w' => e = .returned (.tuple #[.string T, .int .i64 0]) ∧ Keeps (fun _ => False) W w' := fun W a c h => by
    have := text9 W a n3 c l h (by omega)
    rw [show txt l = (encs l, 0) by unfold txt; rw [if_pos h3], hTT] at this
    exact this
  have C10 : ∀ W a c, SlI W a n3 c l → Calls Tryd.prog 10 #[.slice a n3 c] W fun e w' => e = .returned (.tuple #[.string T, .bool true]) ∧ Keeps (fun _ => False) W w' := fun W a c h => by
    have := rtext10 W a n3 c l h (by omega)
    rw [show rtx l = (encs l, true) by unfold rtx; rw [if_pos h3], hTT] at this
    exact this
  obtain ⟨u, hu⟩ : ∃ u, low v = u := ⟨_, rfl⟩
  obtain ⟨b, hb⟩ : ∃ b, isL v = b := ⟨_, rfl⟩
  have C14 := fun W => lower14 W v (by omega)
  have C15 := fun W => rlower15 W v (by omega)
  have C16 := fun W => letter16 W v
  have C17 := fun W => rletter17 W v (by omega)
  rw [hu] at C14 C15
  rw [hb] at C16 C17
  have hlen := hl.len
  have g0 : ¬ (2000 : Int) < (s.size : Int) := by omega
  have g1 : ¬ (1000 : Int) < (n3 : Int) := by omega
  clear hA hnA hTT h1 h3 hu hb
  go_enter Tryd.func3, Tryd.ntmps3
  go_wp2_with (first
    | (go_at_call 8; refine (C8 _).mono ?_; rintro e w1 ⟨⟨a1, c1, rfl, s1⟩, k1⟩)
    | (refine wpList_alloc25 rfl rfl ?_; intro g7 w2 r2 z2 k2; have s2 := s1.keep k2)
    | (refine wpList_store25 rfl _ _ rfl g7 rfl a1 nA c1 _ rfl _ _ r2 ?_; intro w3 r3 k3; have K3 : Keeps (fun _ => False) w w3 := (k1.trans k2).trans' k3 (fun i e => .inr (by have := k1.size; omega)); have s3 := s2.keeps k3 (fun h0 b o e h => by obtain ⟨b', o2, e', lt, _⟩ := s1.ent h0; cases e.symm.trans e'; omega); have l3 := hl.keep K3)
    | (refine wpList_build0I rfl rfl ?_; intro gb w4 o4 z4 k4; have K4 := K3.trans k4; have s4 := s3.keep k4; have r4 := r3.keep k4; have l4 := hl.keep K4)
    | (refine wpList_appIs rfl _ _ rfl w3.heap.size _ [] rfl o4 a3 n3 c3 l rfl l4 hnc (by simp; omega) (by have := k4.size; omega) ?_; intro v5 w5 o5 k5; rw [List.nil_append] at o5; obtain ⟨a5, c5, rfl, s5, _⟩ := o5.slice2; rw [hlen] at s5 ⊢; have K5 : Keeps (fun _ => False) w w5 := K4.trans' k5 (fun i e => .inr (by have := (OwnI.from o4 e).1; have := K3.size; omega)); have t5 := SlI.past2 s3 s4 k5 o4 (Nat.le_refl _); have r5 := r4.keeps k5 (fun e => by have := (OwnI.from o4 e).1; have := r3.lt; omega); have l5 := hl.keep K5)
    | (go_at_call 9; refine (C9 _ _ _ s5).mono ?_; rintro e w6 ⟨rfl, k6⟩; have K6 := K5.trans k6; have s6 := s5.keep k6; have t6 := t5.keep k6; have r6 := r5.keep k6; have l6 := hl.keep K6)
    | (go_at_call 10; refine (C10 _ _ _ l6).mono ?_; rintro e w7 ⟨rfl, k7⟩; have K7 := K6.trans k7; have s7 := s6.keep k7; have t7 := t6.keep k7; have r7 := r6.keep k7; have l7 := hl.keep K7))
  clear k1 k2 k3 k4 k5 k6 k7 K3 K4 K5 K6 s1 s2 s3 s4 s5 s6 t5 t6 r2 r3 r4 r5 r6 l3 l4 l5 l6 o4 o5 z2 z4
  have q0 : ∀ d os, (grow (redrawn w7 d) os).cell? ⟨g7, 0, none⟩ = some (.slice a1 nA c1) := fun d os => by
    rw [cell_of_row _ _ _ _ _ _ (r7.keep (keeps_cls ⟨⟨d, os⟩, rfl⟩)).row]; rfl
  have q1 : ∀ d os, (grow (redrawn w7 d) os).cell? ⟨g7, 1, none⟩ = some (.bool false) := fun d os => by
    rw [cell_of_row _ _ _ _ _ _ (r7.keep (keeps_cls ⟨⟨d, os⟩, rfl⟩)).row]; rfl
  have kd : Keeps (fun _ => False) w7 w7.drew := (Keeps.refl _ _).drew
  refine region_plan (S := fun w' => ∃ x : Regrown, w' = grow (redrawn w7 x.d) x.os) [([0, 2, 3], 1), ([4, 5, 6, 8, 9], 7), ([], 10), ([11, 12, 13, 14, 15, 16, 17, 18, 19, 20, 21, 22, 23, 24, 25, 26, 27, 28, 29, 30, 31, 33], 32), ([], 34), ([35, 36, 37, 38, 40], 39), ([], 41), ([42, 43, 44, 45, 46], 47), ([48, 49], 50)] [51, 52] (by kernel_rfl) (by kernel_rfl) (by kernel_rfl) (by kernel_rfl) (cls_keeps kd) ?_
  simp only [wpPlan, opsAt, pick]
  repeat (go_big_quiet_step (fail))
  refine wpQuiet_nil ?_
  go_wp2_with (go_at_call 11; refine (C11 _ (Tabs.keep hT (K7.trans kd))).mono ?_; rintro e wx0 ⟨rfl, kx0⟩)
  have kd0 := kd.trans kx0
  refine ⟨cls_keeps kd0, ?_⟩
  simp only [wpPlan, opsAt, pick]
  repeat (go_big_quiet_step (fail))
  refine wpQuiet_nil ?_
  go_wp2_with (go_at_call 13; refine (C13 _ (Tabs.keep hT (K7.trans kd0)) (by omega)).mono ?_; rintro e wx1 ⟨⟨aS, cS, rfl, sS, _⟩, kx1⟩)
  have kd1 := kd0.trans kx1
  refine ⟨cls_keeps kd1, ?_⟩
  simp only [wpPlan, opsAt, pick]
  repeat (go_big_quiet_step (fail))
  refine wpQuiet_nil ?_
  go_wp2_with (go_at_call 12; refine (ints_same _ _ _ _ _ sS (t7.keep kd1) (by omega)).mono ?_; rintro e wx2 ⟨rfl, kx2⟩)
  have kd2 := kd1.trans kx2
  refine ⟨cls_keeps kd2, ?_⟩
  simp only [wpPlan, opsAt, pick]
  repeat (go_big_quiet_step (fail))
  refine wpQuiet_nil ?_
  go_wp2_with (go_at_call 14; refine (C14 _).mono ?_; rintro e w' ⟨rfl, rfl⟩)
  refine ⟨cls_keeps kd2, ?_⟩
  simp only [wpPlan, opsAt, pick]
  repeat (go_big_quiet_step (fail))
  refine wpQuiet_nil ?_
  go_wp2_with (go_at_call 15; refine (C15 _).mono ?_; rintro e w' ⟨rfl, rfl⟩)
  refine ⟨cls_keeps kd2, ?_⟩
  simp only [wpPlan, opsAt, pick]
  repeat (go_big_quiet_step (fail))
  refine wpQuiet_nil ?_
  go_wp2_with (go_at_call 16; refine (C16 _).mono ?_; rintro e w' ⟨rfl, rfl⟩)
  refine ⟨cls_keeps kd2, ?_⟩
  simp only [wpPlan, opsAt, pick]
  repeat (go_big_quiet_step (fail))
  refine wpQuiet_nil ?_
  go_wp2_with (go_at_call 17; refine (C17 _).mono ?_; rintro e w' ⟨rfl, rfl⟩)
  refine ⟨cls_keeps kd2, ?_⟩
  simp only [wpPlan, opsAt, pick]
  repeat (go_big_quiet_step (fail))
  refine wpQuiet_nil ?_
  go_wp2_with (go_at_call 12; refine (ints_same _ _ _ _ _ (s7.keep kd2) (l7.keep kd2) (by omega)).mono ?_; rintro e wx7 ⟨rfl, kx7⟩)
  have kd7 := kd2.trans kx7
  refine ⟨cls_keeps kd7, ?_⟩
  simp only [wpPlan, opsAt, pick]
  repeat (go_big_quiet_step (fail))
  refine wpQuiet_nil ?_
  go_wp2_with (go_at_call 7; refine (wakes7 _ (Tabs.keep hT (K7.trans kd7))).mono ?_; rintro e wx8 ⟨rfl, kx8⟩)
  have kd8 := kd7.trans kx8
  refine ⟨cls_keeps kd8, ?_⟩
  simp only [wpPlan, opsAt, pick]
  repeat (go_big_quiet_step (fail))
  refine wpQuiet_nil ?_
  refine NoPanic.normal ?_
  go_wp2_with fail
  go_ret
  exact ⟨rfl, K7.trans kd8⟩

set_option maxRecDepth 100000 in
set_option maxHeartbeats 4000000 in
theorem tells_f0 (w : World) (hT : Lib.Utf8Tabs 0 1 w) (s : ByteArray) (hs : s.size ≤ 2000) (a3 : Option Addr) (n3 c3 : Nat) (l : List Int) (hl : SlI w a3 n3 c3 l) (hnc : a3 = none → c3 = 0) (hn : n3 ≤ 1000) (v : Int) (hv : -9223372036854775808 ≤ v ∧ v ≤ 9223372036854775807)
    (h1 : vd s.data.toList = false) (h3 : ¬ allS l) :
    Calls Tryd.prog 3 #[.string s, .slice a3 n3 c3, .int .i64 v] w fun e w' => e = .returned (.bool true) ∧ Keeps (fun _ => False) w w' := by
  obtain ⟨A, hA⟩ : ∃ A, sg s.data.toList = A := ⟨_, rfl⟩
  obtain ⟨nA, hnA⟩ : ∃ nA, A.length = nA := ⟨_, rfl⟩
  have bA : nA ≤ 2000 := by have := sg_len s.data.toList; rw [hA, hnA, sz_len] at this; omega
  have C13 := signs_own hA
  rw [hnA] at C13
  have C8 : ∀ W, Calls Tryd.prog 8 #[.string s] W fun e w' => (∃ a c, e = .returned (.agg #[.slice a nA c, .bool false]) ∧ SlI w' a nA c A) ∧ Keeps (fun _ => False) W w' := fun W => by
    refine (rsigns8 W s (by omega)).mono ?_
    rintro e w' ⟨⟨a, n, c, rfl, h2, h4⟩, k⟩
    rw [hA] at h2 h4
    rw [h1]
    rw [hnA] at h2
    subst h2
    exact ⟨⟨a, c, rfl, h4⟩, k⟩
  have C11 : ∀ W, Lib.Utf8Tabs 0 1 W → Calls Tryd.prog 11 #[.string s] W fun e w' => e = .returned (.bool false) ∧ Keeps (fun _ => False) W w' := fun W h => by
    rw [← h1]; exact valid11 W h s (by omega)
  obtain ⟨T, hTT⟩ : ∃ T, bs ([]) = T := ⟨_, rfl⟩
  have C9 : ∀ W a c, SlI W a n3 c l → Calls Tryd.prog 9 #[.slice a n3 c] W fun e w' => e = .returned (.tuple #[.string T, .int .i64 11]) ∧ Keeps (fun _ => False) W w' := fun W a c h => by
    have := text9 W a n3 c l h (by omega)
    rw [show txt l = ([], 11) by unfold txt; rw [if_neg h3], hTT] at this
    exact this
  have C10 : ∀ W a c, SlI W a n3 c l → Calls Tryd.prog 10 #[.slice a n3 c] W fun e w' => e = .returned (.tuple #[.string T, .bool false]) ∧ Keeps (fun _ => False) W w' := fun W a c h => by
    have := rtext10 W a n3 c l h (by omega)
    rw [show rtx l = ([], false) by unfold rtx; rw [if_neg h3], hTT] at this
    exact this
  obtain ⟨u, hu⟩ : ∃ u, low v = u := ⟨_, rfl⟩
  obtain ⟨b, hb⟩ : ∃ b, isL v = b := ⟨_, rfl⟩
  have C14 := fun W => lower14 W v (by omega)
  have C15 := fun W => rlower15 W v (by omega)
  have C16 := fun W => letter16 W v
  have C17 := fun W => rletter17 W v (by omega)
  rw [hu] at C14 C15
  rw [hb] at C16 C17
  have hlen := hl.len
  have g0 : ¬ (2000 : Int) < (s.size : Int) := by omega
  have g1 : ¬ (1000 : Int) < (n3 : Int) := by omega
  clear hA hnA hTT h1 h3 hu hb
  go_enter Tryd.func3, Tryd.ntmps3
  go_wp2_with (first
    | (go_at_call 8; refine (C8 _).mono ?_; rintro e w1 ⟨⟨a1, c1, rfl, s1⟩, k1⟩)
    | (refine wpList_alloc25 rfl rfl ?_; intro g7 w2 r2 z2 k2; have s2 := s1.keep k2)
    | (refine wpList_store25 rfl _ _ rfl g7 rfl a1 nA c1 _ rfl _ _ r2 ?_; intro w3 r3 k3; have K3 : Keeps (fun _ => False) w w3 := (k1.trans k2).trans' k3 (fun i e => .inr (by have := k1.size; omega)); have s3 := s2.keeps k3 (fun h0 b o e h => by obtain ⟨b', o2, e', lt, _⟩ := s1.ent h0; cases e.symm.trans e'; omega); have l3 := hl.keep K3)
    | (refine wpList_build0I rfl rfl ?_; intro gb w4 o4 z4 k4; have K4 := K3.trans k4; have s4 := s3.keep k4; have r4 := r3.keep k4; have l4 := hl.keep K4)
    | (refine wpList_appIs rfl _ _ rfl w3.heap.size _ [] rfl o4 a3 n3 c3 l rfl l4 hnc (by simp; omega) (by have := k4.size; omega) ?_; intro v5 w5 o5 k5; rw [List.nil_append] at o5; obtain ⟨a5, c5, rfl, s5, _⟩ := o5.slice2; rw [hlen] at s5 ⊢; have K5 : Keeps (fun _ => False) w w5 := K4.trans' k5 (fun i e => .inr (by have := (OwnI.from o4 e).1; have := K3.size; omega)); have t5 := SlI.past2 s3 s4 k5 o4 (Nat.le_refl _); have r5 := r4.keeps k5 (fun e => by have := (OwnI.from o4 e).1; have := r3.lt; omega); have l5 := hl.keep K5)
    | (go_at_call 9; refine (C9 _ _ _ s5).mono ?_; rintro e w6 ⟨rfl, k6⟩; have K6 := K5.trans k6; have s6 := s5.keep k6; have t6 := t5.keep k6; have r6 := r5.keep k6; have l6 := hl.keep K6)
    | (go_at_call 10; refine (C10 _ _ _ l6).mono ?_; rintro e w7 ⟨rfl, k7⟩; have K7 := K6.trans k7; have s7 := s6.keep k7; have t7 := t6.keep k7; have r7 := r6.keep k7; have l7 := hl.keep K7))
  clear k1 k2 k3 k4 k5 k6 k7 K3 K4 K5 K6 s1 s2 s3 s4 s5 s6 t5 t6 r2 r3 r4 r5 r6 l3 l4 l5 l6 o4 o5 z2 z4
  have q0 : ∀ d os, (grow (redrawn w7 d) os).cell? ⟨g7, 0, none⟩ = some (.slice a1 nA c1) := fun d os => by
    rw [cell_of_row _ _ _ _ _ _ (r7.keep (keeps_cls ⟨⟨d, os⟩, rfl⟩)).row]; rfl
  have q1 : ∀ d os, (grow (redrawn w7 d) os).cell? ⟨g7, 1, none⟩ = some (.bool false) := fun d os => by
    rw [cell_of_row _ _ _ _ _ _ (r7.keep (keeps_cls ⟨⟨d, os⟩, rfl⟩)).row]; rfl
  have kd : Keeps (fun _ => False) w7 w7.drew := (Keeps.refl _ _).drew
  refine region_plan (S := fun w' => ∃ x : Regrown, w' = grow (redrawn w7 x.d) x.os) [([0, 2, 3], 1), ([4, 5, 6, 8, 9], 7), ([], 10), ([11, 12, 13, 14, 15, 16, 17, 18, 19, 20, 21, 22, 23, 24, 25, 26, 27, 28, 29, 30, 31, 33], 32), ([], 34), ([35, 36, 37, 38, 40], 39), ([], 41), ([42, 43, 44, 45, 46], 47), ([48, 49], 50)] [51, 52] (by kernel_rfl) (by kernel_rfl) (by kernel_rfl) (by kernel_rfl) (cls_keeps kd) ?_
  simp only [wpPlan, opsAt, pick]
  repeat (go_big_quiet_step (fail))
  refine wpQuiet_nil ?_
  go_wp2_with (go_at_call 11; refine (C11 _ (Tabs.keep hT (K7.trans kd))).mono ?_; rintro e wx0 ⟨rfl, kx0⟩)
  have kd0 := kd.trans kx0
  refine ⟨cls_keeps kd0, ?_⟩
  simp only [wpPlan, opsAt, pick]
  repeat (go_big_quiet_step (fail))
  refine wpQuiet_nil ?_
  go_wp2_with (go_at_call 13; refine (C13 _ (Tabs.keep hT (K7.trans kd0)) (by omega)).mono ?_; rintro e wx1 ⟨⟨aS, cS, rfl, sS, _⟩, kx1⟩)
  have kd1 := kd0.trans kx1
  refine ⟨cls_keeps kd1, ?_⟩
  simp only [wpPlan, opsAt, pick]
  repeat (go_big_quiet_step (fail))
  refine wpQuiet_nil ?_
  go_wp2_with (go_at_call 12; refine (ints_same _ _ _ _ _ sS (t7.keep kd1) (by omega)).mono ?_; rintro e wx2 ⟨rfl, kx2⟩)
  have kd2 := kd1.trans kx2
  refine ⟨cls_keeps kd2, ?_⟩
  simp only [wpPlan, opsAt, pick]
  repeat (go_big_quiet_step (fail))
  refine wpQuiet_nil ?_
  go_wp2_with (go_at_call 14; refine (C14 _).mono ?_; rintro e w' ⟨rfl, rfl⟩)
  refine ⟨cls_keeps kd2, ?_⟩
  simp only [wpPlan, opsAt, pick]
  repeat (go_big_quiet_step (fail))
  refine wpQuiet_nil ?_
  go_wp2_with (go_at_call 15; refine (C15 _).mono ?_; rintro e w' ⟨rfl, rfl⟩)
  refine ⟨cls_keeps kd2, ?_⟩
  simp only [wpPlan, opsAt, pick]
  repeat (go_big_quiet_step (fail))
  refine wpQuiet_nil ?_
  go_wp2_with (go_at_call 16; refine (C16 _).mono ?_; rintro e w' ⟨rfl, rfl⟩)
  refine ⟨cls_keeps kd2, ?_⟩
  simp only [wpPlan, opsAt, pick]
  repeat (go_big_quiet_step (fail))
  refine wpQuiet_nil ?_
  go_wp2_with (go_at_call 17; refine (C17 _).mono ?_; rintro e w' ⟨rfl, rfl⟩)
  refine ⟨cls_keeps kd2, ?_⟩
  simp only [wpPlan, opsAt, pick]
  repeat (go_big_quiet_step (fail))
  refine wpQuiet_nil ?_
  go_wp2_with (go_at_call 12; refine (ints_same _ _ _ _ _ (s7.keep kd2) (l7.keep kd2) (by omega)).mono ?_; rintro e wx7 ⟨rfl, kx7⟩)
  have kd7 := kd2.trans kx7
  refine ⟨cls_keeps kd7, ?_⟩
  simp only [wpPlan, opsAt, pick]
  repeat (go_big_quiet_step (fail))
  refine wpQuiet_nil ?_
  go_wp2_with (go_at_call 7; refine (wakes7 _ (Tabs.keep hT (K7.trans kd7))).mono ?_; rintro e wx8 ⟨rfl, kx8⟩)
  have kd8 := kd7.trans kx8
  refine ⟨cls_keeps kd8, ?_⟩
  simp only [wpPlan, opsAt, pick]
  repeat (go_big_quiet_step (fail))
  refine wpQuiet_nil ?_
  refine NoPanic.normal ?_
  go_wp2_with fail
  go_ret
  exact ⟨rfl, K7.trans kd8⟩

set_option maxRecDepth 100000 in
theorem tells_long (w : World) (hT : Lib.Utf8Tabs 0 1 w) (s : ByteArray) (a3 : Option Addr) (n3 c3 : Nat) (v : Int) (h : 2000 < s.size ∨ 1000 < n3) :
    Calls Tryd.prog 3 #[.string s, .slice a3 n3 c3, .int .i64 v] w fun e w' => e = .returned (.bool true) ∧ Keeps (fun _ => False) w w' := by
  have cs : (2000 : Int) < (s.size : Int) ∨ (¬ (2000 : Int) < (s.size : Int) ∧ (1000 : Int) < (n3 : Int)) := by omega
  clear h
  go_enter Tryd.func3, Tryd.ntmps3
  rcases cs with h1 | ⟨h1, h2⟩
  all_goals
    go_wp2_with (go_at_call 7; refine (wakes7 _ hT).mono ?_; rintro e w2 ⟨rfl, k2⟩)
    go_ret
    exact ⟨rfl, k2⟩

theorem tellsL (w : World) (hT : Lib.Utf8Tabs 0 1 w) (s : ByteArray) (hs : s.size ≤ 9223372036854775807) (a3 : Option Addr) (n3 c3 : Nat) (l : List Int) (hl : SlI w a3 n3 c3 l) (hn : n3 ≤ 9223372036854775807) (hnc : a3 = none → c3 = 0) (v : Int) (hv : -9223372036854775808 ≤ v ∧ v ≤ 9223372036854775807) :
    Calls Tryd.prog 3 #[.string s, .slice a3 n3 c3, .int .i64 v] w fun e w' => e = .returned (.bool true) ∧ Keeps (fun _ => False) w w' := by
  by_cases h : 2000 < s.size ∨ 1000 < n3
  · exact tells_long w hT s a3 n3 c3 v h
  · have b1 : s.size ≤ 2000 := by omega
    have b2 : n3 ≤ 1000 := by omega
    cases h1 : vd s.data.toList with
    | true =>
      by_cases h3 : allS l
      · exact tells_t1 w hT s b1 a3 n3 c3 l hl hnc b2 v hv h1 h3
      · exact tells_t0 w hT s b1 a3 n3 c3 l hl hnc b2 v hv h1 h3
    | false =>
      by_cases h3 : allS l
      · exact tells_f1 w hT s b1 a3 n3 c3 l hl hnc b2 v hv h1 h3
      · exact tells_f0 w hT s b1 a3 n3 c3 l hl hnc b2 v hv h1 h3

end Go.Proofs.YtppliejbpgkaiaaDoor
