/-
  ObjectBack: the walk.
-/
import Derived.Test.YtanmopbhglokmaaDoorBa4
import Derived.Test.YtanmopbhglokmaaDoorBuk
set_option linter.all false
namespace Go.Proofs.YtanmopbhglokmaaDoor
open Go.RowKit Go.Sort

set_option maxRecDepth 100000 in
set_option maxHeartbeats 2000000 in
theorem back4_ok (w : World) (hT : Tabs w) (k : Int) (a : Option Addr) (n c : Nat) (l : List B) (hl : SlB w a n c l) (hnc : a = none → c = 0) (hn : n ≤ 1000) (hk : 1 ≤ k ∧ k ≤ 6) :
    Calls Tryd.prog 4 #[.int .i64 k, .slice a n c] w fun e w' => e = .returned (.bool true) ∧ Keeps (fun _ => False) w w' := by
  have hn' : ¬ (2000 : Int) < (n : Int) := by omega
  have hlen := hl.len
  obtain ⟨m, hm⟩ : ∃ m, (n + 134) / 128 = m := ⟨_, rfl⟩
  have hm1 : 1 ≤ m := by omega
  have hm9 : m ≤ 9 := by omega
  have hm1' : ¬ (m : Int) = 0 := by omega
  obtain ⟨mp, hmp⟩ : ∃ mp, mp + 1 = m := ⟨m - 1, by omega⟩
  have hmp' : (m : Int) - 1 = (mp : Int) := by omega
  have hnm : n + 7 ≤ m * 128 := by omega
  have HN : Hid (nblk (n : Int) = (m : Int)) := by show _ = _; rw [nblk_of hn, hm]
  obtain ⟨L, hL⟩ : ∃ L, fr k l = L := ⟨_, rfl⟩
  have HL : Hid (fr k l = L) := hL
  have HF : Hid (Calls Tryd.prog 9 #[.int .i64 k, .slice a n c] w fun e w'' => ∃ a' c', e = .returned (.tuple #[.slice a' m c', .int .i64 0]) ∧ SlB w'' a' (m * 128) (c' * 128) L ∧ Keeps (fun _ => False) w w'') := by
    have := frame_ok w hT a n c hk hn hl hnc HL
    rwa [hm] at this
  have HB : Hid (∀ w', Keeps (fun _ => False) w w' → ∀ a1 c1, SlB w' a1 (m * 128) (c1 * 128) L → Calls Tryd.prog 11 #[.slice a1 m c1] w' fun e w'' => ∃ a' c', e = .returned (.tuple #[.int .i64 k, .slice a' n c', .int .i64 0]) ∧ SlB w'' a' n c' l ∧ (a' = none → c' = 0) ∧ Keeps (fun _ => False) w' w'') := fun w' hk' a1 c1 hs => by
    have := body11_fr w' (hT.keeps hk' (fun h => h) (fun h => h)) a1 m c1 HL hk (by omega) hs
    rwa [hlen] at this
  have HX1 : Hid (¬ IsObj (L.take (mp * 128))) := by show ¬ _; rw [← hL]; exact not_fewer (by omega) (by rw [hlen]; exact hm) hmp
  obtain ⟨Z, hZ⟩ : ∃ Z, zb 128 = Z := ⟨_, rfl⟩
  have HZ : Hid (zb 128 = Z) := hZ
  have HZl : Hid (Z.length = 128) := by show _ = _; rw [← hZ]; exact zb_len 128
  have HX2 : Hid (¬ IsObj (L ++ Z)) := by show ¬ _; rw [← hL, ← hZ]; exact not_more (m := m) (by omega) (by rw [hlen]; exact hm)
  obtain ⟨X, hX⟩ : ∃ X, sha (txt k l) = X := ⟨_, rfl⟩
  have HX : Hid (sha (L.take (n + 3)) = X) := by show _ = _; rw [← hL, ← hlen, fr_take, hX]
  obtain ⟨C, hC⟩ : ∃ C, X.take 4 = C := ⟨_, rfl⟩
  have HC : Hid (X.take 4 = C) := hC
  have HCL : Hid ((L.drop (n + 3)).take 4 = C) := by show _ = _; rw [← hL, ← hlen, fr_check, hX, hC]
  have lC : C.length = 4 := by rw [← hC, ← hX, List.length_take, sha_len]; rfl
  have lL : L.length = m * 128 := by rw [← hL, fr_len, hlen, hm]
  have hcs : (Tryd.prog.info? 41).map (·.size) = some (brow C).size := by rw [size_brow, lC]; exact size27
  have hone := brow_one C
  have Hln : Hid (L.length = m * 128) := lL
  have HlC : Hid (C.length = 4) := lC
  clear hL hX hC lL hlen hm hZ
  go_enter Tryd.func4, Tryd.ntmps4
  go_wp2_with (first
    | (go_at_call 11; have hm3 := H3; refine (body11_not w7 (hT.keeps K7 (fun h => h) (fun h => h)) _ _ _ HX2.out s7).mono ?_; rintro e w8 ⟨rfl, k8⟩; have K8 := K7.trans k8; have J8 := J7.trans k8)
    | (go_at_call 11; have hm2 := H2; refine (body11_not w2 (hT.keeps K2 (fun h => h) (fun h => h)) _ mp c1 HX1.out ((s1.keeps k2 (fun _ _ _ _ h => h)).pre (mp * 128) (by omega))).mono ?_; rintro e w3 ⟨rfl, k3⟩; have K3 := K2.trans k3; clear hm2)
    | (go_at_call 11; refine (HB.out w1 k1 _ c1 s1).mono ?_; rintro e w2 ⟨a2, c2, rfl, s2, hnc2, k2⟩; have K2 := k1.trans k2; have H2 : Hid True := trivial)
    | (go_at_call 9; refine HF.out.mono ?_; rintro e w1 ⟨a1, c1, rfl, s1, k1⟩; obtain ⟨b1, o1, rfl, _⟩ := s1.bytes (m * 128) (by omega) (Nat.le_refl _); have hcm : m ≤ c1 := (by have := s1.cap; omega))
    | (go_at_call 14; refine (bytes_at w2 _ _ _ _ _ _ s2 (hl.keeps K2 (fun _ _ _ _ h => h))).mono ?_; rintro e wn ⟨rfl, rfl⟩)
    | (go_at_call 15; refine (nblk_at HN _).mono ?_; rintro e wn ⟨rfl, rfl⟩)
    | (refine wpList_slice_pre23 rfl _ _ rfl b1 o1 m c1 mp rfl _ rfl (by omega) (by omega) ?_)
    | (refine wpList_build0K rfl rfl ?_; intro w4 O4 k4; have K4 := K3.trans k4)
    | (refine wpList_appK rfl _ _ rfl w3.heap.size _ m L rfl O6 _ _ 1 1 Z rfl s6 (by omega) (by have := ka6.size; omega) ?_; intro v7 w7 O7 k7; have K7 : Keeps (fun _ => False) w w7 := K6.trans' k7 (fun i e => .inr (by have := K3.size; omega)); obtain ⟨a7, c7, rfl, s7, _, _⟩ := O7.slice; have J7 : Keeps (fun _ => False) w1 w7 := J6.trans' k7 (fun i e => .inr (by have := (k2.trans k3).size; omega)); have H3 : Hid True := trivial)
    | (refine wpList_appK rfl _ _ rfl w3.heap.size _ 0 [] rfl O4 b1 o1 m c1 L rfl (s1.keeps ((k2.trans k3).trans k4) (fun _ _ _ _ h => h)) (by omega) (by have := k4.size; omega) ?_; intro v5 w5 O5 k5; rw [Nat.zero_add, List.nil_append] at O5; have K5 : Keeps (fun _ => False) w w5 := K4.trans' k5 (fun i e => .inr (by have := K3.size; omega)); have hk5s := k5.size; have hk4s := k4.size; have J5 : Keeps (fun _ => False) w1 w5 := ((k2.trans k3).trans k4).trans' k5 (fun i e => .inr (by have := (k2.trans k3).size; omega)))
    | (refine wpList_build40 rfl rfl ?_; rw [HZ.out])
    | (refine wpList_buildK rfl _ rfl Z rfl HZl.out ?_; intro w6 s6 ka6; have K6 := K5.trans ka6; have O6 := O5.keeps ka6 (fun _ _ h => h.elim); have J6 := J5.trans ka6))
  have s8 := s1.keeps J8 (fun _ _ _ _ h => h)
  have hT8 := hT.keeps K8 (fun h => h) (fun h => h)
  have hcmp : ¬ (m : Int) * 128 < 3 + (n : Int) + 4 := by omega
  clear s1 s2 s6 s7 O4 O5 O6 O7 J5 J6 J7 J8 HB HF HX1 HX2 HZ HZl hl hnc hmp' hnc2 hk4s hk5s k1 k2 k3 k4 k5 k7 k8 ka6 K2 K3 K4 K5 K6 K7 H2 H3
  go_loopw [17, 18] (fun v t wr => ∃ i : Nat, i ≤ m ∧ t = .int .i64 i ∧ OwnB wr w8.heap.size v (L.take (i * 128)) ∧ Keeps (fun _ => False) w8 wr) (fun _ t _ => m - (intOf t).toNat)
  case atStart => exact ⟨0, by omega, rfl, ⟨by simp, .inl ⟨rfl, rfl⟩⟩, Keeps.refl _ _⟩
  case round =>
    obtain ⟨i, hi, rfl, O, hk⟩ := hrel
    have hks := hk.size
    by_cases hlt : i < m
    · have hlt' : (i : Int) < (m : Int) := by omega
      have hi0 : (0 : Int) ≤ (i : Int) := by omega
      have hs := s8.keeps hk (fun _ _ _ _ h => h)
      have hb : SlB wr (some ⟨b1, o1 + i * 128, none⟩) 128 128 (blk L i) := hs.part (i * 128) 128 128 (by have : (i + 1) * 128 ≤ m * 128 := Nat.mul_le_mul_right 128 hlt; omega) (Nat.le_refl _)
      have HS : Hid (L.take ((i + 1) * 128) = L.take (i * 128) ++ blk L i) := blk_snoc L i
      have Hq : Hid ((L.take (i * 128)).length ≤ 128000) := by show _ ≤ _; rw [List.length_take]; omega
      obtain ⟨a3, n3, c3, rfl, _⟩ := O.slice
      go_wp2_with (refine wpList_app rfl _ _ rfl w8.heap.size _ _ rfl O _ 128 128 (blk L i) rfl hb (fun e => by cases e) (by have := Hq.out; omega) (by omega) ?_; intro v3 w3 O3 k3; rw [← HS.out] at O3)
      exact ⟨⟨i + 1, by omega, by go_num, O3, hk.trans' k3 (fun i e => .inr e)⟩, by simp [intOf]; omega⟩
    · obtain rfl : i = m := by omega
      rw [List.take_of_length_le (by have := Hln.out; omega)] at O
      obtain ⟨a9, n9, c9, rfl, s9, b9, _⟩ := O.slice
      obtain rfl : n9 = i * 128 := s9.len.symm.trans Hln.out
      obtain ⟨g9, o9, rfl, _⟩ := s9.bytes (i * 128) (by omega) (Nat.le_refl _)
      have hcap9 := s9.cap
      have hT9 := hT8.keeps hk (fun h => h) (fun h => h)
      have K9 := K8.trans hk
      go_wp2_with (first
        | (refine wpList_slice_pre22 rfl _ _ rfl g9 o9 _ c9 (n + 3) rfl _ rfl (by omega) (by omega) ?_)
        | (go_at_call 17; refine (check_at HX HC _ hT9 _ _ _ (s9.pre (n + 3) (by omega)) (by omega)).mono ?_; rintro e w10 ⟨rfl, k10⟩; have K10 := K9.trans k10)
        | (refine wpList_store_row rfl rfl 41 _ _ rfl w10.heap.size rfl (brow C) rfl 41 _ (heap_alloc_new w10 _) hcs (by rw [size_brow, HlC.out]; rfl) hone ?_; intro w11 g11 k11 z11; have k1011 := keeps_new5 k11; have K11 := K10.trans k1011; have s11 : SlB w11 (some ⟨w10.heap.size, 0, none⟩) 4 4 C := (by have := slb_box g11; rwa [HlC.out] at this); have s911 := (s9.part (n + 3) 4 (c9 - (n + 3)) (by omega) (by omega)).keeps (k10.trans k1011) (fun _ _ _ _ h => h); rw [HCL.out] at s911; clear z11 k11 g11))
      obtain ⟨N3, hN3⟩ : ∃ N3, n + 3 = N3 := ⟨_, rfl⟩
      obtain ⟨N7, hN7⟩ : ∃ N7, N3 + 4 = N7 := ⟨_, rfl⟩
      have h3 : 3 + (n : Int) = (N3 : Int) := by omega
      have h7 : (N3 : Int) + 4 = (N7 : Int) := by omega
      have h74 : N7 - N3 = 4 := by omega
      have hc3 : ¬ c9 = N3 := by omega
      have hi3 : (0 : Int) ≤ (N3 : Int) := by omega
      have hi37 : (N3 : Int) ≤ (N7 : Int) := by omega
      have hi7c : (N7 : Int) ≤ (c9 : Int) := by omega
      rw [hN3] at s911
      have HT11 : Hid (∀ w', Keeps (fun _ => False) w11 w' → Tabs w') := fun w' hk' => hT.keeps (K11.trans hk') (fun h => h) (fun h => h)
      have Hs9 : Hid (SlB w11 (some ⟨g9, o9 + N3, none⟩) 4 (c9 - N3) C) := s911
      have Hs11 : Hid (SlB w11 (some ⟨w10.heap.size, 0, none⟩) 4 4 C) := s11
      clear hN3 hN7 hcmp hnm s911 s11 HX HC HCL HlC O s9 hcs hone hm1 hm9 hm1' hcap9 hT9 hT8 s8
      refine region_plan (S := fun w' => ∃ p : Regrown, w' = grow (redrawn w11 p.d) p.os) [([0, 1, 2, 3, 4, 5], 6), ([7], 8)] [9, 10] (by kernel_rfl) (by kernel_rfl) (by kernel_rfl) (by kernel_rfl) (cls_keeps ((Keeps.refl _ _).drew)) ?_
      have d0 : Keeps (fun _ => False) w11 w11.drew := (Keeps.refl _ _).drew
      simp only [wpPlan, opsAt, pick]
      repeat (go_big_quiet_step (fail))
      refine wpQuiet_nil ?_
      go_wp2_with (go_at_call 14; refine (bytes_at w11.drew _ _ _ _ _ _ (Hs9.out.keeps d0 (fun _ _ _ _ h => h)) (Hs11.out.keeps d0 (fun _ _ _ _ h => h))).mono ?_; rintro e w12 ⟨rfl, hw12⟩; have d1 : Keeps (fun _ => False) w11 w12 := (by rw [← hw12]; exact d0); clear hw12)
      refine ⟨cls_keeps d1, ?_⟩
      simp only [wpPlan, opsAt, pick]
      repeat (go_big_quiet_step (fail))
      refine wpQuiet_nil ?_
      go_wp2_with (go_at_call 8; refine (wakes8 _ (HT11.out _ d1)).mono ?_; rintro e w13 ⟨rfl, k13⟩)
      have d3 := d1.trans k13
      refine ⟨cls_keeps d3, ?_⟩
      simp only [wpPlan, opsAt, pick]
      repeat (go_big_quiet_step (fail))
      refine wpQuiet_nil ?_
      refine NoPanic.normal ?_
      go_wp2
      go_ret
      exact ⟨rfl, K11.trans d3⟩

end Go.Proofs.YtanmopbhglokmaaDoor
