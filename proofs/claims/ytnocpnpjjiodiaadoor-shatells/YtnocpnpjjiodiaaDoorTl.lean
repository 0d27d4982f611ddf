/-
  ShaTells: the walk.
-/
import Derived.Test.YtnocpnpjjiodiaaDoorRc
set_option linter.all false
namespace Go.Proofs.YtnocpnpjjiodiaaDoor
open Go.RowKit Go.Sort

theorem of_to {k : Int} {l X : List B} (hX : Hid (sha (kb k :: l) = X)) (w : World) {a : Option Addr} {n c : Nat} (hT : Tabs w) (hl : SlB w a n c l) (hn : n < 800000) :
    Calls Tryd.prog 10 #[.int .i64 k, .slice a n c] w fun e w' => e = .returned (.agg (brow X)) ∧ Keeps (fun _ => False) w w' := by
  rw [← hX.out]; exact of10 w k a n c l hT hl hn
theorem less_ref {x y : List B} {v : Bool} (h : Hid (lessB x y = v)) (hx : x.length = 32) (hy : y.length = 32) (w : World) :
    Calls Tryd.prog 15 #[.agg (brow x), .agg (brow y)] w fun e w'' => e = .returned (.bool v) ∧ Keeps (fun _ => False) w w'' := by
  have := less15 w x y hx hy
  rw [bytesLess_cmp] at this
  rw [← h.out]; exact this

set_option maxRecDepth 100000 in
set_option maxHeartbeats 4000000 in
theorem tells_any (w : World) (hT : Tabs w) (k : Int) (hkb : -9223372036854775808 ≤ k ∧ k ≤ 9223372036854775807) (a : Option Addr) (n c : Nat) (l : List B) (hl : SlB w a n c l) (hnc : a = none → c = 0) (D : List B) (hD : D.length = 2 * 32) :
    Calls Tryd.prog 3 #[.int .i64 k, .slice a n c, .agg (brow D)] w fun e w' => e = .returned (.bool true) ∧ Keeps (fun _ => False) w w' := by
  by_cases hn : n ≤ 3000
  · obtain ⟨x, hx⟩ : ∃ x, x = (D.drop 0).take 32 := ⟨_, rfl⟩
    obtain ⟨y, hy⟩ : ∃ y, y = (D.drop 32).take 32 := ⟨_, rfl⟩
    have lx : x.length = 32 := by rw [hx]; simp [hD]
    have ly : y.length = 32 := by rw [hy]; simp [hD]
    have Ix : Hid ((Tryd.prog.info? 24).map (·.size) = some (brow x).size) := by show _ = _; rw [size_brow, lx]; exact size24
    have Iy : Hid ((Tryd.prog.info? 24).map (·.size) = some (brow y).size) := by show _ = _; rw [size_brow, ly]; exact size24
    have HR : Hid (∀ w', Keeps (fun _ => False) (w.alloc (.cells (brow D) 25)) w' → w'.rangeAt w.heap.size 0 (brow x).toList ∧ w'.rangeAt w.heap.size 32 (brow y).toList) := fun w' hk => by
      have g := hk.row (heap_alloc_new w _) (fun h => h)
      rw [hx, hy]
      exact ⟨range_mid g 0 32, range_mid g 32 32⟩
    obtain ⟨vl, hvl⟩ : ∃ v, lessB x y = v := ⟨_, rfl⟩
    have h1 : Hid (lessB x y = vl) := hvl
    obtain ⟨X, hXe⟩ : ∃ X, sha l = X := ⟨_, rfl⟩
    have HX : Hid (sha l = X) := hXe
    obtain ⟨Y, hYe⟩ : ∃ Y, sha (kb k :: l) = Y := ⟨_, rfl⟩
    have HY : Hid (sha (kb k :: l) = Y) := hYe
    obtain ⟨C, hCe⟩ : ∃ C, X.take 4 = C := ⟨_, rfl⟩
    have HC : Hid (X.take 4 = C) := hCe
    have lX : X.length = 32 := by rw [← hXe]; exact sha_len _
    have lY : Y.length = 32 := by rw [← hYe]; exact sha_len _
    have lC : C.length = 4 := by rw [← hCe, List.length_take, lX]; rfl
    have hs7 : (Tryd.prog.info? 27).map (·.size) = some (brow C).size := by rw [size_brow, lC]; exact size27
    have hs8 : (#[.int .u8 0, .int .u8 0, .int .u8 0, .int .u8 0] : Array Value).size = (brow C).size := by rw [size_brow, lC]; rfl
    have hone4 := brow_one C
    have heqX : ∀ w, (Op.equalIn 10000 24 (.agg (brow X)) (.agg (brow X))).run Tryd.prog w = .ok true w := fun w => by
      have := eq24 X X lX lX w
      rwa [decide_eq_true rfl] at this
    have heqY : ∀ w, (Op.equalIn 10000 24 (.agg (brow Y)) (.agg (brow Y))).run Tryd.prog w = .ok true w := fun w => by
      have := eq24 Y Y lY lY w
      rwa [decide_eq_true rfl] at this
    have hn' : ¬ (3000 : Int) < (n : Int) := by omega
    have k1 := keeps_alloc w (.cells (brow D) 25)
    have k2 := k1.alloc (.cells #[] 5)
    have o1 := own_nil (w.alloc (.cells (brow D) 25))
    rw [show (w.alloc (.cells (brow D) 25)).heap.size = w.heap.size + 1 by simp] at o1
    have hlen := hl.len
    have k12 := keeps_alloc (w.alloc (.cells (brow D) 25)) (.cells #[] 5)
    clear hx hy hvl hXe hYe hCe lX lY
    go_enter Tryd.func3, Tryd.ntmps3
    go_wp2_with (first | (refine wpList_buildSlice0 rfl rfl ?_) | (refine wpList_app rfl _ _ rfl (w.heap.size + 1) _ [] rfl o1 a n c l rfl (hl.keeps k2 (fun _ _ _ _ h => h)) hnc (by simp; omega) (by simp) ?_; intro v' w1 O1 hk1; obtain ⟨a7, n7, c7, rfl, hs1, _, _⟩ := O1.slice; have hn7 : n7 ≤ 3000 := (by have h1 := hs1.len; simp at h1; omega); have kw1 : Keeps (fun _ => False) w w1 := k2.trans' hk1 (fun i e => .inr (by omega)); have kd1 : Keeps (fun _ => False) (w.alloc (.cells (brow D) 25)) w1 := k12.trans' hk1 (fun i e => .inr (by simp; omega)); clear O1 hk1) | (go_at_call 7; refine (check_at HX HC _ (hT.keeps kw1 (fun h => h) (fun h => h)) _ _ _ hs1 (by omega)).mono ?_; rintro e w2 ⟨rfl, hk2⟩) | (refine wpList_store_row rfl rfl 27 _ _ rfl w2.heap.size rfl (brow C) rfl 27 _ (heap_alloc_new w2 _) hs7 hs8 hone4 ?_; intro w3 g3 hk3 hz3; clear hz3; have k23 : Keeps (fun _ => False) w1 w3 := (hk2.alloc _).trans' hk3 (fun i e => .inr (by have := hk2.size; omega))))
    have kw3 := kw1.trans k23
    have kd3 := kd1.trans k23
    have hT3 := hT.keeps kw3 (fun h => h) (fun h => h)
    have hl3 := hl.keeps kw3 (fun _ _ _ _ h => h)
    have hs3 : SlB w3 a7 n7 c7 l := hs1.keeps k23 (fun _ _ _ _ h => h)
    have sC : SlB w3 (some ⟨w2.heap.size, 0, none⟩) 4 4 C := by
      have := SlB.ofRow g3 0 4 4 (by rw [lC]; omega) (by omega)
      rwa [List.drop_zero, List.take_of_length_le (by omega)] at this
    have HRc : Hid (∀ w', (∃ p : Regrown, w' = grow (redrawn w3 p.d) p.os) → w'.rangeAt w.heap.size 0 (brow x).toList ∧ w'.rangeAt w.heap.size 32 (brow y).toList) := fun w' hp => HR.out _ (kd3.trans (keeps_cls hp))
    clear k1 k2 o1 k12 kw1 kd1 kd3 HR hs7 hs8 hone4 hk2 hk3 k23 g3 hs1
    refine region_plan (S := fun w' => ∃ p : Regrown, w' = grow (redrawn w3 p.d) p.os) [([0, 2], 1), ([], 3), ([4, 5, 6, 7, 9, 10], 8), ([], 11), ([12, 13, 14, 15, 16], 17), ([], 18), ([19, 20, 21, 22, 23, 24, 26, 27, 28, 29], 25), ([], 30), ([31, 32, 33, 34, 35], 36), ([37, 38], 39)] [40, 41] (by kernel_rfl) (by kernel_rfl) (by kernel_rfl) (by kernel_rfl) (cls_keeps ((Keeps.refl _ _).drew)) ?_
    simp only [wpPlan, opsAt, pick]
    repeat (first | go_big_quiet_skip | (go_big_quiet_want; refine quiet_row_at _ _ rfl w.heap.size 0 rfl (brow x) (fun w' hp => (HRc.out w' hp).1) Tryd.underlying24 rfl Ix.out ?_; simp only [Act.put, List.setIfInBounds_toArray, List.set_cons_zero, List.set_cons_succ]; go_big_quiet_on) | (go_big_quiet_want; refine quiet_row_at _ _ rfl w.heap.size 32 rfl (brow y) (fun w' hp => (HRc.out w' hp).2) Tryd.underlying24 rfl Iy.out ?_; simp only [Act.put, List.setIfInBounds_toArray, List.set_cons_zero, List.set_cons_succ]; go_big_quiet_on) | go_big_quiet_step (fail))
    refine wpQuiet_nil ?_
    have kk0 : Keeps (fun _ => False) w3 w3.drew := (Keeps.refl _ _).drew
    go_wp2_with (go_at_call 8; refine (sum_at HX _ (hT3.keeps kk0 (fun h => h) (fun h => h)) _ _ _ (hs3.keeps kk0 (fun _ _ _ _ h => h)) (by omega)).mono ?_; rintro e v0 ⟨rfl, j0⟩)
    have kk1 := kk0.trans j0
    refine ⟨cls_keeps kk1, ?_⟩
    simp only [wpPlan, opsAt, pick]
    repeat (first | go_big_quiet_skip | (go_big_quiet_want; refine quiet_row_at _ _ rfl w.heap.size 0 rfl (brow x) (fun w' hp => (HRc.out w' hp).1) Tryd.underlying24 rfl Ix.out ?_; simp only [Act.put, List.setIfInBounds_toArray, List.set_cons_zero, List.set_cons_succ]; go_big_quiet_on) | (go_big_quiet_want; refine quiet_row_at _ _ rfl w.heap.size 32 rfl (brow y) (fun w' hp => (HRc.out w' hp).2) Tryd.underlying24 rfl Iy.out ?_; simp only [Act.put, List.setIfInBounds_toArray, List.set_cons_zero, List.set_cons_succ]; go_big_quiet_on) | go_big_quiet_step (fail))
    refine wpQuiet_nil ?_
    go_wp2_with (go_at_call 9; refine (rsum_to HX _ _ _ _ (hl3.keeps kk1 (fun _ _ _ _ h => h)) hnc (by omega)).mono ?_; rintro e v1 ⟨rfl, j1⟩)
    have kk2 := kk1.trans j1
    refine ⟨cls_keeps kk2, ?_⟩
    simp only [wpPlan, opsAt, pick]
    repeat (first | go_big_quiet_skip | (go_big_quiet_want; refine quiet_row_at _ _ rfl w.heap.size 0 rfl (brow x) (fun w' hp => (HRc.out w' hp).1) Tryd.underlying24 rfl Ix.out ?_; simp only [Act.put, List.setIfInBounds_toArray, List.set_cons_zero, List.set_cons_succ]; go_big_quiet_on) | (go_big_quiet_want; refine quiet_row_at _ _ rfl w.heap.size 32 rfl (brow y) (fun w' hp => (HRc.out w' hp).2) Tryd.underlying24 rfl Iy.out ?_; simp only [Act.put, List.setIfInBounds_toArray, List.set_cons_zero, List.set_cons_succ]; go_big_quiet_on) | go_big_quiet_step (fail))
    refine wpQuiet_nil ?_
    go_wp2_with (go_at_call 10; refine (of_to HY _ (hT3.keeps kk2 (fun h => h) (fun h => h)) (hs3.keeps kk2 (fun _ _ _ _ h => h)) (by omega)).mono ?_; rintro e v2 ⟨rfl, j2⟩)
    have kk3 := kk2.trans j2
    refine ⟨cls_keeps kk3, ?_⟩
    simp only [wpPlan, opsAt, pick]
    repeat (first | go_big_quiet_skip | (go_big_quiet_want; refine quiet_row_at _ _ rfl w.heap.size 0 rfl (brow x) (fun w' hp => (HRc.out w' hp).1) Tryd.underlying24 rfl Ix.out ?_; simp only [Act.put, List.setIfInBounds_toArray, List.set_cons_zero, List.set_cons_succ]; go_big_quiet_on) | (go_big_quiet_want; refine quiet_row_at _ _ rfl w.heap.size 32 rfl (brow y) (fun w' hp => (HRc.out w' hp).2) Tryd.underlying24 rfl Iy.out ?_; simp only [Act.put, List.setIfInBounds_toArray, List.set_cons_zero, List.set_cons_succ]; go_big_quiet_on) | go_big_quiet_step (fail))
    refine wpQuiet_nil ?_
    go_wp2_with (go_at_call 11; refine (of11 _ _ _ _ _ l (hl3.keeps kk3 (fun _ _ _ _ h => h)) hnc (by omega) HY).mono ?_; rintro e v3 ⟨rfl, j3⟩)
    have kk4 := kk3.trans j3
    refine ⟨cls_keeps kk4, ?_⟩
    simp only [wpPlan, opsAt, pick]
    repeat (first | go_big_quiet_skip | (go_big_quiet_want; refine quiet_row_at _ _ rfl w.heap.size 0 rfl (brow x) (fun w' hp => (HRc.out w' hp).1) Tryd.underlying24 rfl Ix.out ?_; simp only [Act.put, List.setIfInBounds_toArray, List.set_cons_zero, List.set_cons_succ]; go_big_quiet_on) | (go_big_quiet_want; refine quiet_row_at _ _ rfl w.heap.size 32 rfl (brow y) (fun w' hp => (HRc.out w' hp).2) Tryd.underlying24 rfl Iy.out ?_; simp only [Act.put, List.setIfInBounds_toArray, List.set_cons_zero, List.set_cons_succ]; go_big_quiet_on) | go_big_quiet_step (fail))
    refine wpQuiet_nil ?_
    go_wp2_with (go_at_call 13; refine (check13 _ _ _ _ l (hl3.keeps kk4 (fun _ _ _ _ h => h)) hnc (by omega) HX HC).mono ?_; rintro e v4 ⟨aD, nD, cD, rfl, sD, j4⟩)
    have kk5 := kk4.trans j4
    refine ⟨cls_keeps kk5, ?_⟩
    simp only [wpPlan, opsAt, pick]
    repeat (first | go_big_quiet_skip | (go_big_quiet_want; refine quiet_row_at _ _ rfl w.heap.size 0 rfl (brow x) (fun w' hp => (HRc.out w' hp).1) Tryd.underlying24 rfl Ix.out ?_; simp only [Act.put, List.setIfInBounds_toArray, List.set_cons_zero, List.set_cons_succ]; go_big_quiet_on) | (go_big_quiet_want; refine quiet_row_at _ _ rfl w.heap.size 32 rfl (brow y) (fun w' hp => (HRc.out w' hp).2) Tryd.underlying24 rfl Iy.out ?_; simp only [Act.put, List.setIfInBounds_toArray, List.set_cons_zero, List.set_cons_succ]; go_big_quiet_on) | go_big_quiet_step (fail))
    refine wpQuiet_nil ?_
    go_wp2_with (go_at_call 12; refine (bytes12 _ _ _ _ _ _ _ C C (sC.keeps kk5 (fun _ _ _ _ h => h)) sD).mono ?_; rintro e v5 ⟨rfl, rfl⟩)
    have kk6 := kk5
    refine ⟨cls_keeps kk6, ?_⟩
    simp only [wpPlan, opsAt, pick]
    repeat (first | go_big_quiet_skip | (go_big_quiet_want; refine quiet_row_at _ _ rfl w.heap.size 0 rfl (brow x) (fun w' hp => (HRc.out w' hp).1) Tryd.underlying24 rfl Ix.out ?_; simp only [Act.put, List.setIfInBounds_toArray, List.set_cons_zero, List.set_cons_succ]; go_big_quiet_on) | (go_big_quiet_want; refine quiet_row_at _ _ rfl w.heap.size 32 rfl (brow y) (fun w' hp => (HRc.out w' hp).2) Tryd.underlying24 rfl Iy.out ?_; simp only [Act.put, List.setIfInBounds_toArray, List.set_cons_zero, List.set_cons_succ]; go_big_quiet_on) | go_big_quiet_step (fail))
    refine wpQuiet_nil ?_
    go_wp2_with (go_at_call 14; refine (less_at h1 lx ly _).mono ?_; rintro e v6 ⟨rfl, j6⟩)
    have kk7 := kk6.trans j6
    refine ⟨cls_keeps kk7, ?_⟩
    simp only [wpPlan, opsAt, pick]
    repeat (first | go_big_quiet_skip | (go_big_quiet_want; refine quiet_row_at _ _ rfl w.heap.size 0 rfl (brow x) (fun w' hp => (HRc.out w' hp).1) Tryd.underlying24 rfl Ix.out ?_; simp only [Act.put, List.setIfInBounds_toArray, List.set_cons_zero, List.set_cons_succ]; go_big_quiet_on) | (go_big_quiet_want; refine quiet_row_at _ _ rfl w.heap.size 32 rfl (brow y) (fun w' hp => (HRc.out w' hp).2) Tryd.underlying24 rfl Iy.out ?_; simp only [Act.put, List.setIfInBounds_toArray, List.set_cons_zero, List.set_cons_succ]; go_big_quiet_on) | go_big_quiet_step (fail))
    refine wpQuiet_nil ?_
    go_wp2_with (go_at_call 15; refine (less_ref h1 lx ly _).mono ?_; rintro e v7 ⟨rfl, j7⟩)
    have kk8 := kk7.trans j7
    refine ⟨cls_keeps kk8, ?_⟩
    simp only [wpPlan, opsAt, pick]
    repeat (first | go_big_quiet_skip | (go_big_quiet_want; refine quiet_row_at _ _ rfl w.heap.size 0 rfl (brow x) (fun w' hp => (HRc.out w' hp).1) Tryd.underlying24 rfl Ix.out ?_; simp only [Act.put, List.setIfInBounds_toArray, List.set_cons_zero, List.set_cons_succ]; go_big_quiet_on) | (go_big_quiet_want; refine quiet_row_at _ _ rfl w.heap.size 32 rfl (brow y) (fun w' hp => (HRc.out w' hp).2) Tryd.underlying24 rfl Iy.out ?_; simp only [Act.put, List.setIfInBounds_toArray, List.set_cons_zero, List.set_cons_succ]; go_big_quiet_on) | go_big_quiet_step (fail))
    refine wpQuiet_nil ?_
    go_wp2_with (go_at_call 12; refine (bytes12 _ _ _ _ _ _ _ l l (hs3.keeps kk8 (fun _ _ _ _ h => h)) (hl3.keeps kk8 (fun _ _ _ _ h => h))).mono ?_; rintro e v8 ⟨rfl, rfl⟩)
    have kk9 := kk8
    refine ⟨cls_keeps kk9, ?_⟩
    simp only [wpPlan, opsAt, pick]
    repeat (first | go_big_quiet_skip | (go_big_quiet_want; refine quiet_row_at _ _ rfl w.heap.size 0 rfl (brow x) (fun w' hp => (HRc.out w' hp).1) Tryd.underlying24 rfl Ix.out ?_; simp only [Act.put, List.setIfInBounds_toArray, List.set_cons_zero, List.set_cons_succ]; go_big_quiet_on) | (go_big_quiet_want; refine quiet_row_at _ _ rfl w.heap.size 32 rfl (brow y) (fun w' hp => (HRc.out w' hp).2) Tryd.underlying24 rfl Iy.out ?_; simp only [Act.put, List.setIfInBounds_toArray, List.set_cons_zero, List.set_cons_succ]; go_big_quiet_on) | go_big_quiet_step (fail))
    refine wpQuiet_nil ?_
    go_wp2_with (go_at_call 6; refine (wakes_any _ (hT3.keeps kk9 (fun h => h) (fun h => h))).mono ?_; rintro e v9 ⟨rfl, j9⟩)
    have kk10 := kk9.trans j9
    refine ⟨cls_keeps kk10, ?_⟩
    simp only [wpPlan, opsAt, pick]
    repeat (first | go_big_quiet_skip | (go_big_quiet_want; refine quiet_row_at _ _ rfl w.heap.size 0 rfl (brow x) (fun w' hp => (HRc.out w' hp).1) Tryd.underlying24 rfl Ix.out ?_; simp only [Act.put, List.setIfInBounds_toArray, List.set_cons_zero, List.set_cons_succ]; go_big_quiet_on) | (go_big_quiet_want; refine quiet_row_at _ _ rfl w.heap.size 32 rfl (brow y) (fun w' hp => (HRc.out w' hp).2) Tryd.underlying24 rfl Iy.out ?_; simp only [Act.put, List.setIfInBounds_toArray, List.set_cons_zero, List.set_cons_succ]; go_big_quiet_on) | go_big_quiet_step (fail))
    refine wpQuiet_nil ?_
    refine NoPanic.normal ?_
    go_wp2
    go_ret
    exact ⟨rfl, kw3.trans kk10⟩
  · have hn' : (3000 : Int) < (n : Int) := by omega
    have hka := keeps_alloc w (.cells (brow D) 25)
    go_enter Tryd.func3, Tryd.ntmps3
    go_wp2_with (go_at_call 6; refine (wakes_any _ (hT.keeps hka (fun h => h) (fun h => h))).mono ?_; rintro e w1 ⟨rfl, hk1⟩)
    go_ret
    exact ⟨rfl, hka.trans hk1⟩

end Go.Proofs.YtnocpnpjjiodiaaDoor
