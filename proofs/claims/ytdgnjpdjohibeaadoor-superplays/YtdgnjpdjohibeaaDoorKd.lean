/-
  Good of the reference.
-/
import Derived.Test.YtdgnjpdjohibeaaDoorKe
set_option linter.all false
set_option maxRecDepth 100000
namespace Go.Proofs.YtdgnjpdjohibeaaDoor
open Go.RowKit Go.Sort Go.Shelf

theorem has37_at {L : List B} {b : Int} {v : Bool} (h : has L b = v) {M : List B} (hM : L = M) (w : World) (hL : L.length = 16) :
    Calls Tryd.prog 37 #[.agg (brow M), .int .i64 b] w fun e w' => e = .returned (.bool v) ∧ Keeps (fun _ => False) w w' := by
  rw [← h, ← hM]; exact has12 w L hL b
theorem count38_at {L : List B} {k : Int} {c : Nat} (h : cnt L (min k.toNat 128) = c) (w : World) (hL : L.length = 16) (hk : -9223372036854775808 ≤ k ∧ k ≤ 9223372036854775807) :
    Calls Tryd.prog 38 #[.agg (brow L), .int .i64 k] w fun e w' => e = .returned (.int .i64 (c : Int)) ∧ Keeps (fun _ => False) w w' := by
  rw [← h]; exact count16 w L hL k hk
theorem cnt_two (L : List B) : decide (cnt L 2 = 2) = (bit L 0 && bit L 1) := by
  show decide ((0 + (bit L 0).toNat) + (bit L 1).toNat = 2) = _
  cases bit L 0 <;> cases bit L 1 <;> rfl

set_option maxHeartbeats 4000000 in
theorem good15_no (w : World) (s : Su) (hs : s.Ok) {v : Bool} (hv : s.good = v) (hn : Hid (¬ (1 ≤ s.gen ∧ s.gen ≤ 1073741823 ∧ 16 ≤ s.blocks ∧ s.blocks ≤ 128 ∧ (s.root = 0 ∨ 2 ≤ s.root ∧ s.root < s.blocks)))) :
    Calls Tryd.prog 15 #[.agg s.cells] w fun e w' => e = .returned (.bool v) ∧ Keeps (fun _ => False) w w' := by
  have hg := hs.gen
  have hb := hs.blocks
  have hr := hs.root
  have lu := hs.used
  have tu : Hid (RowTy 26 s.used.length) := by show RowTy _ _; rw [lu]; exact rowTy26
  obtain ⟨x0, hx0⟩ : ∃ x, bit s.used 0 = x := ⟨_, rfl⟩
  obtain ⟨x1, hx1⟩ : ∃ x, bit s.used 1 = x := ⟨_, rfl⟩
  obtain ⟨m8, hm8⟩ : ∃ x, cnt s.used 128 = x := ⟨_, rfl⟩
  obtain ⟨mk, hmk⟩ : ∃ x, cnt s.used (min s.blocks.toNat 128) = x := ⟨_, rfl⟩
  have H0 : Hid (has s.used 0 = x0) := by show _ = _; rw [has_in (by omega)]; exact hx0
  have H1 : Hid (has s.used 1 = x1) := by show _ = _; rw [has_in (by omega)]; exact hx1
  have C8 : Hid (cnt s.used (min (128 : Int).toNat 128) = m8) := hm8
  have CK : Hid (cnt s.used (min s.blocks.toNat 128) = mk) := hmk
  have HV : Hid ((decide (1 ≤ s.gen ∧ s.gen ≤ 1073741823 ∧ 16 ≤ s.blocks ∧ s.blocks ≤ 128 ∧ (s.root = 0 ∨ 2 ≤ s.root ∧ s.root < s.blocks)) && ((x0 && x1) && decide (m8 = mk))) = v) := by
    show _ = _
    rw [← hv, ← hx0, ← hx1, ← cnt_two, ← hm8, ← hmk]; rfl
  clear hv hx0 hx1 hm8 hmk
  have Q0 : Hid True := trivial
  go_enter Tryd.func15, Tryd.ntmps15
  by_cases h1 : (s.gen : Int) < 1
  · go_wp2_with (have := Q0; refine boxS_at (.tmp 0) rfl rfl s rfl ?_; intro g2 w1 b1 z1 k1; obtain ⟨p0, p1, p2⟩ := SuAt.parts b1; clear Q0)
    go_ret
    exact ⟨by rw [← HV.out, decide_eq_false (by omega)]; rfl, k1⟩
  · by_cases h2 : 1073741824 ≤ (s.gen : Int)
    · go_wp2_with (have := Q0; refine boxS_at (.tmp 0) rfl rfl s rfl ?_; intro g2 w1 b1 z1 k1; obtain ⟨p0, p1, p2⟩ := SuAt.parts b1; clear Q0)
      go_ret
      exact ⟨by rw [← HV.out, decide_eq_false (by omega)]; rfl, k1⟩
    · by_cases h3 : s.blocks < 16
      · go_wp2_with (have := Q0; refine boxS_at (.tmp 0) rfl rfl s rfl ?_; intro g2 w1 b1 z1 k1; obtain ⟨p0, p1, p2⟩ := SuAt.parts b1; clear Q0)
        go_ret
        exact ⟨by rw [← HV.out, decide_eq_false (by omega)]; rfl, k1⟩
      · by_cases h4 : 128 < s.blocks
        · go_wp2_with (have := Q0; refine boxS_at (.tmp 0) rfl rfl s rfl ?_; intro g2 w1 b1 z1 k1; obtain ⟨p0, p1, p2⟩ := SuAt.parts b1; clear Q0)
          go_ret
          exact ⟨by rw [← HV.out, decide_eq_false (by omega)]; rfl, k1⟩
        · by_cases h5 : s.root = 0
          · exact absurd ⟨by omega, by omega, by omega, by omega, .inl h5⟩ hn.out
          · by_cases h6 : s.root < 2
            · go_wp2_with (have := Q0; refine boxS_at (.tmp 0) rfl rfl s rfl ?_; intro g2 w1 b1 z1 k1; obtain ⟨p0, p1, p2⟩ := SuAt.parts b1; clear Q0)
              go_ret
              exact ⟨by rw [← HV.out, decide_eq_false (by omega)]; rfl, k1⟩
            · by_cases h7 : s.blocks ≤ s.root
              · go_wp2_with (have := Q0; refine boxS_at (.tmp 0) rfl rfl s rfl ?_; intro g2 w1 b1 z1 k1; obtain ⟨p0, p1, p2⟩ := SuAt.parts b1; clear Q0)
                go_ret
                exact ⟨by rw [← HV.out, decide_eq_false (by omega)]; rfl, k1⟩
              · exact absurd ⟨by omega, by omega, by omega, by omega, .inr ⟨by omega, by omega⟩⟩ hn.out

set_option maxHeartbeats 4000000 in
theorem good15_zero_f (w : World) (s : Su) (hs : s.Ok) {v : Bool} (hv : s.good = v) (h1 : ¬ (s.gen : Int) < 1) (h2 : ¬ 1073741824 ≤ (s.gen : Int)) (h3 : ¬ s.blocks < 16) (h4 : ¬ 128 < s.blocks) (h5 : s.root = 0) (hx0 : bit s.used 0 = false) :
    Calls Tryd.prog 15 #[.agg s.cells] w fun e w' => e = .returned (.bool v) ∧ Keeps (fun _ => False) w w' := by
  have hg := hs.gen
  have hb := hs.blocks
  have hr := hs.root
  have lu := hs.used
  have tu : Hid (RowTy 26 s.used.length) := by show RowTy _ _; rw [lu]; exact rowTy26
  have H0 : Hid (has s.used 0 = false) := by show _ = _; rw [has_in (by omega)]; exact hx0
  have HV : Hid (v = false) := by
    show _ = _
    rw [← hv]
    unfold Su.good gu
    rw [cnt_two, hx0, decide_eq_true (show (1 ≤ s.gen ∧ s.gen ≤ 1073741823 ∧ 16 ≤ s.blocks ∧ s.blocks ≤ 128 ∧ (s.root = 0 ∨ 2 ≤ s.root ∧ s.root < s.blocks)) from ⟨by omega, by omega, by omega, by omega, by omega⟩)]
    simp
  skip
  clear hv hx0
  go_enter Tryd.func15, Tryd.ntmps15
  repeat (refine wp_seq ?_)
  refine wp_region_lit ?_
  refine boxS_at (.tmp 0) rfl rfl s rfl ?_
  intro g2 w1 b1 z1 k1
  have pc0 : ∀ d os, (grow (redrawn w1 d) os).cell? ⟨g2, 0, none⟩ = some (.int .u32 (s.gen : Int)) := fun d os => (SuAt.parts (RoAt.cls b1 ⟨{ d := d, os := os }, rfl⟩)).1
  have pc1 : ∀ d os, (grow (redrawn w1 d) os).cell? ⟨g2, 1, none⟩ = some (.int .i64 s.blocks) := fun d os => (SuAt.parts (RoAt.cls b1 ⟨{ d := d, os := os }, rfl⟩)).2.1
  have pc2 : ∀ d os, (grow (redrawn w1 d) os).cell? ⟨g2, 2, none⟩ = some (.int .i64 s.root) := fun d os => (SuAt.parts (RoAt.cls b1 ⟨{ d := d, os := os }, rfl⟩)).2.2
  refine list_of_quiet (C := fun w' => ∃ p : Regrown, w' = grow (redrawn w1 p.d) p.os) _ _ _ (cls_keeps (Keeps.refl _ _)) ?_
  simp only [Act.put, List.setIfInBounds_toArray, List.set_cons_zero, List.set_cons_succ]
  repeat (go_big_quiet_step (fail))
  refine wpQuiet_nil ?_
  intro w2 hw2
  repeat (refine wp_seq ?_)
  refine plain_quiet (C := fun w' => ∃ p : Regrown, w' = grow (redrawn w1 p.d) p.os) hw2 ?_
  repeat (first
    | go_big_quiet_skip
    | (go_big_quiet_want; refine quiet_loadM 26 _ rfl g2 35 rfl s.used (fun w' hp => SuAt.used (RoAt.cls b1 hp) hs) tu.out ?_; simp only [Act.put, List.setIfInBounds_toArray, List.set_cons_zero, List.set_cons_succ]; go_big_quiet_on)
    | go_big_quiet_step (fail)
    | (go_big_quiet_want; go_big_quiet_op; apply Exists.intro; refine ⟨fun q => call_cls (has37_at H0.out rfl _ lu) ⟨q, rfl⟩, ?_⟩; go_big_quiet_on; have Q1 : Hid True := trivial))
  refine wpQuiet_nil ?_
  intro w3 hw3
  go_wp2
  go_ret
  exact ⟨by rw [HV.out]; rfl, k1.trans (keeps_cls hw3)⟩

set_option maxHeartbeats 4000000 in
theorem good15_zero_tf (w : World) (s : Su) (hs : s.Ok) {v : Bool} (hv : s.good = v) (h1 : ¬ (s.gen : Int) < 1) (h2 : ¬ 1073741824 ≤ (s.gen : Int)) (h3 : ¬ s.blocks < 16) (h4 : ¬ 128 < s.blocks) (h5 : s.root = 0) (hx0 : bit s.used 0 = true) (hx1 : bit s.used 1 = false) :
    Calls Tryd.prog 15 #[.agg s.cells] w fun e w' => e = .returned (.bool v) ∧ Keeps (fun _ => False) w w' := by
  have hg := hs.gen
  have hb := hs.blocks
  have hr := hs.root
  have lu := hs.used
  have tu : Hid (RowTy 26 s.used.length) := by show RowTy _ _; rw [lu]; exact rowTy26
  have H0 : Hid (has s.used 0 = true) := by show _ = _; rw [has_in (by omega)]; exact hx0
  have H1 : Hid (has s.used 1 = false) := by show _ = _; rw [has_in (by omega)]; exact hx1
  have HV : Hid (v = false) := by
    show _ = _
    rw [← hv]
    unfold Su.good gu
    rw [cnt_two, hx0, hx1, decide_eq_true (show (1 ≤ s.gen ∧ s.gen ≤ 1073741823 ∧ 16 ≤ s.blocks ∧ s.blocks ≤ 128 ∧ (s.root = 0 ∨ 2 ≤ s.root ∧ s.root < s.blocks)) from ⟨by omega, by omega, by omega, by omega, by omega⟩)]
    simp
  skip
  clear hv hx0 hx1
  go_enter Tryd.func15, Tryd.ntmps15
  repeat (refine wp_seq ?_)
  refine wp_region_lit ?_
  refine boxS_at (.tmp 0) rfl rfl s rfl ?_
  intro g2 w1 b1 z1 k1
  have pc0 : ∀ d os, (grow (redrawn w1 d) os).cell? ⟨g2, 0, none⟩ = some (.int .u32 (s.gen : Int)) := fun d os => (SuAt.parts (RoAt.cls b1 ⟨{ d := d, os := os }, rfl⟩)).1
  have pc1 : ∀ d os, (grow (redrawn w1 d) os).cell? ⟨g2, 1, none⟩ = some (.int .i64 s.blocks) := fun d os => (SuAt.parts (RoAt.cls b1 ⟨{ d := d, os := os }, rfl⟩)).2.1
  have pc2 : ∀ d os, (grow (redrawn w1 d) os).cell? ⟨g2, 2, none⟩ = some (.int .i64 s.root) := fun d os => (SuAt.parts (RoAt.cls b1 ⟨{ d := d, os := os }, rfl⟩)).2.2
  refine list_of_quiet (C := fun w' => ∃ p : Regrown, w' = grow (redrawn w1 p.d) p.os) _ _ _ (cls_keeps (Keeps.refl _ _)) ?_
  simp only [Act.put, List.setIfInBounds_toArray, List.set_cons_zero, List.set_cons_succ]
  repeat (go_big_quiet_step (fail))
  refine wpQuiet_nil ?_
  intro w2 hw2
  repeat (refine wp_seq ?_)
  refine plain_quiet (C := fun w' => ∃ p : Regrown, w' = grow (redrawn w1 p.d) p.os) hw2 ?_
  repeat (first
    | go_big_quiet_skip
    | (go_big_quiet_want; refine quiet_loadM 26 _ rfl g2 35 rfl s.used (fun w' hp => SuAt.used (RoAt.cls b1 hp) hs) tu.out ?_; simp only [Act.put, List.setIfInBounds_toArray, List.set_cons_zero, List.set_cons_succ]; go_big_quiet_on)
    | go_big_quiet_step (fail)
    | (have := Q1; go_big_quiet_want; go_big_quiet_op; apply Exists.intro; refine ⟨fun q => call_cls (has37_at H1.out rfl _ lu) ⟨q, rfl⟩, ?_⟩; go_big_quiet_on)
    | (go_big_quiet_want; go_big_quiet_op; apply Exists.intro; refine ⟨fun q => call_cls (has37_at H0.out rfl _ lu) ⟨q, rfl⟩, ?_⟩; go_big_quiet_on; have Q1 : Hid True := trivial))
  refine wpQuiet_nil ?_
  intro w3 hw3
  go_wp2
  go_ret
  exact ⟨by rw [HV.out]; rfl, k1.trans (keeps_cls hw3)⟩

set_option maxHeartbeats 4000000 in
theorem good15_zero_tt (w : World) (s : Su) (hs : s.Ok) {v : Bool} (hv : s.good = v) (h1 : ¬ (s.gen : Int) < 1) (h2 : ¬ 1073741824 ≤ (s.gen : Int)) (h3 : ¬ s.blocks < 16) (h4 : ¬ 128 < s.blocks) (h5 : s.root = 0) (hx0 : bit s.used 0 = true) (hx1 : bit s.used 1 = true) :
    Calls Tryd.prog 15 #[.agg s.cells] w fun e w' => e = .returned (.bool v) ∧ Keeps (fun _ => False) w w' := by
  have hg := hs.gen
  have hb := hs.blocks
  have hr := hs.root
  have lu := hs.used
  have tu : Hid (RowTy 26 s.used.length) := by show RowTy _ _; rw [lu]; exact rowTy26
  have H0 : Hid (has s.used 0 = true) := by show _ = _; rw [has_in (by omega)]; exact hx0
  have H1 : Hid (has s.used 1 = true) := by show _ = _; rw [has_in (by omega)]; exact hx1
  obtain ⟨m8, hm8⟩ : ∃ x, cnt s.used 128 = x := ⟨_, rfl⟩
  obtain ⟨mk, hmk⟩ : ∃ x, cnt s.used (min s.blocks.toNat 128) = x := ⟨_, rfl⟩
  have C8 : Hid (cnt s.used (min (128 : Int).toNat 128) = m8) := hm8
  have CK : Hid (cnt s.used (min s.blocks.toNat 128) = mk) := hmk
  have HV : Hid (v = decide (m8 = mk)) := by
    show _ = _
    rw [← hv]
    unfold Su.good gu
    rw [cnt_two, hx0, hx1, hm8, hmk, decide_eq_true (show (1 ≤ s.gen ∧ s.gen ≤ 1073741823 ∧ 16 ≤ s.blocks ∧ s.blocks ≤ 128 ∧ (s.root = 0 ∨ 2 ≤ s.root ∧ s.root < s.blocks)) from ⟨by omega, by omega, by omega, by omega, by omega⟩)]
    rfl
  skip
  clear hv hx0 hx1 hm8 hmk
  go_enter Tryd.func15, Tryd.ntmps15
  repeat (refine wp_seq ?_)
  refine wp_region_lit ?_
  refine boxS_at (.tmp 0) rfl rfl s rfl ?_
  intro g2 w1 b1 z1 k1
  have pc0 : ∀ d os, (grow (redrawn w1 d) os).cell? ⟨g2, 0, none⟩ = some (.int .u32 (s.gen : Int)) := fun d os => (SuAt.parts (RoAt.cls b1 ⟨{ d := d, os := os }, rfl⟩)).1
  have pc1 : ∀ d os, (grow (redrawn w1 d) os).cell? ⟨g2, 1, none⟩ = some (.int .i64 s.blocks) := fun d os => (SuAt.parts (RoAt.cls b1 ⟨{ d := d, os := os }, rfl⟩)).2.1
  have pc2 : ∀ d os, (grow (redrawn w1 d) os).cell? ⟨g2, 2, none⟩ = some (.int .i64 s.root) := fun d os => (SuAt.parts (RoAt.cls b1 ⟨{ d := d, os := os }, rfl⟩)).2.2
  refine list_of_quiet (C := fun w' => ∃ p : Regrown, w' = grow (redrawn w1 p.d) p.os) _ _ _ (cls_keeps (Keeps.refl _ _)) ?_
  simp only [Act.put, List.setIfInBounds_toArray, List.set_cons_zero, List.set_cons_succ]
  repeat (go_big_quiet_step (fail))
  refine wpQuiet_nil ?_
  intro w2 hw2
  repeat (refine wp_seq ?_)
  refine plain_quiet (C := fun w' => ∃ p : Regrown, w' = grow (redrawn w1 p.d) p.os) hw2 ?_
  repeat (first
    | go_big_quiet_skip
    | (go_big_quiet_want; refine quiet_loadM 26 _ rfl g2 35 rfl s.used (fun w' hp => SuAt.used (RoAt.cls b1 hp) hs) tu.out ?_; simp only [Act.put, List.setIfInBounds_toArray, List.set_cons_zero, List.set_cons_succ]; go_big_quiet_on)
    | go_big_quiet_step (fail)
    | (have := Q1; go_big_quiet_want; go_big_quiet_op; apply Exists.intro; refine ⟨fun q => call_cls (has37_at H1.out rfl _ lu) ⟨q, rfl⟩, ?_⟩; go_big_quiet_on)
    | (go_big_quiet_want; go_big_quiet_op; apply Exists.intro; refine ⟨fun q => call_cls (has37_at H0.out rfl _ lu) ⟨q, rfl⟩, ?_⟩; go_big_quiet_on; have Q1 : Hid True := trivial))
  refine wpQuiet_nil ?_
  intro w3 hw3
  have b3 := RoAt.cls b1 hw3
  have K3 := k1.trans (keeps_cls hw3)
  clear pc0 pc1 pc2 hw2
  have pc1 : ∀ d os, (grow (redrawn w3 d) os).cell? ⟨g2, 1, none⟩ = some (.int .i64 s.blocks) := fun d os => (SuAt.parts (RoAt.cls b3 ⟨{ d := d, os := os }, rfl⟩)).2.1
  go_wp2
  refine wp_region_quiet_below (by kernel_rfl) (by kernel_rfl) ?_
  repeat (first
    | go_big_quiet_skip
    | (go_big_quiet_want; refine quiet_loadM 26 _ rfl g2 35 rfl s.used (fun w' hp => SuAt.used (RoAt.cls b3 hp) hs) tu.out ?_; simp only [Act.put, List.setIfInBounds_toArray, List.set_cons_zero, List.set_cons_succ]; go_big_quiet_on)
    | go_big_quiet_step (fail)
    | (have := Q2; go_big_quiet_want; go_big_quiet_op; apply Exists.intro; refine ⟨fun q => call_cls (count38_at CK.out _ lu hb) ⟨q, rfl⟩, ?_⟩; go_big_quiet_on)
    | (go_big_quiet_want; go_big_quiet_op; apply Exists.intro; refine ⟨fun q => call_cls (count38_at C8.out _ lu (by omega)) ⟨q, rfl⟩, ?_⟩; go_big_quiet_on; have Q2 : Hid True := trivial))
  refine wpQuiet_nil ?_
  intro w4 hw4
  go_wp2
  go_ret
  refine ⟨?_, K3.trans (keeps_cls hw4)⟩
  rw [HV.out]
  by_cases e : m8 = mk
  · subst e; simp
  · rw [decide_eq_false e]; simpa using (by omega : ¬ (m8 : Int) = (mk : Int))

theorem good15_zero (w : World) (s : Su) (hs : s.Ok) {v : Bool} (hv : s.good = v) (h1 : ¬ (s.gen : Int) < 1) (h2 : ¬ 1073741824 ≤ (s.gen : Int)) (h3 : ¬ s.blocks < 16) (h4 : ¬ 128 < s.blocks) (h5 : s.root = 0) :
    Calls Tryd.prog 15 #[.agg s.cells] w fun e w' => e = .returned (.bool v) ∧ Keeps (fun _ => False) w w' := by
  cases hx0 : bit s.used 0 with
  | false => exact good15_zero_f w s hs hv h1 h2 h3 h4 h5 hx0
  | true =>
    cases hx1 : bit s.used 1 with
    | false => exact good15_zero_tf w s hs hv h1 h2 h3 h4 h5 hx0 hx1
    | true => exact good15_zero_tt w s hs hv h1 h2 h3 h4 h5 hx0 hx1

set_option maxHeartbeats 4000000 in
theorem good15_root_f (w : World) (s : Su) (hs : s.Ok) {v : Bool} (hv : s.good = v) (h1 : ¬ (s.gen : Int) < 1) (h2 : ¬ 1073741824 ≤ (s.gen : Int)) (h3 : ¬ s.blocks < 16) (h4 : ¬ 128 < s.blocks) (h5 : ¬ s.root = 0) (h6 : ¬ s.root < 2) (h7 : ¬ s.blocks ≤ s.root) (hx0 : bit s.used 0 = false) :
    Calls Tryd.prog 15 #[.agg s.cells] w fun e w' => e = .returned (.bool v) ∧ Keeps (fun _ => False) w w' := by
  have hg := hs.gen
  have hb := hs.blocks
  have hr := hs.root
  have lu := hs.used
  have tu : Hid (RowTy 26 s.used.length) := by show RowTy _ _; rw [lu]; exact rowTy26
  have H0 : Hid (has s.used 0 = false) := by show _ = _; rw [has_in (by omega)]; exact hx0
  have HV : Hid (v = false) := by
    show _ = _
    rw [← hv]
    unfold Su.good gu
    rw [cnt_two, hx0, decide_eq_true (show (1 ≤ s.gen ∧ s.gen ≤ 1073741823 ∧ 16 ≤ s.blocks ∧ s.blocks ≤ 128 ∧ (s.root = 0 ∨ 2 ≤ s.root ∧ s.root < s.blocks)) from ⟨by omega, by omega, by omega, by omega, by omega⟩)]
    simp
  have hne : (s.root != 0) = true := by simpa using h5
  clear hv hx0
  go_enter Tryd.func15, Tryd.ntmps15
  repeat (refine wp_seq ?_)
  refine wp_region_lit ?_
  refine boxS_at (.tmp 0) rfl rfl s rfl ?_
  intro g2 w1 b1 z1 k1
  have pc0 : ∀ d os, (grow (redrawn w1 d) os).cell? ⟨g2, 0, none⟩ = some (.int .u32 (s.gen : Int)) := fun d os => (SuAt.parts (RoAt.cls b1 ⟨{ d := d, os := os }, rfl⟩)).1
  have pc1 : ∀ d os, (grow (redrawn w1 d) os).cell? ⟨g2, 1, none⟩ = some (.int .i64 s.blocks) := fun d os => (SuAt.parts (RoAt.cls b1 ⟨{ d := d, os := os }, rfl⟩)).2.1
  have pc2 : ∀ d os, (grow (redrawn w1 d) os).cell? ⟨g2, 2, none⟩ = some (.int .i64 s.root) := fun d os => (SuAt.parts (RoAt.cls b1 ⟨{ d := d, os := os }, rfl⟩)).2.2
  refine list_of_quiet (C := fun w' => ∃ p : Regrown, w' = grow (redrawn w1 p.d) p.os) _ _ _ (cls_keeps (Keeps.refl _ _)) ?_
  simp only [Act.put, List.setIfInBounds_toArray, List.set_cons_zero, List.set_cons_succ]
  repeat (go_big_quiet_step (fail))
  refine wpQuiet_nil ?_
  intro w2 hw2
  repeat (refine wp_seq ?_)
  refine plain_quiet (C := fun w' => ∃ p : Regrown, w' = grow (redrawn w1 p.d) p.os) hw2 ?_
  repeat (first
    | go_big_quiet_skip
    | (go_big_quiet_want; refine quiet_loadM 26 _ rfl g2 35 rfl s.used (fun w' hp => SuAt.used (RoAt.cls b1 hp) hs) tu.out ?_; simp only [Act.put, List.setIfInBounds_toArray, List.set_cons_zero, List.set_cons_succ]; go_big_quiet_on)
    | go_big_quiet_step (fail)
    | (go_big_quiet_want; go_big_quiet_op; apply Exists.intro; refine ⟨fun q => call_cls (has37_at H0.out rfl _ lu) ⟨q, rfl⟩, ?_⟩; go_big_quiet_on; have Q1 : Hid True := trivial))
  refine wpQuiet_nil ?_
  intro w3 hw3
  go_wp2
  go_ret
  exact ⟨by rw [HV.out]; rfl, k1.trans (keeps_cls hw3)⟩

set_option maxHeartbeats 4000000 in
theorem good15_root_tf (w : World) (s : Su) (hs : s.Ok) {v : Bool} (hv : s.good = v) (h1 : ¬ (s.gen : Int) < 1) (h2 : ¬ 1073741824 ≤ (s.gen : Int)) (h3 : ¬ s.blocks < 16) (h4 : ¬ 128 < s.blocks) (h5 : ¬ s.root = 0) (h6 : ¬ s.root < 2) (h7 : ¬ s.blocks ≤ s.root) (hx0 : bit s.used 0 = true) (hx1 : bit s.used 1 = false) :
    Calls Tryd.prog 15 #[.agg s.cells] w fun e w' => e = .returned (.bool v) ∧ Keeps (fun _ => False) w w' := by
  have hg := hs.gen
  have hb := hs.blocks
  have hr := hs.root
  have lu := hs.used
  have tu : Hid (RowTy 26 s.used.length) := by show RowTy _ _; rw [lu]; exact rowTy26
  have H0 : Hid (has s.used 0 = true) := by show _ = _; rw [has_in (by omega)]; exact hx0
  have H1 : Hid (has s.used 1 = false) := by show _ = _; rw [has_in (by omega)]; exact hx1
  have HV : Hid (v = false) := by
    show _ = _
    rw [← hv]
    unfold Su.good gu
    rw [cnt_two, hx0, hx1, decide_eq_true (show (1 ≤ s.gen ∧ s.gen ≤ 1073741823 ∧ 16 ≤ s.blocks ∧ s.blocks ≤ 128 ∧ (s.root = 0 ∨ 2 ≤ s.root ∧ s.root < s.blocks)) from ⟨by omega, by omega, by omega, by omega, by omega⟩)]
    simp
  have hne : (s.root != 0) = true := by simpa using h5
  clear hv hx0 hx1
  go_enter Tryd.func15, Tryd.ntmps15
  repeat (refine wp_seq ?_)
  refine wp_region_lit ?_
  refine boxS_at (.tmp 0) rfl rfl s rfl ?_
  intro g2 w1 b1 z1 k1
  have pc0 : ∀ d os, (grow (redrawn w1 d) os).cell? ⟨g2, 0, none⟩ = some (.int .u32 (s.gen : Int)) := fun d os => (SuAt.parts (RoAt.cls b1 ⟨{ d := d, os := os }, rfl⟩)).1
  have pc1 : ∀ d os, (grow (redrawn w1 d) os).cell? ⟨g2, 1, none⟩ = some (.int .i64 s.blocks) := fun d os => (SuAt.parts (RoAt.cls b1 ⟨{ d := d, os := os }, rfl⟩)).2.1
  have pc2 : ∀ d os, (grow (redrawn w1 d) os).cell? ⟨g2, 2, none⟩ = some (.int .i64 s.root) := fun d os => (SuAt.parts (RoAt.cls b1 ⟨{ d := d, os := os }, rfl⟩)).2.2
  refine list_of_quiet (C := fun w' => ∃ p : Regrown, w' = grow (redrawn w1 p.d) p.os) _ _ _ (cls_keeps (Keeps.refl _ _)) ?_
  simp only [Act.put, List.setIfInBounds_toArray, List.set_cons_zero, List.set_cons_succ]
  repeat (go_big_quiet_step (fail))
  refine wpQuiet_nil ?_
  intro w2 hw2
  repeat (refine wp_seq ?_)
  refine plain_quiet (C := fun w' => ∃ p : Regrown, w' = grow (redrawn w1 p.d) p.os) hw2 ?_
  repeat (first
    | go_big_quiet_skip
    | (go_big_quiet_want; refine quiet_loadM 26 _ rfl g2 35 rfl s.used (fun w' hp => SuAt.used (RoAt.cls b1 hp) hs) tu.out ?_; simp only [Act.put, List.setIfInBounds_toArray, List.set_cons_zero, List.set_cons_succ]; go_big_quiet_on)
    | go_big_quiet_step (fail)
    | (have := Q1; go_big_quiet_want; go_big_quiet_op; apply Exists.intro; refine ⟨fun q => call_cls (has37_at H1.out rfl _ lu) ⟨q, rfl⟩, ?_⟩; go_big_quiet_on)
    | (go_big_quiet_want; go_big_quiet_op; apply Exists.intro; refine ⟨fun q => call_cls (has37_at H0.out rfl _ lu) ⟨q, rfl⟩, ?_⟩; go_big_quiet_on; have Q1 : Hid True := trivial))
  refine wpQuiet_nil ?_
  intro w3 hw3
  go_wp2
  go_ret
  exact ⟨by rw [HV.out]; rfl, k1.trans (keeps_cls hw3)⟩

set_option maxHeartbeats 4000000 in
theorem good15_root_tt (w : World) (s : Su) (hs : s.Ok) {v : Bool} (hv : s.good = v) (h1 : ¬ (s.gen : Int) < 1) (h2 : ¬ 1073741824 ≤ (s.gen : Int)) (h3 : ¬ s.blocks < 16) (h4 : ¬ 128 < s.blocks) (h5 : ¬ s.root = 0) (h6 : ¬ s.root < 2) (h7 : ¬ s.blocks ≤ s.root) (hx0 : bit s.used 0 = true) (hx1 : bit s.used 1 = true) :
    Calls Tryd.prog 15 #[.agg s.cells] w fun e w' => e = .returned (.bool v) ∧ Keeps (fun _ => False) w w' := by
  have hg := hs.gen
  have hb := hs.blocks
  have hr := hs.root
  have lu := hs.used
  have tu : Hid (RowTy 26 s.used.length) := by show RowTy _ _; rw [lu]; exact rowTy26
  have H0 : Hid (has s.used 0 = true) := by show _ = _; rw [has_in (by omega)]; exact hx0
  have H1 : Hid (has s.used 1 = true) := by show _ = _; rw [has_in (by omega)]; exact hx1
  obtain ⟨m8, hm8⟩ : ∃ x, cnt s.used 128 = x := ⟨_, rfl⟩
  obtain ⟨mk, hmk⟩ : ∃ x, cnt s.used (min s.blocks.toNat 128) = x := ⟨_, rfl⟩
  have C8 : Hid (cnt s.used (min (128 : Int).toNat 128) = m8) := hm8
  have CK : Hid (cnt s.used (min s.blocks.toNat 128) = mk) := hmk
  have HV : Hid (v = decide (m8 = mk)) := by
    show _ = _
    rw [← hv]
    unfold Su.good gu
    rw [cnt_two, hx0, hx1, hm8, hmk, decide_eq_true (show (1 ≤ s.gen ∧ s.gen ≤ 1073741823 ∧ 16 ≤ s.blocks ∧ s.blocks ≤ 128 ∧ (s.root = 0 ∨ 2 ≤ s.root ∧ s.root < s.blocks)) from ⟨by omega, by omega, by omega, by omega, by omega⟩)]
    rfl
  have hne : (s.root != 0) = true := by simpa using h5
  clear hv hx0 hx1 hm8 hmk
  go_enter Tryd.func15, Tryd.ntmps15
  repeat (refine wp_seq ?_)
  refine wp_region_lit ?_
  refine boxS_at (.tmp 0) rfl rfl s rfl ?_
  intro g2 w1 b1 z1 k1
  have pc0 : ∀ d os, (grow (redrawn w1 d) os).cell? ⟨g2, 0, none⟩ = some (.int .u32 (s.gen : Int)) := fun d os => (SuAt.parts (RoAt.cls b1 ⟨{ d := d, os := os }, rfl⟩)).1
  have pc1 : ∀ d os, (grow (redrawn w1 d) os).cell? ⟨g2, 1, none⟩ = some (.int .i64 s.blocks) := fun d os => (SuAt.parts (RoAt.cls b1 ⟨{ d := d, os := os }, rfl⟩)).2.1
  have pc2 : ∀ d os, (grow (redrawn w1 d) os).cell? ⟨g2, 2, none⟩ = some (.int .i64 s.root) := fun d os => (SuAt.parts (RoAt.cls b1 ⟨{ d := d, os := os }, rfl⟩)).2.2
  refine list_of_quiet (C := fun w' => ∃ p : Regrown, w' = grow (redrawn w1 p.d) p.os) _ _ _ (cls_keeps (Keeps.refl _ _)) ?_
  simp only [Act.put, List.setIfInBounds_toArray, List.set_cons_zero, List.set_cons_succ]
  repeat (go_big_quiet_step (fail))
  refine wpQuiet_nil ?_
  intro w2 hw2
  repeat (refine wp_seq ?_)
  refine plain_quiet (C := fun w' => ∃ p : Regrown, w' = grow (redrawn w1 p.d) p.os) hw2 ?_
  repeat (first
    | go_big_quiet_skip
    | (go_big_quiet_want; refine quiet_loadM 26 _ rfl g2 35 rfl s.used (fun w' hp => SuAt.used (RoAt.cls b1 hp) hs) tu.out ?_; simp only [Act.put, List.setIfInBounds_toArray, List.set_cons_zero, List.set_cons_succ]; go_big_quiet_on)
    | go_big_quiet_step (fail)
    | (have := Q1; go_big_quiet_want; go_big_quiet_op; apply Exists.intro; refine ⟨fun q => call_cls (has37_at H1.out rfl _ lu) ⟨q, rfl⟩, ?_⟩; go_big_quiet_on)
    | (go_big_quiet_want; go_big_quiet_op; apply Exists.intro; refine ⟨fun q => call_cls (has37_at H0.out rfl _ lu) ⟨q, rfl⟩, ?_⟩; go_big_quiet_on; have Q1 : Hid True := trivial))
  refine wpQuiet_nil ?_
  intro w3 hw3
  have b3 := RoAt.cls b1 hw3
  have K3 := k1.trans (keeps_cls hw3)
  clear pc0 pc1 pc2 hw2
  have pc1 : ∀ d os, (grow (redrawn w3 d) os).cell? ⟨g2, 1, none⟩ = some (.int .i64 s.blocks) := fun d os => (SuAt.parts (RoAt.cls b3 ⟨{ d := d, os := os }, rfl⟩)).2.1
  go_wp2
  refine wp_region_quiet_below (by kernel_rfl) (by kernel_rfl) ?_
  repeat (first
    | go_big_quiet_skip
    | (go_big_quiet_want; refine quiet_loadM 26 _ rfl g2 35 rfl s.used (fun w' hp => SuAt.used (RoAt.cls b3 hp) hs) tu.out ?_; simp only [Act.put, List.setIfInBounds_toArray, List.set_cons_zero, List.set_cons_succ]; go_big_quiet_on)
    | go_big_quiet_step (fail)
    | (have := Q2; go_big_quiet_want; go_big_quiet_op; apply Exists.intro; refine ⟨fun q => call_cls (count38_at CK.out _ lu hb) ⟨q, rfl⟩, ?_⟩; go_big_quiet_on)
    | (go_big_quiet_want; go_big_quiet_op; apply Exists.intro; refine ⟨fun q => call_cls (count38_at C8.out _ lu (by omega)) ⟨q, rfl⟩, ?_⟩; go_big_quiet_on; have Q2 : Hid True := trivial))
  refine wpQuiet_nil ?_
  intro w4 hw4
  go_wp2
  go_ret
  refine ⟨?_, K3.trans (keeps_cls hw4)⟩
  rw [HV.out]
  by_cases e : m8 = mk
  · subst e; simp
  · rw [decide_eq_false e]; simpa using (by omega : ¬ (m8 : Int) = (mk : Int))

theorem good15_root (w : World) (s : Su) (hs : s.Ok) {v : Bool} (hv : s.good = v) (h1 : ¬ (s.gen : Int) < 1) (h2 : ¬ 1073741824 ≤ (s.gen : Int)) (h3 : ¬ s.blocks < 16) (h4 : ¬ 128 < s.blocks) (h5 : ¬ s.root = 0) (h6 : ¬ s.root < 2) (h7 : ¬ s.blocks ≤ s.root) :
    Calls Tryd.prog 15 #[.agg s.cells] w fun e w' => e = .returned (.bool v) ∧ Keeps (fun _ => False) w w' := by
  cases hx0 : bit s.used 0 with
  | false => exact good15_root_f w s hs hv h1 h2 h3 h4 h5 h6 h7 hx0
  | true =>
    cases hx1 : bit s.used 1 with
    | false => exact good15_root_tf w s hs hv h1 h2 h3 h4 h5 h6 h7 hx0 hx1
    | true => exact good15_root_tt w s hs hv h1 h2 h3 h4 h5 h6 h7 hx0 hx1

theorem good15 (w : World) (s : Su) (hs : s.Ok) {v : Bool} (hv : s.good = v) :
    Calls Tryd.prog 15 #[.agg s.cells] w fun e w' => e = .returned (.bool v) ∧ Keeps (fun _ => False) w w' := by
  by_cases hn : (1 ≤ s.gen ∧ s.gen ≤ 1073741823 ∧ 16 ≤ s.blocks ∧ s.blocks ≤ 128 ∧ (s.root = 0 ∨ 2 ≤ s.root ∧ s.root < s.blocks))
  · obtain ⟨a1, a2, a3, a4, a5⟩ := hn
    by_cases h5 : s.root = 0
    · exact good15_zero w s hs hv (by omega) (by omega) (by omega) (by omega) h5
    · exact good15_root w s hs hv (by omega) (by omega) (by omega) (by omega) h5 (by omega) (by omega)
  · exact good15_no w s hs hv hn
end Go.Proofs.YtdgnjpdjohibeaaDoor
