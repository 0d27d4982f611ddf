/-
  Write of the reference, beside the disk.
-/
import Derived.Test.YtdgnjpdjohibeaaDoorKh
import Derived.Test.YtdgnjpdjohibeaaDoorKi
import Derived.Test.YtdgnjpdjohibeaaDoorKd
import Derived.Test.YtdgnjpdjohibeaaDoorRe
set_option linter.all false
set_option maxRecDepth 100000
namespace Go.Proofs.YtdgnjpdjohibeaaDoor
open Go.RowKit Go.Sort Go.Shelf

theorem rsw_nil (w : World) (u : Su) (hu : u.Ok) :
    Calls Tryd.prog 21 #[.pointer none, .agg u.cells] w fun e w' => e = .returned (.int .i64 1) ∧ Keeps (fun _ => False) w w' := by
  have T0 : Hid True := trivial
  go_enter Tryd.func21, Tryd.ntmps21
  go_wp2_with (have := T0; refine boxS_at (.tmp 1) rfl rfl u rfl ?_; intro g3 w1 b1 z1 k1; clear T0)
  refine wp_region_quiet_below (by kernel_rfl) (by kernel_rfl) ?_
  repeat (first
    | go_big_quiet_skip
    | go_big_quiet_step (fail))
  refine wpQuiet_nil ?_
  intro w2 hw2
  go_wp2
  go_ret
  exact ⟨rfl, k1.trans (keeps_cls hw2)⟩

section
variable {B : Nat} {X : Nat → Prop} {w : World} {p gb p' gb' : Nat} {s r : DS}

set_option maxHeartbeats 2000000 in
theorem rsw_bad (h : Half B X w p gb p' gb' s r) (u : Su) (hu : u.Ok) (hg : u.good = false) :
    Calls Tryd.prog 21 #[.pointer (some ⟨p', 0, none⟩), .agg u.cells] w fun e w' => e = .returned (.int .i64 (wrR r u).1) ∧ Half B X w' p gb p' gb' s (wrR r u).2 ∧ Keeps (fun _ => False) w w' := by
  have HW : Hid (wrR r u = (1, r)) := by show _ = _; unfold wrR; rw [if_neg (fun h => by rw [hg] at h; cases h.1)]
  have HG : Hid (u.good = false) := hg
  clear hg
  have T0 : Hid True := trivial
  go_enter Tryd.func21, Tryd.ntmps21
  go_wp2_with (have := T0; refine boxS_at (.tmp 1) rfl rfl u rfl ?_; intro g3 w1 b1 z1 k1; clear T0)
  refine wp_region_quiet_below (by kernel_rfl) (by kernel_rfl) ?_
  repeat (first
    | go_big_quiet_skip
    | (go_big_quiet_want; refine quiet_loadS _ rfl g3 rfl u hu (fun w' hp => RoAt.cls b1 hp) ?_; simp only [Act.put, List.setIfInBounds_toArray, List.set_cons_zero, List.set_cons_succ]; go_big_quiet_on)
    | go_big_quiet_step (fail)
    | (go_big_quiet_want; go_big_quiet_op; apply Exists.intro; refine ⟨fun q => call_cls (good15 _ u hu HG.out) ⟨q, rfl⟩, ?_⟩; go_big_quiet_on))
  refine wpQuiet_nil ?_
  intro w2 hw2
  go_wp2
  go_ret
  rw [HW.out]
  exact ⟨rfl, h.kept (k1.trans (keeps_cls hw2)), k1.trans (keeps_cls hw2)⟩

set_option maxHeartbeats 2000000 in
theorem rsw_blocks (h : Half B X w p gb p' gb' s r) (u : Su) (hu : u.Ok) (hg : u.good = true) (hb : u.blocks ≠ (r.n : Int)) :
    Calls Tryd.prog 21 #[.pointer (some ⟨p', 0, none⟩), .agg u.cells] w fun e w' => e = .returned (.int .i64 (wrR r u).1) ∧ Half B X w' p gb p' gb' s (wrR r u).2 ∧ Keeps (fun _ => False) w w' := by
  have HW : Hid (wrR r u = (1, r)) := by show _ = _; unfold wrR; rw [if_neg (fun h => hb h.2)]
  have hbe : (u.blocks == (r.n : Int)) = false := by simpa using hb
  have HG : Hid (u.good = true) := hg
  clear hg hb
  have T0 : Hid True := trivial
  go_enter Tryd.func21, Tryd.ntmps21
  go_wp2_with (have := T0; refine boxS_at (.tmp 1) rfl rfl u rfl ?_; intro g3 w1 b1 z1 k1; clear T0)
  have pc : ∀ d os, (grow (redrawn w1 d) os).cell? ⟨g3, 1, none⟩ = some (.int .i64 u.blocks) := fun d os => (SuAt.parts (RoAt.cls b1 ⟨{ d := d, os := os }, rfl⟩)).2.1
  have pd : ∀ d os, (grow (redrawn w1 d) os).cell? ⟨p', 0, none⟩ = some (.slice (some ⟨gb', 0, none⟩) r.n r.n) := fun d os => by
    obtain ⟨la, lc, c0, _⟩ := (h.kept (k1.trans (keeps_cls ⟨{ d := d, os := os }, rfl⟩))).cells
    exact c0
  refine wp_region_quiet_below (by kernel_rfl) (by kernel_rfl) ?_
  repeat (first
    | go_big_quiet_skip
    | (go_big_quiet_want; refine quiet_loadS _ rfl g3 rfl u hu (fun w' hp => RoAt.cls b1 hp) ?_; simp only [Act.put, List.setIfInBounds_toArray, List.set_cons_zero, List.set_cons_succ]; go_big_quiet_on)
    | go_big_quiet_step (fail)
    | (go_big_quiet_want; go_big_quiet_op; apply Exists.intro; refine ⟨fun q => call_cls (good15 _ u hu HG.out) ⟨q, rfl⟩, ?_⟩; go_big_quiet_on))
  refine wpQuiet_nil ?_
  intro w2 hw2
  go_wp2
  go_ret
  rw [HW.out]
  exact ⟨rfl, h.kept (k1.trans (keeps_cls hw2)), k1.trans (keeps_cls hw2)⟩

set_option maxHeartbeats 4000000 in
theorem rsw_ok0 (h : Half B X w p gb p' gb' s r) (hok : r.Ok) (hX : ∀ k, X k → k < w.heap.size) (hBw : B ≤ w.heap.size) (hdc : 0 ≤ r.dc ∧ r.dc < 999999) (hws : r.ws.length < 999999) (u : Su) (hu : u.Ok) (hg : u.good = true) (hb : u.blocks = (r.n : Int)) (h0 : (r.write ((u.gen % 2 : Nat) : Int) ((sblk u).map vb)).1 = 0) :
    Calls Tryd.prog 21 #[.pointer (some ⟨p', 0, none⟩), .agg u.cells] w fun e w' => e = .returned (.int .i64 (wrR r u).1) ∧ Half B X w' p gb p' gb' s (wrR r u).2 ∧ Keeps (Own1 B X) w w' := by
  obtain ⟨L, hL⟩ : ∃ L, sblk u = L := ⟨_, rfl⟩
  have lL : L.length = 128 := by rw [← hL]; exact sblk_len hu
  obtain ⟨hm, hhm⟩ : ∃ hm, u.gen % 2 = hm := ⟨_, rfl⟩
  obtain ⟨r1, r2, hr⟩ : ∃ r1 r2, r.write ((hm : Nat) : Int) (L.map vb) = (r1, r2) := ⟨_, _, rfl⟩
  have hrem : (u.gen : Int) % 2 = (hm : Int) := by omega
  have Hr : Hid (r.write (hm : Int) (L.map vb) = (r1, r2)) := hr
  have HW : Hid (wrR r u = if r1 = 0 then r2.sync else (r1, r2)) := by show _ = _; unfold wrR; rw [if_pos ⟨hg, hb⟩, hL, hhm, hr]
  have HE : Hid (encR u = (L, 0)) := by show _ = _; unfold encR; rw [hg, ← hL]; rfl
  have rok : r2.Ok := by have := hok.write (hm : Int) _ (ok_vb lL); rw [hr] at this; exact this
  have rdc : r.dc ≤ r2.dc ∧ r2.dc ≤ r.dc + 1 ∧ r2.ws.length ≤ r.ws.length + 1 ∧ r2.n = r.n := by have := write_dc r (hm : Int) (L.map vb); rw [hr] at this; exact this
  have hbe : (u.blocks == (r.n : Int)) = true := by simpa using hb
  rw [hL, hhm, hr] at h0
  have h0 : r1 = 0 := h0
  subst h0
  have h7b : 0 ≤ r2.dc ∧ r2.dc < 1000000 := ⟨by omega, by omega⟩
  have h7w : r2.ws.length < 1000000 := by omega
  have HG : Hid (u.good = true) := hg
  have hm2 : (hm : Int) < 2 := by omega
  clear hb hg hL hhm hr
  have T0 : Hid True := trivial
  go_enter Tryd.func21, Tryd.ntmps21
  go_wp2_with (have := T0; refine boxS_at (.tmp 1) rfl rfl u rfl ?_; intro g3 w1 b1 z1 k1; clear T0)
  have pc : ∀ d os, (grow (redrawn w1 d) os).cell? ⟨g3, 1, none⟩ = some (.int .i64 u.blocks) := fun d os => (SuAt.parts (RoAt.cls b1 ⟨{ d := d, os := os }, rfl⟩)).2.1
  have pd : ∀ d os, (grow (redrawn w1 d) os).cell? ⟨p', 0, none⟩ = some (.slice (some ⟨gb', 0, none⟩) r.n r.n) := fun d os => by
    obtain ⟨la, lc, c0, _⟩ := (h.kept (k1.trans (keeps_cls ⟨{ d := d, os := os }, rfl⟩))).cells
    exact c0
  refine wp_region_quiet_below (by kernel_rfl) (by kernel_rfl) ?_
  repeat (first
    | go_big_quiet_skip
    | (go_big_quiet_want; refine quiet_loadS _ rfl g3 rfl u hu (fun w' hp => RoAt.cls b1 hp) ?_; simp only [Act.put, List.setIfInBounds_toArray, List.set_cons_zero, List.set_cons_succ]; go_big_quiet_on)
    | go_big_quiet_step (fail)
    | (go_big_quiet_want; go_big_quiet_op; apply Exists.intro; refine ⟨fun q => call_cls (good15 _ u hu HG.out) ⟨q, rfl⟩, ?_⟩; go_big_quiet_on))
  refine wpQuiet_nil ?_
  intro w2 hw2
  have k2 := keeps_cls hw2
  have b2 := RoAt.keep b1 k2
  have K2 := k1.trans k2
  clear pc pd
  have T1 : Hid True := trivial
  go_wp2_with (first
    | (have := T1; refine wpList_loadS rfl _ rfl g3 rfl u hu b2 ?_; clear T1; have T2 : Hid True := trivial)
    | (have := T2; go_at_call 11; refine (encQ_is HE.out _ hu).mono ?_; rintro e w3 ⟨rfl, k3⟩; have b3 := RoAt.keep b2 k3; clear T2; have T3 : Hid True := trivial)
    | (have := T3; refine wpList_alloc26 rfl rfl ?_; intro g5 w4 e4 z4 k4; have b4 := RoAt.keep b3 k4; clear T3; have T4 : Hid True := trivial)
    | (have := T4; refine wpList_store26 rfl _ _ rfl g5 rfl L rfl lL _ e4 ?_; intro w5 e5 k5; have b5 := RoAt.keeps b4 k5 (by have := b3.lt; omega); have p0 := (SuAt.parts b5).1; have K5 : Keeps (fun _ => False) w w5 := ((K2.trans k3).trans k4).trans' k5 (fun i e => .inr (by have := (K2.trans k3).size; omega)); have h5 := h.kept K5; have z5 := K5.size; clear T4; have T5 : Hid True := trivial)
    | (have := T5; refine wpList_load26 rfl _ rfl g5 rfl L e5 ?_; clear T5; have T6 : Hid True := trivial)
    | (have := T6; go_at_call 23; refine (rwrite_half h5 hok (fun k e => by have := hX k e; omega) (by omega) (by omega) (by omega) (hm : Int) (L.map vb) (ok_vb lL)).mono ?_; rintro e w7 ⟨he, h7, k7⟩; rw [Hr.out] at he h7; subst he; have K7 : Keeps (Own1 B X) w w7 := (K5.mono (fun _ _ h => h.elim)).trans k7; have z7 := k7.size; clear T6; have T7 : Hid True := trivial)
    | (have := T7; go_at_call 42; refine (rsync_half h7 rok (fun k e => by have := hX k e; omega) (by omega) h7b h7w).mono ?_; rintro e w8 ⟨rfl, h8, k8⟩; clear T7))
  go_ret
  rw [HW.out, if_pos trivial]
  exact ⟨rfl, h8, K7.trans k8⟩

set_option maxHeartbeats 4000000 in
theorem rsw_ok1 (h : Half B X w p gb p' gb' s r) (hok : r.Ok) (hX : ∀ k, X k → k < w.heap.size) (hBw : B ≤ w.heap.size) (hdc : 0 ≤ r.dc ∧ r.dc < 999999) (hws : r.ws.length < 999999) (u : Su) (hu : u.Ok) (hg : u.good = true) (hb : u.blocks = (r.n : Int)) (h0 : (r.write ((u.gen % 2 : Nat) : Int) ((sblk u).map vb)).1 ≠ 0) :
    Calls Tryd.prog 21 #[.pointer (some ⟨p', 0, none⟩), .agg u.cells] w fun e w' => e = .returned (.int .i64 (wrR r u).1) ∧ Half B X w' p gb p' gb' s (wrR r u).2 ∧ Keeps (Own1 B X) w w' := by
  obtain ⟨L, hL⟩ : ∃ L, sblk u = L := ⟨_, rfl⟩
  have lL : L.length = 128 := by rw [← hL]; exact sblk_len hu
  obtain ⟨hm, hhm⟩ : ∃ hm, u.gen % 2 = hm := ⟨_, rfl⟩
  obtain ⟨r1, r2, hr⟩ : ∃ r1 r2, r.write ((hm : Nat) : Int) (L.map vb) = (r1, r2) := ⟨_, _, rfl⟩
  have hrem : (u.gen : Int) % 2 = (hm : Int) := by omega
  have Hr : Hid (r.write (hm : Int) (L.map vb) = (r1, r2)) := hr
  have HW : Hid (wrR r u = if r1 = 0 then r2.sync else (r1, r2)) := by show _ = _; unfold wrR; rw [if_pos ⟨hg, hb⟩, hL, hhm, hr]
  have HE : Hid (encR u = (L, 0)) := by show _ = _; unfold encR; rw [hg, ← hL]; rfl
  have rok : r2.Ok := by have := hok.write (hm : Int) _ (ok_vb lL); rw [hr] at this; exact this
  have rdc : r.dc ≤ r2.dc ∧ r2.dc ≤ r.dc + 1 ∧ r2.ws.length ≤ r.ws.length + 1 ∧ r2.n = r.n := by have := write_dc r (hm : Int) (L.map vb); rw [hr] at this; exact this
  have hbe : (u.blocks == (r.n : Int)) = true := by simpa using hb
  rw [hL, hhm, hr] at h0
  have hr0 : r1 ≠ 0 := h0
  have hbe0 : (r1 == 0) = false := by simpa using hr0
  have hbe1 : (r1 != 0) = true := by simpa using hr0
  have HG : Hid (u.good = true) := hg
  have hm2 : (hm : Int) < 2 := by omega
  clear hb hg hL hhm hr
  have T0 : Hid True := trivial
  go_enter Tryd.func21, Tryd.ntmps21
  go_wp2_with (have := T0; refine boxS_at (.tmp 1) rfl rfl u rfl ?_; intro g3 w1 b1 z1 k1; clear T0)
  have pc : ∀ d os, (grow (redrawn w1 d) os).cell? ⟨g3, 1, none⟩ = some (.int .i64 u.blocks) := fun d os => (SuAt.parts (RoAt.cls b1 ⟨{ d := d, os := os }, rfl⟩)).2.1
  have pd : ∀ d os, (grow (redrawn w1 d) os).cell? ⟨p', 0, none⟩ = some (.slice (some ⟨gb', 0, none⟩) r.n r.n) := fun d os => by
    obtain ⟨la, lc, c0, _⟩ := (h.kept (k1.trans (keeps_cls ⟨{ d := d, os := os }, rfl⟩))).cells
    exact c0
  refine wp_region_quiet_below (by kernel_rfl) (by kernel_rfl) ?_
  repeat (first
    | go_big_quiet_skip
    | (go_big_quiet_want; refine quiet_loadS _ rfl g3 rfl u hu (fun w' hp => RoAt.cls b1 hp) ?_; simp only [Act.put, List.setIfInBounds_toArray, List.set_cons_zero, List.set_cons_succ]; go_big_quiet_on)
    | go_big_quiet_step (fail)
    | (go_big_quiet_want; go_big_quiet_op; apply Exists.intro; refine ⟨fun q => call_cls (good15 _ u hu HG.out) ⟨q, rfl⟩, ?_⟩; go_big_quiet_on))
  refine wpQuiet_nil ?_
  intro w2 hw2
  have k2 := keeps_cls hw2
  have b2 := RoAt.keep b1 k2
  have K2 := k1.trans k2
  clear pc pd
  have T1 : Hid True := trivial
  go_wp2_with (first
    | (have := T1; refine wpList_loadS rfl _ rfl g3 rfl u hu b2 ?_; clear T1; have T2 : Hid True := trivial)
    | (have := T2; go_at_call 11; refine (encQ_is HE.out _ hu).mono ?_; rintro e w3 ⟨rfl, k3⟩; have b3 := RoAt.keep b2 k3; clear T2; have T3 : Hid True := trivial)
    | (have := T3; refine wpList_alloc26 rfl rfl ?_; intro g5 w4 e4 z4 k4; have b4 := RoAt.keep b3 k4; clear T3; have T4 : Hid True := trivial)
    | (have := T4; refine wpList_store26 rfl _ _ rfl g5 rfl L rfl lL _ e4 ?_; intro w5 e5 k5; have b5 := RoAt.keeps b4 k5 (by have := b3.lt; omega); have p0 := (SuAt.parts b5).1; have K5 : Keeps (fun _ => False) w w5 := ((K2.trans k3).trans k4).trans' k5 (fun i e => .inr (by have := (K2.trans k3).size; omega)); have h5 := h.kept K5; have z5 := K5.size; clear T4; have T5 : Hid True := trivial)
    | (have := T5; refine wpList_load26 rfl _ rfl g5 rfl L e5 ?_; clear T5; have T6 : Hid True := trivial)
    | (have := T6; go_at_call 23; refine (rwrite_half h5 hok (fun k e => by have := hX k e; omega) (by omega) (by omega) (by omega) (hm : Int) (L.map vb) (ok_vb lL)).mono ?_; rintro e w7 ⟨he, h7, k7⟩; rw [Hr.out] at he h7; subst he; have K7 : Keeps (Own1 B X) w w7 := (K5.mono (fun _ _ h => h.elim)).trans k7; have z7 := k7.size; clear T6))
  go_ret
  rw [HW.out, if_neg hr0]
  exact ⟨rfl, h7, K7⟩

theorem rsw_ok (h : Half B X w p gb p' gb' s r) (hok : r.Ok) (hX : ∀ k, X k → k < w.heap.size) (hBw : B ≤ w.heap.size) (hdc : 0 ≤ r.dc ∧ r.dc < 999999) (hws : r.ws.length < 999999) (u : Su) (hu : u.Ok) (hg : u.good = true) (hb : u.blocks = (r.n : Int)) :
    Calls Tryd.prog 21 #[.pointer (some ⟨p', 0, none⟩), .agg u.cells] w fun e w' => e = .returned (.int .i64 (wrR r u).1) ∧ Half B X w' p gb p' gb' s (wrR r u).2 ∧ Keeps (Own1 B X) w w' := by
  by_cases h0 : (r.write ((u.gen % 2 : Nat) : Int) ((sblk u).map vb)).1 = 0
  · exact rsw_ok0 h hok hX hBw hdc hws u hu hg hb h0
  · exact rsw_ok1 h hok hX hBw hdc hws u hu hg hb h0

/-- Write of the reference, on a disk that is there. -/
theorem rsw (h : Half B X w p gb p' gb' s r) (hok : r.Ok) (hX : ∀ k, X k → k < w.heap.size) (hBw : B ≤ w.heap.size) (hdc : 0 ≤ r.dc ∧ r.dc < 999999) (hws : r.ws.length < 999999) (u : Su) (hu : u.Ok) :
    Calls Tryd.prog 21 #[.pointer (some ⟨p', 0, none⟩), .agg u.cells] w fun e w' => e = .returned (.int .i64 (wrR r u).1) ∧ Half B X w' p gb p' gb' s (wrR r u).2 ∧ Keeps (Own1 B X) w w' := by
  cases hg : u.good with
  | false => exact (rsw_bad h u hu hg).mono fun e w' ⟨h1, h2, h3⟩ => ⟨h1, h2, h3.mono (fun _ _ h => h.elim)⟩
  | true =>
    by_cases hb : u.blocks = (r.n : Int)
    · exact rsw_ok h hok hX hBw hdc hws u hu hg hb
    · exact (rsw_blocks h u hu hg hb).mono fun e w' ⟨h1, h2, h3⟩ => ⟨h1, h2, h3.mono (fun _ _ h => h.elim)⟩
end

end Go.Proofs.YtdgnjpdjohibeaaDoor
