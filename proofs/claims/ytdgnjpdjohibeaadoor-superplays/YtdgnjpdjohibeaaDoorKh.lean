/-
  Write of the program.
-/
import Derived.Test.YtdgnjpdjohibeaaDoorKg
import Derived.Test.YtdgnjpdjohibeaaDoorQE
set_option linter.all false
set_option maxRecDepth 100000
namespace Go.Proofs.YtdgnjpdjohibeaaDoor
open Go.RowKit Go.Sort Go.Shelf

/-- What Write does and tells. -/
def wrR (s : DS) (u : Su) : Int × DS :=
  if u.good = true ∧ u.blocks = (s.n : Int) then
    (if (s.write ((u.gen % 2 : Nat) : Int) ((sblk u).map vb)).1 = 0 then (s.write ((u.gen % 2 : Nat) : Int) ((sblk u).map vb)).2.sync else s.write ((u.gen % 2 : Nat) : Int) ((sblk u).map vb))
  else (1, s)
theorem ok_vb {L : List B} (h : L.length = 128) : (L.map vb).length = 128 ∧ ∀ v ∈ L.map vb, v.oneCell' = true := ⟨by simp [h], one_bytes L⟩
theorem wrR_ok {s : DS} (h : s.Ok) {u : Su} (hu : u.Ok) : (wrR s u).2.Ok := by
  have hw := h.write ((u.gen % 2 : Nat) : Int) ((sblk u).map vb) (ok_vb (sblk_len hu))
  unfold wrR
  split
  · split
    · exact hw.sync
    · exact hw
  · exact h
theorem write_dc (s : DS) (i : Int) (b : List Value) : s.dc ≤ (s.write i b).2.dc ∧ (s.write i b).2.dc ≤ s.dc + 1 ∧ (s.write i b).2.ws.length ≤ s.ws.length + 1 ∧ (s.write i b).2.n = s.n := by
  unfold DS.write
  split
  · exact ⟨Int.le_refl _, by show s.dc ≤ s.dc + 1; omega, by show s.ws.length ≤ s.ws.length + 1; omega, rfl⟩
  · split
    · exact ⟨Int.le_refl _, by show s.dc ≤ s.dc + 1; omega, by show s.ws.length ≤ s.ws.length + 1; omega, rfl⟩
    · exact ⟨by show s.dc ≤ s.dc + 1; omega, Int.le_refl _, by simp, rfl⟩
theorem sync_dc (s : DS) : s.dc ≤ s.sync.2.dc ∧ s.sync.2.dc ≤ s.dc + 1 ∧ s.sync.2.ws.length ≤ s.ws.length ∧ s.sync.2.n = s.n := by
  unfold DS.sync
  split
  · exact ⟨Int.le_refl _, by show s.dc ≤ s.dc + 1; omega, Nat.le_refl _, rfl⟩
  · exact ⟨by show s.dc ≤ s.dc + 1; omega, Int.le_refl _, Nat.zero_le _, rfl⟩
theorem wrR_dc (s : DS) (u : Su) : s.dc ≤ (wrR s u).2.dc ∧ (wrR s u).2.dc ≤ s.dc + 2 ∧ (wrR s u).2.ws.length ≤ s.ws.length + 1 ∧ (wrR s u).2.n = s.n := by
  have h1 := write_dc s ((u.gen % 2 : Nat) : Int) ((sblk u).map vb)
  unfold wrR
  split
  · split
    · have h2 := sync_dc (s.write ((u.gen % 2 : Nat) : Int) ((sblk u).map vb)).2
      exact ⟨by omega, by omega, by omega, by rw [h2.2.2.2, h1.2.2.2]⟩
    · exact ⟨by omega, by omega, by omega, h1.2.2.2⟩
  · exact ⟨Int.le_refl _, by show s.dc ≤ s.dc + 2; omega, by show s.ws.length ≤ s.ws.length + 1; omega, rfl⟩

/-- A superblock and a block that lie there. -/
structure SuBl (g3 : Nat) (u : Su) (g5 : Nat) (L : List B) where
  w : World
  su : SuAt w g3 u
  bl : BlAt w g5 L
theorem len_at {B : Nat} {C : Nat → Prop} {w : World} {p gb : Nat} {s : DS} (h : Lies B C w p gb s) :
    Calls Tryd.prog 39 #[.pointer (some ⟨p, 0, none⟩)] w fun e w' => e = .returned (.int .i64 (s.n : Int)) ∧ Keeps (fun _ => False) w w' :=
  (len_ds h).mono fun e w' ⟨h1, h2⟩ => ⟨h1, by rw [h2]; exact Keeps.refl _ _⟩

theorem writeP_nil (w : World) (u : Su) (hu : u.Ok) :
    Calls Tryd.prog 20 #[.pointer none, .agg u.cells] w fun e w' => e = .returned (.int .i64 1) ∧ Keeps (fun _ => False) w w' := by
  have T0 : Hid True := trivial
  go_enter Tryd.func20, Tryd.ntmps20
  go_wp2_with (have := T0; refine boxS_at (.tmp 1) rfl rfl u rfl ?_; intro g3 w1 b1 z1 k1; clear T0)
  refine wp_region_quiet_below (by kernel_rfl) (by kernel_rfl) ?_
  repeat (first
    | go_big_quiet_skip
    | go_big_quiet_step (fail))
  refine wpQuiet_nil ?_
  intro w2 hw2
  go_wp2
  go_ret
  exact ⟨rfl, k1.trans (keeps_cls hw2)⟩

set_option maxHeartbeats 2000000 in
theorem writeP_blocks {B : Nat} {C : Nat → Prop} {w : World} {p gb : Nat} {s : DS} (h : Lies B C w p gb s) (u : Su) (hu : u.Ok) (hb : u.blocks ≠ (s.n : Int)) :
    Calls Tryd.prog 20 #[.pointer (some ⟨p, 0, none⟩), .agg u.cells] w fun e w' => e = .returned (.int .i64 (wrR s u).1) ∧ Lies B C w' p gb (wrR s u).2 ∧ Keeps (fun _ => False) w w' := by
  have HW : Hid (wrR s u = (1, s)) := by show _ = _; unfold wrR; rw [if_neg (fun h => hb h.2)]
  have hbe : (u.blocks == (s.n : Int)) = false := by simpa using hb
  have T0 : Hid True := trivial
  go_enter Tryd.func20, Tryd.ntmps20
  go_wp2_with (have := T0; refine boxS_at (.tmp 1) rfl rfl u rfl ?_; intro g3 w1 b1 z1 k1; obtain ⟨p0, p1, p2⟩ := SuAt.parts b1; clear T0)
  have pc : ∀ d os, (grow (redrawn w1 d) os).cell? ⟨g3, 1, none⟩ = some (.int .i64 u.blocks) := fun d os => (SuAt.parts (RoAt.cls b1 ⟨{ d := d, os := os }, rfl⟩)).2.1
  have h1 := h.kept k1
  refine wp_region_quiet_below (by kernel_rfl) (by kernel_rfl) ?_
  repeat (first
    | go_big_quiet_skip
    | go_big_quiet_step (fail)
    | (go_big_quiet_want; go_big_quiet_op; apply Exists.intro; refine ⟨fun q => call_cls (len_at (h1.kept (keeps_cls ⟨q, rfl⟩))) ⟨q, rfl⟩, ?_⟩; go_big_quiet_on))
  refine wpQuiet_nil ?_
  intro w2 hw2
  go_wp2
  go_ret
  rw [HW.out]
  exact ⟨rfl, h1.kept (keeps_cls hw2), k1.trans (keeps_cls hw2)⟩

set_option maxHeartbeats 2000000 in
theorem writeP_bad {B : Nat} {C : Nat → Prop} {w : World} {p gb : Nat} {s : DS} (h : Lies B C w p gb s) (hT : Tabs w) (u : Su) (hu : u.Ok) (hb : u.blocks = (s.n : Int)) (hg : u.good = false) :
    Calls Tryd.prog 20 #[.pointer (some ⟨p, 0, none⟩), .agg u.cells] w fun e w' => e = .returned (.int .i64 (wrR s u).1) ∧ Lies B C w' p gb (wrR s u).2 ∧ Keeps (fun _ => False) w w' := by
  have HW : Hid (wrR s u = (1, s)) := by show _ = _; unfold wrR; rw [if_neg (fun h => by rw [hg] at h; cases h.1)]
  have HE : Hid (encR u = (zb 128, 11)) := by show _ = _; unfold encR; rw [hg]; rfl
  have hbe : (u.blocks == (s.n : Int)) = true := by simpa using hb
  clear hb hg
  have T0 : Hid True := trivial
  go_enter Tryd.func20, Tryd.ntmps20
  go_wp2_with (have := T0; refine boxS_at (.tmp 1) rfl rfl u rfl ?_; intro g3 w1 b1 z1 k1; obtain ⟨p0, p1, p2⟩ := SuAt.parts b1; clear T0)
  have pc : ∀ d os, (grow (redrawn w1 d) os).cell? ⟨g3, 1, none⟩ = some (.int .i64 u.blocks) := fun d os => (SuAt.parts (RoAt.cls b1 ⟨{ d := d, os := os }, rfl⟩)).2.1
  have h1 := h.kept k1
  refine wp_region_quiet_below (by kernel_rfl) (by kernel_rfl) ?_
  repeat (first
    | go_big_quiet_skip
    | go_big_quiet_step (fail)
    | (go_big_quiet_want; go_big_quiet_op; apply Exists.intro; refine ⟨fun q => call_cls (len_at (h1.kept (keeps_cls ⟨q, rfl⟩))) ⟨q, rfl⟩, ?_⟩; go_big_quiet_on))
  refine wpQuiet_nil ?_
  intro w2 hw2
  have k2 := keeps_cls hw2
  have b2 := RoAt.keep b1 k2
  have K2 := k1.trans k2
  have T1 : Hid True := trivial
  go_wp2_with (first
    | (have := T1; refine wpList_loadS rfl _ rfl g3 rfl u hu b2 ?_; clear T1; have T2 : Hid True := trivial)
    | (have := T2; go_at_call 10; refine (encP_is HE.out _ (hT.keeps K2 (fun h => h) (fun h => h)) hu).mono ?_; rintro e w3 ⟨rfl, k3⟩; clear T2; have T3 : Hid True := trivial)
    | (have := T3; refine wpList_alloc26 rfl rfl ?_; intro g5 w4 e4 z4 k4; clear T3; have T4 : Hid True := trivial)
    | (have := T4; refine wpList_store26 rfl _ _ rfl g5 rfl (zb 128) rfl (zb_len _) _ e4 ?_; intro w5 e5 k5; clear T4))
  have K5 : Keeps (fun _ => False) w w5 := ((K2.trans k3).trans k4).trans' k5 (fun i e => .inr (by have := (K2.trans k3).size; omega))
  go_ret
  rw [HW.out]
  exact ⟨rfl, h.kept K5, K5⟩

set_option maxHeartbeats 4000000 in
theorem writeP_ok {B : Nat} {C : Nat → Prop} {w : World} {p gb : Nat} {s : DS} (h : Lies B C w p gb s) (hT : Tabs w) (hok : s.Ok) (hC : ∀ k, C k → k < w.heap.size) (hBw : B ≤ w.heap.size) (hdc : 0 ≤ s.dc ∧ s.dc < 999999) (hws : s.ws.length < 999999) (u : Su) (hu : u.Ok) (hb : u.blocks = (s.n : Int)) (hg : u.good = true) :
    Calls Tryd.prog 20 #[.pointer (some ⟨p, 0, none⟩), .agg u.cells] w fun e w' => e = .returned (.int .i64 (wrR s u).1) ∧ Lies B C w' p gb (wrR s u).2 ∧ Keeps (Own1 B C) w w' := by
  obtain ⟨L, hL⟩ : ∃ L, sblk u = L := ⟨_, rfl⟩
  have lL : L.length = 128 := by rw [← hL]; exact sblk_len hu
  obtain ⟨hm, hhm⟩ : ∃ hm, u.gen % 2 = hm := ⟨_, rfl⟩
  obtain ⟨r1, r2, hr⟩ : ∃ r1 r2, s.write ((hm : Nat) : Int) (L.map vb) = (r1, r2) := ⟨_, _, rfl⟩
  have Hm : Hid (u.gen % 2 = hm) := hhm
  have Hr : Hid (s.write (hm : Int) (L.map vb) = (r1, r2)) := hr
  have HW : Hid (wrR s u = if r1 = 0 then r2.sync else (r1, r2)) := by show _ = _; unfold wrR; rw [if_pos ⟨hg, hb⟩, hL, hhm, hr]
  have HE : Hid (encR u = (L, 0)) := by show _ = _; unfold encR; rw [hg, ← hL]; rfl
  have rok : r2.Ok := by have := hok.write (hm : Int) _ (ok_vb lL); rw [hr] at this; exact this
  have rdc := write_dc s (hm : Int) (L.map vb)
  rw [hr] at rdc
  have hbe : (u.blocks == (s.n : Int)) = true := by simpa using hb
  have r01 : r1 = 0 ∨ r1 ≠ 0 := by omega
  clear hb hg hL hhm hr
  have T0 : Hid True := trivial
  go_enter Tryd.func20, Tryd.ntmps20
  go_wp2_with (have := T0; refine boxS_at (.tmp 1) rfl rfl u rfl ?_; intro g3 w1 b1 z1 k1; obtain ⟨p0, p1, p2⟩ := SuAt.parts b1; clear T0)
  have pc : ∀ d os, (grow (redrawn w1 d) os).cell? ⟨g3, 1, none⟩ = some (.int .i64 u.blocks) := fun d os => (SuAt.parts (RoAt.cls b1 ⟨{ d := d, os := os }, rfl⟩)).2.1
  have h1 := h.kept k1
  refine wp_region_quiet_below (by kernel_rfl) (by kernel_rfl) ?_
  repeat (first
    | go_big_quiet_skip
    | go_big_quiet_step (fail)
    | (go_big_quiet_want; go_big_quiet_op; apply Exists.intro; refine ⟨fun q => call_cls (len_at (h1.kept (keeps_cls ⟨q, rfl⟩))) ⟨q, rfl⟩, ?_⟩; go_big_quiet_on))
  refine wpQuiet_nil ?_
  intro w2 hw2
  have k2 := keeps_cls hw2
  have b2 := RoAt.keep b1 k2
  have K2 := k1.trans k2
  have T1 : Hid True := trivial
  go_wp2_with (first
    | (have := T1; refine wpList_loadS rfl _ rfl g3 rfl u hu b2 ?_; clear T1; have T2 : Hid True := trivial)
    | (have := T2; go_at_call 10; refine (encP_is HE.out _ (hT.keeps K2 (fun h => h) (fun h => h)) hu).mono ?_; rintro e w3 ⟨rfl, k3⟩; have b3 := RoAt.keep b2 k3; clear T2; have T3 : Hid True := trivial)
    | (have := T3; refine wpList_alloc26 rfl rfl ?_; intro g5 w4 e4 z4 k4; have b4 := RoAt.keep b3 k4; clear T3; have T4 : Hid True := trivial)
    | (have := T4; refine wpList_store26 rfl _ _ rfl g5 rfl L rfl lL _ e4 ?_; intro w5 e5 k5; clear T4))
  have z34 := (K2.trans k3).size
  have K5 : Keeps (fun _ => False) w w5 := ((K2.trans k3).trans k4).trans' k5 (fun i e => .inr (by omega))
  have h5 := h.kept K5
  have b5 := RoAt.keeps b4 k5 (by have := b3.lt; omega)
  have hz3 := b5.lt
  have hz5 := e5.lt
  have h5' : Lies B (fun k => C k ∨ k = g3 ∨ k = g5) w5 p gb s := (h.more (C' := fun k => C k ∨ k = g3 ∨ k = g5) (fun k e => by rcases e with e | rfl | rfl; exact .inl e; exact .inr (by omega); exact .inr (by omega))).kept K5
  have ne0 : Nonempty (SuBl g3 u g5 L) := ⟨⟨_, b5, e5⟩⟩
  have kd : Keeps (fun _ => False) w5 w5.drew := (Keeps.refl _ _).drew
  have K5s := K5.size
  clear k1 b1 p0 p1 p2 pc h1 hw2 k2 b2 K2 k3 b3 e4 k4 b4 k5
  refine region_plan (S := fun w' => ∃ q : SuBl g3 u g5 L, w' = q.w) [([0, 1, 3], 2), ([], 4)] [5] (by kernel_rfl) (by kernel_rfl) (by kernel_rfl) (by kernel_rfl) ⟨⟨_, RoAt.keep b5 kd, e5.keep kd⟩, rfl⟩ ?_
  simp only [wpPlan, opsAt, pick]
  repeat (first
    | (go_big_quiet_want; refine quiet_loadS _ rfl g3 rfl u hu (by rintro _ ⟨q, rfl⟩; exact q.su) ?_; simp only [Act.put, List.setIfInBounds_toArray, List.set_cons_zero, List.set_cons_succ]; go_big_quiet_on)
    | (go_big_quiet_want; refine quiet_load26 _ rfl g5 rfl L (by rintro _ ⟨q, rfl⟩; exact q.bl) ?_; simp only [Act.put, List.setIfInBounds_toArray, List.set_cons_zero, List.set_cons_succ]; go_big_quiet_on)
    | go_big_quiet_step (fail))
  refine wpQuiet_nil ?_
  go_wp2_with (go_at_call 40; refine (home40 _ u hu Hm.out).mono ?_; rintro e w6 ⟨rfl, k6⟩)
  have b6 := RoAt.keep b5 (kd.trans k6)
  have e6 := e5.keep (kd.trans k6)
  have h6 := h5'.kept (kd.trans k6)
  have K6 := K5.trans (kd.trans k6)
  have K6s := K6.size
  refine ⟨⟨⟨_, b6, e6⟩, rfl⟩, ?_⟩
  simp only [wpPlan, opsAt, pick]
  refine wpQuiet_nil ?_
  have hC6 : ∀ k, C k ∨ k = g3 ∨ k = g5 → k < w6.heap.size := fun k e => by rcases e with e | rfl | rfl; have := hC k e; omega; exact b6.lt; exact e6.lt
  go_wp2_with (go_at_call 22; refine (write_ds h6 hok hC6 (by omega) (by omega) (by omega) (hm : Int) (L.map vb) (ok_vb lL)).mono ?_; rintro e w7 ⟨he, h7, k7⟩; rw [Hr.out] at he h7; subst he)
  have b7 := RoAt.keeps b6 k7 (fun h => h.2 (.inr (.inl rfl)))
  have e7 := e6.keeps k7 (fun h => h.2 (.inr (.inr rfl)))
  refine ⟨⟨⟨_, b7, e7⟩, rfl⟩, ?_⟩
  simp only [wpPlan, opsAt, pick]
  repeat (go_big_quiet_step (fail))
  refine wpQuiet_nil ?_
  refine NoPanic.normal ?_
  have k7' : Keeps (Own1 B C) w w7 := (K6.mono (fun _ _ h => h.elim)).trans (k7.mono (fun k _ e => ⟨e.1, fun hc => e.2 (.inl hc)⟩))
  have h7' : Lies B C w7 p gb r2 := h7.more (fun k e => .inl (.inl e))
  rcases r01 with rfl | hr0
  · go_wp2_with (go_at_call 41; refine (sync_ds h7' rok (by omega) (by omega)).mono ?_; rintro e w8 ⟨rfl, h8, k8⟩)
    go_ret
    rw [HW.out, if_pos trivial]
    exact ⟨rfl, h8, k7'.trans k8⟩
  · have hbe0 : (r1 == 0) = false := by simpa using hr0
    go_wp2
    go_ret
    rw [HW.out, if_neg hr0]
    exact ⟨rfl, h7', k7'⟩

/-- Write on a disk that is there. -/
theorem writeP {B : Nat} {C : Nat → Prop} {w : World} {p gb : Nat} {s : DS} (h : Lies B C w p gb s) (hT : Tabs w) (hok : s.Ok) (hC : ∀ k, C k → k < w.heap.size) (hBw : B ≤ w.heap.size) (hdc : 0 ≤ s.dc ∧ s.dc < 999999) (hws : s.ws.length < 999999) (u : Su) (hu : u.Ok) :
    Calls Tryd.prog 20 #[.pointer (some ⟨p, 0, none⟩), .agg u.cells] w fun e w' => e = .returned (.int .i64 (wrR s u).1) ∧ Lies B C w' p gb (wrR s u).2 ∧ Keeps (Own1 B C) w w' := by
  by_cases hb : u.blocks = (s.n : Int)
  · cases hg : u.good with
    | false => exact (writeP_bad h hT u hu hb hg).mono fun e w' ⟨h1, h2, h3⟩ => ⟨h1, h2, h3.mono (fun _ _ h => h.elim)⟩
    | true => exact writeP_ok h hT hok hC hBw hdc hws u hu hb hg
  · exact (writeP_blocks h u hu hb).mono fun e w' ⟨h1, h2, h3⟩ => ⟨h1, h2, h3.mono (fun _ _ h => h.elim)⟩
end Go.Proofs.YtdgnjpdjohibeaaDoor
