/-
  Newest of the reference, beside the disk.
-/
import Derived.Test.YtdgnjpdjohibeaaDoorPa
import Derived.Test.YtdgnjpdjohibeaaDoorRk
import Derived.Test.YtdgnjpdjohibeaaDoorKk
set_option linter.all false
set_option maxRecDepth 100000
namespace Go.Proofs.YtdgnjpdjohibeaaDoor
open Go.RowKit Go.Sort Go.Shelf

theorem results_su28 (tm : Array Value) (g2 : Nat) (wr : World) (s : Su) (hs : s.Ok) (v : Int) (h1 : tm.getD 2 undef = .pointer (some ⟨g2, 0, none⟩)) (h2 : tm.getD 3 undef = .int .i64 v) (h3 : SuAt wr g2 s) : (results Tryd.f28 tm).run Tryd.prog wr = .ok (toldS (s, v)) wr :=
  results_ro_slot rfl tm wr g2 s.cells _ h1 h2 h3 hs.ty

theorem rnw_nil (w : World) :
    Calls Tryd.prog 28 #[.pointer none] w fun e w' => e = .returned (toldS (su0, 1)) ∧ Keeps (fun _ => False) w w' := by
  have T0 : Hid True := trivial
  go_enter Tryd.func28, Tryd.ntmps28
  go_wp2_with (first
    | (have := T0; refine wpList_allocS rfl rfl ?_; intro g2 w1 b1 z1 k1; clear T0; have T1 : Hid True := trivial)
    | (have := T1; refine wpList_buildS0 rfl rfl ?_; clear T1; have T2 : Hid True := trivial)
    | (have := T2; refine wpList_storeS rfl _ _ rfl g2 rfl su0 su0_ok rfl su0 su0_ok b1 ?_; intro w2 b2 k2; clear T2))
  refine bodyPost_ret (results_su28 _ g2 _ su0 su0_ok 1 rfl rfl b2) rfl ?_
  exact ⟨rfl, k1.trans' k2 (fun i e => .inr (by omega))⟩

section
variable {B : Nat} {X : Nat → Prop} {w : World} {p gb p' gb' : Nat} {s r : DS}

set_option maxHeartbeats 2000000 in
theorem rnw_down (h : Half B X w p gb p' gb' s r) (hok : r.Ok) (hn : 2 ≤ r.n) (hws : r.ws.length < 999999) (hd : r.dn = true) :
    Calls Tryd.prog 28 #[.pointer (some ⟨p', 0, none⟩)] w fun e w' => e = .returned (toldS (newR r)) ∧ Keeps (fun _ => False) w w' := by
  have HR : Hid (newR r = (su0, 12)) := by show _ = _; unfold newR; rw [if_pos hd]
  have HD : Hid (r.read 0 = (brow (zb 128), 12)) := by
    show _ = _
    unfold DS.read
    rw [if_neg (by omega), if_pos hd]
    rfl
  have T0 : Hid True := trivial
  go_enter Tryd.func28, Tryd.ntmps28
  go_wp2_with (first
    | (have := T0; refine wpList_allocS rfl rfl ?_; intro g2 w1 b1 z1 k1; clear T0; have T1 : Hid True := trivial)
    | (have := T1; refine wpList_buildS0 rfl rfl ?_; clear T1; have T2 : Hid True := trivial)
    | (have := T2; refine wpList_allocS rfl rfl ?_; intro g4 w3 b4 z4 k3; have b3 := RoAt.keep b1 k3; clear T2; have T3 : Hid True := trivial)
    | (have := T3; refine wpList_storeS rfl _ _ rfl g4 rfl su0 su0_ok rfl su0 su0_ok b4 ?_; intro w4 c4 k4; have K4 : Keeps (fun _ => False) w w4 := (k1.trans k3).trans' k4 (fun i e => .inr (by have := k1.size; omega)); have c2 := RoAt.keeps b3 k4 (by have := b1.lt; omega); clear T3))
  go_loopw [5] (fun t wr => t = .int .i64 0 ∧ SuAt wr g2 su0 ∧ Keeps (fun _ => False) w wr) (fun _ _ => 0)
  case atStart => exact ⟨rfl, c2, K4⟩
  case round =>
    clear b1 k1 b3 k3 b4 c4 c2 k4 K4
    obtain ⟨rfl, c2, K4⟩ := hrel
    have h4 := h.kept K4
    have cR := rread_half h4 hok (by omega) 0
    rw [HD.out] at cR
    have T0 : Hid True := trivial
    go_wp2_with (first
      | (have := T0; go_at_call 49; refine cR.mono ?_; rintro e w5 ⟨rfl, k5⟩; have c5 := RoAt.keep c2 k5; clear T0; have T1 : Hid True := trivial)
      | (have := T1; refine wpList_alloc26 rfl rfl ?_; intro g6 w6 e6 z6 k6; have c6 := RoAt.keep c5 k6; clear T1; have T2 : Hid True := trivial)
      | (have := T2; refine wpList_store26 rfl _ _ rfl g6 rfl (zb 128) rfl (zb_len _) _ e6 ?_; intro w7 e7 k7; have c7 := RoAt.keeps c6 k7 (by have := c5.lt; omega); clear T2; have T3 : Hid True := trivial)
      | (have := T3; refine wpList_buildS0 rfl rfl ?_; clear T3; have T4 : Hid True := trivial)
      | (have := T4; refine wpList_storeS rfl _ _ rfl g2 rfl su0 su0_ok rfl su0 su0_ok c7 ?_; intro w8 c8 k8; clear T4))
    refine bodyPost_ret (results_su28 _ g2 _ su0 su0_ok 12 rfl rfl c8) rfl ?_
    rw [HR.out]
    have z5 := k5.size
    have K6 : Keeps (fun _ => False) w w7 := ((K4.trans k5).trans k6).trans' k7 (fun i e => .inr (by have := (K4.trans k5).size; omega))
    exact ⟨rfl, K6.trans' k8 (fun i e => .inr (by omega))⟩

/-- Behind some blocks: the newest one of theirs. -/
structure RnI (w : World) (g2 g4 : Nat) (r : DS) (k : Nat) (wr : World) : Prop where
  best : SuAt wr g4 ((supsTo r k).foldl gr su0)
  out : SuAt wr g2 su0
  keeps : Keeps (fun _ => False) w wr
theorem RnI.ok {w : World} {g2 g4 k : Nat} {wr : World} (hb : r.Bw) (hok : r.Ok) (hn : 2 ≤ r.n) (hk : k ≤ 2) : ((supsTo r k).foldl gr su0).Ok := by
  refine foldl_ok (fun u hu => ?_) _ su0_ok
  obtain ⟨j, hj, e⟩ := mem_supsTo hu
  exact cand_ok hb hok (by omega) e
def stepC (o : Option Su) (a : Su) : Su := match o with | some u => gr a u | none => a
theorem fold_next (r : DS) (k : Nat) : (supsTo r (k + 1)).foldl gr su0 = stepC (cand r k) ((supsTo r k).foldl gr su0) := by
  rw [supsTo_succ, List.foldl_append]
  cases cand r k <;> rfl
end


/-- What a round comes to. -/
def nxS (r : DS) (k : Nat) (a u : Su) (f : Int) : Su := if f = 0 ∧ u.gen % 2 = k ∧ u.blocks = (r.n : Int) then gr a u else a
theorem nxS_cand (r : DS) (k : Nat) (a : Su) (q : Su × Int) (hq : decR (dsb r k) = q) : stepC (cand r k) a = nxS r k a q.1 q.2 := by
  have hc : cand r k = if q.2 = 0 ∧ q.1.gen % 2 = k ∧ q.1.blocks = (r.n : Int) then some q.1 else none := by unfold cand; rw [hq]
  rw [hc]
  unfold nxS
  by_cases h : q.2 = 0 ∧ q.1.gen % 2 = k ∧ q.1.blocks = (r.n : Int)
  · rw [if_pos h, if_pos h]; rfl
  · rw [if_neg h, if_neg h]; rfl
section
variable {B : Nat} {X : Nat → Prop} {w : World} {p gb p' gb' : Nat} {s r : DS}

set_option maxHeartbeats 8000000 in
theorem rnw_up (h : Half B X w p gb p' gb' s r) (hok : r.Ok) (hb : r.Bw) (hn : 2 ≤ r.n) (hws : r.ws.length < 999999) (hd : r.dn = false) :
    Calls Tryd.prog 28 #[.pointer (some ⟨p', 0, none⟩)] w fun e w' => e = .returned (toldS (newR r)) ∧ Keeps (fun _ => False) w w' := by
  have HR : Hid (newR r = if ((sups r).foldl gr su0).gen = 0 then (su0, 13) else ((sups r).foldl gr su0, 0)) := by show _ = _; unfold newR; rw [if_neg (by rw [hd]; simp)]
  have HO : Hid (∀ k, k ≤ 2 → ((supsTo r k).foldl gr su0).Ok) := fun k hk => RnI.ok (w := w) (g2 := 0) (g4 := 0) (wr := w) hb hok hn hk
  have HRd : Hid (∀ k : Nat, k < 2 → r.read (k : Int) = (brow (dsb r k), 0) ∧ (dsb r k).length = 128) := fun k hk => ⟨read_in hb hok (by omega) hd, (hb.block hok (by omega)).2⟩
  have T0 : Hid True := trivial
  go_enter Tryd.func28, Tryd.ntmps28
  go_wp2_with (first
    | (have := T0; refine wpList_allocS rfl rfl ?_; intro g2 w1 b1 z1 k1; clear T0; have T1 : Hid True := trivial)
    | (have := T1; refine wpList_buildS0 rfl rfl ?_; clear T1; have T2 : Hid True := trivial)
    | (have := T2; refine wpList_allocS rfl rfl ?_; intro g4 w3 b4 z4 k3; have b3 := RoAt.keep b1 k3; clear T2; have T3 : Hid True := trivial)
    | (have := T3; refine wpList_storeS rfl _ _ rfl g4 rfl su0 su0_ok rfl su0 su0_ok b4 ?_; intro w4 c4 k4; have K4 : Keeps (fun _ => False) w w4 := (k1.trans k3).trans' k4 (fun i e => .inr (by have := k1.size; omega)); have c2 := RoAt.keeps b3 k4 (by have := b1.lt; omega); clear T3))
  have z4' : w.heap.size ≤ g4 := by have := k1.size; omega
  have z24 : g2 ≠ g4 := by have := b1.lt; omega
  clear hd hb
  go_loopw [5] (fun t wr => ∃ k : Nat, k ≤ 2 ∧ t = .int .i64 (k : Int) ∧ RnI w g2 g4 r k wr) (fun t _ => 2 - (intOf t).toNat)
  case atStart => exact ⟨0, by omega, rfl, ⟨c4, c2, K4⟩⟩
  case round =>
    clear b1 k1 b3 k3 b4 c4 c2 k4 K4
    obtain ⟨k, hk, rfl, hI⟩ := hrel
    by_cases hlt : k < 2
    · have hlt' : (k : Int) < 2 := by omega
      have HA : Hid (∃ a, (supsTo r k).foldl gr su0 = a ∧ a.Ok) := ⟨_, rfl, HO.out k hk⟩
      obtain ⟨a, hae, hao⟩ := HA.out
      obtain ⟨M, hM⟩ : ∃ M, dsb r k = M := ⟨_, rfl⟩
      obtain ⟨u, f, hf⟩ : ∃ u f, decR M = (u, f) := ⟨_, _, (Prod.eta _).symm⟩
      have lM : M.length = 128 := by rw [← hM]; exact (HRd.out k hlt).2
      have huo : u.Ok := by have := decR_ok lM; rw [hf] at this; exact this
      have cR := rread_half (h.kept hI.keeps) hok (by omega) (k : Int)
      rw [(HRd.out k hlt).1, hM] at cR
      have HNX : Hid ((supsTo r (k + 1)).foldl gr su0 = nxS r k a u f) := by
        show _ = _
        rw [fold_next, hae]
        exact nxS_cand r k a (u, f) (by rw [hM, hf])
      have hbest := hI.best
      rw [hae] at hbest
      have hout := hI.out
      have hkp := hI.keeps
      have cD : ∀ W, Calls Tryd.prog 13 #[.agg (brow M)] W fun e w' => e = .returned (.tuple #[.agg u.cells, .int .i64 f]) ∧ Keeps (fun _ => False) W w' := fun W => decQ_is hf W lM
      clear hI hae hM hf HA
      have T0 : Hid True := trivial
      go_wp2_with (first
        | (have := T0; go_at_call 49; refine cR.mono ?_; rintro e w5 ⟨rfl, k5⟩; have c5 := RoAt.keep hout k5; have d5 := RoAt.keep hbest k5; clear T0; have T1 : Hid True := trivial)
        | (have := T1; refine wpList_alloc26 rfl rfl ?_; intro g6 w6 e6 z6 k6; have c6 := RoAt.keep c5 k6; have d6 := RoAt.keep d5 k6; clear T1; have T2 : Hid True := trivial)
        | (have := T2; refine wpList_store26 rfl _ _ rfl g6 rfl M rfl lM _ e6 ?_; intro w7 e7 k7; have c7 := RoAt.keeps c6 k7 (by have := c5.lt; omega); have d7 := RoAt.keeps d6 k7 (by have := d5.lt; omega); clear T2; have T3 : Hid True := trivial)
        | (have := T3; refine wpList_load26 rfl _ rfl g6 rfl M e7 ?_; clear T3; have T4 : Hid True := trivial)
        | (have := T4; go_at_call 13; refine (cD _).mono ?_; rintro e w8 ⟨rfl, k8⟩; have c8 := RoAt.keep c7 k8; have d8 := RoAt.keep d7 k8; clear T4; have T5 : Hid True := trivial)
        | (have := T5; refine wpList_allocS rfl rfl ?_; intro g8 w9 e9 z9 k9; have c9 := RoAt.keep c8 k9; have d9 := RoAt.keep d8 k9; clear T5; have T6 : Hid True := trivial)
        | (have := T6; refine wpList_storeS rfl _ _ rfl g8 rfl u huo rfl su0 su0_ok e9 ?_; intro w10 e10 k10; have c10 := RoAt.keeps c9 k10 (by have := c8.lt; omega); have d10 := RoAt.keeps d9 k10 (by have := d8.lt; omega); clear T6))
      have q5 := k5.size
      have q8 := k8.size
      have q67 := k6.size
      have q77 := k7.size
      have K7 : Keeps (fun _ => False) w w7 := ((hkp.trans k5).trans k6).trans' k7 (fun i e => .inr (by have := (hkp.trans k5).size; omega))
      have K10 : Keeps (fun _ => False) w w10 := ((K7.trans k8).trans k9).trans' k10 (fun i e => .inr (by have := (K7.trans k8).size; omega))
      have h10 := h.kept K10
      have ng : g8 ≠ g4 ∧ g8 ≠ g2 := ⟨by have := d8.lt; omega, by have := c8.lt; omega⟩
      clear k5 c5 d5 e6 k6 c6 d6 e7 k7 c7 d7 k8 c8 d8 e9 k9 c9 d9 k10 cR cD hbest hout hkp K7 q5 q8 q67 q77 z6
      have u0 : ∀ d os, (grow (redrawn w10 d) os).cell? ⟨g8, 0, none⟩ = some (.int .u32 (u.gen : Int)) := fun d os => (SuAt.parts (RoAt.cls e10 ⟨{ d := d, os := os }, rfl⟩)).1
      have u1 : ∀ d os, (grow (redrawn w10 d) os).cell? ⟨g8, 1, none⟩ = some (.int .i64 u.blocks) := fun d os => (SuAt.parts (RoAt.cls e10 ⟨{ d := d, os := os }, rfl⟩)).2.1
      have a0 : ∀ d os, (grow (redrawn w10 d) os).cell? ⟨g4, 0, none⟩ = some (.int .u32 (a.gen : Int)) := fun d os => (SuAt.parts (RoAt.cls d10 ⟨{ d := d, os := os }, rfl⟩)).1
      have pd : ∀ d os, (grow (redrawn w10 d) os).cell? ⟨p', 0, none⟩ = some (.slice (some ⟨gb', 0, none⟩) r.n r.n) := fun d os => by
        obtain ⟨la, lc, c0, _⟩ := (h10.kept (keeps_cls ⟨{ d := d, os := os }, rfl⟩)).cells
        exact c0
      have cs : f ≠ 0 ∨ (f = 0 ∧ u.gen % 2 ≠ k) ∨ (f = 0 ∧ u.gen % 2 = k ∧ u.blocks ≠ (r.n : Int)) ∨ (f = 0 ∧ u.gen % 2 = k ∧ u.blocks = (r.n : Int) ∧ u.gen ≤ a.gen) ∨ (f = 0 ∧ u.gen % 2 = k ∧ u.blocks = (r.n : Int) ∧ a.gen < u.gen) := by omega
      have hug := huo.gen
      rcases cs with hf | ⟨hf, hp⟩ | ⟨hf, hp, hb⟩ | ⟨hf, hp, hb, hg⟩ | ⟨hf, hp, hb, hg⟩
      · have HN : Hid ((supsTo r (k + 1)).foldl gr su0 = a) := by show _ = _; rw [HNX.out]; unfold nxS; rw [if_neg (fun h => hf h.1)]
        have hfe : (f == 0) = false := by simpa using hf
        go_wp2_with fail
        refine wp_region_quiet_below (by kernel_rfl) (by kernel_rfl) ?_
        repeat (first
          | go_big_quiet_skip
          | go_big_quiet_step (fail))
        refine wpQuiet_nil ?_
        intro w11 hw
        have k11 := keeps_cls hw
        have c11 := RoAt.keep c10 k11
        have d11 := RoAt.keep d10 k11
        go_wp2
        exact ⟨⟨k + 1, by omega, rfl, ⟨by rw [HN.out]; exact d11, c11, K10.trans k11⟩⟩, by simp [intOf]; omega⟩
      · have HN : Hid ((supsTo r (k + 1)).foldl gr su0 = a) := by show _ = _; rw [HNX.out]; unfold nxS; rw [if_neg (fun h => hp h.2.1)]
        subst hf
        obtain ⟨m, hm⟩ : ∃ m : Nat, (u.gen : Int) % 2 = (m : Int) := ⟨u.gen % 2, by omega⟩
        have hme : ((m : Int) == (k : Int)) = false := by simp; omega
        have hm2 : (m : Int) < 2 := by omega
        clear hp
        go_wp2_with fail
        refine wp_region_quiet_below (by kernel_rfl) (by kernel_rfl) ?_
        repeat (first
          | go_big_quiet_skip
          | go_big_quiet_step (fail))
        refine wpQuiet_nil ?_
        intro w11 hw
        have k11 := keeps_cls hw
        have c11 := RoAt.keep c10 k11
        have d11 := RoAt.keep d10 k11
        go_wp2
        exact ⟨⟨k + 1, by omega, rfl, ⟨by rw [HN.out]; exact d11, c11, K10.trans k11⟩⟩, by simp [intOf]; omega⟩
      · have HN : Hid ((supsTo r (k + 1)).foldl gr su0 = a) := by show _ = _; rw [HNX.out]; unfold nxS; rw [if_neg (fun h => hb h.2.2)]
        subst hf
        have hm : (u.gen : Int) % 2 = (k : Int) := by omega
        have hbe : (u.blocks == (r.n : Int)) = false := by simpa using hb
        clear hp hb
        go_wp2_with fail
        refine wp_region_quiet_below (by kernel_rfl) (by kernel_rfl) ?_
        repeat (first
          | go_big_quiet_skip
          | go_big_quiet_step (fail))
        refine wpQuiet_nil ?_
        intro w11 hw
        have k11 := keeps_cls hw
        have c11 := RoAt.keep c10 k11
        have d11 := RoAt.keep d10 k11
        go_wp2
        exact ⟨⟨k + 1, by omega, rfl, ⟨by rw [HN.out]; exact d11, c11, K10.trans k11⟩⟩, by simp [intOf]; omega⟩
      · have HN : Hid ((supsTo r (k + 1)).foldl gr su0 = a) := by show _ = _; rw [HNX.out]; unfold nxS; rw [if_pos ⟨hf, hp, hb⟩]; unfold gr; rw [if_neg (by omega)]
        subst hf
        have hm : (u.gen : Int) % 2 = (k : Int) := by omega
        have hbe : (u.blocks == (r.n : Int)) = true := by simpa using hb
        have hge : ¬ (a.gen : Int) < (u.gen : Int) := by omega
        clear hp hb hg
        go_wp2_with fail
        refine wp_region_quiet_below (by kernel_rfl) (by kernel_rfl) ?_
        repeat (first
          | go_big_quiet_skip
          | go_big_quiet_step (fail))
        refine wpQuiet_nil ?_
        intro w11 hw
        have k11 := keeps_cls hw
        have c11 := RoAt.keep c10 k11
        have d11 := RoAt.keep d10 k11
        go_wp2
        exact ⟨⟨k + 1, by omega, rfl, ⟨by rw [HN.out]; exact d11, c11, K10.trans k11⟩⟩, by simp [intOf]; omega⟩
      · have HN : Hid ((supsTo r (k + 1)).foldl gr su0 = u) := by show _ = _; rw [HNX.out]; unfold nxS; rw [if_pos ⟨hf, hp, hb⟩]; unfold gr; rw [if_pos hg]
        subst hf
        have hm : (u.gen : Int) % 2 = (k : Int) := by omega
        have hbe : (u.blocks == (r.n : Int)) = true := by simpa using hb
        have hge : (a.gen : Int) < (u.gen : Int) := by omega
        clear hp hb hg
        go_wp2_with fail
        refine wp_region_quiet_below (by kernel_rfl) (by kernel_rfl) ?_
        repeat (first
          | go_big_quiet_skip
          | go_big_quiet_step (fail))
        refine wpQuiet_nil ?_
        intro w11 hw
        have k11 := keeps_cls hw
        have c11 := RoAt.keep c10 k11
        have d11 := RoAt.keep d10 k11
        have e11 := RoAt.keep e10 k11
        have T0 : Hid True := trivial
        go_wp2_with (first
          | (have := T0; refine wpList_loadS rfl _ rfl g8 rfl u huo e11 ?_; clear T0; have T1 : Hid True := trivial)
          | (have := T1; refine wpList_storeS rfl _ _ rfl g4 rfl u huo rfl a hao d11 ?_; intro w12 d12 k12; clear T1))
        exact ⟨⟨k + 1, by omega, rfl, ⟨by rw [HN.out]; exact d12, RoAt.keeps c11 k12 z24, (K10.trans k11).trans' k12 (fun i e => .inr (by omega))⟩⟩, by simp [intOf]; omega⟩
    · obtain rfl : k = 2 := by omega
      obtain ⟨a, hae, hao⟩ : ∃ a, (supsTo r 2).foldl gr su0 = a ∧ a.Ok := ⟨_, rfl, HO.out 2 hk⟩
      have HF : Hid (newR r = if a.gen = 0 then (su0, 13) else (a, 0)) := by show _ = _; rw [HR.out, ← hae]; rfl
      have hbest := hI.best
      rw [hae] at hbest
      have hout := hI.out
      have hkp := hI.keeps
      have q0 := (SuAt.parts hbest).1
      have hgo := hao.gen
      clear hI hae
      have T0 : Hid True := trivial
      by_cases hz : a.gen = 0
      · have hz1 : ((a.gen : Int) == 0) = true := by simpa using hz
        go_wp2_with (first
          | (have := T0; refine wpList_buildS0 rfl rfl ?_; clear T0; have T1 : Hid True := trivial)
          | (have := T1; refine wpList_storeS rfl _ _ rfl g2 rfl su0 su0_ok rfl su0 su0_ok hout ?_; intro w8 b8 k8; clear T1))
        refine bodyPost_ret (results_su28 _ g2 _ su0 su0_ok 13 rfl rfl b8) rfl ?_
        rw [HF.out, if_pos hz]
        exact ⟨rfl, hkp.trans' k8 (fun i e => .inr (by omega))⟩
      · have hz1 : ((a.gen : Int) == 0) = false := by simpa using hz
        go_wp2_with (first
          | (have := T0; refine wpList_loadS rfl _ rfl g4 rfl a hao hbest ?_; clear T0; have T1 : Hid True := trivial)
          | (have := T1; refine wpList_storeS rfl _ _ rfl g2 rfl a hao rfl su0 su0_ok hout ?_; intro w8 b8 k8; clear T1))
        refine bodyPost_ret (results_su28 _ g2 _ a hao 0 rfl rfl b8) rfl ?_
        rw [HF.out, if_neg hz]
        exact ⟨rfl, hkp.trans' k8 (fun i e => .inr (by omega))⟩

theorem rnw (h : Half B X w p gb p' gb' s r) (hok : r.Ok) (hb : r.Bw) (hn : 2 ≤ r.n) (hws : r.ws.length < 999999) :
    Calls Tryd.prog 28 #[.pointer (some ⟨p', 0, none⟩)] w fun e w' => e = .returned (toldS (newR r)) ∧ Keeps (fun _ => False) w w' := by
  cases hd : r.dn with
  | true => exact rnw_down h hok hn hws hd
  | false => exact rnw_up h hok hb hn hws hd
end

end Go.Proofs.YtdgnjpdjohibeaaDoor
