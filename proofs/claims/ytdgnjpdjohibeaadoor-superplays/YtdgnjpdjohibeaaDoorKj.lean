/-
  The superblocks of a disk, one behind the other: the iterator.
-/
import Derived.Test.YtdgnjpdjohibeaaDoorKi
set_option linter.all false
set_option maxRecDepth 100000
namespace Go.Proofs.YtdgnjpdjohibeaaDoor
open Go.RowKit Go.Sort Go.Shelf

theorem grown_of_keeps {w w' : World} (h : Keeps (fun _ => False) w w') : w.grownBy w' none := ⟨h.os, h.tape, h.output, h.size, fun k hk _ => h.block k hk (fun h => h)⟩
theorem split_at {α : Type} {l : List α} {i : Nat} {x : α} (h : l[i]? = some x) : l = l.take i ++ x :: l.drop (i + 1) := by
  obtain ⟨h1, h2⟩ := List.getElem?_eq_some_iff.1 h
  rw [← h2, ← List.drop_eq_getElem_cons h1, List.take_append_drop]

theorem pair_eta {α β : Type} (p : α × β) : p = (p.1, p.2) := by cases p; rfl

theorem supers48 (w : World) (p : Nat) :
    Calls Tryd.prog 48 #[.pointer (some ⟨p, 0, none⟩)] w fun e w' => ∃ g, e = .returned (.func (.func 55) #[] #[.pointer (some ⟨g, 0, none⟩)]) ∧ RoAt w' g 45 #[.pointer (some ⟨p, 0, none⟩)] ∧ w.heap.size ≤ g ∧ Keeps (fun _ => False) w w' := by
  go_enter Tryd.func48, Tryd.ntmps48
  go_wp2
  go_ret
  exact ⟨_, rfl, ⟨heap_alloc_new w _⟩, Nat.le_refl _, keeps_alloc w _⟩

def encS (u : Su) : Array Value := #[.agg u.cells]
/-- What the iterator has at hand. -/
structure SuIt (B : Nat) (C : Nat → Prop) (p gb : Nat) (s : DS) (g : Nat) (J : List Su → World → Prop) (W : World) (pre : List Su) (wr : World) : Prop where
  j : J pre wr
  cell : RoAt wr g 45 #[.pointer (some ⟨p, 0, none⟩)]
  lies : Lies B C wr p gb s
  tabs : Tabs wr
  size : W.heap.size ≤ wr.heap.size
theorem SuIt.keep {B : Nat} {C : Nat → Prop} {p gb : Nat} {s : DS} {g : Nat} {J : List Su → World → Prop} {W wr w' : World} {pre : List Su} (hJ : OwnFrom W.heap.size J) (h : SuIt B C p gb s g J W pre wr) (kp : Keeps (fun _ => False) wr w') : SuIt B C p gb s g J W pre w' :=
  ⟨hJ pre wr w' none h.j (grown_of_keeps kp) (fun r e => by cases e), RoAt.keep h.cell kp, h.lies.kept kp, h.tabs.keeps kp (fun h => h) (fun h => h), Nat.le_trans h.size kp.size⟩

set_option maxHeartbeats 4000000 in
theorem sups55 (B : Nat) (C S : Nat → Prop) (w : World) (p gb g : Nat) (s : DS) (hg : RoAt w g 45 #[.pointer (some ⟨p, 0, none⟩)]) (hl : Lies B C w p gb s) (hT : Tabs w) (hok : s.Ok) (hb : s.Bw) (hn : 2 ≤ s.n) (hd : s.dn = false) (hws : s.ws.length < 999999) (hSC : ∀ k, S k → C k) (hS1 : ¬ S g) (hS2 : ∀ k, S k → 2 ≤ k) :
    SeqO Tryd.prog 55 #[.pointer (some ⟨g, 0, none⟩)] encS (KpX S) (sups s) w := by
  intro ly ny J Jx W hW hJ hJx hY h0
  have hwW : Keeps (fun _ => False) w W := ⟨hW.os, hW.tape, hW.output, hW.size, fun k hk _ => hW.block k hk⟩
  have hI : SuIt B C p gb s g J W (supsTo s 0) W := ⟨h0, RoAt.keep hg hwW, hl.kept hwW, hT.keeps hwW (fun h => h) (fun h => h), Nat.le_refl _⟩
  have HJ : Hid (OwnFrom W.heap.size J) := hJ
  have HSC : Hid (∀ k, S k → C k) := hSC
  have HS2 : Hid (∀ k, S k → 2 ≤ k) := hS2
  have Hn : Hid (2 ≤ s.n) := hn
  clear hg hl hT hwW h0 hJ hJx hSC hS2 hn
  refine callsIn_of_wp Tryd.func55 rfl trivial ?_ rfl
  simp only [Tryd.ntmps55, List.size_toArray, List.length_cons, List.length_nil, Nat.reduceAdd, Nat.reduceSub, Array.replicate_succ, Array.replicate_zero, List.push_toArray, List.append_toArray, List.nil_append, List.cons_append]
  gi_wp2
  gi_loopw [7] (fun t wr => ∃ i : Nat, i ≤ 2 ∧ t = .int .i64 (i : Int) ∧ SuIt B C p gb s g J W (supsTo s i) wr) (fun t _ => 2 - (intOf t).toNat)
  case atStart => exact ⟨0, by omega, rfl, hI⟩
  case round =>
    clear hI
    obtain ⟨i, hi, rfl, hR⟩ := hrel
    by_cases hlt : i < 2
    · have hlt' : (i : Int) < 2 := by omega
      have hin : i < s.n := by have := Hn.out; omega
      have cg : wr.cell? ⟨g, 0, none⟩ = some (.pointer (some ⟨p, 0, none⟩)) := hR.cell.cell 0
      obtain ⟨L, hL⟩ : ∃ L, dsb s i = L := ⟨_, rfl⟩
      have lL : L.length = 128 := by rw [← hL]; exact (hb.block hok hin).2
      obtain ⟨u, e1, hD⟩ : ∃ u e1, decR L = (u, e1) := ⟨_, _, pair_eta _⟩
      have hu : u.Ok := by have := decR_ok lL; rw [hD] at this; exact this
      have HD : Hid (decR L = (u, e1)) := hD
      have HSu : Hid (supsTo s (i + 1) = supsTo s i ++ (cand s i).toList) := supsTo_succ s i
      have HCa : Hid (cand s i = if e1 = 0 ∧ u.gen % 2 = i ∧ u.blocks = (s.n : Int) then some u else none) := by show _ = _; unfold cand; rw [hL, hD]
      have HL : Hid (dsb s i = L) := hL
      clear hD hL
      have T0 : Hid True := trivial
      gi_wp2_with (first
        | (have := T0; refine ⟨trivial, (fun h => by cases h), ?_⟩; gi_at_call 56; refine (callsIn_wide.2 (read_at hR.lies hok hb hws hin hd HL.out)).mono ?_; rintro ed w1 ⟨rfl, k1⟩; have R1 := hR.keep HJ.out k1; clear T0; have T1 : Hid True := trivial)
        | (have := T1; refine in_wide (fun _ h => by cases h) ?_; refine wpList_alloc26 rfl rfl ?_; intro g4 w2 b2 z2 k2; refine OnlyN.go ?_; clear T1; have T2 : Hid True := trivial)
        | (have := T2; refine in_wide (fun _ h => by cases h) ?_; refine wpList_store26 rfl _ _ rfl g4 rfl L rfl lL _ b2 ?_; intro w3 b3 k3; refine OnlyN.go ?_; have K3 : Keeps (fun _ => False) w1 w3 := k2.trans' k3 (fun i e => .inr (by omega)); have R3 := R1.keep HJ.out K3; clear T2; have T3 : Hid True := trivial)
        | (have := T3; refine in_wide (fun _ h => by cases h) ?_; refine wpList_load26 rfl _ rfl g4 rfl L b3 ?_; refine OnlyN.go ?_; clear T3; have T4 : Hid True := trivial)
        | (have := T4; refine ⟨trivial, (fun h => by cases h), ?_⟩; gi_at_call 12; refine (callsIn_wide.2 (decP_is HD.out _ R3.tabs lL)).mono ?_; rintro ed w4 ⟨rfl, k4⟩; have R4 := R3.keep HJ.out k4; clear T4; have T5 : Hid True := trivial)
        | (have := T5; refine in_wide (fun _ h => by cases h) ?_; refine wpList_allocS rfl rfl ?_; intro g6 w5 b5 z5 k5; refine OnlyN.go ?_; clear T5; have T6 : Hid True := trivial)
        | (have := T6; refine in_wide (fun _ h => by cases h) ?_; refine wpList_storeS rfl _ _ rfl g6 rfl u hu rfl su0 su0_ok b5 ?_; intro w6 b6 k6; refine OnlyN.go ?_; have K6 : Keeps (fun _ => False) w4 w6 := k5.trans' k6 (fun i e => .inr (by omega)); have R6 := R4.keep HJ.out K6; clear T6))
      have kd : Keeps (fun _ => False) w6 w6.drew := (Keeps.refl _ _).drew
      have pc : ∀ d os, (grow (redrawn w6 d) os).cell? ⟨g6, 1, none⟩ = some (.int .i64 u.blocks) := fun d os => (SuAt.parts (RoAt.cls b6 ⟨{ d := d, os := os }, rfl⟩)).2.1
      have cc : ∀ d os, (grow (redrawn w6 d) os).cell? ⟨g, 0, none⟩ = some (.pointer (some ⟨p, 0, none⟩)) := fun d os => (RoAt.cls R6.cell ⟨{ d := d, os := os }, rfl⟩).cell 0
      obtain ⟨hm, hhm⟩ : ∃ hm, u.gen % 2 = hm := ⟨_, rfl⟩
      have Hm : Hid (u.gen % 2 = hm) := hhm
      rw [hhm] at HCa
      clear hhm cg hR R1 k1 b2 z2 k2 b3 k3 K3 R3 k4 R4 b5 z5 k5 k6 K6 HL HD lL
      by_cases he : e1 = 0
      · subst he
        by_cases hh : hm = i
        · subst hh
          by_cases hbl : u.blocks = (s.n : Int)
          · have hcn : cand s hm = some u := by rw [HCa.out, if_pos ⟨rfl, rfl, hbl⟩]
            have hbe : (u.blocks == (s.n : Int)) = true := by simpa using hbl
            obtain ⟨rest, hrest⟩ := sups_at hlt hcn
            have HX : Hid (sups s = supsTo s hm ++ u :: rest) := hrest
            have hY1 : Hid (∀ w1, J (supsTo s hm) w1 → _) := fun w1 hj1 => hY _ _ _ w1 HX.out hj1
            have HN : Hid (supsTo s (hm + 1) = supsTo s hm ++ [u]) := by show _ = _; rw [HSu.out, hcn]; rfl
            clear hbl hY hrest HCa HSu
            refine region_plan_in (S := fun w' => ∃ p : Regrown, w' = grow (redrawn w6 p.d) p.os) [([0, 1, 2, 3, 5], 4), ([6, 7, 8, 9, 10, 11], 12)] [13, 14] (sem_wide _) (by kernel_rfl) (by kernel_rfl) (by kernel_rfl) (by kernel_rfl) (cls_keeps ((Keeps.refl _ _).drew)) ?_
            simp only [wpPlanIn, opsAt, pick]
            repeat (first
              | go_big_quiet_skip
              | (go_big_quiet_want; refine quiet_loadS _ rfl g6 rfl u hu (fun w' hp => RoAt.cls b6 hp) ?_; simp only [Act.put, List.setIfInBounds_toArray, List.set_cons_zero, List.set_cons_succ]; go_big_quiet_on)
              | go_big_quiet_step (fail))
            refine wpQuiet_nil ?_
            gi_wp2_with (refine ⟨trivial, (fun h => by cases h), ?_⟩; gi_at_call 40; refine (callsIn_wide.2 (home40 _ u hu Hm.out)).mono ?_; rintro ed w7 ⟨rfl, k7⟩)
            have K7 := kd.trans k7
            refine ⟨cls_keeps K7, ?_⟩
            simp only [wpPlanIn, opsAt, pick]
            repeat (first
              | go_big_quiet_skip
              | (go_big_quiet_want; refine quiet_loadS _ rfl g6 rfl u hu (fun w' hp => RoAt.cls b6 hp) ?_; simp only [Act.put, List.setIfInBounds_toArray, List.set_cons_zero, List.set_cons_succ]; go_big_quiet_on)
              | go_big_quiet_step (fail))
            refine wpQuiet_nil ?_
            gi_wp2_with (refine ⟨trivial, (fun h => by cases h), ?_⟩; gi_at_call 39; refine (callsIn_wide.2 (len_at (R6.lies.kept K7))).mono ?_; rintro ed w8 ⟨rfl, k8⟩)
            have K8 := K7.trans k8
            refine ⟨cls_keeps K8, ?_⟩
            simp only [wpPlanIn, opsAt, pick]
            repeat (first
              | go_big_quiet_skip
              | (go_big_quiet_want; refine quiet_loadS _ rfl g6 rfl u hu (fun w' hp => RoAt.cls b6 hp) ?_; simp only [Act.put, List.setIfInBounds_toArray, List.set_cons_zero, List.set_cons_succ]; go_big_quiet_on)
              | go_big_quiet_step (fail))
            refine wpQuiet_nil ?_
            refine NoPanic.normal ?_
            have R8 := R6.keep HJ.out K8
            have b8 := RoAt.keep b6 K8
            have Hc : Hid (encS u = #[.agg u.cells]) := rfl
            obtain ⟨fn, tmps, assign, body, hy, hRd⟩ := hY1.out _ R8.j
            rw [Hc.out] at hy
            gi_wp2_with (refine in_wide (fun _ h => by cases h) ?_; refine wpList_loadS rfl _ rfl g6 rfl u hu b8 ?_; refine OnlyN.go ?_)
            refine ⟨fun h => by (cases h), hRd.mono ?_⟩
            rintro ed W3 ⟨hkf3, (⟨rfl, hJ3, hk3⟩ | ⟨rfl, hJx3⟩)⟩
            · have hC3 := RoAt.kpx R8.cell hk3 hS1
              have hL3 := R8.lies.kpx ⟨hk3.1, fun k cs t fr e hs => hk3.2 k cs t fr e (fun h => hs (HSC.out k h))⟩
              have hT3 := R8.tabs.kpx hk3 (fun h => by have := HS2.out _ h; omega) (fun h => by have := HS2.out _ h; omega)
              have hs3 : W.heap.size ≤ W3.heap.size := by have := hk3.1; have := R8.size; omega
              gi_wp2
              exact ⟨⟨hm + 1, by omega, rfl, by rw [HN.out]; exact ⟨hJ3, hC3, hL3, hT3, hs3⟩⟩, by simp [intOf]; omega⟩
            · gi_wp2
              refine bodyPost_ret (results_none rfl _ _ _) rfl ?_
              exact ⟨⟨_, rfl⟩, .inr ⟨_, _, _, HX.out, hJx3⟩⟩
          · have hcn : cand s hm = none := by rw [HCa.out, if_neg (fun h => hbl h.2.2)]
            have hbe : (u.blocks == (s.n : Int)) = false := by simpa using hbl
            refine region_plan_in (S := fun w' => ∃ p : Regrown, w' = grow (redrawn w6 p.d) p.os) [([0, 1, 2, 3, 5], 4), ([6, 7, 8, 9, 10, 11], 12)] [13, 14] (sem_wide _) (by kernel_rfl) (by kernel_rfl) (by kernel_rfl) (by kernel_rfl) (cls_keeps ((Keeps.refl _ _).drew)) ?_
            simp only [wpPlanIn, opsAt, pick]
            repeat (first
              | go_big_quiet_skip
              | (go_big_quiet_want; refine quiet_loadS _ rfl g6 rfl u hu (fun w' hp => RoAt.cls b6 hp) ?_; simp only [Act.put, List.setIfInBounds_toArray, List.set_cons_zero, List.set_cons_succ]; go_big_quiet_on)
              | go_big_quiet_step (fail))
            refine wpQuiet_nil ?_
            gi_wp2_with (refine ⟨trivial, (fun h => by cases h), ?_⟩; gi_at_call 40; refine (callsIn_wide.2 (home40 _ u hu Hm.out)).mono ?_; rintro ed w7 ⟨rfl, k7⟩)
            have K7 := kd.trans k7
            refine ⟨cls_keeps K7, ?_⟩
            simp only [wpPlanIn, opsAt, pick]
            repeat (first
              | go_big_quiet_skip
              | (go_big_quiet_want; refine quiet_loadS _ rfl g6 rfl u hu (fun w' hp => RoAt.cls b6 hp) ?_; simp only [Act.put, List.setIfInBounds_toArray, List.set_cons_zero, List.set_cons_succ]; go_big_quiet_on)
              | go_big_quiet_step (fail))
            refine wpQuiet_nil ?_
            gi_wp2_with (refine ⟨trivial, (fun h => by cases h), ?_⟩; gi_at_call 39; refine (callsIn_wide.2 (len_at (R6.lies.kept K7))).mono ?_; rintro ed w8 ⟨rfl, k8⟩)
            have K8 := K7.trans k8
            refine ⟨cls_keeps K8, ?_⟩
            simp only [wpPlanIn, opsAt, pick]
            repeat (first
              | go_big_quiet_skip
              | (go_big_quiet_want; refine quiet_loadS _ rfl g6 rfl u hu (fun w' hp => RoAt.cls b6 hp) ?_; simp only [Act.put, List.setIfInBounds_toArray, List.set_cons_zero, List.set_cons_succ]; go_big_quiet_on)
              | go_big_quiet_step (fail))
            refine wpQuiet_nil ?_
            refine NoPanic.normal ?_
            have R8 := R6.keep HJ.out K8
            gi_wp2
            exact ⟨⟨hm + 1, by omega, rfl, by rw [HSu.out, hcn]; simpa using R8⟩, by simp [intOf]; omega⟩
        · have hcn : cand s i = none := by rw [HCa.out, if_neg (fun h => hh h.2.1)]
          have hhe : ((hm : Int) != (i : Int)) = true := by simpa using (by omega : ¬ (hm : Int) = (i : Int))
          refine region_plan_in (S := fun w' => ∃ p : Regrown, w' = grow (redrawn w6 p.d) p.os) [([0, 1, 2, 3, 5], 4), ([6, 7, 8, 9, 10, 11], 12)] [13, 14] (sem_wide _) (by kernel_rfl) (by kernel_rfl) (by kernel_rfl) (by kernel_rfl) (cls_keeps ((Keeps.refl _ _).drew)) ?_
          simp only [wpPlanIn, opsAt, pick]
          repeat (first
            | go_big_quiet_skip
            | (go_big_quiet_want; refine quiet_loadS _ rfl g6 rfl u hu (fun w' hp => RoAt.cls b6 hp) ?_; simp only [Act.put, List.setIfInBounds_toArray, List.set_cons_zero, List.set_cons_succ]; go_big_quiet_on)
            | go_big_quiet_step (fail))
          refine wpQuiet_nil ?_
          gi_wp2_with (refine ⟨trivial, (fun h => by cases h), ?_⟩; gi_at_call 40; refine (callsIn_wide.2 (home40 _ u hu Hm.out)).mono ?_; rintro ed w7 ⟨rfl, k7⟩)
          have K7 := kd.trans k7
          refine ⟨cls_keeps K7, ?_⟩
          simp only [wpPlanIn, opsAt, pick]
          repeat (first
            | go_big_quiet_skip
            | (go_big_quiet_want; refine quiet_loadS _ rfl g6 rfl u hu (fun w' hp => RoAt.cls b6 hp) ?_; simp only [Act.put, List.setIfInBounds_toArray, List.set_cons_zero, List.set_cons_succ]; go_big_quiet_on)
            | go_big_quiet_step (fail))
          refine wpQuiet_nil ?_
          gi_wp2_with (refine ⟨trivial, ?_⟩)
          refine ⟨cls_keeps K7, ?_⟩
          simp only [wpPlanIn, opsAt, pick]
          repeat (first
            | go_big_quiet_skip
            | (go_big_quiet_want; refine quiet_loadS _ rfl g6 rfl u hu (fun w' hp => RoAt.cls b6 hp) ?_; simp only [Act.put, List.setIfInBounds_toArray, List.set_cons_zero, List.set_cons_succ]; go_big_quiet_on)
            | go_big_quiet_step (fail))
          refine wpQuiet_nil ?_
          refine NoPanic.normal ?_
          have R8 := R6.keep HJ.out K7
          gi_wp2
          exact ⟨⟨i + 1, by omega, rfl, by rw [HSu.out, hcn]; simpa using R8⟩, by simp [intOf]; omega⟩
      · have hcn : cand s i = none := by rw [HCa.out, if_neg (fun h => he h.1)]
        have hee : (e1 != 0) = true := by simpa using he
        refine region_plan_in (S := fun w' => ∃ p : Regrown, w' = grow (redrawn w6 p.d) p.os) [([0, 1, 2, 3, 5], 4), ([6, 7, 8, 9, 10, 11], 12)] [13, 14] (sem_wide _) (by kernel_rfl) (by kernel_rfl) (by kernel_rfl) (by kernel_rfl) (cls_keeps ((Keeps.refl _ _).drew)) ?_
        simp only [wpPlanIn, opsAt, pick]
        repeat (first
          | go_big_quiet_skip
          | (go_big_quiet_want; refine quiet_loadS _ rfl g6 rfl u hu (fun w' hp => RoAt.cls b6 hp) ?_; simp only [Act.put, List.setIfInBounds_toArray, List.set_cons_zero, List.set_cons_succ]; go_big_quiet_on)
          | go_big_quiet_step (fail))
        refine wpQuiet_nil ?_
        gi_wp2_with (refine ⟨trivial, ?_⟩)
        refine ⟨cls_keeps kd, ?_⟩
        simp only [wpPlanIn, opsAt, pick]
        repeat (first
          | go_big_quiet_skip
          | (go_big_quiet_want; refine quiet_loadS _ rfl g6 rfl u hu (fun w' hp => RoAt.cls b6 hp) ?_; simp only [Act.put, List.setIfInBounds_toArray, List.set_cons_zero, List.set_cons_succ]; go_big_quiet_on)
          | go_big_quiet_step (fail))
        refine wpQuiet_nil ?_
        gi_wp2_with (refine ⟨trivial, ?_⟩)
        refine ⟨cls_keeps kd, ?_⟩
        simp only [wpPlanIn, opsAt, pick]
        repeat (first
          | go_big_quiet_skip
          | (go_big_quiet_want; refine quiet_loadS _ rfl g6 rfl u hu (fun w' hp => RoAt.cls b6 hp) ?_; simp only [Act.put, List.setIfInBounds_toArray, List.set_cons_zero, List.set_cons_succ]; go_big_quiet_on)
          | go_big_quiet_step (fail))
        refine wpQuiet_nil ?_
        refine NoPanic.normal ?_
        have R8 := R6.keep HJ.out kd
        gi_wp2
        exact ⟨⟨i + 1, by omega, rfl, by rw [HSu.out, hcn]; simpa using R8⟩, by simp [intOf]; omega⟩
    · obtain rfl : i = 2 := by omega
      have hlt' : ¬ ((2 : Nat) : Int) < 2 := by omega
      gi_wp2
      go_end0
      exact ⟨⟨_, rfl⟩, .inl hR.j⟩
end Go.Proofs.YtdgnjpdjohibeaaDoor
