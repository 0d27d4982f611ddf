/-
  SuperTurns: the walk.
-/
import Derived.Test.YtdgnjpdjohibeaaDoorNv
set_option linter.all false
set_option maxRecDepth 100000
namespace Go.Proofs.YtdgnjpdjohibeaaDoor
open Go.RowKit Go.Sort Go.Shelf

/-- A superblock and a row that lie there. -/
structure SuRo (g9 : Nat) (u : Su) (g3 : Nat) (t3 : TypeId) (cs : Array Value) where
  w : World
  su : SuAt w g9 u
  ro : RoAt w g3 t3 cs
theorem wrote_at {B : Nat} {C : Nat → Prop} {w : World} {p gb : Nat} {s d : DS} {i : Int} {L : List YtdgnjpdjohibeaaDoor.B} (hq : s.write i (L.map vb) = (0, d)) (hL : L.length = 128) (h : Lies B C w p gb s) (hf : s.Fit) (hC : ∀ k, C k → k < w.heap.size) (hBw : B ≤ w.heap.size) :
    Calls Tryd.prog 22 #[.pointer (some ⟨p, 0, none⟩), .int .i64 i, .agg (brow L)] w fun e w' => e = .returned (.int .i64 0) ∧ Lies B C w' p gb d ∧ Keeps (Own1 B C) w w' :=
  wrote_is (q := (0, d)) ⟨hq, hL⟩ h hf hC hBw

set_option maxHeartbeats 8000000 in
theorem turnsL (w : World) (hT : Tabs w) (f : Int) (hf : 0 ≤ f ∧ f < 4294967296) (x : Int) (b : B) (hx : 0 ≤ x ∧ x < 256) :
    Calls Tryd.prog 8 #[.int .u32 f, .agg #[.int .u8 x, .int .u8 (nb b)]] w fun e w' => e = .returned (.bool true) ∧ Keeps (fun _ => False) w w' := by
  obtain ⟨G, hG⟩ : ∃ G : Nat, 1 + f % 1000000 = (G : Int) := ⟨(1 + f % 1000000).toNat, by omega⟩
  obtain ⟨M, hM⟩ : ∃ M : Nat, 2 + x % 6 = (M : Int) := ⟨(2 + x % 6).toNat, by omega⟩
  have hG1 : 1 ≤ G := by omega
  have hG2 : G ≤ 1000000 := by omega
  have hM2 : 2 ≤ M := by omega
  have hM7 : M ≤ 7 := by omega
  have HG1 : Hid (1 ≤ G ∧ G ≤ 1000000 ∧ 2 ≤ M ∧ M ≤ 7) := ⟨hG1, hG2, hM2, hM7⟩
  clear hG1 hG2 hM2 hM7
  have T0 : Hid True := trivial
  go_enter Tryd.func8, Tryd.ntmps8
  go_wp2_with (first
    | (have tt := T0; refine wpList_boxR rfl 78 _ rfl #[.int .u8 x, .int .u8 (nb b)] rfl ?_; intro g3 w1 b1 z1 k1; clear T0 tt; have T1 : Hid True := trivial)
    | (have tt := T1; go_at_call 18; refine (new16_at _).mono ?_; rintro e w2 ⟨rfl, l2, s2, k2⟩; have b2 := RoAt.keep b1 k2; have K2 := k1.trans k2; have p0 : w2.cell? ⟨g3, 0, none⟩ = some (.int .u8 x) := b2.cell 0; clear T1 tt; have T2 : Hid True := trivial)
    | (have tt := T2; refine wpList_buildS0 rfl rfl ?_; clear T2 tt; have T3 : Hid True := trivial)
    | (have tt := T3; refine wpList_allocS rfl rfl ?_; intro g9 w3 c3 z3 k3; have b3 := RoAt.keep b2 k3; have l3 := l2.kept k3; have K3 := K2.trans k3; have v9 : w1.heap.size + 2 ≤ g9 := (by omega); clear T3 tt; have T4 : Hid True := trivial)
    | (have tt := T4; refine wpList_storeS rfl _ _ rfl g9 rfl su0 su0_ok rfl su0 su0_ok c3 ?_; intro w4 c4 k4; have n39 : g3 ≠ g9 := (by have := RoAt.lt b1; omega); have b4 := RoAt.keeps b3 k4 n39; have l4 : Lies w1.heap.size (fun k => k = g9) w4 (w1.heap.size + 1) w1.heap.size (DS.new 16) := (Lies.more (C' := fun k => k = g9) l2 (fun k e => .inr (by omega))).kept k3 |>.keptC k4; have K4 : Keeps (fun _ => False) w w4 := K3.trans' k4 (fun i e => .inr (by have := k1.size; omega)); clear T4 tt))
  have u0 := td_new G
  have lg3 := RoAt.lt b1
  have hw1 := k1.size
  have hT4 := hT.keeps K4 (fun h => h) (fun h => h)
  have S4 : w1.heap.size ≤ w4.heap.size := by have := k3.size; have := k4.size; omega
  have hts := hT.size
  clear b1 k1 k2 l2 b2 K2 p0 c3 k3 b3 l3 K3 k4 z3
  generalize DS.new 16 = d0 at *
  go_loopw [10] (fun t wr => ∃ (i : Nat) (d : DS) (u : Su), i ≤ M ∧ t = .int .i64 (i : Int) ∧ TD G i d ∧ u.Ok ∧ (0 < i → u = tsup G (i - 1)) ∧ Lies w1.heap.size (fun k => k = g9) wr (w1.heap.size + 1) w1.heap.size d ∧ SuAt wr g9 u ∧ RoAt wr g3 78 #[.int .u8 x, .int .u8 (nb b)] ∧ Tabs wr ∧ Keeps (fun _ => False) w wr ∧ w1.heap.size ≤ wr.heap.size) (fun t _ => M - (intOf t).toNat)
  case atStart => exact ⟨0, d0, su0, by omega, rfl, u0, su0_ok, (fun h => by omega), l4, c4, b4, hT4, K4, S4⟩
  case round =>
    clear u0 l4 c4 b4 hT4 K4 S4
    obtain ⟨i, d, u, hi, rfl, hd, huo, hul, hl, hu, hb, hTr, hk, hs⟩ := hrel
    by_cases hlt : i < M
    · have hlt' : (i : Int) < (M : Int) := by omega
      obtain ⟨d', e1, hd', N1⟩ := hd.step HG1.out.1 HG1.out.2.1 (by have := HG1.out; omega)
      obtain ⟨v, hv⟩ : ∃ v, tsup G i = v := ⟨_, rfl⟩
      have hvo : v.Ok := by rw [← hv]; exact tsup_ok HG1.out.2.1 (by have := HG1.out; omega)
      have Hv : Hid (v.gen = G + i ∧ v.blocks = 16 ∧ v.root = 2 + (i : Int) ∧ v.log = zb 32 ∧ v.used = 3 :: zb 15) := by show _; rw [← hv]; exact ⟨rfl, rfl, rfl, rfl, rfl⟩
      have HV : Hid (v = tsup G (i + 1 - 1)) := by show _ = _; rw [← hv]; rfl
      rw [hv] at e1 N1
      have E1 : Hid (wrR d v = (0, d')) := e1
      have NN : Hid (newR d' = (v, 0)) := N1
      have hf1 := hd.fit (by have := HG1.out; omega)
      have hf2 := hd'.fit (by have := HG1.out; omega)
      have qv := eqS hvo hvo (v := true) (decide_eq_true rfl)
      have hi7 : (i : Int) ≤ 7 := by have := HG1.out; omega
      have hGi : (G : Int) ≤ 1000000 := by have := HG1.out; omega
      have hG0 : (0 : Int) ≤ (G : Int) := by omega
      clear hv e1 N1 hul
      have T0 : Hid True := trivial
      go_wp2_with (first
        | (have tt := T0; refine wpList_build26c rfl _ rfl 3 rfl v.used Hv.out.2.2.2.2 ?_; clear T0 tt; have T1 : Hid True := trivial)
        | (have tt := T1; refine wpList_build28_0124 rfl _ _ _ _ rfl v hvo Hv.out.2.2.2.1 (congrArg (Value.int .u32) (by have := Hv.out.1; omega)) (congrArg (Value.int .i64) (by have := Hv.out.2.1; omega)) (congrArg (Value.int .i64) (by have := Hv.out.2.2.1; omega)) rfl ?_; clear T1 tt; have T2 : Hid True := trivial)
        | (have tt := T2; refine wpList_storeS rfl _ _ rfl g9 rfl v hvo rfl u huo hu ?_; intro w5 c5 k5; have b5 := RoAt.keeps hb k5 n39; have l5 := hl.keptC k5; have t5 := hTr.keeps k5 (fun h => by omega) (fun h => by omega); have K5 : Keeps (fun _ => False) w w5 := hk.trans' k5 (fun i e => .inr (by omega)); have S5 := Nat.le_trans hs k5.size; clear T2 tt; have T3 : Hid True := trivial)
        | (have tt := T3; refine wpList_loadS rfl (.tmp 9) rfl g9 rfl v hvo c5 ?_; clear T3 tt; have T4 : Hid True := trivial)
        | (have tt := T4; go_at_call 20; refine (write_is (q := (0, d')) E1.out l5 t5 hf1 (fun k e => by have := RoAt.lt c5; omega) S5 hvo).mono ?_; rintro e w6 ⟨rfl, l6, k6⟩; have c6 := RoAt.keeps c5 k6 (fun h => h.2 rfl); have b6 := RoAt.keeps b5 k6 (fun h => by omega); have t6 := t5.keeps k6 (fun h => by omega) (fun h => by omega); have K6 : Keeps (fun _ => False) w w6 := K5.trans' k6 (fun i e => .inr (by omega)); have S6 := Nat.le_trans S5 k6.size; clear T4 tt; have T5 : Hid True := trivial)
        | (have tt := T5; go_at_call 27; refine (newest_is NN.out l6 t6 hf2).mono ?_; rintro e w7 ⟨rfl, k7⟩; have c7 := RoAt.keep c6 k7; have b7 := RoAt.keep b6 k7; have l7 := l6.kept k7; have t7 := t6.keeps k7 (fun h => h) (fun h => h); have K7 := K6.trans k7; have S7 := Nat.le_trans S6 k7.size; clear T5 tt; have T6 : Hid True := trivial)
        | (have tt := T6; refine wpList_allocS rfl rfl ?_; intro g11 w8 e8 z8 k8; have c8 := RoAt.keep c7 k8; have b8 := RoAt.keep b7 k8; have l8 := l7.kept k8; have t8 := t7.keeps k8 (fun h => h) (fun h => h); have K8 := K7.trans k8; have S8 := Nat.le_trans S7 k8.size; have l8' := (Lies.more (C' := fun k => k = g9 ∨ k = g11) l7 (fun k e => e.elim .inl (fun h => .inr (by omega)))).kept k8; have n911 : g9 ≠ g11 := (by have := RoAt.lt c7; omega); have n311 : g3 ≠ g11 := (by have := RoAt.lt b7; omega); have zz : w.heap.size ≤ g11 := (by omega); clear T6 tt; have T7 : Hid True := trivial)
        | (have tt := T7; refine wpList_storeS rfl _ _ rfl g11 rfl v hvo rfl su0 su0_ok e8 ?_; intro w9 e9 k9; have c9 := RoAt.keeps c8 k9 n911; have b9 := RoAt.keeps b8 k9 n311; have l9 := (l8'.keptC (k9.mono (fun i _ e => .inr e))).more (C' := fun k => k = g9) (fun k e => .inl (.inl e)); have t9 := t8.keeps k9 (fun h => by omega) (fun h => by omega); have K9 : Keeps (fun _ => False) w w9 := K8.trans' k9 (fun i e => .inr (by omega)); have S9 := Nat.le_trans S8 k9.size; clear T7 tt; have T8 : Hid True := trivial)
        | (have tt := T8; refine wpList_loadS rfl (.tmp 11) rfl g11 rfl v hvo e9 ?_; clear T8 tt; have T9 : Hid True := trivial)
        | (have tt := T9; refine wpList_loadS rfl (.tmp 9) rfl g9 rfl v hvo c9 ?_; clear T9 tt))
      exact ⟨⟨i + 1, d', v, by omega, rfl, hd', hvo, (fun _ => HV.out), l9, c9, b9, t9, K9, S9⟩, by simp [intOf]; omega⟩
    · obtain rfl : i = M := by omega
      have hlt' : ¬ (i : Int) < (i : Int) := by omega
      obtain ⟨d2, d3, e2, N2, f2, e3, N3, f3⟩ := hd.fill HG1.out.1 HG1.out.2.1 HG1.out.2.2.2 HG1.out.2.2.1 b
      have hu' := hul (by have := HG1.out; omega)
      obtain ⟨v, hv⟩ : ∃ v, tsup G (i - 2) = v := ⟨_, rfl⟩
      have hvo : v.Ok := by rw [← hv]; exact tsup_ok HG1.out.2.1 (by have := HG1.out; omega)
      obtain ⟨r, hr⟩ : ∃ r : Nat, u.gen % 2 = r := ⟨_, rfl⟩
      obtain ⟨r2, hr2⟩ : ∃ r : Nat, v.gen % 2 = r := ⟨_, rfl⟩
      have hug : u.gen = G + (i - 1) := by rw [hu']; rfl
      have hvg : v.gen = G + (i - 2) := by rw [← hv]; rfl
      have hur : u.root = 2 + ((i - 1 : Nat) : Int) := by rw [hu']; rfl
      have hvr : v.root = 2 + ((i - 2 : Nat) : Int) := by rw [← hv]; rfl
      have hM2 := HG1.out.2.2.1
      rw [show (G + i + 1) % 2 = r by omega] at e2
      rw [show (G + i) % 2 = r2 by omega] at e3
      rw [hv] at N2
      have E2 : Hid (d.write (r : Int) ((List.replicate 128 b).map vb) = (0, d2)) := e2
      have E3 : Hid (d2.write (r2 : Int) ((zb 128).map vb) = (0, d3)) := e3
      have NN2 : Hid (newR d2 = (v, 0)) := N2
      have NN3 : Hid (newR d3 = (su0, 13)) := N3
      have hf1 := hd.fit (by have := HG1.out; omega)
      have hrI : (u.gen : Int) % 2 = (r : Int) := by omega
      have hrI2 : (v.gen : Int) % 2 = (r2 : Int) := by omega
      have hgg : (u.gen : Int) - 1 = (v.gen : Int) := by omega
      have hrr : u.root - 1 = v.root := by omega
      have hgb : (u.gen : Int) < 4294967296 := by have := huo.gen; omega
      have hgv : (v.gen : Int) < 4294967296 := by have := hvo.gen; omega
      have hg1 : (1 : Int) ≤ (u.gen : Int) := by have := HG1.out; omega
      have hrb := huo.root
      have lrep : (List.replicate 128 b).length = 128 := by simp
      clear hul hu' hv hr hr2 hug hvg hur hvr e2 e3 N2 N3 hd hM2
      have FB : Hid (∀ w, Calls Tryd.prog 33 #[.int .u8 (nb b)] w fun e w' => e = .returned (.agg (brow (List.replicate 128 b))) ∧ Keeps (fun _ => False) w w') := fillB_at b
      generalize List.replicate 128 b = R at *
      have ne0 : Nonempty (SuRo g9 u g3 78 #[.int .u8 x, .int .u8 (nb b)]) := ⟨⟨_, hu, hb⟩⟩
      have cg : ∀ q : SuRo g9 u g3 78 #[.int .u8 x, .int .u8 (nb b)], q.w.cell? ⟨g9, 0, none⟩ = some (.int .u32 (u.gen : Int)) := fun q => (SuAt.parts q.su).1
      have cb : ∀ q : SuRo g9 u g3 78 #[.int .u8 x, .int .u8 (nb b)], q.w.cell? ⟨g3, 1, none⟩ = some (.int .u8 (nb b)) := fun q => q.ro.cell 1
      have kd : Keeps (fun _ => False) wr wr.drew := (Keeps.refl _ _).drew
      go_wp2
      refine region_plan (S := fun w' => ∃ q : SuRo g9 u g3 78 #[.int .u8 x, .int .u8 (nb b)], w' = q.w) [([0, 1, 2, 3, 4, 5, 6], 7), ([], 8)] [] (by kernel_rfl) (by kernel_rfl) (by kernel_rfl) (by kernel_rfl) ⟨⟨_, RoAt.keep hu kd, RoAt.keep hb kd⟩, rfl⟩ ?_
      simp only [wpPlan, opsAt, pick]
      repeat (go_big_quiet_step (fail))
      refine wpQuiet_nil ?_
      go_wp2_with (go_at_call 33; refine (FB.out _).mono ?_; rintro e w5 ⟨rfl, k5⟩)
      have k05 := kd.trans k5
      have c5 := RoAt.keep hu k05
      have b5 := RoAt.keep hb k05
      have l5 := hl.kept k05
      have t5 := hTr.keeps k05 (fun h => h) (fun h => h)
      have K5 := hk.trans k05
      have S5 := Nat.le_trans hs k05.size
      clear k05 k5 kd
      refine ⟨⟨⟨_, c5, b5⟩, rfl⟩, ?_⟩
      simp only [wpPlan, opsAt, pick]
      refine wpQuiet_nil ?_
      go_wp2_with (go_at_call 22; refine (wrote_at E2.out lrep l5 hf1 (fun k e => by have := RoAt.lt c5; omega) S5).mono ?_; rintro e w6 ⟨rfl, l6, k6⟩)
      have c6 := RoAt.keeps c5 k6 (fun h => h.2 rfl)
      have b6 := RoAt.keeps b5 k6 (fun h => by omega)
      have t6 := t5.keeps k6 (fun h => by omega) (fun h => by omega)
      have K6 : Keeps (fun _ => False) w w6 := K5.trans' k6 (fun i e => .inr (by omega))
      have S6 := Nat.le_trans S5 k6.size
      clear k6 c5 b5 l5 t5 K5 S5
      refine ⟨⟨⟨_, c6, b6⟩, rfl⟩, ?_⟩
      simp only [wpPlan, opsAt, pick]
      refine wpQuiet_nil ?_
      refine NoPanic.normal ?_
      have T0 : Hid True := trivial
      have Z0 : Hid (∀ {ops : Array Oper} {rest : List Oper} {o : Oper} {a : Act} {w : World} {Q : Exit → Act → World → Prop}, o.guard = none → o.op = .build 30 #[] → wpList Tryd.prog ops Q rest (a.put o.dst (.agg (brow (zb 128)))) w → wpList Tryd.prog ops Q (o :: rest) a w) := fun a b c => wpList_build26 a b c
      have lz := zb_len 128
      generalize zb 128 = Z at *
      obtain ⟨a, ha⟩ : ∃ a : Int, (u.gen : Int) = a := ⟨_, rfl⟩
      obtain ⟨ρ, hρ⟩ : ∃ a : Int, u.root = a := ⟨_, rfl⟩
      have HA : Hid ((u.gen : Int) = a) := ha
      have HC : Hid ((v.gen : Int) = a - 1) := by show _ = _; omega
      have HR : Hid (u.root = ρ) := hρ
      have HS : Hid (v.root = ρ - 1) := by show _ = _; omega
      have ha1 : 1 ≤ a := by omega
      have ha2 : a < 4294967296 := by omega
      have hr1 : (a - 1) % 2 = (r2 : Int) := by omega
      have hρ1 : -9223372036854775808 ≤ ρ - 1 := by have := hvo.root; omega
      have hρ2 : ρ ≤ 9223372036854775807 := by omega
      clear hM hG hf hx hrI hlt hlt' hi HG1 ne0 cg cb ha hρ hgg hrr hgb hgv hg1 hrb hrI2
      go_wp2_with (first
        | (have tt := T0; go_at_call 27; refine (newest_is NN2.out l6 t6 f2).mono ?_; rintro e w7 ⟨rfl, k7⟩; have c7 := RoAt.keep c6 k7; have l7 := l6.kept k7; have t7 := t6.keeps k7 (fun h => h) (fun h => h); have K7 := K6.trans k7; have S7 := Nat.le_trans S6 k7.size; clear T0 tt; have T1 : Hid True := trivial)
        | (have tt := T1; refine wpList_allocS rfl rfl ?_; intro g13 w8 e8 z8 k8; have c8 := RoAt.keep c7 k8; have l8' := (Lies.more (C' := fun k => k = g9 ∨ k = g13) l7 (fun k e => e.elim .inl (fun h => .inr (by omega)))).kept k8; have t8 := t7.keeps k8 (fun h => h) (fun h => h); have K8 := K7.trans k8; have S8 := Nat.le_trans S7 k8.size; have n913 : g9 ≠ g13 := (by have := RoAt.lt c7; omega); have zz : w.heap.size ≤ g13 := (by omega); clear T1 tt; have T2 : Hid True := trivial)
        | (have tt := T2; refine wpList_storeS rfl _ _ rfl g13 rfl v hvo rfl su0 su0_ok e8 ?_; intro w9 e9 k9; have c9 := RoAt.keeps c8 k9 n913; have l9 := l8'.keptC (k9.mono (fun i _ e => .inr e)); have t9 := t8.keeps k9 (fun h => by omega) (fun h => by omega); have K9 : Keeps (fun _ => False) w w9 := K8.trans' k9 (fun i e => .inr (by omega)); have S9 := Nat.le_trans S8 k9.size; obtain ⟨p0, _, p2⟩ := SuAt.parts c9; obtain ⟨q0, _, q2⟩ := SuAt.parts e9; rw [HA.out] at p0; rw [HR.out] at p2; rw [HC.out] at q0; rw [HS.out] at q2; clear T2 tt; have T3 : Hid True := trivial)
        | (have tt := T3; refine Z0.out rfl rfl ?_; clear T3 tt; have T4 : Hid True := trivial)
        | (have tt := T4; go_at_call 22; refine (wrote_at E3.out lz l9 f2 (fun k e => by have := RoAt.lt c9; have := RoAt.lt e9; omega) S9).mono ?_; rintro e w10 ⟨rfl, l10, k10⟩; have t10 := t9.keeps k10 (fun h => by omega) (fun h => by omega); have K10 : Keeps (fun _ => False) w w10 := K9.trans' k10 (fun i e => .inr (by omega)); clear T4 tt; have T5 : Hid True := trivial)
        | (have tt := T5; go_at_call 27; refine (newest_is NN3.out l10 t10 f3).mono ?_; rintro e w11 ⟨rfl, k11⟩; have t11 := t10.keeps k11 (fun h => h) (fun h => h); have K11 := K10.trans k11; clear T5 tt; have T6 : Hid True := trivial)
        | (have tt := T6; refine wpList_allocS rfl rfl ?_; intro g15 w12 e12 z12 k12; have t12 := t11.keeps k12 (fun h => h) (fun h => h); have K12 := K11.trans k12; have zz15 : w.heap.size ≤ g15 := (by have := K11.size; omega); clear T6 tt; have T7 : Hid True := trivial)
        | (have tt := T7; refine wpList_storeS rfl _ _ rfl g15 rfl su0 su0_ok rfl su0 su0_ok e12 ?_; intro w13 e13 k13; have t13 := t12.keeps k13 (fun h => by omega) (fun h => by omega); have K13 : Keeps (fun _ => False) w w13 := K12.trans' k13 (fun i e => .inr (by omega)); clear T7 tt; have T8 : Hid True := trivial)
        | (have tt := T8; go_at_call 16; refine (wakes16 _ t13).mono ?_; rintro e w14 ⟨rfl, k14⟩; have K14 := K13.trans k14; clear T8 tt))
      go_ret
      exact ⟨rfl, K14⟩

theorem turnsP (w : World) (hT : Tabs w) (f : Int) (hf : 0 ≤ f ∧ f < 4294967296) (x y : Int) (hx : 0 ≤ x ∧ x < 256) (hy : 0 ≤ y ∧ y < 256) :
    Calls Tryd.prog 8 #[.int .u32 f, .agg #[.int .u8 x, .int .u8 y]] w fun e w' => e = .returned (.bool true) ∧ Keeps (fun _ => False) w w' := by
  have e : y = nb (kb y) := by rw [nb_kb]; omega
  rw [e]
  exact turnsL w hT f hf x (kb y) hx
end Go.Proofs.YtdgnjpdjohibeaaDoor
