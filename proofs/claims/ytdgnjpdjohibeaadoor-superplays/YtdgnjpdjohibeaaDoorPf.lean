/-
  SuperPlays: the walk on no disk.
-/
import Derived.Test.YtdgnjpdjohibeaaDoorPe
import Derived.Test.YtdgnjpdjohibeaaDoorXm
import Derived.Test.YtdgnjpdjohibeaaDoorTb
set_option linter.all false
set_option maxRecDepth 100000
namespace Go.Proofs.YtdgnjpdjohibeaaDoor
open Go.RowKit Go.Sort Go.Shelf

theorem new_noK (n : Int) (w : World) (h : n < 16 ∨ 128 < n) : Calls Tryd.prog 18 #[.int .i64 n] w fun e w' => e = .returned (.tuple #[.pointer none, .int .i64 1]) ∧ Keeps (fun _ => False) w w' := (new_no n w h).mono fun e w' ⟨h1, h2⟩ => ⟨h1, by rw [h2]; exact Keeps.refl _ _⟩
theorem rnew_noK (n : Int) (w : World) (h : n < 16 ∨ 128 < n) : Calls Tryd.prog 19 #[.int .i64 n] w fun e w' => e = .returned (.tuple #[.pointer none, .int .i64 1]) ∧ Keeps (fun _ => False) w w' := (rnew_no n w h).mono fun e w' ⟨h1, h2⟩ => ⟨h1, by rw [h2]; exact Keeps.refl _ _⟩
theorem dnw_nil (w : World) : Calls Tryd.prog 27 #[.pointer none] w fun e w' => e = .returned (.tuple #[.agg su0.cells, .int .i64 1]) ∧ Keeps (fun _ => False) w w' := newest_nil w
theorem rnw_nil2 (w : World) : Calls Tryd.prog 28 #[.pointer none] w fun e w' => e = .returned (.tuple #[.agg su0.cells, .int .i64 1]) ∧ Keeps (fun _ => False) w w' := rnw_nil w
theorem fuse_nilA (w : World) (n : Int) : Calls Tryd.prog 26 #[.pointer none, .int .i64 n] w fun e w' => e = .returned (.tuple #[]) ∧ Keeps (fun _ => False) w w' := (fuse_nil w n).mono fun e w' ⟨h1, h2⟩ => ⟨h1, by rw [h2]; exact Keeps.refl _ _⟩

set_option maxHeartbeats 16000000 in
theorem plays_none (w : World) (hT : Tabs w) (n : Int) (hn : n < 16 ∨ 128 < n) (a : Option Addr) (N c : Nat) (xs : List Stp) (hX : StsAt w a N xs) (hN : N ≤ 9223372036854775807) (hf : fair7 xs = true) :
    Calls Tryd.prog 4 #[.int .i64 n, .slice a N c] w fun e w' => e = .returned (.bool true) ∧ Keeps (fun _ => False) w w' := by
  obtain ⟨h60, h300⟩ := fair7_spec hX hf
  have H300 : Hid (∀ x ∈ xs, x.ks.length ≤ 300) := h300
  have HF : Hid (∀ w1, Keeps (fun _ => False) w w1 → Calls Tryd.prog 17 #[.slice a N c] w1 fun e w' => e = .returned (.bool true) ∧ Keeps (fun _ => False) w1 w') := fun w1 k => by
    have := fair17 w1 a N c xs (hX.keeps k) hN
    rw [hf] at this
    exact this
  clear h300 hf
  have T0 : Hid True := trivial
  go_enter Tryd.func4, Tryd.ntmps4
  go_wp2_with (first
    | (have tt := T0; go_at_call 17; refine (HF.out _ (Keeps.refl _ _)).mono ?_; rintro e w1 ⟨rfl, k1⟩; clear T0 tt; have T1 : Hid True := trivial)
    | (have tt := T1; go_at_call 18; refine (new_noK n _ hn).mono ?_; rintro e w2 ⟨rfl, k2⟩; clear T1 tt; have T2 : Hid True := trivial)
    | (have tt := T2; go_at_call 19; refine (rnew_noK n _ hn).mono ?_; rintro e w3 ⟨rfl, k3⟩; clear T2 tt))
  have HX : Hid (StsAt w1 a N xs) := hX.keeps k1
  have hT1 : Tabs w1 := hT.keeps k1 (fun h => h) (fun h => h)
  have qv := eqS su0_ok su0_ok (v := true) (decide_eq_true rfl)
  clear hX HF hn
  go_loopw [9] (fun t wr => ∃ (k : Nat), k ≤ N ∧ t = .int .i64 (k : Int) ∧ Keeps (fun _ => False) w1 wr) (fun t _ => N - (intOf t).toNat)
  case atStart => exact ⟨0, Nat.zero_le _, rfl, k2.trans k3⟩
  case round =>
    clear k2 k3
    obtain ⟨k, hk, rfl, hKr⟩ := hrel
    by_cases hlt : k < N
    · have hlt' : (k : Int) < (N : Int) := by omega
      have hk0 : (0 : Int) ≤ (k : Int) := by omega
      have hk60 : k ≤ 60 := by omega
      have hxi : k < xs.length := by rw [HX.out.1]; exact hlt
      obtain ⟨x, hx⟩ : ∃ x, xs[k]'hxi = x := ⟨_, rfl⟩
      have hx300 : x.ks.length ≤ 300 := H300.out x (by rw [← hx]; exact List.getElem_mem hxi)
      obtain ⟨b, o, rfl, hs⟩ := HX.out.2 k x (by rw [List.getElem?_eq_getElem hxi, hx])
      have hat := (hs.keeps hKr).at_
      have hKA := hs.keep
      have hxo := hs.ok
      have xty : RowTy 53 x.cells.size := Stp.ty hxo
      have hsz : st0.cells.size = x.cells.size := by rw [Stp.size st0_ok, Stp.size hxo]
      have hkind : x.kind = 0 ∨ x.kind = 1 ∨ x.kind = 2 ∨ x.kind = 3 ∨ ((x.kind == 0) = false ∧ (x.kind == 1) = false ∧ (x.kind == 2) = false ∧ (x.kind == 3) = false) := by
        simp only [beq_eq_false_iff_ne]; omega
      clear hx hs
      rcases hkind with hkd | hkd | hkd | hkd | ⟨q0, q1, q2, q3⟩
      · have T0 : Hid True := trivial
        go_wp2_with (first
          | (have tt := T0; refine wpList_loadV rfl 53 (.tmp 37) rfl b (o + k * 182) rfl x.cells hat xty ?_; clear T0 tt; have T1 : Hid True := trivial)
          | (have tt := T1; refine wpList_allocR rfl 53 rfl st0.cells zero53 ?_; intro g w4 c4 z4 k4; clear T1 tt; have T2 : Hid True := trivial)
          | (have tt := T2; refine wpList_storeR rfl 53 _ _ rfl g rfl x.cells rfl xty Stp.one st0.cells c4 hsz ?_; intro w5 c5 k5; have p0 : w5.cell? ⟨g, 0, none⟩ = some (.int .i64 0) := (Stp.f0 c5).trans (by rw [hkd]); have hzr := hKr.size; have K5 : Keeps (fun _ => False) w1 w5 := (hKr.trans k4).trans' k5 (fun i e => .inr (by omega)); have t5 : Tabs w5 := hT1.keeps K5 (fun h => h) (fun h => h); have lg := RoAt.lt c5; have z5 := K5.size; clear T2 tt; have T3 : Hid True := trivial))
        have hq2 : ∀ w', (∃ q : StW g x, w' = q.w) → w'.rangeAt g 2 x.s.cells.toList := fun w' hp => by obtain ⟨q, rfl⟩ := hp; exact Stp.f2 q.ro hxo
        have hsty := hxo.s.ty
        have ne0 : Nonempty (StW g x) := ⟨⟨_, c5⟩⟩
        have pj : ∀ q : StW g x, q.w.cell? ⟨g, 1, none⟩ = some (.int .i64 x.i) := fun q => Stp.f1 q.ro
        have kd : Keeps (fun _ => False) w5 w5.drew := (Keeps.refl _ _).drew
        have hdz : w5.drew.heap.size = w5.heap.size := rfl
        try simp only [Act.put, List.setIfInBounds_toArray, List.set_cons_zero, List.set_cons_succ]
        refine region_planX (S := fun w' => ∃ q : StW g x, w' = q.w) [([0, 1, 2, 4, 5, 6], 3), ([], 7)] [8] (by kernel_rfl) (by kernel_rfl) (by kernel_rfl) (by kernel_rfl) ⟨⟨_, RoAt.keep c5 kd⟩, rfl⟩ ?_
        simp only [wpPlan, opsAt, pick]
        repeat (first
          | (go_big_quiet_want; refine quiet_loadV 28 (.tmp 44) rfl g 2 rfl x.s.cells hq2 hsty ?_; simp only [Act.put, List.setIfInBounds_toArray, List.set_cons_zero, List.set_cons_succ]; go_big_quiet_on)
          | (go_big_quiet_want; refine quiet_loadV 28 (.tmp 48) rfl g 2 rfl x.s.cells hq2 hsty ?_; simp only [Act.put, List.setIfInBounds_toArray, List.set_cons_zero, List.set_cons_succ]; go_big_quiet_on)
          | go_big_quiet_step (fail))
        refine wpQuiet_nil ?_
        go_wp2_with (go_at_call 20; refine (writeP_nil _ x.s hxo.s).mono ?_; rintro e w6 ⟨rfl, k6⟩)
        have c6 := RoAt.keep (RoAt.keep c5 kd) k6
        have z6 := k6.size
        refine ⟨⟨⟨_, c6⟩, rfl⟩, ?_⟩
        simp only [wpPlan, opsAt, pick]
        refine wpQuiet_nil ?_
        go_wp2_with (go_at_call 21; refine (rsw_nil _ x.s hxo.s).mono ?_; rintro e wE ⟨rfl, kE⟩)
        have c7 := RoAt.keep c6 kE
        refine ⟨⟨⟨_, c7⟩, rfl⟩, ?_⟩
        simp only [wpPlan, opsAt, pick]
        repeat (go_big_quiet_step (fail))
        refine wpQuiet_nil ?_
        refine NoPanic.normal ?_
        have KE : Keeps (fun _ => False) w1 wE := ((K5.trans kd).trans k6).trans kE
        clear hat
        have U0 : Hid True := trivial
        go_wp2_with (first
          | (have tt := U0; go_at_call 27; refine (dnw_nil _).mono ?_; rintro e w6 ⟨rfl, k6⟩; have K6 := KE.trans k6; clear U0 tt; have U1 : Hid True := trivial)
          | (have tt := U1; refine wpList_allocS rfl rfl ?_; intro g11 w7 e7 z7 k7; have K7 := K6.trans k7; have z11 : w1.heap.size ≤ g11 := (by have := K6.size; omega); clear U1 tt; have U2 : Hid True := trivial)
          | (have tt := U2; refine wpList_storeS rfl _ _ rfl g11 rfl su0 su0_ok rfl su0 su0_ok e7 ?_; intro w8 e8 k8; have K8 : Keeps (fun _ => False) w1 w8 := K7.trans' k8 (fun i e => .inr (by omega)); clear U2 tt; have U3 : Hid True := trivial)
          | (have tt := U3; go_at_call 28; refine (rnw_nil2 _).mono ?_; rintro e w9 ⟨rfl, k9⟩; have e9 := RoAt.keep e8 k9; have K9 := K8.trans k9; clear U3 tt; have U4 : Hid True := trivial)
          | (have tt := U4; refine wpList_allocS rfl rfl ?_; intro g13 w10 e10 z10 k10; have b10 := RoAt.keep e9 k10; have n13 : g11 ≠ g13 := (by have := RoAt.lt e9; omega); have K10 := K9.trans k10; have z13 : w1.heap.size ≤ g13 := (by have := K9.size; omega); clear U4 tt; have U5 : Hid True := trivial)
          | (have tt := U5; refine wpList_storeS rfl _ _ rfl g13 rfl su0 su0_ok rfl su0 su0_ok e10 ?_; intro w11 e11 k11; have b11 := RoAt.keeps b10 k11 n13; have K11 : Keeps (fun _ => False) w1 w11 := K10.trans' k11 (fun i e => .inr (by omega)); clear U5 tt; have U6 : Hid True := trivial)
          | (have tt := U6; refine wpList_loadS rfl (.tmp 11) rfl g11 rfl su0 su0_ok b11 ?_; clear U6 tt; have U7 : Hid True := trivial)
          | (have tt := U7; refine wpList_loadS rfl (.tmp 13) rfl g13 rfl su0 su0_ok e11 ?_; clear U7 tt))
        exact ⟨⟨k + 1, by omega, rfl, K11⟩, by simp [intOf]; omega⟩
      · have bty : RowTy 30 (brow x.b).size := by rw [size_brow, hxo.b]; exact ⟨⟨_, Tryd.underlying30, rfl⟩, by kernel_rfl⟩
        have T0 : Hid True := trivial
        go_wp2_with (first
          | (have tt := T0; refine wpList_loadV rfl 53 (.tmp 37) rfl b (o + k * 182) rfl x.cells hat xty ?_; clear T0 tt; have T1 : Hid True := trivial)
          | (have tt := T1; refine wpList_allocR rfl 53 rfl st0.cells zero53 ?_; intro g w4 c4 z4 k4; clear T1 tt; have T2 : Hid True := trivial)
          | (have tt := T2; refine wpList_storeR rfl 53 _ _ rfl g rfl x.cells rfl xty Stp.one st0.cells c4 hsz ?_; intro w5 c5 k5; have p0 : w5.cell? ⟨g, 0, none⟩ = some (.int .i64 1) := (Stp.f0 c5).trans (by rw [hkd]); have hzr := hKr.size; have K5 : Keeps (fun _ => False) w1 w5 := (hKr.trans k4).trans' k5 (fun i e => .inr (by omega)); have t5 : Tabs w5 := hT1.keeps K5 (fun h => h) (fun h => h); have lg := RoAt.lt c5; have z5 := K5.size; have p1 := Stp.f1 c5; have r5 := Stp.f3 c5 hxo; clear T2 tt; have T3 : Hid True := trivial)
          | (have tt := T3; refine wpList_loadV rfl 30 (.tmp 57) rfl g 53 rfl (brow x.b) r5 bty ?_; clear T3 tt; have T4 : Hid True := trivial)
          | (have tt := T4; go_at_call 22; refine (write_nilA _ x.i (brow x.b)).mono ?_; rintro e wE ⟨rfl, kE⟩; have KE := K5.trans kE; clear T4 tt))
        clear hat
        have U0 : Hid True := trivial
        go_wp2_with (first
          | (have tt := U0; go_at_call 27; refine (dnw_nil _).mono ?_; rintro e w6 ⟨rfl, k6⟩; have K6 := KE.trans k6; clear U0 tt; have U1 : Hid True := trivial)
          | (have tt := U1; refine wpList_allocS rfl rfl ?_; intro g11 w7 e7 z7 k7; have K7 := K6.trans k7; have z11 : w1.heap.size ≤ g11 := (by have := K6.size; omega); clear U1 tt; have U2 : Hid True := trivial)
          | (have tt := U2; refine wpList_storeS rfl _ _ rfl g11 rfl su0 su0_ok rfl su0 su0_ok e7 ?_; intro w8 e8 k8; have K8 : Keeps (fun _ => False) w1 w8 := K7.trans' k8 (fun i e => .inr (by omega)); clear U2 tt; have U3 : Hid True := trivial)
          | (have tt := U3; go_at_call 28; refine (rnw_nil2 _).mono ?_; rintro e w9 ⟨rfl, k9⟩; have e9 := RoAt.keep e8 k9; have K9 := K8.trans k9; clear U3 tt; have U4 : Hid True := trivial)
          | (have tt := U4; refine wpList_allocS rfl rfl ?_; intro g13 w10 e10 z10 k10; have b10 := RoAt.keep e9 k10; have n13 : g11 ≠ g13 := (by have := RoAt.lt e9; omega); have K10 := K9.trans k10; have z13 : w1.heap.size ≤ g13 := (by have := K9.size; omega); clear U4 tt; have U5 : Hid True := trivial)
          | (have tt := U5; refine wpList_storeS rfl _ _ rfl g13 rfl su0 su0_ok rfl su0 su0_ok e10 ?_; intro w11 e11 k11; have b11 := RoAt.keeps b10 k11 n13; have K11 : Keeps (fun _ => False) w1 w11 := K10.trans' k11 (fun i e => .inr (by omega)); clear U5 tt; have U6 : Hid True := trivial)
          | (have tt := U6; refine wpList_loadS rfl (.tmp 11) rfl g11 rfl su0 su0_ok b11 ?_; clear U6 tt; have U7 : Hid True := trivial)
          | (have tt := U7; refine wpList_loadS rfl (.tmp 13) rfl g13 rfl su0 su0_ok e11 ?_; clear U7 tt))
        exact ⟨⟨k + 1, by omega, rfl, K11⟩, by simp [intOf]; omega⟩
      · have T0 : Hid True := trivial
        go_wp2_with (first
          | (have tt := T0; refine wpList_loadV rfl 53 (.tmp 37) rfl b (o + k * 182) rfl x.cells hat xty ?_; clear T0 tt; have T1 : Hid True := trivial)
          | (have tt := T1; refine wpList_allocR rfl 53 rfl st0.cells zero53 ?_; intro g w4 c4 z4 k4; clear T1 tt; have T2 : Hid True := trivial)
          | (have tt := T2; refine wpList_storeR rfl 53 _ _ rfl g rfl x.cells rfl xty Stp.one st0.cells c4 hsz ?_; intro w5 c5 k5; have p0 : w5.cell? ⟨g, 0, none⟩ = some (.int .i64 2) := (Stp.f0 c5).trans (by rw [hkd]); have hzr := hKr.size; have K5 : Keeps (fun _ => False) w1 w5 := (hKr.trans k4).trans' k5 (fun i e => .inr (by omega)); have t5 : Tabs w5 := hT1.keeps K5 (fun h => h) (fun h => h); have lg := RoAt.lt c5; have z5 := K5.size; clear T2 tt; have T3 : Hid True := trivial))
        have ne0 : Nonempty (StW g x) := ⟨⟨_, c5⟩⟩
        have pk : ∀ q : StW g x, q.w.cell? ⟨g, 181, none⟩ = some (.slice x.ka x.ks.length x.kc) := fun q => Stp.f4 q.ro hxo
        have pj : ∀ q : StW g x, q.w.cell? ⟨g, 1, none⟩ = some (.int .i64 x.i) := fun q => Stp.f1 q.ro
        have kd : Keeps (fun _ => False) w5 w5.drew := (Keeps.refl _ _).drew
        have hdz : w5.drew.heap.size = w5.heap.size := rfl
        try simp only [Act.put, List.setIfInBounds_toArray, List.set_cons_zero, List.set_cons_succ]
        refine region_planX (S := fun w' => ∃ q : StW g x, w' = q.w) [([0, 2, 3, 5, 6], 1), ([], 4), ([], 7)] [] (by kernel_rfl) (by kernel_rfl) (by kernel_rfl) (by kernel_rfl) ⟨⟨_, RoAt.keep c5 kd⟩, rfl⟩ ?_
        simp only [wpPlan, opsAt, pick]
        repeat (go_big_quiet_step (fail))
        refine wpQuiet_nil ?_
        go_wp2_with (refine wpList_build0L rfl rfl ?_; intro gk w6 o6 z6 l6' k6)
        have k05 := kd.trans k6
        have c6 := RoAt.keep c5 k05
        refine ⟨⟨⟨_, c6⟩, rfl⟩, ?_⟩
        simp only [wpPlan, opsAt, pick]
        refine wpQuiet_nil ?_
        have hkA := KeepAt.keeps hKA (K5.trans k05)
        go_wp2_with (refine wpList_plain rfl fun K hK => op_keepCopy _ _ rfl gk rfl x.ka x.kc x.ks rfl hkA hx300 ?_; intro a16 c16 w7 kp7 k7 hab; refine hK _ _ ?_)
        have k06 := k05.trans k7
        have c7 := RoAt.keep c5 k06
        have z66 := k6.size
        have z77 := k7.size
        refine ⟨⟨⟨_, c7⟩, rfl⟩, ?_⟩
        simp only [wpPlan, opsAt, pick]
        refine wpQuiet_nil ?_
        go_wp2_with (go_at_call 24; refine (crash_nil _ _ _).mono ?_; rintro e wE ⟨rfl, kE⟩)
        have c8 := RoAt.keep c7 kE
        refine ⟨⟨⟨_, c8⟩, rfl⟩, ?_⟩
        simp only [wpPlan, opsAt, pick]
        refine wpQuiet_nil ?_
        refine NoPanic.normal ?_
        have KE := (K5.trans k06).trans kE
        clear hat
        have U0 : Hid True := trivial
        go_wp2_with (first
          | (have tt := U0; go_at_call 27; refine (dnw_nil _).mono ?_; rintro e w6 ⟨rfl, k6⟩; have K6 := KE.trans k6; clear U0 tt; have U1 : Hid True := trivial)
          | (have tt := U1; refine wpList_allocS rfl rfl ?_; intro g11 w7 e7 z7 k7; have K7 := K6.trans k7; have z11 : w1.heap.size ≤ g11 := (by have := K6.size; omega); clear U1 tt; have U2 : Hid True := trivial)
          | (have tt := U2; refine wpList_storeS rfl _ _ rfl g11 rfl su0 su0_ok rfl su0 su0_ok e7 ?_; intro w8 e8 k8; have K8 : Keeps (fun _ => False) w1 w8 := K7.trans' k8 (fun i e => .inr (by omega)); clear U2 tt; have U3 : Hid True := trivial)
          | (have tt := U3; go_at_call 28; refine (rnw_nil2 _).mono ?_; rintro e w9 ⟨rfl, k9⟩; have e9 := RoAt.keep e8 k9; have K9 := K8.trans k9; clear U3 tt; have U4 : Hid True := trivial)
          | (have tt := U4; refine wpList_allocS rfl rfl ?_; intro g13 w10 e10 z10 k10; have b10 := RoAt.keep e9 k10; have n13 : g11 ≠ g13 := (by have := RoAt.lt e9; omega); have K10 := K9.trans k10; have z13 : w1.heap.size ≤ g13 := (by have := K9.size; omega); clear U4 tt; have U5 : Hid True := trivial)
          | (have tt := U5; refine wpList_storeS rfl _ _ rfl g13 rfl su0 su0_ok rfl su0 su0_ok e10 ?_; intro w11 e11 k11; have b11 := RoAt.keeps b10 k11 n13; have K11 : Keeps (fun _ => False) w1 w11 := K10.trans' k11 (fun i e => .inr (by omega)); clear U5 tt; have U6 : Hid True := trivial)
          | (have tt := U6; refine wpList_loadS rfl (.tmp 11) rfl g11 rfl su0 su0_ok b11 ?_; clear U6 tt; have U7 : Hid True := trivial)
          | (have tt := U7; refine wpList_loadS rfl (.tmp 13) rfl g13 rfl su0 su0_ok e11 ?_; clear U7 tt))
        exact ⟨⟨k + 1, by omega, rfl, K11⟩, by simp [intOf]; omega⟩
      · have T0 : Hid True := trivial
        go_wp2_with (first
          | (have tt := T0; refine wpList_loadV rfl 53 (.tmp 37) rfl b (o + k * 182) rfl x.cells hat xty ?_; clear T0 tt; have T1 : Hid True := trivial)
          | (have tt := T1; refine wpList_allocR rfl 53 rfl st0.cells zero53 ?_; intro g w4 c4 z4 k4; clear T1 tt; have T2 : Hid True := trivial)
          | (have tt := T2; refine wpList_storeR rfl 53 _ _ rfl g rfl x.cells rfl xty Stp.one st0.cells c4 hsz ?_; intro w5 c5 k5; have p0 : w5.cell? ⟨g, 0, none⟩ = some (.int .i64 3) := (Stp.f0 c5).trans (by rw [hkd]); have hzr := hKr.size; have K5 : Keeps (fun _ => False) w1 w5 := (hKr.trans k4).trans' k5 (fun i e => .inr (by omega)); have t5 : Tabs w5 := hT1.keeps K5 (fun h => h) (fun h => h); have lg := RoAt.lt c5; have z5 := K5.size; have p1 := Stp.f1 c5; clear T2 tt; have T3 : Hid True := trivial)
          | (have tt := T3; go_at_call 26; refine (fuse_nilA _ x.i).mono ?_; rintro e wE ⟨rfl, kE⟩; have KE := K5.trans kE; clear T3 tt))
        clear hat
        have U0 : Hid True := trivial
        go_wp2_with (first
          | (have tt := U0; go_at_call 27; refine (dnw_nil _).mono ?_; rintro e w6 ⟨rfl, k6⟩; have K6 := KE.trans k6; clear U0 tt; have U1 : Hid True := trivial)
          | (have tt := U1; refine wpList_allocS rfl rfl ?_; intro g11 w7 e7 z7 k7; have K7 := K6.trans k7; have z11 : w1.heap.size ≤ g11 := (by have := K6.size; omega); clear U1 tt; have U2 : Hid True := trivial)
          | (have tt := U2; refine wpList_storeS rfl _ _ rfl g11 rfl su0 su0_ok rfl su0 su0_ok e7 ?_; intro w8 e8 k8; have K8 : Keeps (fun _ => False) w1 w8 := K7.trans' k8 (fun i e => .inr (by omega)); clear U2 tt; have U3 : Hid True := trivial)
          | (have tt := U3; go_at_call 28; refine (rnw_nil2 _).mono ?_; rintro e w9 ⟨rfl, k9⟩; have e9 := RoAt.keep e8 k9; have K9 := K8.trans k9; clear U3 tt; have U4 : Hid True := trivial)
          | (have tt := U4; refine wpList_allocS rfl rfl ?_; intro g13 w10 e10 z10 k10; have b10 := RoAt.keep e9 k10; have n13 : g11 ≠ g13 := (by have := RoAt.lt e9; omega); have K10 := K9.trans k10; have z13 : w1.heap.size ≤ g13 := (by have := K9.size; omega); clear U4 tt; have U5 : Hid True := trivial)
          | (have tt := U5; refine wpList_storeS rfl _ _ rfl g13 rfl su0 su0_ok rfl su0 su0_ok e10 ?_; intro w11 e11 k11; have b11 := RoAt.keeps b10 k11 n13; have K11 : Keeps (fun _ => False) w1 w11 := K10.trans' k11 (fun i e => .inr (by omega)); clear U5 tt; have U6 : Hid True := trivial)
          | (have tt := U6; refine wpList_loadS rfl (.tmp 11) rfl g11 rfl su0 su0_ok b11 ?_; clear U6 tt; have U7 : Hid True := trivial)
          | (have tt := U7; refine wpList_loadS rfl (.tmp 13) rfl g13 rfl su0 su0_ok e11 ?_; clear U7 tt))
        exact ⟨⟨k + 1, by omega, rfl, K11⟩, by simp [intOf]; omega⟩
      · have T0 : Hid True := trivial
        go_wp2_with (first
          | (have tt := T0; refine wpList_loadV rfl 53 (.tmp 37) rfl b (o + k * 182) rfl x.cells hat xty ?_; clear T0 tt; have T1 : Hid True := trivial)
          | (have tt := T1; refine wpList_allocR rfl 53 rfl st0.cells zero53 ?_; intro g w4 c4 z4 k4; clear T1 tt; have T2 : Hid True := trivial)
          | (have tt := T2; refine wpList_storeR rfl 53 _ _ rfl g rfl x.cells rfl xty Stp.one st0.cells c4 hsz ?_; intro w5 c5 k5; have p0 : w5.cell? ⟨g, 0, none⟩ = some (.int .i64 x.kind) := Stp.f0 c5; have hzr := hKr.size; have K5 : Keeps (fun _ => False) w1 w5 := (hKr.trans k4).trans' k5 (fun i e => .inr (by omega)); have t5 : Tabs w5 := hT1.keeps K5 (fun h => h) (fun h => h); have lg := RoAt.lt c5; have z5 := K5.size; clear T2 tt; have T3 : Hid True := trivial))
        have KE := K5
        clear hat
        have U0 : Hid True := trivial
        go_wp2_with (first
          | (have tt := U0; go_at_call 27; refine (dnw_nil _).mono ?_; rintro e w6 ⟨rfl, k6⟩; have K6 := KE.trans k6; clear U0 tt; have U1 : Hid True := trivial)
          | (have tt := U1; refine wpList_allocS rfl rfl ?_; intro g11 w7 e7 z7 k7; have K7 := K6.trans k7; have z11 : w1.heap.size ≤ g11 := (by have := K6.size; omega); clear U1 tt; have U2 : Hid True := trivial)
          | (have tt := U2; refine wpList_storeS rfl _ _ rfl g11 rfl su0 su0_ok rfl su0 su0_ok e7 ?_; intro w8 e8 k8; have K8 : Keeps (fun _ => False) w1 w8 := K7.trans' k8 (fun i e => .inr (by omega)); clear U2 tt; have U3 : Hid True := trivial)
          | (have tt := U3; go_at_call 28; refine (rnw_nil2 _).mono ?_; rintro e w9 ⟨rfl, k9⟩; have e9 := RoAt.keep e8 k9; have K9 := K8.trans k9; clear U3 tt; have U4 : Hid True := trivial)
          | (have tt := U4; refine wpList_allocS rfl rfl ?_; intro g13 w10 e10 z10 k10; have b10 := RoAt.keep e9 k10; have n13 : g11 ≠ g13 := (by have := RoAt.lt e9; omega); have K10 := K9.trans k10; have z13 : w1.heap.size ≤ g13 := (by have := K9.size; omega); clear U4 tt; have U5 : Hid True := trivial)
          | (have tt := U5; refine wpList_storeS rfl _ _ rfl g13 rfl su0 su0_ok rfl su0 su0_ok e10 ?_; intro w11 e11 k11; have b11 := RoAt.keeps b10 k11 n13; have K11 : Keeps (fun _ => False) w1 w11 := K10.trans' k11 (fun i e => .inr (by omega)); clear U5 tt; have U6 : Hid True := trivial)
          | (have tt := U6; refine wpList_loadS rfl (.tmp 11) rfl g11 rfl su0 su0_ok b11 ?_; clear U6 tt; have U7 : Hid True := trivial)
          | (have tt := U7; refine wpList_loadS rfl (.tmp 13) rfl g13 rfl su0 su0_ok e11 ?_; clear U7 tt))
        exact ⟨⟨k + 1, by omega, rfl, K11⟩, by simp [intOf]; omega⟩
    · obtain rfl : k = N := by omega
      have hlt' : ¬ (k : Int) < (k : Int) := by omega
      have T0 : Hid True := trivial
      go_wp2_with (have tt := T0; go_at_call 16; refine (wakes16 _ (hT1.keeps hKr (fun h => h) (fun h => h))).mono ?_; rintro e w6 ⟨rfl, k6⟩; clear T0 tt)
      go_ret
      exact ⟨rfl, (k1.trans hKr).trans k6⟩
end Go.Proofs.YtdgnjpdjohibeaaDoor
