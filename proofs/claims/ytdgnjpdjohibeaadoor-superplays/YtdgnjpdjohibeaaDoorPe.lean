/-
  SuperPlays: the walk.
-/
import Derived.Test.YtdgnjpdjohibeaaDoorPd
import Derived.Test.YtdgnjpdjohibeaaDoorXm
import Derived.Test.YtdgnjpdjohibeaaDoorTb
set_option linter.all false
set_option maxRecDepth 100000
namespace Go.Proofs.YtdgnjpdjohibeaaDoor
open Go.RowKit Go.Sort Go.Shelf

theorem fair7_spec {w : World} {a : Option Addr} {N : Nat} {xs : List Stp} (hX : StsAt w a N xs) (hf : fair7 xs = true) : N ≤ 60 ∧ ∀ x ∈ xs, x.ks.length ≤ 300 := by
  unfold fair7 at hf
  rw [Bool.and_eq_true, List.all_eq_true] at hf
  refine ⟨by have := of_decide_eq_true hf.2; rw [hX.1] at this; exact this, fun x hx => of_decide_eq_true (hf.1 x hx)⟩

set_option maxHeartbeats 16000000 in
theorem plays_disk (w : World) (hT : Tabs w) (m : Nat) (hm : 16 ≤ m ∧ m ≤ 128) (a : Option Addr) (N c : Nat) (xs : List Stp) (hX : StsAt w a N xs) (hN : N ≤ 9223372036854775807) (hf : fair7 xs = true) :
    Calls Tryd.prog 4 #[.int .i64 (m : Int), .slice a N c] w fun e w' => e = .returned (.bool true) ∧ Keeps (fun _ => False) w w' := by
  obtain ⟨h60, h300⟩ := fair7_spec hX hf
  have H300 : Hid (∀ x ∈ xs, x.ks.length ≤ 300) := h300
  have HF : Hid (∀ w1, Keeps (fun _ => False) w w1 → Calls Tryd.prog 17 #[.slice a N c] w1 fun e w' => e = .returned (.bool true) ∧ Keeps (fun _ => False) w1 w') := fun w1 k => by
    have := fair17 w1 a N c xs (hX.keeps k) hN
    rw [hf] at this
    exact this
  clear h300 hf
  have T0 : Hid True := trivial
  go_enter Tryd.func4, Tryd.ntmps4
  go_wp2_with (first
    | (have tt := T0; go_at_call 17; refine (HF.out _ (Keeps.refl _ _)).mono ?_; rintro e w1 ⟨rfl, k1⟩; clear T0 tt; have T1 : Hid True := trivial)
    | (have tt := T1; go_at_call 18; refine (new_ds m _ hm.1 hm.2 none' (fun _ h => h.elim)).mono ?_; rintro e w2 ⟨rfl, l2, s2', k2⟩; have s2 : Hid (w2.heap.size = w1.heap.size + 2) := s2'; clear T1 tt s2'; have T2 : Hid True := trivial)
    | (have tt := T2; go_at_call 19; refine (rnew_yes m _ hm.1 hm.2).mono ?_; rintro e w3 ⟨rfl, hR, hB, hs3, k3⟩; clear T2 tt hs3))
  have hH := half_new m (w := w1) (w1 := w2) (w2 := w3) l2 s2.out k3 hR hB
  have KB : Keeps (fun _ => False) w1 w3 := k2.trans k3
  have HX : Hid (StsAt w1 a N xs) := hX.keeps k1
  have hT1 : Tabs w1 := hT.keeps k1 (fun h => h) (fun h => h)
  obtain ⟨p, hp⟩ : ∃ p, w1.heap.size + 1 = p := ⟨_, rfl⟩
  obtain ⟨p', hp'⟩ : ∃ p', w2.heap.size + 1 = p' := ⟨_, rfl⟩
  obtain ⟨gb', hgb'⟩ : ∃ gb', w2.heap.size = gb' := ⟨_, rfl⟩
  rw [hp, hp', hgb'] at hH
  rw [hp, hp']
  clear hp hp' hgb' l2 s2 k2 k3 hR hB hX HF
  go_loopw [9] (fun t wr => ∃ (k : Nat) (r : DS), k ≤ N ∧ t = .int .i64 (k : Int) ∧ Half w1.heap.size (fun _ => False) wr p w1.heap.size p' gb' r.cap r ∧ Pl r m k ∧ Keeps (fun _ => False) w1 wr) (fun t _ => N - (intOf t).toNat)
  case atStart => exact ⟨0, DS.new m, Nat.zero_le _, rfl, hH, Pl.new m, KB⟩
  case round =>
    clear hH KB
    obtain ⟨k, r, hk, rfl, hHr, hP, hKr⟩ := hrel
    by_cases hlt : k < N
    · have hlt' : (k : Int) < (N : Int) := by omega
      have hk0 : (0 : Int) ≤ (k : Int) := by omega
      have hk60 : k ≤ 60 := by omega
      have hxi : k < xs.length := by rw [HX.out.1]; exact hlt
      obtain ⟨x, hx⟩ : ∃ x, xs[k]'hxi = x := ⟨_, rfl⟩
      have hx300 : x.ks.length ≤ 300 := H300.out x (by rw [← hx]; exact List.getElem_mem hxi)
      obtain ⟨b, o, rfl, hs⟩ := HX.out.2 k x (by rw [List.getElem?_eq_getElem hxi, hx])
      have hat := (hs.keeps hKr).at_
      have hKA := hs.keep
      have hxo := hs.ok
      have xty : RowTy 53 x.cells.size := Stp.ty hxo
      have hsz : st0.cells.size = x.cells.size := by rw [Stp.size st0_ok, Stp.size hxo]
      have hkind : x.kind = 0 ∨ x.kind = 1 ∨ x.kind = 2 ∨ x.kind = 3 ∨ ((x.kind == 0) = false ∧ (x.kind == 1) = false ∧ (x.kind == 2) = false ∧ (x.kind == 3) = false) := by
        simp only [beq_eq_false_iff_ne]; omega
      clear hx hs
      rcases hkind with hkd | hkd | hkd | hkd | ⟨q0, q1, q2, q3⟩
      · obtain ⟨f, rE, hw⟩ : ∃ f rE, wrR r x.s = (f, rE) := ⟨_, _, rfl⟩
        have HW : Hid (wrR r x.s = (f, rE)) := hw
        have hPE : Pl rE m (k + 1) := by have := hP.wr hxo.s; rw [hw] at this; exact this
        clear hw
        have T0 : Hid True := trivial
        go_wp2_with (first
          | (have tt := T0; refine wpList_loadV rfl 53 (.tmp 37) rfl b (o + k * 182) rfl x.cells hat xty ?_; clear T0 tt; have T1 : Hid True := trivial)
          | (have tt := T1; refine wpList_allocR rfl 53 rfl st0.cells zero53 ?_; intro g w4 c4 z4 k4; clear T1 tt; have T2 : Hid True := trivial)
          | (have tt := T2; refine wpList_storeR rfl 53 _ _ rfl g rfl x.cells rfl xty Stp.one st0.cells c4 hsz ?_; intro w5 c5 k5; have p0 : w5.cell? ⟨g, 0, none⟩ = some (.int .i64 0) := (Stp.f0 c5).trans (by rw [hkd]); have hzr := hKr.size; have K5 : Keeps (fun _ => False) w1 w5 := (hKr.trans k4).trans' k5 (fun i e => .inr (by omega)); have h5 : Half w1.heap.size (· = g) w5 p w1.heap.size p' gb' r.cap r := ((hHr.more (X' := (· = g)) (fun i e => .inr (by omega))).kept k4).keptX k5; have t5 : Tabs w5 := hT1.keeps K5 (fun h => h) (fun h => h); have lg := RoAt.lt c5; have z5 := K5.size; clear T2 tt; have T3 : Hid True := trivial))
        have hq2 : ∀ w', (∃ q : StW g x, w' = q.w) → w'.rangeAt g 2 x.s.cells.toList := fun w' hp => by obtain ⟨q, rfl⟩ := hp; exact Stp.f2 q.ro hxo
        have hsty := hxo.s.ty
        have ne0 : Nonempty (StW g x) := ⟨⟨_, c5⟩⟩
        have pj : ∀ q : StW g x, q.w.cell? ⟨g, 1, none⟩ = some (.int .i64 x.i) := fun q => Stp.f1 q.ro
        have kd : Keeps (fun _ => False) w5 w5.drew := (Keeps.refl _ _).drew
        have hdz : w5.drew.heap.size = w5.heap.size := rfl
        try simp only [Act.put, List.setIfInBounds_toArray, List.set_cons_zero, List.set_cons_succ]
        refine region_planX (S := fun w' => ∃ q : StW g x, w' = q.w) [([0, 1, 2, 4, 5, 6], 3), ([], 7)] [8] (by kernel_rfl) (by kernel_rfl) (by kernel_rfl) (by kernel_rfl) ⟨⟨_, RoAt.keep c5 kd⟩, rfl⟩ ?_
        simp only [wpPlan, opsAt, pick]
        repeat (first
          | (go_big_quiet_want; refine quiet_loadV 28 (.tmp 44) rfl g 2 rfl x.s.cells hq2 hsty ?_; simp only [Act.put, List.setIfInBounds_toArray, List.set_cons_zero, List.set_cons_succ]; go_big_quiet_on)
          | (go_big_quiet_want; refine quiet_loadV 28 (.tmp 48) rfl g 2 rfl x.s.cells hq2 hsty ?_; simp only [Act.put, List.setIfInBounds_toArray, List.set_cons_zero, List.set_cons_succ]; go_big_quiet_on)
          | go_big_quiet_step (fail))
        refine wpQuiet_nil ?_
        go_wp2_with (go_at_call 20; refine (dwr HW.out (h5.kept kd) (t5.keeps kd (fun h => h) (fun h => h)) hP hk60 (fun i e => by subst e; omega) (by omega) hxo.s).mono ?_; rintro e w6 ⟨rfl, h6, k6⟩)
        have c6 := RoAt.keeps (RoAt.keep c5 kd) k6 (fun h => h.2 rfl)
        have z6 := k6.size
        refine ⟨⟨⟨_, c6⟩, rfl⟩, ?_⟩
        simp only [wpPlan, opsAt, pick]
        refine wpQuiet_nil ?_
        go_wp2_with (go_at_call 21; refine (rwr HW.out h6 hP hk60 (fun i e => by subst e; omega) (by omega) hxo.s).mono ?_; rintro e wE ⟨rfl, hE, kE⟩)
        have c7 := RoAt.keeps c6 kE (fun h => h.2 rfl)
        refine ⟨⟨⟨_, c7⟩, rfl⟩, ?_⟩
        simp only [wpPlan, opsAt, pick]
        repeat (go_big_quiet_step (fail))
        refine wpQuiet_nil ?_
        refine NoPanic.normal ?_
        have KE : Keeps (fun _ => False) w1 wE := ((K5.trans kd).trans' k6 (fun i e => .inr e.1)).trans' kE (fun i e => .inr e.1)
        clear ne0 pj hq2 h5 h6 c5 c6 c7 kd k6 kE K5 k4 k5 c4 p0 hHr hKr
        obtain ⟨v, f2, hv⟩ : ∃ v f2, newR rE = (v, f2) := ⟨_, _, rfl⟩
        have NN : Hid (newR rE = (v, f2)) := hv
        have hvo : v.Ok := hPE.newest hv hm.1
        have qv := eqS hvo hvo (v := true) (decide_eq_true rfl)
        have tE := hT1.keeps KE (fun h => h) (fun h => h)
        clear hv hat
        have U0 : Hid True := trivial
        go_wp2_with (first
          | (have tt := U0; go_at_call 27; refine (dnw NN.out hE tE hPE (by omega) hm.1).mono ?_; rintro e w6 ⟨rfl, k6⟩; have h6 := hE.kept k6; have K6 := KE.trans k6; clear U0 tt; have U1 : Hid True := trivial)
          | (have tt := U1; refine wpList_allocS rfl rfl ?_; intro g11 w7 e7 z7 k7; have h7 := (h6.more (X' := (· = g11)) (fun i e => .inr (by omega))).kept k7; have K7 := K6.trans k7; have z11 : w1.heap.size ≤ g11 := (by have := K6.size; omega); clear U1 tt; have U2 : Hid True := trivial)
          | (have tt := U2; refine wpList_storeS rfl _ _ rfl g11 rfl v hvo rfl su0 su0_ok e7 ?_; intro w8 e8 k8; have h8 := h7.keptX k8; have K8 : Keeps (fun _ => False) w1 w8 := K7.trans' k8 (fun i e => .inr (by omega)); clear U2 tt; have U3 : Hid True := trivial)
          | (have tt := U3; go_at_call 28; refine (rnwt NN.out h8 hPE (by omega) hm.1).mono ?_; rintro e w9 ⟨rfl, k9⟩; have e9 := RoAt.keep e8 k9; have h9 := h8.kept k9; have K9 := K8.trans k9; clear U3 tt; have U4 : Hid True := trivial)
          | (have tt := U4; refine wpList_allocS rfl rfl ?_; intro g13 w10 e10 z10 k10; have h10 := (h9.more (X' := (· = g13)) (fun i e => .inr (by omega))).kept k10; have b10 := RoAt.keep e9 k10; have n13 : g11 ≠ g13 := (by have := RoAt.lt e9; omega); have K10 := K9.trans k10; have z13 : w1.heap.size ≤ g13 := (by have := K9.size; omega); clear U4 tt; have U5 : Hid True := trivial)
          | (have tt := U5; refine wpList_storeS rfl _ _ rfl g13 rfl v hvo rfl su0 su0_ok e10 ?_; intro w11 e11 k11; have b11 := RoAt.keeps b10 k11 n13; have h11 := h10.keptX k11; have K11 : Keeps (fun _ => False) w1 w11 := K10.trans' k11 (fun i e => .inr (by omega)); clear U5 tt; have U6 : Hid True := trivial)
          | (have tt := U6; refine wpList_loadS rfl (.tmp 11) rfl g11 rfl v hvo b11 ?_; clear U6 tt; have U7 : Hid True := trivial)
          | (have tt := U7; refine wpList_loadS rfl (.tmp 13) rfl g13 rfl v hvo e11 ?_; clear U7 tt))
        exact ⟨⟨k + 1, rE, by omega, rfl, h11.more (fun i h => h.elim), hPE, K11⟩, by simp [intOf]; omega⟩
      · have bty : RowTy 30 (brow x.b).size := by rw [size_brow, hxo.b]; exact ⟨⟨_, Tryd.underlying30, rfl⟩, by kernel_rfl⟩
        obtain ⟨f, rE, hw⟩ : ∃ f rE, r.write x.i (x.b.map vb) = (f, rE) := ⟨_, _, rfl⟩
        have HW : Hid (r.write x.i (x.b.map vb) = (f, rE)) := hw
        have hPE : Pl rE m (k + 1) := by have := hP.write x.i hxo.b; rw [hw] at this; exact this
        clear hw
        have T0 : Hid True := trivial
        go_wp2_with (first
          | (have tt := T0; refine wpList_loadV rfl 53 (.tmp 37) rfl b (o + k * 182) rfl x.cells hat xty ?_; clear T0 tt; have T1 : Hid True := trivial)
          | (have tt := T1; refine wpList_allocR rfl 53 rfl st0.cells zero53 ?_; intro g w4 c4 z4 k4; clear T1 tt; have T2 : Hid True := trivial)
          | (have tt := T2; refine wpList_storeR rfl 53 _ _ rfl g rfl x.cells rfl xty Stp.one st0.cells c4 hsz ?_; intro w5 c5 k5; have p0 : w5.cell? ⟨g, 0, none⟩ = some (.int .i64 1) := (Stp.f0 c5).trans (by rw [hkd]); have hzr := hKr.size; have K5 : Keeps (fun _ => False) w1 w5 := (hKr.trans k4).trans' k5 (fun i e => .inr (by omega)); have h5 : Half w1.heap.size (· = g) w5 p w1.heap.size p' gb' r.cap r := ((hHr.more (X' := (· = g)) (fun i e => .inr (by omega))).kept k4).keptX k5; have t5 : Tabs w5 := hT1.keeps K5 (fun h => h) (fun h => h); have lg := RoAt.lt c5; have z5 := K5.size; have p1 := Stp.f1 c5; have r5 := Stp.f3 c5 hxo; clear T2 tt; have T3 : Hid True := trivial)
          | (have tt := T3; refine wpList_loadV rfl 30 (.tmp 57) rfl g 53 rfl (brow x.b) r5 bty ?_; clear T3 tt; have T4 : Hid True := trivial)
          | (have tt := T4; go_at_call 22; refine (dwt HW.out hxo.b h5 hP hk60 (fun i e => by subst e; omega) (by omega)).mono ?_; rintro e w6 ⟨rfl, h6, k6⟩; have c6 := RoAt.keeps c5 k6 (fun h => h.2 rfl); have p16 := Stp.f1 c6; have r6 := Stp.f3 c6 hxo; have z6 := k6.size; clear T4 tt; have T5 : Hid True := trivial)
          | (have tt := T5; refine wpList_loadV rfl 30 (.tmp 65) rfl g 53 rfl (brow x.b) r6 bty ?_; clear T5 tt; have T6 : Hid True := trivial)
          | (have tt := T6; go_at_call 23; refine (rwt HW.out hxo.b h6 hP hk60 (fun i e => by subst e; omega) (by omega)).mono ?_; rintro e wE ⟨rfl, hE, kE⟩; have KE : Keeps (fun _ => False) w1 wE := (K5.trans' k6 (fun i e => .inr e.1)).trans' kE (fun i e => .inr e.1); clear T6 tt))
        clear h5 h6 c5 c6 k6 kE K5 k4 k5 c4 p0 p1 p16 r5 r6 hHr hKr
        obtain ⟨v, f2, hv⟩ : ∃ v f2, newR rE = (v, f2) := ⟨_, _, rfl⟩
        have NN : Hid (newR rE = (v, f2)) := hv
        have hvo : v.Ok := hPE.newest hv hm.1
        have qv := eqS hvo hvo (v := true) (decide_eq_true rfl)
        have tE := hT1.keeps KE (fun h => h) (fun h => h)
        clear hv hat
        have U0 : Hid True := trivial
        go_wp2_with (first
          | (have tt := U0; go_at_call 27; refine (dnw NN.out hE tE hPE (by omega) hm.1).mono ?_; rintro e w6 ⟨rfl, k6⟩; have h6 := hE.kept k6; have K6 := KE.trans k6; clear U0 tt; have U1 : Hid True := trivial)
          | (have tt := U1; refine wpList_allocS rfl rfl ?_; intro g11 w7 e7 z7 k7; have h7 := (h6.more (X' := (· = g11)) (fun i e => .inr (by omega))).kept k7; have K7 := K6.trans k7; have z11 : w1.heap.size ≤ g11 := (by have := K6.size; omega); clear U1 tt; have U2 : Hid True := trivial)
          | (have tt := U2; refine wpList_storeS rfl _ _ rfl g11 rfl v hvo rfl su0 su0_ok e7 ?_; intro w8 e8 k8; have h8 := h7.keptX k8; have K8 : Keeps (fun _ => False) w1 w8 := K7.trans' k8 (fun i e => .inr (by omega)); clear U2 tt; have U3 : Hid True := trivial)
          | (have tt := U3; go_at_call 28; refine (rnwt NN.out h8 hPE (by omega) hm.1).mono ?_; rintro e w9 ⟨rfl, k9⟩; have e9 := RoAt.keep e8 k9; have h9 := h8.kept k9; have K9 := K8.trans k9; clear U3 tt; have U4 : Hid True := trivial)
          | (have tt := U4; refine wpList_allocS rfl rfl ?_; intro g13 w10 e10 z10 k10; have h10 := (h9.more (X' := (· = g13)) (fun i e => .inr (by omega))).kept k10; have b10 := RoAt.keep e9 k10; have n13 : g11 ≠ g13 := (by have := RoAt.lt e9; omega); have K10 := K9.trans k10; have z13 : w1.heap.size ≤ g13 := (by have := K9.size; omega); clear U4 tt; have U5 : Hid True := trivial)
          | (have tt := U5; refine wpList_storeS rfl _ _ rfl g13 rfl v hvo rfl su0 su0_ok e10 ?_; intro w11 e11 k11; have b11 := RoAt.keeps b10 k11 n13; have h11 := h10.keptX k11; have K11 : Keeps (fun _ => False) w1 w11 := K10.trans' k11 (fun i e => .inr (by omega)); clear U5 tt; have U6 : Hid True := trivial)
          | (have tt := U6; refine wpList_loadS rfl (.tmp 11) rfl g11 rfl v hvo b11 ?_; clear U6 tt; have U7 : Hid True := trivial)
          | (have tt := U7; refine wpList_loadS rfl (.tmp 13) rfl g13 rfl v hvo e11 ?_; clear U7 tt))
        exact ⟨⟨k + 1, rE, by omega, rfl, h11.more (fun i h => h.elim), hPE, K11⟩, by simp [intOf]; omega⟩
      · obtain ⟨rE, hw⟩ : ∃ rE, r.crash x.ks x.i = rE := ⟨_, rfl⟩
        have HW : Hid (r.crash x.ks x.i = rE) := hw
        have hPE : Pl rE m (k + 1) := by rw [← hw]; exact hP.crash _ _
        clear hw
        have T0 : Hid True := trivial
        go_wp2_with (first
          | (have tt := T0; refine wpList_loadV rfl 53 (.tmp 37) rfl b (o + k * 182) rfl x.cells hat xty ?_; clear T0 tt; have T1 : Hid True := trivial)
          | (have tt := T1; refine wpList_allocR rfl 53 rfl st0.cells zero53 ?_; intro g w4 c4 z4 k4; clear T1 tt; have T2 : Hid True := trivial)
          | (have tt := T2; refine wpList_storeR rfl 53 _ _ rfl g rfl x.cells rfl xty Stp.one st0.cells c4 hsz ?_; intro w5 c5 k5; have p0 : w5.cell? ⟨g, 0, none⟩ = some (.int .i64 2) := (Stp.f0 c5).trans (by rw [hkd]); have hzr := hKr.size; have K5 : Keeps (fun _ => False) w1 w5 := (hKr.trans k4).trans' k5 (fun i e => .inr (by omega)); have h5 : Half w1.heap.size (· = g) w5 p w1.heap.size p' gb' r.cap r := ((hHr.more (X' := (· = g)) (fun i e => .inr (by omega))).kept k4).keptX k5; have t5 : Tabs w5 := hT1.keeps K5 (fun h => h) (fun h => h); have lg := RoAt.lt c5; have z5 := K5.size; clear T2 tt; have T3 : Hid True := trivial))
        have ne0 : Nonempty (StW g x) := ⟨⟨_, c5⟩⟩
        have pk : ∀ q : StW g x, q.w.cell? ⟨g, 181, none⟩ = some (.slice x.ka x.ks.length x.kc) := fun q => Stp.f4 q.ro hxo
        have pj : ∀ q : StW g x, q.w.cell? ⟨g, 1, none⟩ = some (.int .i64 x.i) := fun q => Stp.f1 q.ro
        have kd : Keeps (fun _ => False) w5 w5.drew := (Keeps.refl _ _).drew
        have hdz : w5.drew.heap.size = w5.heap.size := rfl
        try simp only [Act.put, List.setIfInBounds_toArray, List.set_cons_zero, List.set_cons_succ]
        refine region_planX (S := fun w' => ∃ q : StW g x, w' = q.w) [([0, 2, 3, 5, 6], 1), ([], 4), ([], 7)] [] (by kernel_rfl) (by kernel_rfl) (by kernel_rfl) (by kernel_rfl) ⟨⟨_, RoAt.keep c5 kd⟩, rfl⟩ ?_
        simp only [wpPlan, opsAt, pick]
        repeat (go_big_quiet_step (fail))
        refine wpQuiet_nil ?_
        go_wp2_with (refine wpList_build0L rfl rfl ?_; intro gk w6 o6 z6 l6' k6)
        have k05 := kd.trans k6
        have c6 := RoAt.keep c5 k05
        refine ⟨⟨⟨_, c6⟩, rfl⟩, ?_⟩
        simp only [wpPlan, opsAt, pick]
        refine wpQuiet_nil ?_
        have hkA := KeepAt.keeps hKA (K5.trans k05)
        go_wp2_with (refine wpList_plain rfl fun K hK => op_keepCopy _ _ rfl gk rfl x.ka x.kc x.ks rfl hkA hx300 ?_; intro a16 c16 w7 kp7 k7 hab; refine hK _ _ ?_)
        have k06 := k05.trans k7
        have c7 := RoAt.keep c5 k06
        have z66 := k6.size
        have z77 := k7.size
        refine ⟨⟨⟨_, c7⟩, rfl⟩, ?_⟩
        simp only [wpPlan, opsAt, pick]
        refine wpQuiet_nil ?_
        have h7 := h5.kept k06
        have hne : ∀ b o, a16 = some ⟨b, o, none⟩ → b ≠ w1.heap.size := fun b o e => by
          rcases hab b o e with h | h <;> omega
        go_wp2_with (go_at_call 24; refine (dcr HW.out h7 hP hk60 (fun i e => by subst e; omega) a16 c16 kp7 hne).mono ?_; rintro e w8 ⟨rfl, h8, k8⟩)
        have c8 := RoAt.keeps c7 k8 (fun h => h.2 rfl)
        refine ⟨⟨⟨_, c8⟩, rfl⟩, ?_⟩
        simp only [wpPlan, opsAt, pick]
        refine wpQuiet_nil ?_
        refine NoPanic.normal ?_
        have p1 := Stp.f1 c8
        have p4 := Stp.f4 c8 hxo
        have K8 : Keeps (fun _ => False) w1 w8 := (K5.trans k06).trans' k8 (fun i e => .inr e.1)
        have z8 := k8.size
        have hgl := h8.lt
        have hka : x.ks ≠ [] → ∀ b o, x.ka = some ⟨b, o, none⟩ → b ≠ gb' := fun hne b o e => by
          obtain ⟨y, ys, hy⟩ := List.exists_cons_of_ne_nil hne
          obtain ⟨b2, o2, e2, hc2, _⟩ := hKA 0 y (by rw [hy]; rfl)
          rw [e] at e2
          cases e2
          have := World.block_lt_of_cell? w1 _ hc2
          dsimp only at this
          omega
        have hkA8 := KeepAt.keeps hKA K8
        clear pk pj ne0
        go_wp2_with (go_at_call 25; refine (rcr HW.out h8 hP hk60 (fun i e => by subst e; omega) (by omega) x.ka x.kc hkA8 hx300 hka).mono ?_; rintro e wE ⟨rfl, hE, kE⟩)
        have KE : Keeps (fun _ => False) w1 wE := K8.trans' kE (fun i e => .inr e.1)
        clear h5 h7 h8 c5 c6 c7 c8 k6 k7 k8 kE K5 K8 k4 k5 c4 p0 p1 p4 hHr hKr kd k05 k06 hab hne hka hkA hkA8 kp7
        obtain ⟨v, f2, hv⟩ : ∃ v f2, newR rE = (v, f2) := ⟨_, _, rfl⟩
        have NN : Hid (newR rE = (v, f2)) := hv
        have hvo : v.Ok := hPE.newest hv hm.1
        have qv := eqS hvo hvo (v := true) (decide_eq_true rfl)
        have tE := hT1.keeps KE (fun h => h) (fun h => h)
        clear hv hat
        have U0 : Hid True := trivial
        go_wp2_with (first
          | (have tt := U0; go_at_call 27; refine (dnw NN.out hE tE hPE (by omega) hm.1).mono ?_; rintro e w6 ⟨rfl, k6⟩; have h6 := hE.kept k6; have K6 := KE.trans k6; clear U0 tt; have U1 : Hid True := trivial)
          | (have tt := U1; refine wpList_allocS rfl rfl ?_; intro g11 w7 e7 z7 k7; have h7 := (h6.more (X' := (· = g11)) (fun i e => .inr (by omega))).kept k7; have K7 := K6.trans k7; have z11 : w1.heap.size ≤ g11 := (by have := K6.size; omega); clear U1 tt; have U2 : Hid True := trivial)
          | (have tt := U2; refine wpList_storeS rfl _ _ rfl g11 rfl v hvo rfl su0 su0_ok e7 ?_; intro w8 e8 k8; have h8 := h7.keptX k8; have K8 : Keeps (fun _ => False) w1 w8 := K7.trans' k8 (fun i e => .inr (by omega)); clear U2 tt; have U3 : Hid True := trivial)
          | (have tt := U3; go_at_call 28; refine (rnwt NN.out h8 hPE (by omega) hm.1).mono ?_; rintro e w9 ⟨rfl, k9⟩; have e9 := RoAt.keep e8 k9; have h9 := h8.kept k9; have K9 := K8.trans k9; clear U3 tt; have U4 : Hid True := trivial)
          | (have tt := U4; refine wpList_allocS rfl rfl ?_; intro g13 w10 e10 z10 k10; have h10 := (h9.more (X' := (· = g13)) (fun i e => .inr (by omega))).kept k10; have b10 := RoAt.keep e9 k10; have n13 : g11 ≠ g13 := (by have := RoAt.lt e9; omega); have K10 := K9.trans k10; have z13 : w1.heap.size ≤ g13 := (by have := K9.size; omega); clear U4 tt; have U5 : Hid True := trivial)
          | (have tt := U5; refine wpList_storeS rfl _ _ rfl g13 rfl v hvo rfl su0 su0_ok e10 ?_; intro w11 e11 k11; have b11 := RoAt.keeps b10 k11 n13; have h11 := h10.keptX k11; have K11 : Keeps (fun _ => False) w1 w11 := K10.trans' k11 (fun i e => .inr (by omega)); clear U5 tt; have U6 : Hid True := trivial)
          | (have tt := U6; refine wpList_loadS rfl (.tmp 11) rfl g11 rfl v hvo b11 ?_; clear U6 tt; have U7 : Hid True := trivial)
          | (have tt := U7; refine wpList_loadS rfl (.tmp 13) rfl g13 rfl v hvo e11 ?_; clear U7 tt))
        exact ⟨⟨k + 1, rE, by omega, rfl, h11.more (fun i h => h.elim), hPE, K11⟩, by simp [intOf]; omega⟩
      · obtain ⟨rE, hw⟩ : ∃ rE, r.raw x.i = rE := ⟨_, rfl⟩
        have HW : Hid (r.raw x.i = rE) := hw
        have hPE : Pl rE m (k + 1) := by rw [← hw]; exact hP.raw _ hxo.i
        clear hw
        have T0 : Hid True := trivial
        go_wp2_with (first
          | (have tt := T0; refine wpList_loadV rfl 53 (.tmp 37) rfl b (o + k * 182) rfl x.cells hat xty ?_; clear T0 tt; have T1 : Hid True := trivial)
          | (have tt := T1; refine wpList_allocR rfl 53 rfl st0.cells zero53 ?_; intro g w4 c4 z4 k4; clear T1 tt; have T2 : Hid True := trivial)
          | (have tt := T2; refine wpList_storeR rfl 53 _ _ rfl g rfl x.cells rfl xty Stp.one st0.cells c4 hsz ?_; intro w5 c5 k5; have p0 : w5.cell? ⟨g, 0, none⟩ = some (.int .i64 3) := (Stp.f0 c5).trans (by rw [hkd]); have hzr := hKr.size; have K5 : Keeps (fun _ => False) w1 w5 := (hKr.trans k4).trans' k5 (fun i e => .inr (by omega)); have h5 : Half w1.heap.size (· = g) w5 p w1.heap.size p' gb' r.cap r := ((hHr.more (X' := (· = g)) (fun i e => .inr (by omega))).kept k4).keptX k5; have t5 : Tabs w5 := hT1.keeps K5 (fun h => h) (fun h => h); have lg := RoAt.lt c5; have z5 := K5.size; have p1 := Stp.f1 c5; clear T2 tt; have T3 : Hid True := trivial)
          | (have tt := T3; go_at_call 26; refine (dfuse_half h5 (fun i e => by subst e; omega) x.i).mono ?_; rintro e w6 ⟨rfl, h6, k6⟩; have c6 := RoAt.keeps c5 k6 (fun h => h.2 rfl); have p16 := Stp.f1 c6; have z6 := k6.size; have hEE := h6.fuse (fun i e => by subst e; omega) (by omega) x.i; have f22 := h6.cells; obtain ⟨_, _, _, _, f2, _, _, ffr, _⟩ := f22; have ff2 := ffr 2; clear ffr T3 tt))
        obtain ⟨wE, hwE⟩ : ∃ wE, w6.setCell ⟨p', 2, none⟩ (.int .i64 x.i) = wE := ⟨_, rfl⟩
        rw [hwE] at hEE
        rw [hwE]
        rw [HW.out] at hEE
        obtain ⟨hE, kE⟩ := hEE
        have KE : Keeps (fun _ => False) w1 wE := (K5.trans' k6 (fun i e => .inr e.1)).trans' kE (fun i e => .inr e.1)
        clear hwE h5 h6 c5 c6 k6 kE K5 k4 k5 c4 p0 p1 p16 hHr hKr f2 ff2
        obtain ⟨v, f2, hv⟩ : ∃ v f2, newR rE = (v, f2) := ⟨_, _, rfl⟩
        have NN : Hid (newR rE = (v, f2)) := hv
        have hvo : v.Ok := hPE.newest hv hm.1
        have qv := eqS hvo hvo (v := true) (decide_eq_true rfl)
        have tE := hT1.keeps KE (fun h => h) (fun h => h)
        clear hv hat
        have U0 : Hid True := trivial
        go_wp2_with (first
          | (have tt := U0; go_at_call 27; refine (dnw NN.out hE tE hPE (by omega) hm.1).mono ?_; rintro e w6 ⟨rfl, k6⟩; have h6 := hE.kept k6; have K6 := KE.trans k6; clear U0 tt; have U1 : Hid True := trivial)
          | (have tt := U1; refine wpList_allocS rfl rfl ?_; intro g11 w7 e7 z7 k7; have h7 := (h6.more (X' := (· = g11)) (fun i e => .inr (by omega))).kept k7; have K7 := K6.trans k7; have z11 : w1.heap.size ≤ g11 := (by have := K6.size; omega); clear U1 tt; have U2 : Hid True := trivial)
          | (have tt := U2; refine wpList_storeS rfl _ _ rfl g11 rfl v hvo rfl su0 su0_ok e7 ?_; intro w8 e8 k8; have h8 := h7.keptX k8; have K8 : Keeps (fun _ => False) w1 w8 := K7.trans' k8 (fun i e => .inr (by omega)); clear U2 tt; have U3 : Hid True := trivial)
          | (have tt := U3; go_at_call 28; refine (rnwt NN.out h8 hPE (by omega) hm.1).mono ?_; rintro e w9 ⟨rfl, k9⟩; have e9 := RoAt.keep e8 k9; have h9 := h8.kept k9; have K9 := K8.trans k9; clear U3 tt; have U4 : Hid True := trivial)
          | (have tt := U4; refine wpList_allocS rfl rfl ?_; intro g13 w10 e10 z10 k10; have h10 := (h9.more (X' := (· = g13)) (fun i e => .inr (by omega))).kept k10; have b10 := RoAt.keep e9 k10; have n13 : g11 ≠ g13 := (by have := RoAt.lt e9; omega); have K10 := K9.trans k10; have z13 : w1.heap.size ≤ g13 := (by have := K9.size; omega); clear U4 tt; have U5 : Hid True := trivial)
          | (have tt := U5; refine wpList_storeS rfl _ _ rfl g13 rfl v hvo rfl su0 su0_ok e10 ?_; intro w11 e11 k11; have b11 := RoAt.keeps b10 k11 n13; have h11 := h10.keptX k11; have K11 : Keeps (fun _ => False) w1 w11 := K10.trans' k11 (fun i e => .inr (by omega)); clear U5 tt; have U6 : Hid True := trivial)
          | (have tt := U6; refine wpList_loadS rfl (.tmp 11) rfl g11 rfl v hvo b11 ?_; clear U6 tt; have U7 : Hid True := trivial)
          | (have tt := U7; refine wpList_loadS rfl (.tmp 13) rfl g13 rfl v hvo e11 ?_; clear U7 tt))
        exact ⟨⟨k + 1, rE, by omega, rfl, h11.more (fun i h => h.elim), hPE, K11⟩, by simp [intOf]; omega⟩
      · have hPE := hP.step
        have T0 : Hid True := trivial
        go_wp2_with (first
          | (have tt := T0; refine wpList_loadV rfl 53 (.tmp 37) rfl b (o + k * 182) rfl x.cells hat xty ?_; clear T0 tt; have T1 : Hid True := trivial)
          | (have tt := T1; refine wpList_allocR rfl 53 rfl st0.cells zero53 ?_; intro g w4 c4 z4 k4; clear T1 tt; have T2 : Hid True := trivial)
          | (have tt := T2; refine wpList_storeR rfl 53 _ _ rfl g rfl x.cells rfl xty Stp.one st0.cells c4 hsz ?_; intro w5 c5 k5; have p0 : w5.cell? ⟨g, 0, none⟩ = some (.int .i64 x.kind) := Stp.f0 c5; have hzr := hKr.size; have K5 : Keeps (fun _ => False) w1 w5 := (hKr.trans k4).trans' k5 (fun i e => .inr (by omega)); have h5 : Half w1.heap.size (· = g) w5 p w1.heap.size p' gb' r.cap r := ((hHr.more (X' := (· = g)) (fun i e => .inr (by omega))).kept k4).keptX k5; have t5 : Tabs w5 := hT1.keeps K5 (fun h => h) (fun h => h); have lg := RoAt.lt c5; have z5 := K5.size; clear T2 tt; have T3 : Hid True := trivial))
        have hE := h5
        have KE := K5
        obtain ⟨v, f2, hv⟩ : ∃ v f2, newR r = (v, f2) := ⟨_, _, rfl⟩
        have NN : Hid (newR r = (v, f2)) := hv
        have hvo : v.Ok := hPE.newest hv hm.1
        have qv := eqS hvo hvo (v := true) (decide_eq_true rfl)
        have tE := hT1.keeps KE (fun h => h) (fun h => h)
        clear hv hat
        have U0 : Hid True := trivial
        go_wp2_with (first
          | (have tt := U0; go_at_call 27; refine (dnw NN.out hE tE hPE (by omega) hm.1).mono ?_; rintro e w6 ⟨rfl, k6⟩; have h6 := hE.kept k6; have K6 := KE.trans k6; clear U0 tt; have U1 : Hid True := trivial)
          | (have tt := U1; refine wpList_allocS rfl rfl ?_; intro g11 w7 e7 z7 k7; have h7 := (h6.more (X' := (· = g11)) (fun i e => .inr (by omega))).kept k7; have K7 := K6.trans k7; have z11 : w1.heap.size ≤ g11 := (by have := K6.size; omega); clear U1 tt; have U2 : Hid True := trivial)
          | (have tt := U2; refine wpList_storeS rfl _ _ rfl g11 rfl v hvo rfl su0 su0_ok e7 ?_; intro w8 e8 k8; have h8 := h7.keptX k8; have K8 : Keeps (fun _ => False) w1 w8 := K7.trans' k8 (fun i e => .inr (by omega)); clear U2 tt; have U3 : Hid True := trivial)
          | (have tt := U3; go_at_call 28; refine (rnwt NN.out h8 hPE (by omega) hm.1).mono ?_; rintro e w9 ⟨rfl, k9⟩; have e9 := RoAt.keep e8 k9; have h9 := h8.kept k9; have K9 := K8.trans k9; clear U3 tt; have U4 : Hid True := trivial)
          | (have tt := U4; refine wpList_allocS rfl rfl ?_; intro g13 w10 e10 z10 k10; have h10 := (h9.more (X' := (· = g13)) (fun i e => .inr (by omega))).kept k10; have b10 := RoAt.keep e9 k10; have n13 : g11 ≠ g13 := (by have := RoAt.lt e9; omega); have K10 := K9.trans k10; have z13 : w1.heap.size ≤ g13 := (by have := K9.size; omega); clear U4 tt; have U5 : Hid True := trivial)
          | (have tt := U5; refine wpList_storeS rfl _ _ rfl g13 rfl v hvo rfl su0 su0_ok e10 ?_; intro w11 e11 k11; have b11 := RoAt.keeps b10 k11 n13; have h11 := h10.keptX k11; have K11 : Keeps (fun _ => False) w1 w11 := K10.trans' k11 (fun i e => .inr (by omega)); clear U5 tt; have U6 : Hid True := trivial)
          | (have tt := U6; refine wpList_loadS rfl (.tmp 11) rfl g11 rfl v hvo b11 ?_; clear U6 tt; have U7 : Hid True := trivial)
          | (have tt := U7; refine wpList_loadS rfl (.tmp 13) rfl g13 rfl v hvo e11 ?_; clear U7 tt))
        exact ⟨⟨k + 1, r, by omega, rfl, h11.more (fun i h => h.elim), hPE, K11⟩, by simp [intOf]; omega⟩
    · obtain rfl : k = N := by omega
      have hlt' : ¬ (k : Int) < (k : Int) := by omega
      have T0 : Hid True := trivial
      go_wp2_with (have tt := T0; go_at_call 16; refine (wakes16 _ (hT1.keeps hKr (fun h => h) (fun h => h))).mono ?_; rintro e w6 ⟨rfl, k6⟩; clear T0 tt)
      go_ret
      exact ⟨rfl, (k1.trans hKr).trans k6⟩
end Go.Proofs.YtdgnjpdjohibeaaDoor
