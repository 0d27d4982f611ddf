/-
  Decode of the reference.
-/
import Derived.Test.YtdgnjpdjohibeaaDoorRe
set_option linter.all false
set_option maxRecDepth 100000
namespace Go.Proofs.YtdgnjpdjohibeaaDoor
open Go.RowKit Go.Sort Go.Shelf

theorem results_su13 (tm : Array Value) (g2 : Nat) (wr : World) (s : Su) (hs : s.Ok) (v : Int) (h1 : tm.getD 2 undef = .pointer (some ⟨g2, 0, none⟩)) (h2 : tm.getD 3 undef = .int .i64 v) (h3 : SuAt wr g2 s) : (results Tryd.f13 tm).run Tryd.prog wr = .ok (toldS (s, v)) wr :=
  results_ro_slot rfl tm wr g2 s.cells _ h1 h2 h3 hs.ty
theorem splice_over (A : Array Value) (o : Nat) (cs : List Value) : (splice A.toList o cs).toArray = over A o cs.toArray := by
  unfold splice over
  simp
/-- copy of bytes into a row, from of on. -/
theorem wpList_copyF {ops : Array Oper} {rest : List Oper} {o : Oper} {a : Act} {w : World} {Q : Exit → Act → World → Prop} (hgd : o.guard = none) (d s : Operand) (ho : o.op = .call { callee := .builtin .copy, args := #[d, s], argTypes := #[51, 51] })
    (g of n dc : Nat) (hd : a.eval d = .slice (some ⟨g, of, none⟩) n dc) (b ob c : Nat) (hs : a.eval s = .slice (some ⟨b, ob, none⟩) n c) (L : List B) (hl : SlB w (some ⟨b, ob, none⟩) n c L) (t : TypeId) (cur : Array Value) (hb : RoAt w g t cur) (hfit : of + n ≤ cur.size)
    (h : ∀ w', RoAt w' g t (over cur of (brow L)) → Keeps (· = g) w w' → wpList Tryd.prog ops Q rest (a.put o.dst (goInt n)) w') : wpList Tryd.prog ops Q (o :: rest) a w := by
  have hlen := hl.len
  have hsrc : ∀ j v, (L.map vb)[j]? = some v → w.cell? ((⟨b, ob, none⟩ : Addr).add j) = some v := fun j v hv => by
    rw [List.getElem?_map] at hv
    cases hq : L[j]? with
    | none => rw [hq] at hv; cases hv
    | some x =>
      rw [hq] at hv
      obtain ⟨b', o', e', hc⟩ := hl.at_ j x hq
      cases e'
      rw [Addr_add]
      cases hv
      exact hc
  have hrow : w.heap[g]? = some (.cells cur.toList.toArray t (0, 0)) := by rw [Array.toArray_toList]; exact hb.row
  refine wpList_copy_over hgd d s 51 51 ho 5 Tryd.underlying51 size5 _ _ _ _ _ _ hd hs g of cur.toList t hrow (L.map vb) (by rw [List.length_map, hlen]; show n = min n n; omega) (fun _ => ⟨rfl, _, rfl, hsrc⟩) (by rw [List.length_map, hlen, Array.length_toList]; exact hfit) (one_bytes L) ?_
  intro w' hr hk _
  have hr' := hr.out
  rw [splice_over] at hr'
  rw [List.length_map, hlen]
  exact h w' ⟨hr'⟩ hk


set_option maxHeartbeats 4000000 in
theorem decQ_no (w : World) (L : List B) (hL : L.length = 128) {s : Su} (hS : srd L = s) (hg : s.good = false) :
    Calls Tryd.prog 13 #[.agg (brow L)] w fun e w' => e = .returned (toldS (decR L)) ∧ Keeps (fun _ => False) w w' := by
  have hs : s.Ok := by rw [← hS]; exact srd_ok hL
  have E7 : Hid ((L.drop 7).take 32 = s.log) := by show _ = _; rw [← hS]; rfl
  have E39 : Hid ((L.drop 39).take 16 = s.used) := by show _ = _; rw [← hS]; rfl
  have E5 : Hid (nb (L.getD 5 0) = s.blocks) := by show _ = _; rw [← hS]; rfl
  have E6 : Hid (nb (L.getD 6 0) = s.root) := by show _ = _; rw [← hS]; rfl
  have EG : Hid (((L.getD 1 0).toNat * 16777216 + (L.getD 2 0).toNat * 65536 + (L.getD 3 0).toNat * 256 + (L.getD 4 0).toNat) = s.gen) := by show _ = _; rw [← hS]; rfl
  have HE : Hid (encR s = (zb 128, 11)) := by show _ = _; unfold encR; rw [hg]; rfl
  have HD : Hid (decR L = (su0, 11)) := by show _ = _; unfold decR; rw [hS, if_neg (by rw [hg]; simp)]
  clear hg
  obtain ⟨s0, hs0⟩ : ∃ s0 : Su, ({ s with log := zb 32, used := zb 16 } : Su) = s0 := ⟨_, rfl⟩
  obtain ⟨s1, hs1⟩ : ∃ s1 : Su, ({ s with used := zb 16 } : Su) = s1 := ⟨_, rfl⟩
  have o0 : s0.Ok := by rw [← hs0]; exact ⟨hs.gen, hs.blocks, hs.root, by simp [zb], by simp [zb]⟩
  have o1 : s1.Ok := by rw [← hs1]; exact ⟨hs.gen, hs.blocks, hs.root, hs.log, by simp [zb]⟩
  have H0 : Hid (s0.gen = s.gen ∧ s0.blocks = s.blocks ∧ s0.root = s.root ∧ s0.log = zb 32 ∧ s0.used = zb 16) := by show _; rw [← hs0]; exact ⟨rfl, rfl, rfl, rfl, rfl⟩
  have V1 : Hid (over s0.cells 3 (brow s.log) = s1.cells) := by show _ = _; rw [over_log s0 s.log o0 hs.log, ← hs0, ← hs1]
  have V2 : Hid (over s1.cells 35 (brow s.used) = s.cells) := by show _ = _; rw [over_used s1 s.used o1 hs.used, ← hs1]
  obtain ⟨y1, hy1⟩ : ∃ y, L.getD 1 0 = y := ⟨_, rfl⟩
  obtain ⟨y2, hy2⟩ : ∃ y, L.getD 2 0 = y := ⟨_, rfl⟩
  obtain ⟨y3, hy3⟩ : ∃ y, L.getD 3 0 = y := ⟨_, rfl⟩
  obtain ⟨y4, hy4⟩ : ∃ y, L.getD 4 0 = y := ⟨_, rfl⟩
  have HY1 : Hid (L.getD 1 0 = y1) := hy1
  have HY2 : Hid (L.getD 2 0 = y2) := hy2
  have HY3 : Hid (L.getD 3 0 = y3) := hy3
  have HY4 : Hid (L.getD 4 0 = y4) := hy4
  rw [hy1, hy2, hy3, hy4] at EG
  clear hy1 hy2 hy3 hy4
  have hn1 := nb_lt y1
  have hn2 := nb_lt y2
  have hn3 := nb_lt y3
  have hn4 := nb_lt y4
  have hbl := hs.blocks
  have hrt := hs.root
  clear hS hs0 hs1
  have T0 : Hid True := trivial
  go_enter Tryd.func13, Tryd.ntmps13
  go_wp2_with (first
    | (have tt := T0; refine wpList_box26 rfl _ rfl L hL rfl ?_; intro g1 w1 b1 z1 k1; clear T0 tt; have T1 : Hid True := trivial)
    | (have tt := T1; refine wpList_allocS rfl rfl ?_; intro g2 w2 c2 z2 k2; have b2 := b1.keep k2; have K2 := k1.trans k2; have hz2 : w.heap.size ≤ g2 := (by have := k1.size; omega); have n12 : g1 ≠ g2 := (by have := b1.lt; omega); have q1 := b2.cell (j := 1) (by omega); have q2 := b2.cell (j := 2) (by omega); have q3 := b2.cell (j := 3) (by omega); have q4 := b2.cell (j := 4) (by omega); have q5 := b2.cell (j := 5) (by omega); have q6 := b2.cell (j := 6) (by omega); rw [HY1.out] at q1; rw [HY2.out] at q2; rw [HY3.out] at q3; rw [HY4.out] at q4; rw [E5.out] at q5; rw [E6.out] at q6; clear T1 tt; have T2 : Hid True := trivial)
    | (have tt := T2; refine wpList_build28_012 rfl _ _ _ rfl s0 o0 H0.out.2.2.2.1 H0.out.2.2.2.2 (congrArg (Value.int .u32) (by have h1 := H0.out.1; have h2 := EG.out; unfold nb at *; omega)) (congrArg (Value.int .i64) H0.out.2.1.symm) (congrArg (Value.int .i64) H0.out.2.2.1.symm) ?_; clear T2 tt; have T3 : Hid True := trivial)
    | (have tt := T3; refine wpList_allocS rfl rfl ?_; intro g4 w4 d4 z4 k4; have b4 := b2.keep k4; have c4 := RoAt.keep c2 k4; have K4 := K2.trans k4; have z4' : w.heap.size ≤ g4 := (by have := K2.size; omega); have n41 : g1 ≠ g4 := (by have := b2.lt; omega); have n42 : g2 ≠ g4 := (by have := RoAt.lt c2; omega); clear T3 tt; have T4 : Hid True := trivial)
    | (have tt := T4; refine wpList_storeS rfl _ _ rfl g4 rfl s0 o0 rfl su0 su0_ok d4 ?_; intro w5 d5 k5; have b5 := b4.keeps k5 n41; have c5 := RoAt.keeps c4 k5 n42; have K5 : Keeps (fun _ => False) w w5 := K4.trans' k5 (fun i e => .inr (by omega)); clear T4 tt))
  clear k1 b1 k2 b2 c2 K2 k4 b4 c4 K4 d4 k5 q1 q2 q3 q4 q5 q6 z1 z2 z4 hn1 hn2 hn3 hn4
  have kd : Keeps (fun _ => False) w5 w5.drew := (Keeps.refl _ _).drew
  try simp only [Act.put, List.setIfInBounds_toArray, List.set_cons_zero, List.set_cons_succ]
  refine region_plan (S := fun w' => ∃ p : Regrown, w' = grow (redrawn w p.d) p.os) [([0, 1, 2], 3)] [] (by kernel_rfl) (by kernel_rfl) (by kernel_rfl) (by kernel_rfl) (cls_keeps K5.drew) ?_
  simp only [wpPlan, opsAt, pick]
  repeat (go_big_quiet_step (fail))
  refine wpQuiet_nil ?_
  have b6 := b5.keep kd
  have sl1 := SlB.ofRow b6.row 7 32 121 (by omega) (by omega)
  rw [E7.out] at sl1
  go_wp2_with (refine wpList_copyF rfl _ _ rfl g4 3 32 32 rfl g1 7 121 rfl s.log sl1 28 s0.cells (RoAt.keep d5 kd) (by rw [o0.size]; omega) ?_; intro w7 d7 k7; rw [V1.out] at d7)
  have K7 : Keeps (fun _ => False) w w7 := (K5.trans kd).trans' k7 (fun i e => .inr (by omega))
  have b7 := b6.keeps k7 n41
  have c7 := RoAt.keeps (RoAt.keep c5 kd) k7 n42
  refine ⟨cls_keeps K7, ?_⟩
  simp only [wpPlan, opsAt, pick]
  refine wpQuiet_nil ?_
  refine NoPanic.normal ?_
  clear kd K5 b5 c5 d5 b6 sl1 k7
  go_wp2
  have kd : Keeps (fun _ => False) w7 w7.drew := (Keeps.refl _ _).drew
  try simp only [Act.put, List.setIfInBounds_toArray, List.set_cons_zero, List.set_cons_succ]
  refine region_plan (S := fun w' => ∃ p : Regrown, w' = grow (redrawn w p.d) p.os) [([0, 1, 2], 3)] [] (by kernel_rfl) (by kernel_rfl) (by kernel_rfl) (by kernel_rfl) (cls_keeps K7.drew) ?_
  simp only [wpPlan, opsAt, pick]
  repeat (go_big_quiet_step (fail))
  refine wpQuiet_nil ?_
  have b8 := b7.keep kd
  have sl2 := SlB.ofRow b8.row 39 16 89 (by omega) (by omega)
  rw [E39.out] at sl2
  go_wp2_with (refine wpList_copyF rfl _ _ rfl g4 35 16 16 rfl g1 39 89 rfl s.used sl2 28 s1.cells (RoAt.keep d7 kd) (by rw [o1.size]; omega) ?_; intro w9 d9 k9; rw [V2.out] at d9)
  have K9 : Keeps (fun _ => False) w w9 := (K7.trans kd).trans' k9 (fun i e => .inr (by omega))
  have b9 := b8.keeps k9 n41
  have c9 := RoAt.keeps (RoAt.keep c7 kd) k9 n42
  refine ⟨cls_keeps K9, ?_⟩
  simp only [wpPlan, opsAt, pick]
  refine wpQuiet_nil ?_
  refine NoPanic.normal ?_
  clear kd K7 b7 c7 d7 b8 sl2 k9
  have T6 : Hid True := trivial
  go_wp2_with (first
    | (have tt := T6; refine wpList_loadS rfl _ rfl g4 rfl s hs d9 ?_; clear T6 tt; have T7 : Hid True := trivial)
    | (have tt := T7; go_at_call 11; refine (encQ_is HE.out _ hs).mono ?_; rintro e w10 ⟨rfl, k10⟩; have b10 := b9.keep k10; have c10 := RoAt.keep c9 k10; have d10 := RoAt.keep d9 k10; have K10 := K9.trans k10; clear T7 tt; have T8 : Hid True := trivial)
    | (have tt := T8; refine wpList_alloc26 rfl rfl ?_; intro g7 w11 e11 z11 k11; have b11 := b10.keep k11; have c11 := RoAt.keep c10 k11; have d11 := RoAt.keep d10 k11; have K11 := K10.trans k11; have z7' : w.heap.size ≤ g7 := (by have := K10.size; omega); have n71 : g1 ≠ g7 := (by have := b10.lt; omega); have n72 : g2 ≠ g7 := (by have := RoAt.lt c10; omega); have n74 : g4 ≠ g7 := (by have := RoAt.lt d10; omega); clear T8 tt; have T9 : Hid True := trivial)
    | (have tt := T9; refine wpList_store26 rfl _ _ rfl g7 rfl (zb 128) rfl (zb_len _) _ e11 ?_; intro w8 e8 k8; have b8 := b11.keeps k8 n71; have c8 := RoAt.keeps c11 k8 n72; have d8 := RoAt.keeps d11 k8 n74; have K8 : Keeps (fun _ => False) w w8 := K11.trans' k8 (fun i e => .inr (by omega)); clear T9 tt; have T10 : Hid True := trivial)
    | (have tt := T10; refine wpList_buildS0 rfl rfl ?_; clear T10 tt; have T13 : Hid True := trivial)
    | (have tt := T13; refine wpList_storeS rfl _ _ rfl g2 rfl su0 su0_ok rfl su0 su0_ok c8 ?_; intro w9 c9 k9; clear T13 tt))
  rw [HD.out]
  exact bodyPost_ret (v := toldS (su0, 11)) (results_su13 _ g2 _ su0 su0_ok 11 rfl rfl c9) rfl ⟨rfl, K8.trans' k9 (fun i e => .inr (by omega))⟩


set_option maxHeartbeats 4000000 in
theorem decQ_other (w : World) (L : List B) (hL : L.length = 128) {s : Su} (hS : srd L = s) (hg : s.good = true) {M : List B} (hM : sblk s = M) (hne : M ≠ L) :
    Calls Tryd.prog 13 #[.agg (brow L)] w fun e w' => e = .returned (toldS (decR L)) ∧ Keeps (fun _ => False) w w' := by
  have hs : s.Ok := by rw [← hS]; exact srd_ok hL
  have E7 : Hid ((L.drop 7).take 32 = s.log) := by show _ = _; rw [← hS]; rfl
  have E39 : Hid ((L.drop 39).take 16 = s.used) := by show _ = _; rw [← hS]; rfl
  have E5 : Hid (nb (L.getD 5 0) = s.blocks) := by show _ = _; rw [← hS]; rfl
  have E6 : Hid (nb (L.getD 6 0) = s.root) := by show _ = _; rw [← hS]; rfl
  have EG : Hid (((L.getD 1 0).toNat * 16777216 + (L.getD 2 0).toNat * 65536 + (L.getD 3 0).toNat * 256 + (L.getD 4 0).toNat) = s.gen) := by show _ = _; rw [← hS]; rfl
  have lM : M.length = 128 := by rw [← hM]; exact sblk_len hs
  have HE : Hid (encR s = (M, 0)) := by show _ = _; unfold encR; rw [hg, ← hM]; rfl
  have HD : Hid (decR L = (su0, 11)) := by show _ = _; unfold decR; rw [hS, hM, if_neg (by intro h; exact hne h.2)]
  have heq := eq26 lM hL
  rw [decide_eq_false hne] at heq
  clear hg hM hne
  obtain ⟨s0, hs0⟩ : ∃ s0 : Su, ({ s with log := zb 32, used := zb 16 } : Su) = s0 := ⟨_, rfl⟩
  obtain ⟨s1, hs1⟩ : ∃ s1 : Su, ({ s with used := zb 16 } : Su) = s1 := ⟨_, rfl⟩
  have o0 : s0.Ok := by rw [← hs0]; exact ⟨hs.gen, hs.blocks, hs.root, by simp [zb], by simp [zb]⟩
  have o1 : s1.Ok := by rw [← hs1]; exact ⟨hs.gen, hs.blocks, hs.root, hs.log, by simp [zb]⟩
  have H0 : Hid (s0.gen = s.gen ∧ s0.blocks = s.blocks ∧ s0.root = s.root ∧ s0.log = zb 32 ∧ s0.used = zb 16) := by show _; rw [← hs0]; exact ⟨rfl, rfl, rfl, rfl, rfl⟩
  have V1 : Hid (over s0.cells 3 (brow s.log) = s1.cells) := by show _ = _; rw [over_log s0 s.log o0 hs.log, ← hs0, ← hs1]
  have V2 : Hid (over s1.cells 35 (brow s.used) = s.cells) := by show _ = _; rw [over_used s1 s.used o1 hs.used, ← hs1]
  obtain ⟨y1, hy1⟩ : ∃ y, L.getD 1 0 = y := ⟨_, rfl⟩
  obtain ⟨y2, hy2⟩ : ∃ y, L.getD 2 0 = y := ⟨_, rfl⟩
  obtain ⟨y3, hy3⟩ : ∃ y, L.getD 3 0 = y := ⟨_, rfl⟩
  obtain ⟨y4, hy4⟩ : ∃ y, L.getD 4 0 = y := ⟨_, rfl⟩
  have HY1 : Hid (L.getD 1 0 = y1) := hy1
  have HY2 : Hid (L.getD 2 0 = y2) := hy2
  have HY3 : Hid (L.getD 3 0 = y3) := hy3
  have HY4 : Hid (L.getD 4 0 = y4) := hy4
  rw [hy1, hy2, hy3, hy4] at EG
  clear hy1 hy2 hy3 hy4
  have hn1 := nb_lt y1
  have hn2 := nb_lt y2
  have hn3 := nb_lt y3
  have hn4 := nb_lt y4
  have hbl := hs.blocks
  have hrt := hs.root
  clear hS hs0 hs1
  have T0 : Hid True := trivial
  go_enter Tryd.func13, Tryd.ntmps13
  go_wp2_with (first
    | (have tt := T0; refine wpList_box26 rfl _ rfl L hL rfl ?_; intro g1 w1 b1 z1 k1; clear T0 tt; have T1 : Hid True := trivial)
    | (have tt := T1; refine wpList_allocS rfl rfl ?_; intro g2 w2 c2 z2 k2; have b2 := b1.keep k2; have K2 := k1.trans k2; have hz2 : w.heap.size ≤ g2 := (by have := k1.size; omega); have n12 : g1 ≠ g2 := (by have := b1.lt; omega); have q1 := b2.cell (j := 1) (by omega); have q2 := b2.cell (j := 2) (by omega); have q3 := b2.cell (j := 3) (by omega); have q4 := b2.cell (j := 4) (by omega); have q5 := b2.cell (j := 5) (by omega); have q6 := b2.cell (j := 6) (by omega); rw [HY1.out] at q1; rw [HY2.out] at q2; rw [HY3.out] at q3; rw [HY4.out] at q4; rw [E5.out] at q5; rw [E6.out] at q6; clear T1 tt; have T2 : Hid True := trivial)
    | (have tt := T2; refine wpList_build28_012 rfl _ _ _ rfl s0 o0 H0.out.2.2.2.1 H0.out.2.2.2.2 (congrArg (Value.int .u32) (by have h1 := H0.out.1; have h2 := EG.out; unfold nb at *; omega)) (congrArg (Value.int .i64) H0.out.2.1.symm) (congrArg (Value.int .i64) H0.out.2.2.1.symm) ?_; clear T2 tt; have T3 : Hid True := trivial)
    | (have tt := T3; refine wpList_allocS rfl rfl ?_; intro g4 w4 d4 z4 k4; have b4 := b2.keep k4; have c4 := RoAt.keep c2 k4; have K4 := K2.trans k4; have z4' : w.heap.size ≤ g4 := (by have := K2.size; omega); have n41 : g1 ≠ g4 := (by have := b2.lt; omega); have n42 : g2 ≠ g4 := (by have := RoAt.lt c2; omega); clear T3 tt; have T4 : Hid True := trivial)
    | (have tt := T4; refine wpList_storeS rfl _ _ rfl g4 rfl s0 o0 rfl su0 su0_ok d4 ?_; intro w5 d5 k5; have b5 := b4.keeps k5 n41; have c5 := RoAt.keeps c4 k5 n42; have K5 : Keeps (fun _ => False) w w5 := K4.trans' k5 (fun i e => .inr (by omega)); clear T4 tt))
  clear k1 b1 k2 b2 c2 K2 k4 b4 c4 K4 d4 k5 q1 q2 q3 q4 q5 q6 z1 z2 z4 hn1 hn2 hn3 hn4
  have kd : Keeps (fun _ => False) w5 w5.drew := (Keeps.refl _ _).drew
  try simp only [Act.put, List.setIfInBounds_toArray, List.set_cons_zero, List.set_cons_succ]
  refine region_plan (S := fun w' => ∃ p : Regrown, w' = grow (redrawn w p.d) p.os) [([0, 1, 2], 3)] [] (by kernel_rfl) (by kernel_rfl) (by kernel_rfl) (by kernel_rfl) (cls_keeps K5.drew) ?_
  simp only [wpPlan, opsAt, pick]
  repeat (go_big_quiet_step (fail))
  refine wpQuiet_nil ?_
  have b6 := b5.keep kd
  have sl1 := SlB.ofRow b6.row 7 32 121 (by omega) (by omega)
  rw [E7.out] at sl1
  go_wp2_with (refine wpList_copyF rfl _ _ rfl g4 3 32 32 rfl g1 7 121 rfl s.log sl1 28 s0.cells (RoAt.keep d5 kd) (by rw [o0.size]; omega) ?_; intro w7 d7 k7; rw [V1.out] at d7)
  have K7 : Keeps (fun _ => False) w w7 := (K5.trans kd).trans' k7 (fun i e => .inr (by omega))
  have b7 := b6.keeps k7 n41
  have c7 := RoAt.keeps (RoAt.keep c5 kd) k7 n42
  refine ⟨cls_keeps K7, ?_⟩
  simp only [wpPlan, opsAt, pick]
  refine wpQuiet_nil ?_
  refine NoPanic.normal ?_
  clear kd K5 b5 c5 d5 b6 sl1 k7
  go_wp2
  have kd : Keeps (fun _ => False) w7 w7.drew := (Keeps.refl _ _).drew
  try simp only [Act.put, List.setIfInBounds_toArray, List.set_cons_zero, List.set_cons_succ]
  refine region_plan (S := fun w' => ∃ p : Regrown, w' = grow (redrawn w p.d) p.os) [([0, 1, 2], 3)] [] (by kernel_rfl) (by kernel_rfl) (by kernel_rfl) (by kernel_rfl) (cls_keeps K7.drew) ?_
  simp only [wpPlan, opsAt, pick]
  repeat (go_big_quiet_step (fail))
  refine wpQuiet_nil ?_
  have b8 := b7.keep kd
  have sl2 := SlB.ofRow b8.row 39 16 89 (by omega) (by omega)
  rw [E39.out] at sl2
  go_wp2_with (refine wpList_copyF rfl _ _ rfl g4 35 16 16 rfl g1 39 89 rfl s.used sl2 28 s1.cells (RoAt.keep d7 kd) (by rw [o1.size]; omega) ?_; intro w9 d9 k9; rw [V2.out] at d9)
  have K9 : Keeps (fun _ => False) w w9 := (K7.trans kd).trans' k9 (fun i e => .inr (by omega))
  have b9 := b8.keeps k9 n41
  have c9 := RoAt.keeps (RoAt.keep c7 kd) k9 n42
  refine ⟨cls_keeps K9, ?_⟩
  simp only [wpPlan, opsAt, pick]
  refine wpQuiet_nil ?_
  refine NoPanic.normal ?_
  clear kd K7 b7 c7 d7 b8 sl2 k9
  have T6 : Hid True := trivial
  go_wp2_with (first
    | (have tt := T6; refine wpList_loadS rfl _ rfl g4 rfl s hs d9 ?_; clear T6 tt; have T7 : Hid True := trivial)
    | (have tt := T7; go_at_call 11; refine (encQ_is HE.out _ hs).mono ?_; rintro e w10 ⟨rfl, k10⟩; have b10 := b9.keep k10; have c10 := RoAt.keep c9 k10; have d10 := RoAt.keep d9 k10; have K10 := K9.trans k10; clear T7 tt; have T8 : Hid True := trivial)
    | (have tt := T8; refine wpList_alloc26 rfl rfl ?_; intro g7 w11 e11 z11 k11; have b11 := b10.keep k11; have c11 := RoAt.keep c10 k11; have d11 := RoAt.keep d10 k11; have K11 := K10.trans k11; have z7' : w.heap.size ≤ g7 := (by have := K10.size; omega); have n71 : g1 ≠ g7 := (by have := b10.lt; omega); have n72 : g2 ≠ g7 := (by have := RoAt.lt c10; omega); have n74 : g4 ≠ g7 := (by have := RoAt.lt d10; omega); clear T8 tt; have T9 : Hid True := trivial)
    | (have tt := T9; refine wpList_store26 rfl _ _ rfl g7 rfl M rfl lM _ e11 ?_; intro w8 e8 k8; have b8 := b11.keeps k8 n71; have c8 := RoAt.keeps c11 k8 n72; have d8 := RoAt.keeps d11 k8 n74; have K8 : Keeps (fun _ => False) w w8 := K11.trans' k8 (fun i e => .inr (by omega)); clear T9 tt; have T10 : Hid True := trivial)
    | (have tt := T10; refine wpList_load26 rfl _ rfl g7 rfl M e8 ?_; clear T10 tt; have T11 : Hid True := trivial)
    | (have tt := T11; refine wpList_load26 rfl _ rfl g1 rfl L b8 ?_; clear T11 tt; have T12 : Hid True := trivial)
    | (have tt := T12; refine wpList_buildS0 rfl rfl ?_; clear T12 tt; have T13 : Hid True := trivial)
    | (have tt := T13; refine wpList_storeS rfl _ _ rfl g2 rfl su0 su0_ok rfl su0 su0_ok c8 ?_; intro w9 c9 k9; clear T13 tt))
  rw [HD.out]
  exact bodyPost_ret (v := toldS (su0, 11)) (results_su13 _ g2 _ su0 su0_ok 11 rfl rfl c9) rfl ⟨rfl, K8.trans' k9 (fun i e => .inr (by omega))⟩


set_option maxHeartbeats 4000000 in
theorem decQ_same (w : World) (L : List B) (hL : L.length = 128) {s : Su} (hS : srd L = s) (hg : s.good = true) {M : List B} (hM : sblk s = M) (hme : M = L) :
    Calls Tryd.prog 13 #[.agg (brow L)] w fun e w' => e = .returned (toldS (decR L)) ∧ Keeps (fun _ => False) w w' := by
  have hs : s.Ok := by rw [← hS]; exact srd_ok hL
  have E7 : Hid ((L.drop 7).take 32 = s.log) := by show _ = _; rw [← hS]; rfl
  have E39 : Hid ((L.drop 39).take 16 = s.used) := by show _ = _; rw [← hS]; rfl
  have E5 : Hid (nb (L.getD 5 0) = s.blocks) := by show _ = _; rw [← hS]; rfl
  have E6 : Hid (nb (L.getD 6 0) = s.root) := by show _ = _; rw [← hS]; rfl
  have EG : Hid (((L.getD 1 0).toNat * 16777216 + (L.getD 2 0).toNat * 65536 + (L.getD 3 0).toNat * 256 + (L.getD 4 0).toNat) = s.gen) := by show _ = _; rw [← hS]; rfl
  have lM : M.length = 128 := by rw [← hM]; exact sblk_len hs
  have HE : Hid (encR s = (M, 0)) := by show _ = _; unfold encR; rw [hg, ← hM]; rfl
  have HD : Hid (decR L = (s, 0)) := by show _ = _; unfold decR; rw [hS, hM, if_pos ⟨hg, hme⟩]
  have heq := eq26 lM hL
  rw [decide_eq_true hme] at heq
  clear hg hM hme
  obtain ⟨s0, hs0⟩ : ∃ s0 : Su, ({ s with log := zb 32, used := zb 16 } : Su) = s0 := ⟨_, rfl⟩
  obtain ⟨s1, hs1⟩ : ∃ s1 : Su, ({ s with used := zb 16 } : Su) = s1 := ⟨_, rfl⟩
  have o0 : s0.Ok := by rw [← hs0]; exact ⟨hs.gen, hs.blocks, hs.root, by simp [zb], by simp [zb]⟩
  have o1 : s1.Ok := by rw [← hs1]; exact ⟨hs.gen, hs.blocks, hs.root, hs.log, by simp [zb]⟩
  have H0 : Hid (s0.gen = s.gen ∧ s0.blocks = s.blocks ∧ s0.root = s.root ∧ s0.log = zb 32 ∧ s0.used = zb 16) := by show _; rw [← hs0]; exact ⟨rfl, rfl, rfl, rfl, rfl⟩
  have V1 : Hid (over s0.cells 3 (brow s.log) = s1.cells) := by show _ = _; rw [over_log s0 s.log o0 hs.log, ← hs0, ← hs1]
  have V2 : Hid (over s1.cells 35 (brow s.used) = s.cells) := by show _ = _; rw [over_used s1 s.used o1 hs.used, ← hs1]
  obtain ⟨y1, hy1⟩ : ∃ y, L.getD 1 0 = y := ⟨_, rfl⟩
  obtain ⟨y2, hy2⟩ : ∃ y, L.getD 2 0 = y := ⟨_, rfl⟩
  obtain ⟨y3, hy3⟩ : ∃ y, L.getD 3 0 = y := ⟨_, rfl⟩
  obtain ⟨y4, hy4⟩ : ∃ y, L.getD 4 0 = y := ⟨_, rfl⟩
  have HY1 : Hid (L.getD 1 0 = y1) := hy1
  have HY2 : Hid (L.getD 2 0 = y2) := hy2
  have HY3 : Hid (L.getD 3 0 = y3) := hy3
  have HY4 : Hid (L.getD 4 0 = y4) := hy4
  rw [hy1, hy2, hy3, hy4] at EG
  clear hy1 hy2 hy3 hy4
  have hn1 := nb_lt y1
  have hn2 := nb_lt y2
  have hn3 := nb_lt y3
  have hn4 := nb_lt y4
  have hbl := hs.blocks
  have hrt := hs.root
  clear hS hs0 hs1
  have T0 : Hid True := trivial
  go_enter Tryd.func13, Tryd.ntmps13
  go_wp2_with (first
    | (have tt := T0; refine wpList_box26 rfl _ rfl L hL rfl ?_; intro g1 w1 b1 z1 k1; clear T0 tt; have T1 : Hid True := trivial)
    | (have tt := T1; refine wpList_allocS rfl rfl ?_; intro g2 w2 c2 z2 k2; have b2 := b1.keep k2; have K2 := k1.trans k2; have hz2 : w.heap.size ≤ g2 := (by have := k1.size; omega); have n12 : g1 ≠ g2 := (by have := b1.lt; omega); have q1 := b2.cell (j := 1) (by omega); have q2 := b2.cell (j := 2) (by omega); have q3 := b2.cell (j := 3) (by omega); have q4 := b2.cell (j := 4) (by omega); have q5 := b2.cell (j := 5) (by omega); have q6 := b2.cell (j := 6) (by omega); rw [HY1.out] at q1; rw [HY2.out] at q2; rw [HY3.out] at q3; rw [HY4.out] at q4; rw [E5.out] at q5; rw [E6.out] at q6; clear T1 tt; have T2 : Hid True := trivial)
    | (have tt := T2; refine wpList_build28_012 rfl _ _ _ rfl s0 o0 H0.out.2.2.2.1 H0.out.2.2.2.2 (congrArg (Value.int .u32) (by have h1 := H0.out.1; have h2 := EG.out; unfold nb at *; omega)) (congrArg (Value.int .i64) H0.out.2.1.symm) (congrArg (Value.int .i64) H0.out.2.2.1.symm) ?_; clear T2 tt; have T3 : Hid True := trivial)
    | (have tt := T3; refine wpList_allocS rfl rfl ?_; intro g4 w4 d4 z4 k4; have b4 := b2.keep k4; have c4 := RoAt.keep c2 k4; have K4 := K2.trans k4; have z4' : w.heap.size ≤ g4 := (by have := K2.size; omega); have n41 : g1 ≠ g4 := (by have := b2.lt; omega); have n42 : g2 ≠ g4 := (by have := RoAt.lt c2; omega); clear T3 tt; have T4 : Hid True := trivial)
    | (have tt := T4; refine wpList_storeS rfl _ _ rfl g4 rfl s0 o0 rfl su0 su0_ok d4 ?_; intro w5 d5 k5; have b5 := b4.keeps k5 n41; have c5 := RoAt.keeps c4 k5 n42; have K5 : Keeps (fun _ => False) w w5 := K4.trans' k5 (fun i e => .inr (by omega)); clear T4 tt))
  clear k1 b1 k2 b2 c2 K2 k4 b4 c4 K4 d4 k5 q1 q2 q3 q4 q5 q6 z1 z2 z4 hn1 hn2 hn3 hn4
  have kd : Keeps (fun _ => False) w5 w5.drew := (Keeps.refl _ _).drew
  try simp only [Act.put, List.setIfInBounds_toArray, List.set_cons_zero, List.set_cons_succ]
  refine region_plan (S := fun w' => ∃ p : Regrown, w' = grow (redrawn w p.d) p.os) [([0, 1, 2], 3)] [] (by kernel_rfl) (by kernel_rfl) (by kernel_rfl) (by kernel_rfl) (cls_keeps K5.drew) ?_
  simp only [wpPlan, opsAt, pick]
  repeat (go_big_quiet_step (fail))
  refine wpQuiet_nil ?_
  have b6 := b5.keep kd
  have sl1 := SlB.ofRow b6.row 7 32 121 (by omega) (by omega)
  rw [E7.out] at sl1
  go_wp2_with (refine wpList_copyF rfl _ _ rfl g4 3 32 32 rfl g1 7 121 rfl s.log sl1 28 s0.cells (RoAt.keep d5 kd) (by rw [o0.size]; omega) ?_; intro w7 d7 k7; rw [V1.out] at d7)
  have K7 : Keeps (fun _ => False) w w7 := (K5.trans kd).trans' k7 (fun i e => .inr (by omega))
  have b7 := b6.keeps k7 n41
  have c7 := RoAt.keeps (RoAt.keep c5 kd) k7 n42
  refine ⟨cls_keeps K7, ?_⟩
  simp only [wpPlan, opsAt, pick]
  refine wpQuiet_nil ?_
  refine NoPanic.normal ?_
  clear kd K5 b5 c5 d5 b6 sl1 k7
  go_wp2
  have kd : Keeps (fun _ => False) w7 w7.drew := (Keeps.refl _ _).drew
  try simp only [Act.put, List.setIfInBounds_toArray, List.set_cons_zero, List.set_cons_succ]
  refine region_plan (S := fun w' => ∃ p : Regrown, w' = grow (redrawn w p.d) p.os) [([0, 1, 2], 3)] [] (by kernel_rfl) (by kernel_rfl) (by kernel_rfl) (by kernel_rfl) (cls_keeps K7.drew) ?_
  simp only [wpPlan, opsAt, pick]
  repeat (go_big_quiet_step (fail))
  refine wpQuiet_nil ?_
  have b8 := b7.keep kd
  have sl2 := SlB.ofRow b8.row 39 16 89 (by omega) (by omega)
  rw [E39.out] at sl2
  go_wp2_with (refine wpList_copyF rfl _ _ rfl g4 35 16 16 rfl g1 39 89 rfl s.used sl2 28 s1.cells (RoAt.keep d7 kd) (by rw [o1.size]; omega) ?_; intro w9 d9 k9; rw [V2.out] at d9)
  have K9 : Keeps (fun _ => False) w w9 := (K7.trans kd).trans' k9 (fun i e => .inr (by omega))
  have b9 := b8.keeps k9 n41
  have c9 := RoAt.keeps (RoAt.keep c7 kd) k9 n42
  refine ⟨cls_keeps K9, ?_⟩
  simp only [wpPlan, opsAt, pick]
  refine wpQuiet_nil ?_
  refine NoPanic.normal ?_
  clear kd K7 b7 c7 d7 b8 sl2 k9
  have T6 : Hid True := trivial
  go_wp2_with (first
    | (have tt := T6; refine wpList_loadS rfl _ rfl g4 rfl s hs d9 ?_; clear T6 tt; have T7 : Hid True := trivial)
    | (have tt := T7; go_at_call 11; refine (encQ_is HE.out _ hs).mono ?_; rintro e w10 ⟨rfl, k10⟩; have b10 := b9.keep k10; have c10 := RoAt.keep c9 k10; have d10 := RoAt.keep d9 k10; have K10 := K9.trans k10; clear T7 tt; have T8 : Hid True := trivial)
    | (have tt := T8; refine wpList_alloc26 rfl rfl ?_; intro g7 w11 e11 z11 k11; have b11 := b10.keep k11; have c11 := RoAt.keep c10 k11; have d11 := RoAt.keep d10 k11; have K11 := K10.trans k11; have z7' : w.heap.size ≤ g7 := (by have := K10.size; omega); have n71 : g1 ≠ g7 := (by have := b10.lt; omega); have n72 : g2 ≠ g7 := (by have := RoAt.lt c10; omega); have n74 : g4 ≠ g7 := (by have := RoAt.lt d10; omega); clear T8 tt; have T9 : Hid True := trivial)
    | (have tt := T9; refine wpList_store26 rfl _ _ rfl g7 rfl M rfl lM _ e11 ?_; intro w8 e8 k8; have b8 := b11.keeps k8 n71; have c8 := RoAt.keeps c11 k8 n72; have d8 := RoAt.keeps d11 k8 n74; have K8 : Keeps (fun _ => False) w w8 := K11.trans' k8 (fun i e => .inr (by omega)); clear T9 tt; have T10 : Hid True := trivial)
    | (have tt := T10; refine wpList_load26 rfl _ rfl g7 rfl M e8 ?_; clear T10 tt; have T11 : Hid True := trivial)
    | (have tt := T11; refine wpList_load26 rfl _ rfl g1 rfl L b8 ?_; clear T11 tt; have T12 : Hid True := trivial)
    | (have tt := T12; refine wpList_loadS rfl _ rfl g4 rfl s hs d8 ?_; clear T12 tt; have T13 : Hid True := trivial)
    | (have tt := T13; refine wpList_storeS rfl _ _ rfl g2 rfl s hs rfl su0 su0_ok c8 ?_; intro w9 c9 k9; clear T13 tt))
  rw [HD.out]
  exact bodyPost_ret (v := toldS (s, 0)) (results_su13 _ g2 _ s hs 0 rfl rfl c9) rfl ⟨rfl, K8.trans' k9 (fun i e => .inr (by omega))⟩


theorem decQ_is {L : List B} {p : Su × Int} (h : decR L = p) (w : World) (hL : L.length = 128) :
    Calls Tryd.prog 13 #[.agg (brow L)] w fun e w' => e = .returned (.tuple #[.agg p.1.cells, .int .i64 p.2]) ∧ Keeps (fun _ => False) w w' := by
  rw [← h]
  cases hg : (srd L).good with
  | false => exact decQ_no w L hL rfl hg
  | true =>
    by_cases h : sblk (srd L) = L
    · exact decQ_same w L hL rfl hg rfl h
    · exact decQ_other w L hL rfl hg rfl h
end Go.Proofs.YtdgnjpdjohibeaaDoor
