/-
  Encode of the program's leaf: the walk.
-/
import Derived.Test.YthngaegfppbdmaaDoorPe
set_option linter.all false
namespace Go.Proofs.YthngaegfppbdmaaDoor
open Go.RowKit Go.Sort Go.Shelf
attribute [local go_sem] Oper.semAt_some

theorem ords_fst (l : List En) : (ords l).map (·.1) = l := by
  apply List.ext_getElem (by simp [ords_len])
  intro i h1 h2
  simp [ords, List.getD_eq_getElem?_getD, List.getElem?_eq_getElem h2]
theorem results_blk15 (tm : Array Value) (g6 : Nat) (wr : World) (X : List B) (v : Int) (h1 : tm.getD 2 undef = .pointer (some ⟨g6, 0, none⟩)) (h2 : tm.getD 3 undef = .int .i64 v) (h3 : BlAt wr g6 X) : (results Tryd.f15 tm).run Tryd.prog wr = .ok (toldB (X, v)) wr :=
  results_row_slot rfl tm wr g6 X _ h1 h2 h3

theorem encP_no (w : World) (a : Option Addr) (n c : Nat) (l : List En) (hl : SlE w a n c l) (hg : gd l = false) :
    Calls Tryd.prog 15 #[.slice a n c] w fun e w' => e = .returned (toldB (encR l)) ∧ Keeps (fun _ => False) w w' := by
  have hR : Hid (encR l = (zb 128, 11)) := by show _ = _; unfold encR; rw [hg]; rfl
  go_enter Tryd.func15, Tryd.ntmps15
  go_wp2_with (first
    | (refine wpList_alloc26 rfl rfl ?_; intro g2 w1 b1 z1 k1)
    | (go_at_call 23; refine (good23_at hg _ a n c (hl.keep k1)).mono ?_; rintro e w2 ⟨rfl, k2⟩; have b2 := b1.keep k2)
    | (refine wpList_build26 rfl rfl ?_)
    | (refine wpList_store26 rfl _ _ rfl g2 rfl (zb 128) rfl (zb_len _) _ b2 ?_; intro w3 b3 k3))
  rw [hR.out]
  exact bodyPost_ret (v := toldB (zb 128, 11)) (results_blk15 _ g2 _ _ _ rfl rfl b3) rfl ⟨rfl, (k1.trans k2).trans' k3 (fun i e => .inr (by omega))⟩

set_option maxRecDepth 100000 in
set_option maxHeartbeats 2000000 in
theorem encP_ok (w : World) (hT : Tabs w) (a : Option Addr) (n c : Nat) (l : List En) (hl : SlE w a n c l) (hg : gd l = true) :
    Calls Tryd.prog 15 #[.slice a n c] w fun e w' => e = .returned (toldB (encR l)) ∧ Keeps (fun _ => False) w w' := by
  have hn3 := gd_len hg
  rw [hl.len] at hn3
  obtain ⟨hn1, hn3⟩ := hn3
  have hlen := hl.len
  obtain ⟨L, hL⟩ : ∃ L, lf l = L := ⟨_, rfl⟩
  have lL : L.length = 128 := by rw [← hL]; exact lf_len hl.keyed (by omega)
  have HL : Hid (blk5 (ltxt l) = L) := hL
  have hR : Hid (encR l = (L, 0)) := by show _ = _; unfold encR; rw [hg, ← hL]; rfl
  have hn3' : (n : Int) ≤ 3 := by omega
  have Hlen : Hid (l.length = n) := hlen
  have hsl : 0 < n → ∀ b o, a = some ⟨b, o, none⟩ → b < w.heap.size := fun h0 b o e => by
    obtain ⟨b', o', e', hE⟩ := hl.ent h0
    rw [e] at e'; cases e'
    exact slb_lt hE.slb (by omega) rfl
  have Hsl : Hid (0 < n → ∀ b o, a = some ⟨b, o, none⟩ → b < w.heap.size) := hsl
  clear hlen hL hsl
  refine (callsIn_wide (n := 9)).1 ?_
  refine callsIn_of_wp_marks Tryd.func15 rfl trivial ?_ rfl
  simp only [Tryd.ntmps15, List.size_toArray, List.length_cons, List.length_nil, Nat.reduceAdd, Nat.reduceSub, Array.replicate_succ, Array.replicate_zero, List.push_toArray, List.append_toArray, List.nil_append, List.cons_append]
  gi_wp2_with (first
    | (refine in_wide (fun _ h => by cases h) ?_; refine wpList_alloc26 rfl rfl ?_; intro g2 w1 b1 z1 k1; refine OnlyN.go ?_)
    | (refine ⟨trivial, ?_⟩; gi_at_call 23; refine (callsIn_wide.2 (good23_at hg _ a n c (hl.keep k1))).mono ?_; rintro e w2 ⟨rfl, k2⟩; have b2 := b1.keep k2; have K2 := k1.trans k2)
    | (refine in_wide (fun _ h => by cases h) ?_; refine wpList_build2 rfl _ _ rfl 76 (n : Int) _ _ rfl rfl (by omega) (by omega) ?_; intro g0 w3 o3 z3 k3; refine OnlyN.go ?_; have b3 := b2.keep k3; have K3 := K2.trans k3)
    | (refine in_wide (fun _ h => by cases h) ?_; refine wpList_alloc48 rfl rfl ?_; intro g4 w4 v4 z4 k4; refine OnlyN.go ?_; have b4 := b3.keep k4; have K4 := K3.trans k4; have o4 := o3.keeps k4 (fun _ _ h => h.elim))
    | (refine in_wide (fun _ h => by cases h) ?_; refine wpList_store48 rfl _ _ rfl g4 rfl _ rfl ⟨_, _, _, rfl⟩ _ v4 ?_; intro w5 v5 k5; refine OnlyN.go ?_)
    | (refine ⟨trivial, ?_⟩; gi_at_call 45; refine (callsIn_wide.2 (inOrder45 _ _ _ _)).mono ?_; rintro e w6 ⟨g, rfl, hgr, zg, k6⟩))
  have z2 : w.heap.size ≤ w2.heap.size := K2.size
  have l2 := b2.lt
  have z23 := k3.size
  have z34 := k4.size
  have z45 := k5.size
  have z56 := k6.size
  have l4 := v4.lt
  have b5 := b4.keeps k5 (by omega)
  have b6 := b5.keep k6
  have v6 := v5.keep k6
  have o5 := o4.kept k5 (fun i h1 h2 => o4.ne v4.row (by decide) (by rw [h1, h2]))
  have o6 := o5.kept k6 (fun _ _ h => h)
  have KK : Keeps (fun _ => False) w w6 := (K4.trans' k5 (fun i e => .inr (by omega))).trans k6
  have hl6 := hl.keep KK
  have hts := hT.size
  have hT6 := hT.keeps KK (fun h => h) (fun h => h)
  have hg2 : g ≠ g2 := by omega
  have hg4 : g ≠ g4 := by omega
  clear b1 k1 k2 b2 K2 o3 k3 b3 K3 v4 k4 b4 K4 o4 v5 k5 b5 o5 k6 hl hT z3
  have hI : EcIn w2.heap.size g g2 g4 a n c w6 [] w6 := ⟨⟨_, v6, o6⟩, hgr, b6, Keeps.refl _ _⟩
  clear b6 v6 o6
  refine range_law (gf := 61) (lb := #[.pointer (some ⟨g, 0, none⟩)]) rfl (enters_of Tryd.func61 (by kernel_rfl) rfl) (ords61 (fun k => w2.heap.size ≤ k ∧ k ≠ g) w6 g a n c l hgr hl6 (by omega) (fun h => h.2 rfl) (fun h0 b o e h => by have := Hsl.out h0 b o e; omega)) ?hKt ?hKb (RowKit.Below.refl _ _) (fun _ => rfl)
    (fun pre V => EcIn w2.heap.size g g2 g4 a n c w6 pre V)
    (fun cd pre V => False) ?hI ?hIx hI
    (fun pre x a' V => EcIn w2.heap.size g g2 g4 a n c w6 pre V ∧ ∃ ge, w6.heap.size ≤ ge ∧ ErAt V ge x.1 ∧ a' = { tmps := #[.slice a n c, undef, .pointer (some ⟨g2, 0, none⟩), .int .i64 0, .pointer (some ⟨g4, 0, none⟩), .pointer (some ⟨ge, 0, none⟩), .slice a n c, .bool true, .bool false, undef, .slice a n c, .int .i64 (n : Int), .int .u8 (n : Int), .slice (some ⟨g0, 0, none⟩) 2 2, .slice a n c, .func (.func 61) #[] #[.pointer (some ⟨g, 0, none⟩)], .agg x.1.cells.toArray, .bool x.2, undef, undef, undef, undef, undef, undef, undef, undef, undef, undef, undef, undef, undef, undef, undef, undef, undef, undef, undef, undef, undef, undef], defers := [] }) ?hAx ?assign ?body ?done ?stop
  case hKt => exact fun h1 h2 => h1.trans h2
  case hKb => exact fun W l o o' _ ho hc => KpX.putObj o' ho hc
  case hI => exact fun s A B row h hg hr => h.grown hg hr
  case hIx => exact fun cd s A B row h hg hr => h
  case hAx =>
    rintro pre x a' _ A B row ⟨h1, ge, h3, h4, h5⟩ hg hr
    exact ⟨h1.grown hg hr, ge, h3, ⟨own_cells hg hr h4.row, h4.len⟩, h5⟩
  case assign =>
    rintro l' pre x rest V K hx h1 hK'
    obtain ⟨i, hi, rfl⟩ := ords_mem (l := l) (y := x) (by rw [hx]; simp)
    have hk : (l.getD i default).key.length = 32 := hl6.keyed _ (getD_mem hi)
    have HK : Hid (∀ a' W', _ → _ → _ → K a' W') := hK'
    clear hK' hx
    simp only [encO, fold2, List.setIfInBounds_toArray, List.set_cons_zero, List.set_cons_succ]
    generalize l.getD i default = e at *
    gi_wp2_with (first
      | (refine in_round (fun _ h => by cases h) ?_; refine wpList_alloc46 rfl rfl ?_; intro ge w7 r7 z7 k7; refine OnlyN.go ?_)
      | (refine in_round (fun _ h => by cases h) ?_; refine wpList_store46 rfl _ _ rfl ge rfl e rfl hk _ r7 ?_; intro w8 r8 k8; refine OnlyN.go ?_))
    have k0 : Keeps (fun _ => False) V w8 := k7.trans' k8 (fun i e => .inr (by omega))
    have zz := h1.keeps.size
    exact HK.out _ _ (k0.from (fun _ _ h => h.elim)) (k0.kpx (fun _ h => h.elim)) ⟨h1.grown (grown_of_keeps k0) (fun r e => by cases e), ge, by omega, r8, rfl⟩
  case body =>
    rintro l' pre x rest a' V hl' hx ⟨h1, ge, z7, r7, rfl⟩
    have hp : l = pre.map (·.1) ++ x.1 :: rest.map (·.1) := by
      have := congrArg (List.map (·.1)) hx
      rw [ords_fst] at this
      simpa using this
    have hpl : (flat (pre.map (·.1))).length ≤ 108 := by
      have h9 := Hlen.out
      have h8 := congrArg List.length hp
      rw [List.length_append, List.length_map] at h8
      rw [flatE_len (fun e he => hl6.keyed e (by rw [hp]; exact List.mem_append_left _ he)), List.length_map]
      omega
    have hnx : (kb 76 :: kb (n : Int) :: flat (pre.map (·.1))) ++ x.1.key ++ [kb x.1.place, kb x.1.blocks, kb (x.1.refs / 256), kb x.1.refs] = kb 76 :: kb (n : Int) :: flat ((pre ++ [x]).map (·.1)) := by
      rw [List.map_append, List.map_singleton, flat_snoc]
      simp [ebytes]
    have HN : Hid ((kb 76 :: kb (n : Int) :: flat (pre.map (·.1))) ++ x.1.key ++ [kb x.1.place, kb x.1.blocks, kb (x.1.refs / 256), kb x.1.refs] = kb 76 :: kb (n : Int) :: flat ((pre ++ [x]).map (·.1))) := hnx
    obtain ⟨⟨v, hv, O⟩, hit, hout, hkp⟩ := h1
    have hlo : (kb 76 :: kb (n : Int) :: flat (pre.map (·.1))).length ≤ 200 := by simp; omega
    clear hx hp hpl hnx
    obtain ⟨e, u⟩ := x
    dsimp only at r7 HN ⊢
    have he := r7.len
    have hn' : w6.heap.size ≤ V.heap.size := hkp.size
    generalize kb 76 :: kb (n : Int) :: flat (pre.map (·.1)) = F at *
    have kd : Keeps (fun _ => False) V V.drew := (Keeps.refl _ _).drew
    have vd := hv.keep kd
    have rd := r7.keep kd
    have Od := O.kept kd (fun _ _ h => h)
    have hne : v.ownBlock ≠ some g4 := O.ne hv.row (by decide)
    have hng : v.ownBlock ≠ some g := O.ne hit (by decide)
    have hn2 : v.ownBlock ≠ some g2 := O.ne hout.row (by decide)
    have hnE : v.ownBlock ≠ some ge := O.ne r7.row (by decide)
    gi_wp2
    have ne1 : Nonempty (VaEr g4 48 v ge e) := ⟨⟨_, vd, rd⟩⟩
    refine region_plan_y (S := fun w' => ∃ q : VaEr g4 48 v ge e, w' = q.w) 4 [] [([0, 1, 2], 3)] [] (sem_round _ (by kernel_rfl)) (by kernel_rfl) (by kernel_rfl) (by kernel_rfl) (by kernel_rfl) ⟨⟨_, vd, rd⟩, rfl⟩ ?_
    simp only [wpPlanY, opsAt, pick]
    repeat (first
      | (go_big_quiet_want; refine quiet_load48 _ rfl g4 rfl v (by rintro _ ⟨q, rfl⟩; exact q.va) ?_; simp only [Act.put, List.setIfInBounds_toArray, List.set_cons_zero, List.set_cons_succ]; go_big_quiet_on)
      | go_big_quiet_step (fail))
    refine wpQuiet_nil ?_
    gi_wp2_with (refine in_round (fun _ h => by cases h) ?_; refine wpList_app1 rfl _ _ rfl w2.heap.size v F rfl Od ge 0 32 32 e.key rfl rd.at_.slb (by omega) (by show w2.heap.size ≤ V.heap.size; omega) ?_; intro v7 w7 o7 k7; refine OnlyN.go ?_)
    have v4 := vd.keeps k7 hne
    have r4 := rd.keeps k7 hnE
    have hit7 := k7.row (kd.row hit (fun h => h)) hng
    have out7 := (hout.keep kd).keeps k7 hn2
    refine ⟨⟨⟨_, v4, r4⟩, rfl⟩, ?_⟩
    simp only [wpPlanY, opsAt, pick]
    refine wpQuiet_nil ?_
    gi_wp2_with (refine in_round (fun _ h => by cases h) ?_; refine wpList_store48 rfl _ _ rfl g4 rfl v7 rfl o7.is v v4 ?_; intro w8 v8 k8; refine OnlyN.go ?_)
    have hge4 : ge ≠ g4 := by omega
    have o8 := o7.kept k8 (fun g' h1 h2 => o7.ne v4.row (by decide) (by rw [h1, h2]))
    have r8 := r4.keeps k8 hge4
    have hit8 := k8.row hit7 hg4
    have out8 := out7.keeps k8 (by omega)
    have z78 := k7.size
    have z88 := k8.size
    have z68 : w6.heap.size ≤ w8.heap.size := by have : V.drew.heap.size = V.heap.size := rfl; omega
    refine ⟨trivial, ?_⟩
    simp only [wpTail, opsAt, pick]
    refine NoPanic.normal ?_
    have hne8 : v7.ownBlock ≠ some g4 := o8.ne v8.row (by decide)
    have hng8 : v7.ownBlock ≠ some g := o8.ne hit8 (by decide)
    have hn28 : v7.ownBlock ≠ some g2 := o8.ne out8.row (by decide)
    have hlo9 : (F ++ e.key).length + 4 ≤ 1000000 := by rw [List.length_append]; omega
    have c1 := r8.place
    have c2 := r8.blocks
    have c3 := r8.refs
    gi_wp2_with (first
      | (refine in_round (fun _ h => by cases h) ?_; refine wpList_load48 rfl _ rfl g4 rfl v7 v8 ?_; refine OnlyN.go ?_)
      | (refine in_round (fun _ h => by cases h) ?_; refine wpList_build4 rfl _ _ _ _ rfl e.place e.blocks (e.refs / 256) e.refs _ _ _ _ rfl rfl rfl rfl rfl rfl rfl rfl ?_; intro g9 w9 s9 z9 l9 k9; refine OnlyN.go ?_; have v9 := v8.keep k9; have o9 := o8.kept k9 (fun _ _ h => h); have z89 := k9.size)
      | (refine in_round (fun _ h => by cases h) ?_; refine wpList_app1 rfl _ _ rfl w2.heap.size v7 (F ++ e.key) rfl o9 _ _ 4 4 _ rfl s9 hlo9 (by omega) ?_; intro v10 w10 o10 k10; refine OnlyN.go ?_; have v10' := v9.keeps k10 hne8)
      | (refine in_round (fun _ h => by cases h) ?_; refine wpList_store48 rfl _ _ rfl g4 rfl v10 rfl o10.is v7 v10' ?_; intro w11 v11 k11; refine OnlyN.go ?_))
    have o11 := o10.kept k11 (fun g' h1 h2 => o10.ne v10'.row (by decide) (by rw [h1, h2]))
    have f1 : KeepsFrom w6.heap.size V w11 := ((((kd.from (fun _ _ h => h.elim)).trans (Od.fromB k7)).trans (k8.from (fun k hk e => by omega))).trans (k9.from (fun _ _ h => h.elim))).trans ((o9.fromB k10).trans (k11.from (fun k hk e => by omega)))
    have q7 : Keeps (fun k => w2.heap.size ≤ k ∧ k ≠ g) V w7 := (kd.mono (fun _ _ h => h.elim)).trans (k7.mono (fun k _ e => ⟨(Od.from e).1, fun e' => hng (by rw [e, e'])⟩))
    have q8 : Keeps (fun k => w2.heap.size ≤ k ∧ k ≠ g) w7 w8 := k8.mono (fun k _ e => ⟨by omega, by omega⟩)
    have q9 : Keeps (fun k => w2.heap.size ≤ k ∧ k ≠ g) w8 w9 := k9.mono (fun _ _ h => h.elim)
    have q10 : Keeps (fun k => w2.heap.size ≤ k ∧ k ≠ g) w9 w10 := k10.mono (fun k _ e => ⟨(o9.from e).1, fun e' => hng8 (by rw [e, e'])⟩)
    have q11 : Keeps (fun k => w2.heap.size ≤ k ∧ k ≠ g) w10 w11 := k11.mono (fun k _ e => ⟨by omega, by omega⟩)
    have QQ := (((q7.trans q8).trans q9).trans q10).trans q11
    refine ⟨f1, QQ.kpx (fun k h => .inl h), ⟨⟨v10, v11, by rw [← HN.out]; exact o11⟩, QQ.row hit (fun h => h.2 rfl), hout.keeps QQ (fun h => by omega), hkp.trans (QQ.mono (fun _ _ h => h.1))⟩⟩
  case done =>
    rintro D V hD' ⟨⟨v, hv, O⟩, hit, hout, hkp⟩ hd
    rw [ords_fst] at O
    obtain ⟨a4, n4, c4, rfl, s4, _, _⟩ := O.slice
    have e4 : kb 76 :: kb (n : Int) :: flat l = ltxt l := by unfold ltxt; rw [Hlen.out]
    rw [e4] at s4
    have hn4 := s4.len
    rw [ltxt_len hl6.keyed, Hlen.out] at hn4
    have hTV := hT6.keeps hkp (fun h => by omega) (fun h => by omega)
    clear O e4
    gi_wp2_with (first
      | (refine in_wide (fun _ h => by cases h) ?_; refine wpList_load48 rfl _ rfl g4 rfl _ hv ?_; refine OnlyN.go ?_)
      | (refine ⟨trivial, ?_⟩; gi_at_call 46; refine (callsIn_wide.2 (sealed46 _ a4 n4 c4 _ hTV s4 (by omega) (by omega) HL)).mono ?_; rintro e w7 ⟨rfl, k7⟩; have b7 := hout.keep k7)
      | (refine in_wide (fun _ h => by cases h) ?_; refine wpList_store26 rfl _ _ rfl g2 rfl L rfl lL _ b7 ?_; intro w8 b8 k8; refine OnlyN.go ?_))
    have hd4 := k8.row (k7.row hd (fun h => h)) (by omega)
    refine ⟨by simp, .inl ⟨_, _, rfl, run_takeDeferred hd4, ?_⟩⟩
    refine ⟨_, results_blk15 _ g2 _ L 0 rfl rfl ⟨(World.putObj_heap_other (by show _ ≠ _; omega)).trans b8.row, lL⟩, by rw [hR.out], ?_⟩
    have m1 : Keeps (fun k => w.heap.size ≤ k) w6 w7 := (hkp.trans (k7.mono (fun _ _ h => h.elim))).mono (fun k _ h => by omega)
    have m2 : Keeps (fun k => w.heap.size ≤ k) w7 w8 := k8.mono (fun k _ h => by omega)
    exact KK.trans' ((m1.trans m2).grown (grownBy_putObj' _ D _) (fun k e => by cases e; exact .inr hD')) (fun i e => .inr e)
  case stop => exact fun D cd pre x rest V hD' hx h hd => h.elim

theorem encP (w : World) (hT : Tabs w) (a : Option Addr) (n c : Nat) (l : List En) (hl : SlE w a n c l) :
    Calls Tryd.prog 15 #[.slice a n c] w fun e w' => e = .returned (toldB (encR l)) ∧ Keeps (fun _ => False) w w' := by
  cases hg : gd l with
  | false => exact encP_no w a n c l hl hg
  | true => exact encP_ok w hT a n c l hl hg

end Go.Proofs.YthngaegfppbdmaaDoor
