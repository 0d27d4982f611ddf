/-
  Decode of the program's leaf: the walk.
-/
import Derived.Test.YthngaegfppbdmaaDoorPh
set_option linter.all false
namespace Go.Proofs.YthngaegfppbdmaaDoor
open Go.RowKit Go.Sort Go.Shelf
attribute [local go_sem] Oper.semAt_some

theorem encP_at {l : List En} {L : List B} {v : Int} (h : encR l = (L, v)) (w : World) (hT : Tabs w) (a : Option Addr) (n c : Nat) (hl : SlE w a n c l) :
    Calls Tryd.prog 15 #[.slice a n c] w fun e w' => e = .returned (.tuple #[.agg (brow L), .int .i64 v]) ∧ Keeps (fun _ => False) w w' := by
  have := encP w hT a n c l hl
  rw [h] at this; exact this

/-- What Encode tells of a block's entries, held against the block. -/
theorem dec_ways {x : List B} {L : List B} {v : Int} (hR : encR (ents x) = (L, v)) : (v = 0 ∧ L = x ∧ isLf x = true) ∨ (v = 0 ∧ L ≠ x ∧ isLf x = false) ∨ (v = 11 ∧ isLf x = false) := by
  unfold encR at hR
  cases hg : gd (ents x) with
  | true =>
    rw [hg] at hR
    simp at hR
    obtain ⟨rfl, rfl⟩ := hR
    by_cases he : lf (ents x) = x
    · exact .inl ⟨rfl, he, isLf_iff.2 ⟨hg, he⟩⟩
    · refine .inr (.inl ⟨rfl, he, ?_⟩)
      unfold isLf; rw [decide_eq_false he, Bool.and_false]
  | false =>
    rw [hg] at hR
    simp at hR
    exact .inr (.inr ⟨hR.2.symm, by unfold isLf; rw [hg]; rfl⟩)
theorem enc_len {x : List B} (hx : x.length = 128) {L : List B} {v : Int} (hR : encR (ents x) = (L, v)) : L.length = 128 := by
  have : (encR (ents x)).1.length = 128 := by
    unfold encR
    split
    · exact lf_len (ents_keyed hx) (by unfold ents; rw [entN_len]; omega)
    · exact zb_len _
  rw [hR] at this; exact this

set_option maxRecDepth 100000 in
set_option maxHeartbeats 2000000 in
theorem decP_in (w : World) (hT : Tabs w) (x : List B) (hx : x.length = 128) (n : Nat) (hn : (x.getD 1 0).toNat = n) (hn3 : n ≤ 3) :
    Calls Tryd.prog 17 #[.agg (brow x)] w fun e w' => DecTold x e w' ∧ Keeps (fun _ => False) w w' := by
  have hme : ents x = entN x n := by unfold ents; rw [hn, show min n 3 = n by omega]
  have Hme : Hid (ents x = entN x n) := hme
  have hny : nb (x.getD 1 0) = (n : Int) := by unfold nb; omega
  have Hx : Hid (x.length = 128) := hx
  have hn3' : (n : Int) ≤ 3 := by omega
  have hn4 : ¬ (3 : Int) < (n : Int) := by omega
  clear hme hn
  refine (callsIn_wide (n := 9)).1 ?_
  refine callsIn_of_wp_marks Tryd.func17 rfl trivial ?_ rfl
  simp only [Tryd.ntmps17, List.size_toArray, List.length_cons, List.length_nil, Nat.reduceAdd, Nat.reduceSub, Array.replicate_succ, Array.replicate_zero, List.push_toArray, List.append_toArray, List.nil_append, List.cons_append]
  gi_wp2_with (first
    | (refine in_wide (fun _ h => by cases h) ?_; refine wpList_box26 rfl _ rfl x hx rfl ?_; intro g1 w1 b1 z1 k1; refine OnlyN.go ?_; have c1 := b1.cell (j := 1) (by omega); rw [hny] at c1)
    | (refine in_wide (fun _ h => by cases h) ?_; refine wpList_makeE rfl _ _ rfl rfl n _ rfl (by omega) (by omega) ?_; intro w2 o2 k2; refine OnlyN.go ?_; have b2 := b1.keep k2; have K2 := k1.trans k2)
    | (refine in_wide (fun _ h => by cases h) ?_; refine wpList_alloc22 rfl rfl ?_; intro g5 w3 v3 z3 k3; refine OnlyN.go ?_; have b3 := b2.keep k3; have K3 := K2.trans k3; have o3 := o2.kept k3 (fun _ _ h => h))
    | (refine in_wide (fun _ h => by cases h) ?_; refine wpList_store22 rfl _ _ rfl g5 rfl _ rfl ⟨_, _, _, rfl⟩ _ v3 ?_; intro w4 v4 k4; refine OnlyN.go ?_; have b4 := b3.keeps k4 (by have := b2.lt; omega))
    | (refine in_wide (fun _ h => by cases h) ?_; refine wpList_load26 rfl _ rfl g1 rfl x b4 ?_; refine OnlyN.go ?_)
    | (refine ⟨trivial, ?_⟩; gi_at_call 48; refine (callsIn_wide.2 (entries48 _ x hx _)).mono ?_; rintro e w6 ⟨gn, gb, rfl, hgn, hgb, zn, zb', k6⟩))
  have z12 := k2.size
  have z23 := k3.size
  have z34 := k4.size
  have z46 := k6.size
  have l1 := b1.lt
  have l3 := v3.lt
  have o4 := o3.kept k4 (fun i h1 h2 => o3.ne v3.row (by decide) (by rw [h1, h2]))
  have o6 := o4.kept k6 (fun _ _ h => h)
  have v6 := v4.keep k6
  have b6 := b4.keep k6
  have z5 : w.heap.size ≤ g5 := by have := K2.size; omega
  have zw1 : w.heap.size ≤ w1.heap.size := k1.size
  have KK : Keeps (fun _ => False) w w6 := (K3.trans' k4 (fun i e => .inr (by omega))).trans k6
  have hts := hT.size
  have hT6 := hT.keeps KK (fun h => h) (fun h => h)
  have hI : DcIn w1.heap.size gn gb g5 n x w6 [] w6 := ⟨⟨_, v6, o6⟩, hgn, hgb, Keeps.refl _ _⟩
  have hn5 : gn ≠ g5 := by omega
  have hb5 : gb ≠ g5 := by omega
  clear k1 c1 o2 k2 b2 K2 v3 k3 b3 K3 o3 v4 k4 b4 k6 o4 o6 v6 b1 hT
  refine range_law (gf := 64) (lb := #[.pointer (some ⟨gn, 0, none⟩), .pointer (some ⟨gb, 0, none⟩)]) rfl (enters_of Tryd.func64 (by kernel_rfl) rfl) (ents64 (fun k => w1.heap.size ≤ k ∧ k ≠ gn ∧ k ≠ gb) w6 gn gb x n hn3 hgn hgb (fun h => h.2.1 rfl) (fun h => h.2.2 rfl)) ?hKt ?hKb (RowKit.Below.refl _ _) (fun _ => rfl)
    (fun pre V => DcIn w1.heap.size gn gb g5 n x w6 pre V)
    (fun cd pre V => False) ?hI ?hIx hI
    (fun pre e a' V => DcIn w1.heap.size gn gb g5 n x w6 pre V ∧ ∃ ge, w6.heap.size ≤ ge ∧ ErAt V ge e ∧ a' = { tmps := #[.agg (brow x), .pointer (some ⟨g1, 0, none⟩), .slice none 0 0, .int .i64 0, .int .i64 (n : Int), .pointer (some ⟨g5, 0, none⟩), .pointer (some ⟨ge, 0, none⟩), undef, undef, .pointer (some ⟨g1, 1, none⟩), .int .u8 (n : Int), .int .i64 (n : Int), .int .i64 (n : Int), .bool false, .int .i64 (n : Int), .slice (some ⟨w1.heap.size, 0, none⟩) 0 n, .agg (brow x), .int .i64 (n : Int), .func (.func 64) #[] #[.pointer (some ⟨gn, 0, none⟩), .pointer (some ⟨gb, 0, none⟩)], .agg e.cells.toArray, undef, undef, undef, undef, undef, undef, undef, undef, undef, undef, undef, undef, undef, undef, undef, undef, undef], defers := [] }) ?hAx ?assign ?body ?done ?stop
  case hKt => exact fun h1 h2 => h1.trans h2
  case hKb => exact fun W l o o' _ ho hc => KpX.putObj o' ho hc
  case hI => exact fun s A B row h hg hr => h.grown hg hr
  case hIx => exact fun cd s A B row h hg hr => h
  case hAx =>
    rintro pre e a' _ A B row ⟨h1, ge, h3, h4, h5⟩ hg hr
    exact ⟨h1.grown hg hr, ge, h3, ⟨own_cells hg hr h4.row, h4.len⟩, h5⟩
  case assign =>
    rintro l' pre e rest V K hxx h1 hK'
    have hk : e.key.length = 32 := entN_keyed Hx.out hn3 e (by rw [hxx]; simp)
    have HK : Hid (∀ a' W', _ → _ → _ → K a' W') := hK'
    clear hK' hxx
    simp only [encE, fold1, List.setIfInBounds_toArray, List.set_cons_zero, List.set_cons_succ]
    gi_wp2_with (first
      | (refine in_round (fun _ h => by cases h) ?_; refine wpList_alloc46 rfl rfl ?_; intro ge w7 r7 z7 k7; refine OnlyN.go ?_)
      | (refine in_round (fun _ h => by cases h) ?_; refine wpList_store46 rfl _ _ rfl ge rfl e rfl hk _ r7 ?_; intro w8 r8 k8; refine OnlyN.go ?_))
    have k0 : Keeps (fun _ => False) V w8 := k7.trans' k8 (fun i e => .inr (by omega))
    have zz := h1.keeps.size
    exact HK.out _ _ (k0.from (fun _ _ h => h.elim)) (k0.kpx (fun _ h => h.elim)) ⟨h1.grown (grown_of_keeps k0) (fun r e => by cases e), ge, by omega, r8, rfl⟩
  case body =>
    rintro l' pre e rest a' V hl' hxx ⟨h1, ge, z7, r7, rfl⟩
    obtain ⟨⟨v, hv, O⟩, hnum, hblk, hkp⟩ := h1
    have hpl : pre.length ≤ 100000 := by
      have h9 := congrArg List.length hxx
      rw [entN_len, List.length_append] at h9
      omega
    have he := r7.len
    have hn' : w6.heap.size ≤ V.heap.size := hkp.size
    have hne : v.ownBlock ≠ some g5 := O.ne hv.row (by decide)
    have hnn : v.ownBlock ≠ some gn := O.ne hnum (by decide)
    have hnb : v.ownBlock ≠ some gb := O.ne hblk.row (by decide)
    clear hxx
    gi_wp2_with (first
      | (refine in_round (fun _ h => by cases h) ?_; refine wpList_load22 rfl _ rfl g5 rfl v hv ?_; refine OnlyN.go ?_)
      | (refine in_round (fun _ h => by cases h) ?_; refine wpList_load46 rfl _ rfl ge 0 rfl e r7.at_ ?_; refine OnlyN.go ?_)
      | (refine in_round (fun _ h => by cases h) ?_; refine wpList_build1E rfl _ rfl e rfl he ?_; intro g8 w8 r8 z8 k8; refine OnlyN.go ?_; have O8 := O.kept k8 (fun _ _ h => h); have v8 := hv.keep k8; have zz8 := k8.size)
      | (refine in_round (fun _ h => by cases h) ?_; refine wpList_appE rfl _ _ rfl w1.heap.size v pre rfl O8 g8 rfl e r8 hpl (by omega) ?_; intro v9 w9 o9 k9; refine OnlyN.go ?_; have v9' := v8.keeps k9 hne)
      | (refine in_round (fun _ h => by cases h) ?_; refine wpList_store22 rfl _ _ rfl g5 rfl v9 rfl o9.is v v9' ?_; intro w10 v10 k10; refine OnlyN.go ?_))
    have o10 := o9.kept k10 (fun g' h1 h2 => o9.ne v9'.row (by decide) (by rw [h1, h2]))
    have f1 : KeepsFrom w6.heap.size V w10 := ((k8.from (fun _ _ h => h.elim)).trans (O8.fromB k9)).trans (k10.from (fun k hk e => by omega))
    have q9 : Keeps (fun k => w1.heap.size ≤ k ∧ k ≠ gn ∧ k ≠ gb) w8 w9 := k9.mono (fun k _ e => ⟨(O8.from e).1, fun e' => hnn (by rw [e, e']), fun e' => hnb (by rw [e, e'])⟩)
    have q10 : Keeps (fun k => w1.heap.size ≤ k ∧ k ≠ gn ∧ k ≠ gb) w9 w10 := k10.mono (fun k _ e => ⟨by omega, by omega, by omega⟩)
    have QQ := ((k8.mono (T := fun k => w1.heap.size ≤ k ∧ k ≠ gn ∧ k ≠ gb) (fun _ _ h => h.elim)).trans q9).trans q10
    exact ⟨f1, QQ.kpx (fun k h => .inl h), ⟨⟨v9, v10, o10⟩, QQ.row hnum (fun h => h.2.1 rfl), hblk.keeps QQ (fun h => h.2.2 rfl), hkp.trans (QQ.mono (fun _ _ h => h.1))⟩⟩
  case done =>
    rintro D V hD' ⟨⟨v, hv, O⟩, hnum, hblk, hkp⟩ hd
    rw [← Hme.out] at O
    have hTV := hT6.keeps hkp (fun h => by omega) (fun h => by omega)
    have b1V : BlAt V g1 x := b6.keeps hkp (by omega)
    obtain ⟨a4, c4, rfl, s4, _⟩ := O.slice
    have lDV : D < V.heap.size := (Array.getElem?_eq_some_iff.1 hd).1
    obtain ⟨L, v, hR⟩ : ∃ L v, encR (ents x) = (L, v) := ⟨_, _, rfl⟩
    have lL := enc_len Hx.out hR
    have lx := Hx.out
    have HR : Hid (encR (ents x) = (L, v)) := hR
    have Htold : Hid (_ ∨ _ ∨ _) := dec_ways hR
    clear hR
    generalize hEn : ents x = lE at *
    have Hen : Hid (ents x = lE) := hEn
    clear hEn
    have hsame : ∀ (W : World) (o : Obj), (∀ o', W.heap[D]? = some o' → o'.isCells = false) → ∀ (k : Nat) (cs : Array Value) (t : TypeId) (fr : Nat × Nat), W.heap[k]? = some (.cells cs t fr) → (W.putObj D o).heap[k]? = some (.cells cs t fr) := fun W o hno k cs t fr e => by
      refine (World.putObj_heap_other ?_).trans e
      rintro rfl
      have := hno _ e
      simp [Obj.isCells] at this
    rcases Htold.out with ⟨rfl, hLx, hI⟩ | ⟨rfl, hLx, hI⟩ | ⟨rfl, hI⟩
    · have heq := eq26 lL lx
      rw [decide_eq_true hLx] at heq
      have HI : Hid (isLf x = true) := hI
      clear Htold hLx hI
      gi_wp2_with (first
        | (refine in_wide (fun _ h => by cases h) ?_; refine wpList_load22 rfl _ rfl g5 rfl _ hv ?_; refine OnlyN.go ?_)
        | (refine ⟨trivial, ?_⟩; gi_at_call 15; refine (callsIn_wide.2 (encP_at HR.out _ hTV a4 _ c4 s4)).mono ?_; rintro e w7 ⟨rfl, k7⟩; have b7 := b1V.keep k7; have O7 := O.kept k7 (fun _ _ h => h); have v7 := hv.keep k7)
        | (refine in_wide (fun _ h => by cases h) ?_; refine wpList_alloc26 rfl rfl ?_; intro g8 w8 bb8 z8 k8; refine OnlyN.go ?_; have b8 := b7.keep k8; have O8 := O7.kept k8 (fun _ _ h => h); have v8 := v7.keep k8; have h18 : g1 ≠ g8 := (by have := b7.lt; omega); have h58 : g5 ≠ g8 := (by have := v7.lt; omega))
        | (refine in_wide (fun _ h => by cases h) ?_; refine wpList_store26 rfl _ _ rfl g8 rfl L rfl lL _ bb8 ?_; intro w9 bb9 k9; refine OnlyN.go ?_; have b9 := b8.keeps k9 h18; have v9 := v8.keeps k9 h58; have O9 := O8.kept k9 (fun g' h1 h2 => O8.ne bb8.row (by decide) (by rw [h1, h2])))
        | (refine in_wide (fun _ h => by cases h) ?_; refine wpList_load26 rfl _ rfl g8 rfl L bb9 ?_; refine OnlyN.go ?_)
        | (refine in_wide (fun _ h => by cases h) ?_; refine wpList_load26 rfl _ rfl g1 rfl x b9 ?_; refine OnlyN.go ?_)
        | (refine in_wide (fun _ h => by cases h) ?_; refine wpList_load22 rfl _ rfl g5 rfl _ v9 ?_; refine OnlyN.go ?_))
      have hDg : D ≠ g8 := by have := k7.size; omega
      have hd9 := k9.row (k8.row (k7.row hd (fun h => h)) (fun h => h)) hDg
      refine ⟨by simp, .inl ⟨_, _, rfl, run_takeDeferred hd9, ?_⟩⟩
      have fin : ∀ o, DecTold x (.returned (.tuple #[.slice a4 lE.length c4, .int .i64 0])) (w9.putObj D o) := fun o => by
        obtain ⟨a9, c9, e9, s9, _⟩ := (O9.same (hsame w9 o (fun o' e => by rw [hd9] at e; cases e; rfl))).slice
        cases e9
        exact .ok HI.out a4 c4 (by rw [Hen.out]) (by rw [Hen.out]; exact s9)
      refine ⟨_, results_two (p := 2) (q := 3) rfl _ _ _, fin _, ?_⟩
      · have m1 : Keeps (fun k => w.heap.size ≤ k) w6 w8 := ((hkp.trans (k7.mono (fun _ _ h => h.elim))).trans (k8.mono (fun _ _ h => h.elim))).mono (fun k _ h => by omega)
        have m2 : Keeps (fun k => w.heap.size ≤ k) w8 w9 := k9.mono (fun k _ h => by have := k7.size; have := hkp.size; have := KK.size; omega)
        exact KK.trans' ((m1.trans m2).grown (grownBy_putObj' _ D _) (fun k e => by cases e; exact .inr hD')) (fun i e => .inr e)
    · have heq := eq26 lL lx
      rw [decide_eq_false hLx] at heq
      have HI : Hid (isLf x = false) := hI
      clear Htold hLx hI
      gi_wp2_with (first
        | (refine in_wide (fun _ h => by cases h) ?_; refine wpList_load22 rfl _ rfl g5 rfl _ hv ?_; refine OnlyN.go ?_)
        | (refine ⟨trivial, ?_⟩; gi_at_call 15; refine (callsIn_wide.2 (encP_at HR.out _ hTV a4 _ c4 s4)).mono ?_; rintro e w7 ⟨rfl, k7⟩; have b7 := b1V.keep k7)
        | (refine in_wide (fun _ h => by cases h) ?_; refine wpList_alloc26 rfl rfl ?_; intro g8 w8 bb8 z8 k8; refine OnlyN.go ?_; have b8 := b7.keep k8; have h18 : g1 ≠ g8 := (by have := b7.lt; omega))
        | (refine in_wide (fun _ h => by cases h) ?_; refine wpList_store26 rfl _ _ rfl g8 rfl L rfl lL _ bb8 ?_; intro w9 bb9 k9; refine OnlyN.go ?_; have b9 := b8.keeps k9 h18)
        | (refine in_wide (fun _ h => by cases h) ?_; refine wpList_load26 rfl _ rfl g8 rfl L bb9 ?_; refine OnlyN.go ?_)
        | (refine in_wide (fun _ h => by cases h) ?_; refine wpList_load26 rfl _ rfl g1 rfl x b9 ?_; refine OnlyN.go ?_))
      have hDg : D ≠ g8 := by have := k7.size; omega
      have hd9 := k9.row (k8.row (k7.row hd (fun h => h)) (fun h => h)) hDg
      refine ⟨by simp, .inl ⟨_, _, rfl, run_takeDeferred hd9, ?_⟩⟩
      refine ⟨_, results_two rfl _ _ _, .no HI.out rfl, ?_⟩
      have m1 : Keeps (fun k => w.heap.size ≤ k) w6 w8 := ((hkp.trans (k7.mono (fun _ _ h => h.elim))).trans (k8.mono (fun _ _ h => h.elim))).mono (fun k _ h => by omega)
      have m2 : Keeps (fun k => w.heap.size ≤ k) w8 w9 := k9.mono (fun k _ h => by have := k7.size; have := hkp.size; have := KK.size; omega)
      exact KK.trans' ((m1.trans m2).grown (grownBy_putObj' _ D _) (fun k e => by cases e; exact .inr hD')) (fun i e => .inr e)
    · have HI : Hid (isLf x = false) := hI
      clear Htold hI
      gi_wp2_with (first
        | (refine in_wide (fun _ h => by cases h) ?_; refine wpList_load22 rfl _ rfl g5 rfl _ hv ?_; refine OnlyN.go ?_)
        | (refine ⟨trivial, ?_⟩; gi_at_call 15; refine (callsIn_wide.2 (encP_at HR.out _ hTV a4 _ c4 s4)).mono ?_; rintro e w7 ⟨rfl, k7⟩; have b7 := b1V.keep k7)
        | (refine in_wide (fun _ h => by cases h) ?_; refine wpList_alloc26 rfl rfl ?_; intro g8 w8 bb8 z8 k8; refine OnlyN.go ?_; have b8 := b7.keep k8; have h18 : g1 ≠ g8 := (by have := b7.lt; omega))
        | (refine in_wide (fun _ h => by cases h) ?_; refine wpList_store26 rfl _ _ rfl g8 rfl L rfl lL _ bb8 ?_; intro w9 bb9 k9; refine OnlyN.go ?_; have b9 := b8.keeps k9 h18)
        | (refine in_wide (fun _ h => by cases h) ?_; refine wpList_load26 rfl _ rfl g8 rfl L bb9 ?_; refine OnlyN.go ?_)
        | (refine in_wide (fun _ h => by cases h) ?_; refine wpList_load26 rfl _ rfl g1 rfl x b9 ?_; refine OnlyN.go ?_))
      have hDg : D ≠ g8 := by have := k7.size; omega
      have hd9 := k9.row (k8.row (k7.row hd (fun h => h)) (fun h => h)) hDg
      refine ⟨by simp, .inl ⟨_, _, rfl, run_takeDeferred hd9, ?_⟩⟩
      refine ⟨_, results_two rfl _ _ _, .no HI.out rfl, ?_⟩
      have m1 : Keeps (fun k => w.heap.size ≤ k) w6 w8 := ((hkp.trans (k7.mono (fun _ _ h => h.elim))).trans (k8.mono (fun _ _ h => h.elim))).mono (fun k _ h => by omega)
      have m2 : Keeps (fun k => w.heap.size ≤ k) w8 w9 := k9.mono (fun k _ h => by have := k7.size; have := hkp.size; have := KK.size; omega)
      exact KK.trans' ((m1.trans m2).grown (grownBy_putObj' _ D _) (fun k e => by cases e; exact .inr hD')) (fun i e => .inr e)
  case stop => exact fun D cd pre x rest V hD' hx h hd => h.elim

theorem decP (w : World) (hT : Tabs w) (x : List B) (hx : x.length = 128) :
    Calls Tryd.prog 17 #[.agg (brow x)] w fun e w' => DecTold x e w' ∧ Keeps (fun _ => False) w w' := by
  by_cases h : 3 < (x.getD 1 0).toNat
  · exact decP_big w x hx h
  · exact decP_in w hT x hx _ rfl (by omega)

end Go.Proofs.YthngaegfppbdmaaDoor
