/-
  Pack of the program's index: the walk.
-/
import Derived.Test.YthngaegfppbdmaaDoorXt
set_option linter.all false
namespace Go.Proofs.YthngaegfppbdmaaDoor
open Go.RowKit Go.Sort Go.Shelf
attribute [local go_sem] Oper.semAt_some

/-- Behind some rounds: their leaves. -/
structure PcIn (base b o n c gs gn g4 g5 g6 : Nat) (l : List En) (w6 : World) (pre : List Sv) (V : World) : Prop where
  own : ∃ v, VaAt V g6 57 v ∧ OwnK V base v pre.length (lvs l pre.length)
  s : V.heap[gs]? = some (.cells #[.slice (some ⟨b, o, none⟩) n c] 22 (0, 0))
  num : V.heap[gn]? = some (.cells #[.int .i64 3] 3 (0, 0))
  r4 : VaAt V g4 57 (.slice none 0 0)
  r5 : VaAt V g5 27 (.int .i64 0)
  keeps : Keeps (fun k => base ≤ k) w6 V
theorem PcIn.grown {base b o n c gs gn g4 g5 g6 : Nat} {l : List En} {w6 A A' : World} {pre : List Sv} {row : Option Nat} (h : PcIn base b o n c gs gn g4 g5 g6 l w6 pre A) (hg : A.grownBy A' row) (hr : ∀ r, row = some r → w6.heap.size ≤ r ∧ ∃ o : Obj, A.heap[r]? = some o ∧ o.isCells = false) : PcIn base b o n c gs gn g4 g5 g6 l w6 pre A' := by
  obtain ⟨v, h1, h2⟩ := h.own
  have hs : ∀ (k : Nat) (cs : Array Value) (t : TypeId) (fr : Nat × Nat), A.heap[k]? = some (.cells cs t fr) → A'.heap[k]? = some (.cells cs t fr) := fun k cs t fr e => own_cells hg hr e
  exact ⟨⟨v, h1.same hs, h2.same hs⟩, hs _ _ _ _ h.s, hs _ _ _ _ h.num, h.r4.same hs, h.r5.same hs, own_keeps hg hr h.keeps (Nat.le_refl _)⟩

theorem chs_split {b o : Nat} {l : List En} {pre rest : List Sv} {x : Sv} (h : chs b o l = pre ++ x :: rest) : pre.length < nck l ∧ x = ⟨some ⟨b, o + 3 * pre.length * 35, none⟩, min 3 (l.length - 3 * pre.length), min 3 (l.length - 3 * pre.length), ck l pre.length⟩ := by
  have h1 := congrArg List.length h
  rw [chs_len, List.length_append, List.length_cons] at h1
  have hi : pre.length < nck l := by omega
  have h2 := chs_at b o l hi
  rw [h, List.getElem?_append_right (Nat.le_refl _), Nat.sub_self, List.getElem?_cons_zero] at h2
  exact ⟨hi, by simpa using h2⟩

theorem SlE.ck {w : World} {b o n c : Nat} {l : List En} (h : SlE w (some ⟨b, o, none⟩) n c l) {i m : Nat} (hi : 3 * i < n) (hm : min 3 (n - 3 * i) = m) : SlE w (some ⟨b, o + 3 * i * 35, none⟩) m m (ck l i) := by
  have h1 := (h.suf (k := 3 * i) (by omega)).pre (k := m) (by omega)
  have e : Go.Proofs.YthngaegfppbdmaaDoor.ck l i = (l.drop (3 * i)).take m := by
    unfold Go.Proofs.YthngaegfppbdmaaDoor.ck
    have hl := h.len
    by_cases q : n - 3 * i ≤ 3
    · rw [List.take_of_length_le (by rw [List.length_drop]; omega), List.take_of_length_le (by rw [List.length_drop]; omega)]
    · rw [show m = 3 by omega]
  rw [e]
  exact ⟨h1.len, Nat.le_refl _, h1.keyed, h1.at_⟩

set_option maxRecDepth 100000 in
set_option maxHeartbeats 8000000 in
theorem pack_ok (w : World) (hT : Tabs w) (b o n c : Nat) (l : List En) (hl : SlE w (some ⟨b, o, none⟩) n c l) (h0 : 0 < n) (a2 : Option Addr) (n2 c2 : Nat) (p : List Int) (hp : SlI w a2 n2 c2 p) (hi : ix l = true) (hs : (n2 : Int) = sz (n : Int)) {R : List B} {rv : Int} (hR : rootR (p.take (nck l)) = (R, rv)) :
    Calls Tryd.prog 30 #[.slice (some ⟨b, o, none⟩) n c, .slice a2 n2 c2] w fun e w' => (if rv = 0 then PkTold (lvs l (nck l) ++ R) (nck l + 1) 0 e w' else PkTold [] 0 rv e w') ∧ Keeps (fun _ => False) w w' := by
  have hlen := hl.len
  have hk := hl.keyed
  have h126 := ix_len hi
  rw [hlen] at h126
  obtain ⟨K, hK⟩ : ∃ K, nck l = K := ⟨_, rfl⟩
  have hn2 : n2 = K + 1 := by
    rw [sz_nat n h0] at hs
    rw [← hK]; unfold nck; rw [hlen]; omega
  have hK1 : K ≤ 43 := by rw [← hK]; unfold nck; omega
  have HS : Hid (sz (n : Int) = (n2 : Int)) := hs.symm
  have HI : Hid (ix l = true) := hi
  have HR : Hid (rootR (p.take K) = (R, rv)) := by show _ = _; rw [← hK]; exact hR
  have HK : Hid (nck l = K) := hK
  have Hk : Hid (Keyed l) := hk
  have Hlen : Hid (l.length = n) := hlen
  have lR := rootR_len hR
  have hb : b < w.heap.size := by
    obtain ⟨b', o', e', hE⟩ := hl.ent h0
    cases e'
    exact slb_lt hE.slb (by omega) rfl
  have hnc := hl.cap
  obtain ⟨b2, o2, rfl, hb2, _⟩ := hp.ent (by omega)
  have hkc2 : (K : Int) ≤ (c2 : Int) := by have := hp.cap; omega
  have hK0 : (0 : Int) ≤ (K : Int) := by omega
  have hrv : rv = 0 ∨ rv = 11 := by
    rcases okR_ways (p.take (nck l)) with ⟨_, R', _, e, _⟩ | ⟨_, e⟩
    · rw [hR] at e; cases e; exact .inl rfl
    · rw [hR] at e; cases e; exact .inr rfl
  have hn0 : ¬ (n : Int) = 0 := by omega
  have hts := hT.size
  have Hn2 : Hid (n2 = K + 1) := hn2
  have hn44 : n2 ≤ 44 := by omega
  clear hs hR hK hlen hk hn2
  refine (callsIn_wide (n := 9)).1 ?_
  refine callsIn_of_wp_marks Tryd.func30 rfl trivial ?_ rfl
  simp only [Tryd.ntmps30, List.size_toArray, List.length_cons, List.length_nil, Nat.reduceAdd, Nat.reduceSub, Array.replicate_succ, Array.replicate_zero, List.push_toArray, List.append_toArray, List.nil_append, List.cons_append]
  gi_wp2_with (first
    | (refine in_wide (fun _ h => by cases h) ?_; refine wpList_alloc57 rfl rfl ?_; have := K4; intro g6 w5 v5 z5 k5; refine OnlyN.go ?_; have K5 := K4.trans k5)
    | (refine in_wide (fun _ h => by cases h) ?_; refine wpList_alloc57 rfl rfl ?_; intro g4 w1 v1 z1 k1; refine OnlyN.go ?_)
    | (refine in_wide (fun _ h => by cases h) ?_; refine wpList_alloc27 rfl rfl ?_; intro g5 w2 u2 z2 k2; refine OnlyN.go ?_; have K2 := k1.trans k2)
    | (refine ⟨trivial, ?_⟩; gi_at_call 34; refine (callsIn_wide.2 (good34_at HI.out _ _ n c (hl.keep K2) (by omega))).mono ?_; rintro e w3a ⟨rfl, k3a⟩)
    | (refine ⟨trivial, ?_⟩; gi_at_call 37; refine (callsIn_wide.2 (size_of HS _ (by omega) (by omega))).mono ?_; rintro e w3 ⟨rfl, k3b⟩; have k3 := k3a.trans k3b; have K3 := K2.trans k3)
    | (refine in_wide (fun _ h => by cases h) ?_; refine wpList_makeK rfl _ _ rfl rfl n2 _ rfl rfl (by omega) ?_; intro g0 w4 o4 z4 k4; refine OnlyN.go ?_; have K4 := K3.trans k4)
    | (refine in_wide (fun _ h => by cases h) ?_; refine wpList_store57 rfl _ _ rfl g6 rfl _ rfl ⟨_, _, _, rfl⟩ _ v5 ?_; intro w6' v6' k6'; refine OnlyN.go ?_)
    | (refine ⟨trivial, ?_⟩; gi_at_call 54; refine (callsIn_wide.2 (chunk54 _ _ n c)).mono ?_; rintro e w6 ⟨gs, gn, rfl, hgs, hgn, zs, zn, hsn, k6⟩))
  have l4 := v1.lt
  have l5 := u2.lt
  have l6 := v5.lt
  have q2 := k2.size
  have q3 := k3.size
  have q4 := k4.size
  have q5 := k5.size
  have q6' := k6'.size
  have q6 := k6.size
  have q1 := k1.size
  have r4 : VaAt w6 g4 57 (.slice none 0 0) := ((((v1.keep k2).keep k3).keep (k4.trans k5)).keeps k6' (by omega)).keep k6
  have r5 : VaAt w6 g5 27 (.int .i64 0) := (((u2.keep k3).keep (k4.trans k5)).keeps k6' (by omega)).keep k6
  have O6 := ((o4.keep k5).kept k6' (fun i h1 h2 => (o4.keep k5).ne v5.row (by decide) (by rw [h1, h2]))).keep k6
  have v6 := v6'.keep k6
  have KK : Keeps (fun _ => False) w w6 := (K5.trans' k6' (fun i e => .inr (by omega))).trans k6
  have hT6 := hT.keeps KK (fun h => h) (fun h => h)
  have hl6 := hl.keep KK
  have hp6 := hp.keep KK
  obtain ⟨base, hbase⟩ : ∃ base, w3.heap.size = base := ⟨_, rfl⟩
  rw [hbase] at O6 q3 q4 z4
  have hw6 : base ≤ w6.heap.size := by omega
  have hI : PcIn base b o n c gs gn g4 g5 g6 l w6 [] w6 := ⟨⟨_, v6, O6⟩, hgs, hgn, r4, r5, Keeps.refl _ _⟩
  have l66 : g6 < w6.heap.size := by omega
  have hbb2 : b2 < base := by omega
  have hb4 : g4 < base := by omega
  have hb5 : g5 < base := by omega
  have hb6 : base ≤ g6 := by omega
  have hs6 : gs ≠ g6 := by omega
  have hn6 : gn ≠ g6 := by omega
  have hbb : b < base := by omega
  have hwb : w.heap.size ≤ base := by omega
  have h45 : g4 ≠ g5 := by omega
  have h4w : w.heap.size ≤ g4 := by omega
  have h5w : w.heap.size ≤ g5 := by omega
  clear v1 k1 u2 z2 k2 K2 k3 k3a k3b K3 o4 k4 K4 v5 k5 K5 v6' k6' k6 r4 r5 O6 v6 hl hp hT hbase z1 z5 z4 q1 q2 q3 q4 q5 q6' q6 l4 l5 l6
  refine range_law (gf := 69) (lb := #[.pointer (some ⟨gs, 0, none⟩), .pointer (some ⟨gn, 0, none⟩)]) rfl (enters_of Tryd.func69 (by kernel_rfl) rfl) (ch69 (fun k => base ≤ k ∧ k ≠ gs ∧ k ≠ gn) w6 b o n c gs gn l Hlen.out hnc (by omega) hgs hgn (fun h => h.2.1 rfl) (fun h => h.2.2 rfl)) ?hKt ?hKb (RowKit.Below.refl _ _) (fun _ => rfl)
    (fun pre V => PcIn base b o n c gs gn g4 g5 g6 l w6 pre V)
    (fun cd pre V => False) ?hI ?hIx hI
    (fun pre x a' V => PcIn base b o n c gs gn g4 g5 g6 l w6 pre V ∧ a' = { tmps := #[.slice (some ⟨b, o, none⟩) n c, .slice (some ⟨b2, o2, none⟩) n2 c2, undef, undef, .pointer (some ⟨g4, 0, none⟩), .pointer (some ⟨g5, 0, none⟩), .pointer (some ⟨g6, 0, none⟩), x.v, undef, undef, undef, undef, .slice (some ⟨b, o, none⟩) n c, .bool true, .bool false, .slice (some ⟨b2, o2, none⟩) n2 c2, .int .i64 (n2 : Int), .slice (some ⟨b, o, none⟩) n c, .int .i64 (n : Int), .int .i64 (n2 : Int), .bool false, .slice (some ⟨b, o, none⟩) n c, .int .i64 (n : Int), .bool false, .slice (some ⟨b2, o2, none⟩) n2 c2, .int .i64 (n2 : Int), .slice (some ⟨g0, 0, none⟩) 0 n2, .slice (some ⟨b, o, none⟩) n c, .func (.func 69) #[] #[.pointer (some ⟨gs, 0, none⟩), .pointer (some ⟨gn, 0, none⟩)], x.v, undef, undef, undef, undef, undef, undef, undef, undef, undef, undef, undef, undef, undef, undef, undef, undef, undef, undef, undef, undef, undef, undef, undef, undef, undef, undef, undef], defers := [] }) ?hAx ?assign ?body ?done ?stop
  case hKt => exact fun h1 h2 => h1.trans h2
  case hKb => exact fun W l o o' _ ho hc => KpX.putObj o' ho hc
  case hI => exact fun s A B row h hg hr => h.grown hg hr
  case hIx => exact fun cd s A B row h hg hr => h
  case hAx =>
    rintro pre x a' _ A B row ⟨h1, h5⟩ hg hr
    exact ⟨h1.grown hg hr, h5⟩
  case assign =>
    rintro l' pre x rest V K' hx h1 hK'
    have HK' : Hid (∀ a' W', _ → _ → _ → K' a' W') := hK'
    clear hK' hx
    simp only [encC, fold1, List.setIfInBounds_toArray, List.set_cons_zero, List.set_cons_succ]
    gi_wp2
    have k0 : Keeps (fun _ => False) V V := Keeps.refl _ _
    exact HK'.out _ _ (k0.from (fun _ _ h => h.elim)) (k0.kpx (fun _ h => h.elim)) ⟨h1, rfl⟩
  case body =>
    rintro l' pre x rest a' V hl' hx ⟨h1, rfl⟩
    obtain ⟨hi', rfl⟩ := chs_split hx
    rw [Hlen.out]
    obtain ⟨m, hm⟩ : ∃ m, min 3 (n - 3 * pre.length) = m := ⟨_, rfl⟩
    have hlt3 : 3 * pre.length < n := by have := Hlen.out; unfold nck at hi'; omega
    rw [hm]
    obtain ⟨⟨v, hv, O⟩, hss, hnn, hr4, hr5, hkp⟩ := h1
    have hlV := hl6.keeps hkp (fun _ b' o' e => by cases e; omega)
    have hck := hlV.ck hlt3 hm
    have hTV := hT6.keeps hkp (fun h => by omega) (fun h => by omega)
    obtain ⟨L, hL⟩ : ∃ L, lf (ck l pre.length) = L := ⟨_, rfl⟩
    have lL : L.length = 128 := by rw [← hL]; exact lf_len (ck_keyed Hk.out _) (by rw [ck_len]; omega)
    have HE : Hid (encR (ck l pre.length) = (L, 0)) := by show _ = _; unfold encR; rw [ck_gd HI.out hi', ← hL]; rfl
    have HN : Hid (lvs l (pre.length + 1) = lvs l pre.length ++ L) := by show _ = _; rw [lvs_succ, hL]
    have hpl : pre.length ≤ 1000 := by have := HK.out; omega
    have hsz : w6.heap.size ≤ V.heap.size := hkp.size
    clear hL hx
    simp only [Sv.v]
    generalize ck l pre.length = lc at *
    generalize lvs l pre.length = X at *
    generalize hP : pre.length = P at *
    have hne6 : v.ownBlock ≠ some g6 := O.ne hv.row (by decide)
    have hnes : v.ownBlock ≠ some gs := O.ne hss (by decide)
    have hnen : v.ownBlock ≠ some gn := O.ne hnn (by decide)
    have hne4 : v.ownBlock ≠ some g4 := O.ne hr4.row (by decide)
    have hne5 : v.ownBlock ≠ some g5 := O.ne hr5.row (by decide)
    gi_wp2_with (first
      | (refine ⟨trivial, ?_⟩; gi_at_call 15; refine (CallsIn.inRound l' (callsIn_wide.2 (encP_at HE.out _ hTV _ m m hck))).mono ?_; rintro ed w7 ⟨rfl, k7⟩; have v7 := hv.keep k7; have O7 := O.keep k7)
      | (refine in_round (fun _ h => by cases h) ?_; refine wpList_alloc26 rfl rfl ?_; intro g8 w8 b8 z8 k8; refine OnlyN.go ?_; have v8 := v7.keep k8; have O8 := O7.keep k8; have z78 := k7.size; have z88 := k8.size; have l8 := b8.lt)
      | (refine in_round (fun _ h => by cases h) ?_; refine wpList_store26 rfl _ _ rfl g8 rfl L rfl lL _ b8 ?_; intro w9 b9 k9; refine OnlyN.go ?_; have hg86 : g6 ≠ g8 := (by have := v7.lt; omega); have v9 := v8.keeps k9 hg86; have O9 := O8.kept k9 (fun g' h1 h2 => by rw [h2] at h1; have := (O7.from h1).2; omega))
      | (refine in_round (fun _ h => by cases h) ?_; refine wpList_load57 rfl _ rfl g6 rfl v v9 ?_; refine OnlyN.go ?_)
      | (refine in_round (fun _ h => by cases h) ?_; refine wpList_load26 rfl _ rfl g8 rfl L b9 ?_; refine OnlyN.go ?_)
      | (refine in_round (fun _ h => by cases h) ?_; refine wpList_buildK rfl _ rfl L rfl lL ?_; intro ga wa sa za ka; refine OnlyN.go ?_; have va := v9.keep ka; have Oa := O9.keep ka; have z9a := ka.size; have z89 := k9.size)
      | (refine in_round (fun _ h => by cases h) ?_; refine wpList_appK rfl _ _ rfl base v P X rfl Oa ga 0 1 1 L rfl sa (by omega) (by omega) ?_; intro vb wb Ob kb'; refine OnlyN.go ?_; have vb' := va.keeps kb' hne6)
      | (refine in_round (fun _ h => by cases h) ?_; refine wpList_store57 rfl _ _ rfl g6 rfl vb rfl Ob.is v vb' ?_; intro wc vc kc; refine OnlyN.go ?_))
    have Oc := Ob.kept kc (fun g' h1 h2 => Ob.ne vb'.row (by decide) (by rw [h1, h2]))
    have f0 : Keeps (fun _ => False) V wa := ((k7.trans k8).trans' k9 (fun i e => .inr (by omega))).trans ka
    have f1 : KeepsFrom w6.heap.size V wc := (f0.from (fun _ _ h => h.elim)).trans ((Oa.fromB kb').trans (kc.from (fun k hk e => by omega)))
    have qb : Keeps (fun k => base ≤ k ∧ k ≠ gs ∧ k ≠ gn) wa wb := kb'.mono (fun k _ e => ⟨(Oa.from e).1, fun e' => hnes (by rw [e, e']), fun e' => hnen (by rw [e, e'])⟩)
    have qc : Keeps (fun k => base ≤ k ∧ k ≠ gs ∧ k ≠ gn) wb wc := kc.mono (fun k _ e => ⟨by omega, by omega, by omega⟩)
    have QQ := ((f0.mono (T := fun k => base ≤ k ∧ k ≠ gs ∧ k ≠ gn) (fun _ _ h => h.elim)).trans qb).trans qc
    refine ⟨f1, QQ.kpx (fun k h => .inl h), ⟨⟨vb, vc, ?_⟩, QQ.row hss (fun h => h.2.1 rfl), QQ.row hnn (fun h => h.2.2 rfl), hr4.keeps QQ (fun h => by omega), hr5.keeps QQ (fun h => by omega), hkp.trans (QQ.mono (fun _ _ h => h.1))⟩⟩
    rw [List.length_append, List.length_singleton, hP, HN.out]
    exact Oc
  case done =>
    rintro D V hD' ⟨⟨v, hv, O⟩, hss, hnn, hr4, hr5, hkp⟩ hd
    rw [chs_len, HK.out] at O
    have hTV := hT6.keeps hkp (fun h => by omega) (fun h => by omega)
    have hpV := (hp6.keeps hkp (fun _ b' o' e => by cases e; omega)).pre (k := K) (by have := Hn2.out; omega)
    have hsame : ∀ (W : World) (o : Obj), (∀ o', W.heap[D]? = some o' → o'.isCells = false) → ∀ (k : Nat) (cs : Array Value) (t : TypeId) (fr : Nat × Nat), W.heap[k]? = some (.cells cs t fr) → (W.putObj D o).heap[k]? = some (.cells cs t fr) := fun W o hno k cs t fr e => by
      refine (World.putObj_heap_other ?_).trans e
      rintro rfl
      have := hno _ e
      simp [Obj.isCells] at this
    have lDV : D < V.heap.size := (Array.getElem?_eq_some_iff.1 hd).1
    have hszV := hkp.size
    have hne6 : v.ownBlock ≠ some g6 := O.ne hv.row (by decide)
    have hne4 : v.ownBlock ≠ some g4 := O.ne hr4.row (by decide)
    have hne5 : v.ownBlock ≠ some g5 := O.ne hr5.row (by decide)
    have hneD : v.ownBlock ≠ some D := fun e => by
      obtain ⟨cs, t, fr, h⟩ := O.cells e
      rw [hd] at h; cases h
    have l6V := hv.lt
    obtain ⟨a4, c4, rfl, s4, _⟩ := O.slice
    have hD4 : D ≠ g4 := by omega
    have hD5 : D ≠ g5 := by omega
    obtain ⟨X, hX⟩ : ∃ X, lvs l K = X := ⟨_, rfl⟩
    have HX : Hid (lvs l (nck l) = X) := by show _ = _; rw [HK.out, hX]
    rw [hX] at O s4
    clear hX
    rcases hrv with rfl | rfl
    · gi_wp2_with (first
        | (refine in_wide (fun _ h => by cases h) ?_; refine wpList_load57 rfl _ rfl g6 rfl _ hv ?_; refine OnlyN.go ?_)
        | (refine ⟨trivial, ?_⟩; gi_at_call 19; refine (callsIn_wide.2 (rootP_at HR.out _ hTV _ _ c2 hpV)).mono ?_; rintro e w7 ⟨rfl, k7⟩; have v7 := hv.keep k7; have O7 := O.keep k7; have d7 := k7.row hd (fun h => h); have y4 := hr4.keep k7; have y5 := hr5.keep k7)
        | (refine in_wide (fun _ h => by cases h) ?_; refine wpList_alloc26 rfl rfl ?_; intro g10 w8 b8 z8 k8; refine OnlyN.go ?_; have z78 := k7.size; have K8 := k7.trans k8)
        | (refine in_wide (fun _ h => by cases h) ?_; refine wpList_store26 rfl _ _ rfl g10 rfl R rfl lR _ b8 ?_; intro w9 b9 k9; refine OnlyN.go ?_; have K9 : Keeps (fun _ => False) V w9 := K8.trans' k9 (fun i e => .inr (by omega)); have v9 := hv.keep K9)
        | (refine in_wide (fun _ h => by cases h) ?_; refine wpList_load57 rfl _ rfl g6 rfl _ v9 ?_; refine OnlyN.go ?_)
        | (refine in_wide (fun _ h => by cases h) ?_; refine wpList_load26 rfl _ rfl g10 rfl R b9 ?_; refine OnlyN.go ?_)
        | (refine in_wide (fun _ h => by cases h) ?_; refine wpList_buildK rfl _ rfl R rfl lR ?_; intro ga wa sa za ka; refine OnlyN.go ?_; have Ka := K9.trans ka; have Oa := O.keep Ka)
        | (refine in_wide (fun _ h => by cases h) ?_; refine wpList_appK rfl _ _ rfl base _ K X rfl Oa ga 0 1 1 R rfl sa (by omega) (by have := Ka.size; omega) ?_; intro vq wb Ob kb'; refine OnlyN.go ?_; have Kb := Ka.mono (T := fun k => (Value.slice a4 K c4).ownBlock = some k) (fun _ _ h => h.elim); have KB := Kb.trans kb'; have x4 := hr4.keeps KB hne4)
        | (refine in_wide (fun _ h => by cases h) ?_; refine wpList_store57 rfl _ _ rfl g4 rfl vq rfl Ob.is _ x4 ?_; intro wc vc kc; refine OnlyN.go ?_; have x5 := (hr5.keeps KB hne5).keeps kc (Ne.symm h45))
        | (refine in_wide (fun _ h => by cases h) ?_; refine wpList_store27 rfl _ _ rfl g5 rfl 0 rfl _ x5 ?_; intro wd vd kd; refine OnlyN.go ?_))
      have dd := kd.row (kc.row (KB.row hd hneD) hD4) hD5
      have vd4 := vc.keeps kd h45
      have Od := (Ob.kept kc (fun g' h1 h2 => Ob.ne x4.row (by decide) (by rw [h1, h2]))).kept kd (fun g' h1 h2 => (Ob.kept kc (fun g' h1 h2 => Ob.ne x4.row (by decide) (by rw [h1, h2]))).ne x5.row (by decide) (by rw [h1, h2]))
      refine ⟨by simp, .inl ⟨_, _, rfl, run_takeDeferred dd, ?_⟩⟩
      refine ⟨_, results_ke rfl _ _ g4 g5 vq 0 rfl rfl (vd4.put (Ne.symm hD4) _) (vd.put (Ne.symm hD5) _), ?_, ?_⟩
      · rw [HX.out, HK.out]
        obtain ⟨a9, c9, e9, s9, _⟩ := (Od.same (hsame wd _ (fun o' e => by rw [dd] at e; cases e; rfl))).slice
        exact ⟨a9, c9, by rw [e9], s9⟩
      · have m1 : Keeps (fun k => w.heap.size ≤ k) w6 wb := ((hkp.mono (T := fun k => w.heap.size ≤ k) (fun k _ h => by omega)).trans (KB.mono (fun k _ e => by have := (O.from e).1; omega)))
        have m2 : Keeps (fun k => w.heap.size ≤ k) wb wd := (kc.mono (fun k _ h => by omega)).trans (kd.mono (fun k _ h => by omega))
        exact KK.trans' ((m1.trans m2).grown (grownBy_putObj' _ D _) (fun k e => by cases e; exact .inr hD')) (fun i e => .inr e)
    · gi_wp2_with (first
        | (refine in_wide (fun _ h => by cases h) ?_; refine wpList_load57 rfl _ rfl g6 rfl _ hv ?_; refine OnlyN.go ?_)
        | (refine ⟨trivial, ?_⟩; gi_at_call 19; refine (callsIn_wide.2 (rootP_at HR.out _ hTV _ _ c2 hpV)).mono ?_; rintro e w7 ⟨rfl, k7⟩)
        | (refine in_wide (fun _ h => by cases h) ?_; refine wpList_alloc26 rfl rfl ?_; intro g10 w8 b8 z8 k8; refine OnlyN.go ?_; have z78 := k7.size; have K8 := k7.trans k8)
        | (refine in_wide (fun _ h => by cases h) ?_; refine wpList_store26 rfl _ _ rfl g10 rfl R rfl lR _ b8 ?_; intro w9 b9 k9; refine OnlyN.go ?_; have K9 : Keeps (fun _ => False) V w9 := K8.trans' k9 (fun i e => .inr (by omega)); have x4 := hr4.keep K9)
        | (refine in_wide (fun _ h => by cases h) ?_; refine wpList_store57 rfl _ _ rfl g4 rfl _ rfl ⟨_, _, _, rfl⟩ _ x4 ?_; intro wc vc kc; refine OnlyN.go ?_; have x5 := (hr5.keep K9).keeps kc (Ne.symm h45))
        | (refine in_wide (fun _ h => by cases h) ?_; refine wpList_store27 rfl _ _ rfl g5 rfl 11 rfl _ x5 ?_; intro wd vd kd; refine OnlyN.go ?_))
      have dd := kd.row (kc.row (K9.row hd (fun h => h)) hD4) hD5
      have vd4 := vc.keeps kd h45
      refine ⟨by simp, .inl ⟨_, _, rfl, run_takeDeferred dd, ?_⟩⟩
      refine ⟨_, results_ke rfl _ _ g4 g5 _ 11 rfl rfl (vd4.put (Ne.symm hD4) _) (vd.put (Ne.symm hD5) _), ?_, ?_⟩
      · exact PkTold.nil _ _
      · have m1 : Keeps (fun k => w.heap.size ≤ k) w6 w9 := ((hkp.mono (T := fun k => w.heap.size ≤ k) (fun k _ h => by omega)).trans (K9.mono (fun k _ e => e.elim)))
        have m2 : Keeps (fun k => w.heap.size ≤ k) w9 wd := (kc.mono (fun k _ h => by omega)).trans (kd.mono (fun k _ h => by omega))
        exact KK.trans' ((m1.trans m2).grown (grownBy_putObj' _ D _) (fun k e => by cases e; exact .inr hD')) (fun i e => .inr e)
  case stop => exact fun D cd pre x rest V hD' hx h hd => h.elim

theorem ix_nil : ix [] = true := rfl
theorem pack30 {l : List En} {p : List Int} {X : List B} {m : Nat} {v : Int} (h : pkR l p = (X, m, v)) (w : World) (hT : Tabs w) (a : Option Addr) (n c : Nat) (hl : SlE w a n c l) (hn : n ≤ 9223372036854775806) (a2 : Option Addr) (n2 c2 : Nat) (hp : SlI w a2 n2 c2 p) :
    Calls Tryd.prog 30 #[.slice a n c, .slice a2 n2 c2] w fun e w' => PkTold X m v e w' ∧ Keeps (fun _ => False) w w' := by
  unfold pkR at h
  have hlen := hl.len
  have hpn := hp.len
  split at h
  · rename_i hi
    cases h
    exact pack_no w a n c l hl hn a2 n2 c2 hi
  · rename_i hi
    have hi' : ix l = true := by cases hx : ix l with | true => rfl | false => exact absurd hx hi
    rw [hlen, hpn] at h
    split at h
    · rename_i hs
      cases h
      exact pack_arg w a n c l hl hn a2 n2 c2 hi' hs
    · rename_i hs
      have hs' : (n2 : Int) = sz (n : Int) := Decidable.not_not.1 hs
      split at h
      · rename_i h0
        cases h
        subst h0
        have : n2 = 0 := by rw [sz_zero] at hs'; omega
        subst this
        exact pack_nil w a c l hl a2 c2 hi'
      · rename_i h0
        obtain ⟨b, o, rfl, _⟩ := hl.ent (i := 0) (by omega)
        split at h
        · rename_i ho
          cases h
          exact pack_ok w hT b o n c l hl (by omega) a2 n2 c2 p hp hi' hs' (R := rt (p.take (nck l))) (rv := 0) (by unfold rootR; rw [if_pos ho])
        · rename_i ho
          cases h
          exact pack_ok w hT b o n c l hl (by omega) a2 n2 c2 p hp hi' hs' (R := zb 128) (rv := 11) (by unfold rootR; rw [if_neg ho])

end Go.Proofs.YthngaegfppbdmaaDoor
