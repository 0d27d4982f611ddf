/-
  Newest of the program.
-/
import Derived.Test.YtdgnjpdjohibeaaDoorKj
set_option linter.all false
set_option maxRecDepth 100000
namespace Go.Proofs.YtdgnjpdjohibeaaDoor
open Go.RowKit Go.Sort Go.Shelf
attribute [local go_sem] Oper.semAt_some

theorem results_su27 (tm : Array Value) (g2 : Nat) (wr : World) (s : Su) (hs : s.Ok) (v : Int) (h1 : tm.getD 2 undef = .pointer (some ⟨g2, 0, none⟩)) (h2 : tm.getD 3 undef = .int .i64 v) (h3 : SuAt wr g2 s) : (results Tryd.f27 tm).run Tryd.prog wr = .ok (toldS (s, v)) wr :=
  results_ro_slot rfl tm wr g2 s.cells _ h1 h2 h3 hs.ty
theorem down_at {B : Nat} {C : Nat → Prop} {w : World} {p gb : Nat} {s : DS} (h : Lies B C w p gb s) {d : Bool} (hd : s.dn = d) :
    Calls Tryd.prog 47 #[.pointer (some ⟨p, 0, none⟩)] w fun e w' => e = .returned (.bool d) ∧ Keeps (fun _ => False) w w' := by
  rw [← hd]
  exact (down_ds h).mono fun e w' ⟨h1, h2⟩ => ⟨h1, by rw [h2]; exact Keeps.refl _ _⟩

theorem fold1 (T : Array Value) (p : Nat) (x : Value) : (#[p].zip #[x]).foldl (fun t (z : Nat × Value) => t.setIfInBounds z.1 z.2) T = T.setIfInBounds p x := by simp

theorem newest_nil (w : World) :
    Calls Tryd.prog 27 #[.pointer none] w fun e w' => e = .returned (toldS (su0, 1)) ∧ Keeps (fun _ => False) w w' := by
  refine (callsIn_wide (n := 9)).1 ?_
  refine callsIn_of_wp_marks Tryd.func27 rfl trivial ?_ rfl
  simp only [Tryd.ntmps27, List.size_toArray, List.length_cons, List.length_nil, Nat.reduceAdd, Nat.reduceSub, Array.replicate_succ, Array.replicate_zero, List.push_toArray, List.append_toArray, List.nil_append, List.cons_append]
  have T0 : Hid True := trivial
  gi_wp2_with (first
    | (have := T0; refine in_wide (fun _ h => by cases h) ?_; refine wpList_allocS rfl rfl ?_; intro g2 w1 b1 z1 k1; refine OnlyN.go ?_; clear T0; have T1 : Hid True := trivial)
    | (have := T1; refine in_wide (fun _ h => by cases h) ?_; refine wpList_buildS0 rfl rfl ?_; refine OnlyN.go ?_; clear T1; have T2 : Hid True := trivial)
    | (have := T2; refine in_wide (fun _ h => by cases h) ?_; refine wpList_storeS rfl _ _ rfl g2 rfl su0 su0_ok rfl su0 su0_ok b1 ?_; intro w2 b2 k2; refine OnlyN.go ?_; clear T2))
  exact ⟨_, results_su27 _ g2 _ su0 su0_ok 1 rfl rfl b2, rfl, k1.trans' k2 (fun i e => .inr (by omega))⟩
theorem newest_down {B : Nat} {C : Nat → Prop} {w : World} {p gb : Nat} {s : DS} (h : Lies B C w p gb s) (hd : s.dn = true) :
    Calls Tryd.prog 27 #[.pointer (some ⟨p, 0, none⟩)] w fun e w' => e = .returned (toldS (newR s)) ∧ Keeps (fun _ => False) w w' := by
  have HR : Hid (newR s = (su0, 12)) := by show _ = _; unfold newR; rw [if_pos hd]
  refine (callsIn_wide (n := 9)).1 ?_
  refine callsIn_of_wp_marks Tryd.func27 rfl trivial ?_ rfl
  simp only [Tryd.ntmps27, List.size_toArray, List.length_cons, List.length_nil, Nat.reduceAdd, Nat.reduceSub, Array.replicate_succ, Array.replicate_zero, List.push_toArray, List.append_toArray, List.nil_append, List.cons_append]
  have T0 : Hid True := trivial
  gi_wp2_with (first
    | (have := T0; refine in_wide (fun _ h => by cases h) ?_; refine wpList_allocS rfl rfl ?_; intro g2 w1 b1 z1 k1; refine OnlyN.go ?_; clear T0; have T1 : Hid True := trivial)
    | (have := T1; refine ⟨trivial, ?_⟩; gi_at_call 47; refine (callsIn_wide.2 (down_at (h.kept k1) hd)).mono ?_; rintro ed w2 ⟨rfl, k2⟩; have b2 := RoAt.keep b1 k2; clear T1; have T2 : Hid True := trivial)
    | (have := T2; refine in_wide (fun _ h => by cases h) ?_; refine wpList_buildS0 rfl rfl ?_; refine OnlyN.go ?_; clear T2; have T3 : Hid True := trivial)
    | (have := T3; refine in_wide (fun _ h => by cases h) ?_; refine wpList_storeS rfl _ _ rfl g2 rfl su0 su0_ok rfl su0 su0_ok b2 ?_; intro w3 b3 k3; refine OnlyN.go ?_; clear T3))
  rw [HR.out]
  exact ⟨_, results_su27 _ g2 _ su0 su0_ok 12 rfl rfl b3, rfl, (k1.trans k2).trans' k3 (fun i e => .inr (by omega))⟩

/-- Behind some rounds: the newest one of theirs. -/
structure NwIn (base g g2 g4 p : Nat) (w6 : World) (pre : List Su) (V : World) : Prop where
  va : SuAt V g4 (pre.foldl gr su0)
  it : RoAt V g 45 #[.pointer (some ⟨p, 0, none⟩)]
  out : SuAt V g2 su0
  keeps : Keeps (fun k => base ≤ k) w6 V

theorem NwIn.grown {base g g2 g4 p : Nat} {w6 : World} {pre : List Su} {V W : World} {row : Option Nat} (h : NwIn base g g2 g4 p w6 pre V) (hg : V.grownBy W row) (hr : ∀ r, row = some r → w6.heap.size ≤ r ∧ ∃ o : Obj, V.heap[r]? = some o ∧ o.isCells = false) : NwIn base g g2 g4 p w6 pre W := by
  have hno : ∀ (k : Nat) (cs : Array Value) (t : TypeId) fr, V.heap[k]? = some (.cells cs t fr) → W.heap[k]? = some (.cells cs t fr) := fun k cs t fr e => (grown_kpx (B := w6.heap.size) (S := fun _ => False) hg hr).2 k cs t fr e (fun h => h)
  exact ⟨⟨hno _ _ _ _ h.va.row⟩, ⟨hno _ _ _ _ h.it.row⟩, ⟨hno _ _ _ _ h.out.row⟩, h.keeps.grown hg (fun k e => .inr (hr k e).1)⟩

set_option maxHeartbeats 4000000 in
theorem newest_up {B : Nat} {C : Nat → Prop} {w : World} {p gb : Nat} {s : DS} (h : Lies B C w p gb s) (hT : Tabs w) (hok : s.Ok) (hb : s.Bw) (hn : 2 ≤ s.n) (hws : s.ws.length < 999999) (hd : s.dn = false) :
    Calls Tryd.prog 27 #[.pointer (some ⟨p, 0, none⟩)] w fun e w' => e = .returned (toldS (newR s)) ∧ Keeps (fun _ => False) w w' := by
  have HR : Hid (newR s = if ((sups s).foldl gr su0).gen = 0 then (su0, 13) else ((sups s).foldl gr su0, 0)) := by show _ = _; unfold newR; rw [if_neg (by rw [hd]; simp)]
  have HO : Hid (∀ u ∈ sups s, u.Ok) := sups_ok hb hok hn
  have h2 := h.more (C' := fun k => C k ∨ w.heap.size ≤ k) (fun k e => e)
  refine (callsIn_wide (n := 9)).1 ?_
  refine callsIn_of_wp_marks Tryd.func27 rfl trivial ?_ rfl
  simp only [Tryd.ntmps27, List.size_toArray, List.length_cons, List.length_nil, Nat.reduceAdd, Nat.reduceSub, Array.replicate_succ, Array.replicate_zero, List.push_toArray, List.append_toArray, List.nil_append, List.cons_append]
  have T0 : Hid True := trivial
  gi_wp2_with (first
    | (have := T0; refine in_wide (fun _ h => by cases h) ?_; refine wpList_allocS rfl rfl ?_; intro g2 w1 b1 z1 k1; refine OnlyN.go ?_; clear T0; have T1 : Hid True := trivial)
    | (have := T1; refine ⟨trivial, ?_⟩; gi_at_call 47; refine (callsIn_wide.2 (down_at (h.kept k1) hd)).mono ?_; rintro ed w2 ⟨rfl, k2⟩; have b2 := RoAt.keep b1 k2; clear T1; have T2 : Hid True := trivial)
    | (have := T2; refine in_wide (fun _ h => by cases h) ?_; refine wpList_allocS rfl rfl ?_; intro g4 w3 b4 z4 k3; refine OnlyN.go ?_; have b3 := RoAt.keep b2 k3; clear T2; have T3 : Hid True := trivial)
    | (have := T3; refine ⟨trivial, ?_⟩; gi_at_call 48; refine (callsIn_wide.2 (supers48 _ p)).mono ?_; rintro ed w4 ⟨g, rfl, hgr, zg, k4⟩; clear T3))
  have k12 := k1.trans k2
  have KK : Keeps (fun _ => False) w w4 := (k12.trans k3).trans k4
  have l2 := b2.lt
  have l3 := b4.lt
  have zz2 := k12.size
  have zz3 := k3.size
  have V2 := RoAt.keep b3 k4
  have V4 := RoAt.keep b4 k4
  have hl4 := h2.kept KK
  have hts := hT.size
  have hT4 := hT.keeps KK (fun h => h) (fun h => h)
  have hg2 : g ≠ g2 := by omega
  have hg4 : g ≠ g4 := by omega
  have h24 : g2 ≠ g4 := by omega
  have KKs := KK.size
  have hwz : w.heap.size ≤ w2.heap.size := zz2
  clear b1 k1 k2 b2 k3 b3 b4 k4 h h2 hT k12 zz3
  have hI : NwIn w2.heap.size g g2 g4 p w4 [] w4 := ⟨V4, hgr, V2, Keeps.refl _ _⟩
  clear V2 V4
  have lg4 : g4 < w4.heap.size := by have := RoAt.lt hgr; omega
  have z4' : w2.heap.size ≤ g4 := z4
  refine range_law (gf := 55) (lb := #[.pointer (some ⟨g, 0, none⟩)]) rfl (enters_of Tryd.func55 (by kernel_rfl) rfl) (sups55 B (fun k => C k ∨ w.heap.size ≤ k) (fun k => w2.heap.size ≤ k ∧ k ≠ g) w4 p gb g s hgr hl4 hT4 hok hb hn hd hws (fun k e => .inr (by omega)) (fun h => h.2 rfl) (fun k e => by omega)) ?hKt ?hKb (RowKit.Below.refl _ _) (fun _ => rfl)
    (fun pre V => NwIn w2.heap.size g g2 g4 p w4 pre V)
    (fun cd pre V => False) ?hI ?hIx hI
    (fun pre x a' V => NwIn w2.heap.size g g2 g4 p w4 pre V ∧ ∃ ge, w4.heap.size ≤ ge ∧ SuAt V ge x ∧ a' = { tmps := #[.pointer (some ⟨p, 0, none⟩), undef, .pointer (some ⟨g2, 0, none⟩), .int .i64 0, .pointer (some ⟨g4, 0, none⟩), .pointer (some ⟨ge, 0, none⟩), .pointer (some ⟨p, 0, none⟩), .bool false, undef, .pointer (some ⟨p, 0, none⟩), .bool false, undef, .pointer (some ⟨p, 0, none⟩), .func (.func 55) #[] #[.pointer (some ⟨g, 0, none⟩)], .agg x.cells, undef, undef, undef, undef, undef, undef, undef, undef, undef, undef, undef], defers := [] }) ?hAx ?assign ?body ?done ?stop
  case hKt => exact fun h1 h2 => h1.trans h2
  case hKb => exact fun W l o o' _ ho hc => KpX.putObj o' ho hc
  case hI => exact fun s A B row h hg hr => h.grown hg hr
  case hIx => exact fun cd s A B row h hg hr => h
  case hAx =>
    rintro pre x a' _ A B row ⟨h1, ge, h3, h4, h5⟩ hg hr
    exact ⟨h1.grown hg hr, ge, h3, ⟨own_cells hg hr h4.row⟩, h5⟩
  case assign =>
    rintro l' pre x rest V K hx h1 hK'
    have hxo : x.Ok := HO.out x (by rw [hx]; simp)
    have HK : Hid (∀ a' W', _ → _ → _ → K a' W') := hK'
    clear hK' hx
    simp only [encS, fold1, List.setIfInBounds_toArray, List.set_cons_zero, List.set_cons_succ]
    gi_wp2_with (first
      | (refine in_round (fun _ h => by cases h) ?_; refine wpList_allocS rfl rfl ?_; intro ge w7 r7 z7 k7; refine OnlyN.go ?_)
      | (refine in_round (fun _ h => by cases h) ?_; refine wpList_storeS rfl _ _ rfl ge rfl x hxo rfl su0 su0_ok r7 ?_; intro w8 r8 k8; refine OnlyN.go ?_))
    have k0 : Keeps (fun _ => False) V w8 := k7.trans' k8 (fun i e => .inr (by omega))
    have zz := h1.keeps.size
    exact HK.out _ _ (k0.from (fun _ _ h => h.elim)) (k0.kpx (fun _ h => h.elim)) ⟨h1.grown (grown_of_keeps k0) (fun r e => by cases e), ge, by omega, r8, rfl⟩
  case body =>
    rintro l' pre x rest a' V hl' hx ⟨h1, ge, z7, r7, rfl⟩
    have hxo : x.Ok := HO.out x (by rw [hx]; simp)
    have hao : (pre.foldl gr su0).Ok := foldl_ok (fun u hu => HO.out u (by rw [hx]; simp [hu])) _ su0_ok
    have HF : Hid ((pre ++ [x]).foldl gr su0 = gr (pre.foldl gr su0) x) := by show _ = _; rw [List.foldl_append]; rfl
    obtain ⟨hva, hit, hout, hkp⟩ := h1
    generalize pre.foldl gr su0 = a at *
    have p0 := (SuAt.parts r7).1
    have q0 := (SuAt.parts hva).1
    clear hx
    by_cases hc : a.gen < x.gen
    · have hc1 : (a.gen : Int) < (x.gen : Int) := by omega
      gi_wp2_with (first
        | (refine in_round (fun _ h => by cases h) ?_; refine wpList_loadS rfl _ rfl ge rfl x hxo r7 ?_; refine OnlyN.go ?_)
        | (refine in_round (fun _ h => by cases h) ?_; refine wpList_storeS rfl _ _ rfl g4 rfl x hxo rfl a hao hva ?_; intro w8 r8 k8; refine OnlyN.go ?_))
      refine ⟨k8.from (fun k hk e => by omega), k8.kpx (fun k h => .inl ⟨by omega, by omega⟩), ⟨?_, RoAt.keeps hit k8 (by omega), RoAt.keeps hout k8 (by omega), hkp.trans (k8.mono (fun k _ h => by omega))⟩⟩
      rw [HF.out]; unfold gr; rw [if_pos hc]; exact r8
    · have hc1 : (x.gen : Int) ≤ (a.gen : Int) := by omega
      gi_wp2
      refine ⟨KeepsFrom.refl _ _, KpX.refl _ _, ⟨?_, hit, hout, hkp⟩⟩
      rw [HF.out]; unfold gr; rw [if_neg hc]; exact hva
  case done =>
    rintro D V hD' ⟨hva, hit, hout, hkp⟩ hdd
    have hao : ((sups s).foldl gr su0).Ok := foldl_ok HO.out _ su0_ok
    generalize (sups s).foldl gr su0 = a at *
    have q0 := (SuAt.parts hva).1
    have hgo := hao.gen
    have m0 : Keeps (fun k => w.heap.size ≤ k) w4 V := hkp.mono (fun k _ h => by omega)
    have T0 : Hid True := trivial
    by_cases hz : a.gen = 0
    · have hz1 : ((a.gen : Int) == 0) = true := by simpa using hz
      gi_wp2_with (first
        | (have := T0; refine in_wide (fun _ h => by cases h) ?_; refine wpList_buildS0 rfl rfl ?_; refine OnlyN.go ?_; clear T0; have T1 : Hid True := trivial)
        | (have := T1; refine in_wide (fun _ h => by cases h) ?_; refine wpList_storeS rfl _ _ rfl g2 rfl su0 su0_ok rfl su0 su0_ok hout ?_; intro w8 b8 k8; refine OnlyN.go ?_; clear T1))
      have hd4 := k8.row hdd (by omega)
      refine ⟨by simp, .inl ⟨_, _, rfl, run_takeDeferred hd4, ?_⟩⟩
      refine ⟨_, results_su27 _ g2 _ su0 su0_ok 13 rfl rfl ⟨(World.putObj_heap_other (by show _ ≠ _; omega)).trans b8.row⟩, by rw [HR.out, if_pos hz], ?_⟩
      have m2 : Keeps (fun k => w.heap.size ≤ k) V w8 := k8.mono (fun k _ h => by omega)
      exact KK.trans' ((m0.trans m2).grown (grownBy_putObj' _ D _) (fun k e => by cases e; exact .inr (by omega))) (fun i e => .inr e)
    · have hz1 : ((a.gen : Int) == 0) = false := by simpa using hz
      gi_wp2_with (first
        | (have := T0; refine in_wide (fun _ h => by cases h) ?_; refine wpList_loadS rfl _ rfl g4 rfl a hao hva ?_; refine OnlyN.go ?_; clear T0; have T1 : Hid True := trivial)
        | (have := T1; refine in_wide (fun _ h => by cases h) ?_; refine wpList_storeS rfl _ _ rfl g2 rfl a hao rfl su0 su0_ok hout ?_; intro w8 b8 k8; refine OnlyN.go ?_; clear T1))
      have hd4 := k8.row hdd (by omega)
      refine ⟨by simp, .inl ⟨_, _, rfl, run_takeDeferred hd4, ?_⟩⟩
      refine ⟨_, results_su27 _ g2 _ a hao 0 rfl rfl ⟨(World.putObj_heap_other (by show _ ≠ _; omega)).trans b8.row⟩, by rw [HR.out, if_neg hz], ?_⟩
      have m2 : Keeps (fun k => w.heap.size ≤ k) V w8 := k8.mono (fun k _ h => by omega)
      exact KK.trans' ((m0.trans m2).grown (grownBy_putObj' _ D _) (fun k e => by cases e; exact .inr (by omega))) (fun i e => .inr e)
  case stop => exact fun D cd pre x rest V hD' hx h hd => h.elim

theorem newestP {B : Nat} {C : Nat → Prop} {w : World} {p gb : Nat} {s : DS} (h : Lies B C w p gb s) (hT : Tabs w) (hok : s.Ok) (hb : s.Bw) (hn : 2 ≤ s.n) (hws : s.ws.length < 999999) :
    Calls Tryd.prog 27 #[.pointer (some ⟨p, 0, none⟩)] w fun e w' => e = .returned (toldS (newR s)) ∧ Keeps (fun _ => False) w w' := by
  cases hd : s.dn with
  | true => exact newest_down h hd
  | false => exact newest_up h hT hok hb hn hws hd
end Go.Proofs.YtdgnjpdjohibeaaDoor
