
/-
  Signs.
-/
import Derived.Test.YtcfimggnmcnkhaaDoorUc
import Derived.Test.YtcfimggnmcnkhaaDoorPz
set_option linter.all false
namespace Go.Proofs.YtcfimggnmcnkhaaDoor
open Go.RowKit Go.Sort Go.Shelf
attribute [local go_sem] Oper.semAt_some

/-- What Signs has taken in. -/
structure SgI (bk g3 : Nat) (w5 : World) (pre : List (Int × Bool)) (V : World) : Prop where
  ok : ∀ y ∈ pre, y.2 = true
  own : ∃ v, Ce V g3 26 v ∧ OwnI V w5.heap.size v (pre.map (·.1))
  keeps : Keeps (fun k => k = bk ∨ k = g3) w5 V
theorem OwnI.turn {B base : Nat} {W W' : World} {v : Value} {l : List Int} {row : Option Nat} (hg : W.grownBy W' row) (hr : ∀ r, row = some r → B ≤ r ∧ ∃ o : Obj, W.heap[r]? = some o ∧ o.isCells = false) (h : OwnI W base v l) : OwnI W' base v l := by
  obtain ⟨h1, h2⟩ := h.owns
  refine ⟨⟨h1, ?_⟩⟩
  rcases h2 with h2 | ⟨g, cap, cur, rfl, hb, hgr, rest⟩
  · exact .inl h2
  · exact .inr ⟨g, cap, cur, rfl, hb, own_cells hg hr hgr, rest⟩
theorem OwnI.shape {W : World} {base : Nat} {v : Value} {l : List Int} (h : OwnI W base v l) : ∃ a n c, v = .slice a n c := by
  obtain ⟨a, c, e, _⟩ := h.slice
  exact ⟨a, _, c, e⟩
theorem OwnI.down {W : World} {base b' : Nat} {v : Value} {l : List Int} (h : OwnI W base v l) (hb : b' ≤ base) : OwnI W b' v l := by
  obtain ⟨h1, h2⟩ := h.owns
  refine ⟨⟨h1, ?_⟩⟩
  rcases h2 with h2 | ⟨g, cap, cur, e, hb2, rest⟩
  · exact .inl h2
  · exact .inr ⟨g, cap, cur, e, Nat.le_trans hb hb2, rest⟩
theorem OwnI.cells {W : World} {base : Nat} {v : Value} {l : List Int} (h : OwnI W base v l) {k : Nat} (e : v.ownBlock = some k) : ∃ cs t fr, W.heap[k]? = some (.cells cs t fr) := by
  obtain ⟨h1, h2⟩ := h.owns
  rcases h2 with ⟨rfl, _⟩ | ⟨g, cap, cur, rfl, hb, hgr, rest⟩
  · cases e
  · cases e; exact ⟨_, _, _, hgr⟩
theorem Ce.cells {w : World} {g : Nat} {t : TypeId} {v : Value} (h : Ce w g t v) : ∃ cs t fr, w.heap[g]? = some (.cells cs t fr) := ⟨_, _, _, h.row⟩

set_option maxRecDepth 100000 in
set_option maxHeartbeats 2000000 in
theorem signs13 (w : World) (hT : Lib.Utf8Tabs 0 1 w) (s : ByteArray) (hs : s.size ≤ 100000) :
    Calls Tryd.prog 11 #[.string s] w fun e w' => (∃ v, e = .returned v ∧ OwnI w' w.heap.size v (sg s.data.toList)) ∧ Keeps (fun _ => False) w w' := by
  obtain ⟨XS, hXS⟩ : ∃ XS, sgn s.data.toList = XS := ⟨_, rfl⟩
  have HX : Hid (sgn s.data.toList = XS) := hXS
  have hsl : XS.length ≤ 100000 := by rw [← hXS]; have := sgn_len s.data.toList; rw [sz_len] at this; omega
  clear hXS
  refine (callsIn_wide (n := 9)).1 ?_
  refine callsIn_of_wp_marks Tryd.func11 rfl trivial ?_ rfl
  simp only [Tryd.ntmps11, List.size_toArray, List.length_cons, List.length_nil, Nat.reduceAdd, Nat.reduceSub, Array.replicate_succ, Array.replicate_zero, List.push_toArray, List.append_toArray, List.nil_append, List.cons_append]
  gi_wp2_with (first
    | (refine wpListIn_allocC 26 (.slice none 0 0) zero22 rfl rfl rfl ?_; intro g3 w2 c3 z3 k3; have c2 := Ce.keep c1 k3; have H2 : Hid True := trivial)
    | (refine wpListIn_allocC 26 (.slice none 0 0) zero22 rfl rfl rfl ?_; intro g2 w1 c1 z1 k1)
    | (refine ⟨trivial, ?_⟩; gi_at_call 16; refine (callsIn_wide.2 (signs22 _ s)).mono ?_; rintro e w5 ⟨bk, rfl, hbk, zk, lk, k5⟩))
  have K5 : Keeps (fun _ => False) w w5 := (k1.trans k3).trans k5
  have hT5 := Tabs.keep hT K5
  have hl := Tabs.lt hT
  have d2 := c2.keep k5
  have d3 := c3.keep k5
  have l2 := d2.lt
  have l3 := d3.lt
  have n23 : g2 ≠ g3 := by have := c1.lt; omega
  have n2 : g2 ≠ bk := by have := c1.lt; have := k3.size; omega
  have n3 : g3 ≠ bk := by have := c3.lt; omega
  have zb : w.heap.size ≤ bk := by have := (k1.trans k3).size; omega
  have z3' : w.heap.size ≤ g3 := by have := k1.size; omega
  clear k1 k3 k5 c1 c2 c3 zk z3
  clear w1 w2
  have hseq := sgn26 (fun k => k = g3 ∨ w5.heap.size ≤ k) w5 bk s (by omega) hT5 hbk (by omega) (by omega) (by omega) (by omega)
  rw [HX.out] at hseq
  refine range_m (gf := 18) (lb := #[.pointer (some ⟨bk, 0, none⟩)]) rfl (enters_of Tryd.func18 (by kernel_rfl) rfl) (bk := bk) lk hseq ?hKt ?hKb (RowKit.Below.refl _ _) (fun _ => rfl)
    (fun pre V => SgI bk g3 w5 pre V)
    (fun cd pre V => cd = .ret ∧ (∃ y ∈ pre, y.2 = false) ∧ Ce V g2 26 (.slice none 0 0) ∧ Keeps (fun k => k = bk ∨ k = g2 ∨ k = g3) w5 V) ?hI ?hIw ?hIx ⟨by simp, ⟨_, d3, OwnI.nil _ _⟩, Keeps.refl _ _⟩
    (fun pre x a' V => SgI bk g3 w5 pre V ∧ a' = { tmps := #[.string s, undef, .pointer (some ⟨g2, 0, none⟩), .pointer (some ⟨g3, 0, none⟩), .int .i64 x.1, .bool x.2, .string s, .func (.func 18) #[] #[.pointer (some ⟨bk, 0, none⟩)], .int .i64 x.1, .bool x.2, undef, undef, undef, undef, undef, undef, undef], defers := [] }) ?hAx ?assign ?body ?done ?stop
  case hKt => exact fun h1 h2 => h1.trans h2
  case hKb => exact fun W l o o' _ ho hc => KpX.putObj o' ho hc
  case hI =>
    rintro pre A B row ⟨h1, ⟨v, h2, h3⟩, h4⟩ hg hr
    exact ⟨h1, ⟨v, ⟨own_cells hg hr h2.row⟩, h3.turn hg hr⟩, own_keeps hg hr h4 (Nat.le_refl _)⟩
  case hIw =>
    rintro pre A u ⟨h1, ⟨v, h2, h3⟩, h4⟩
    exact ⟨h1, ⟨v, h2.set_other (Ne.symm n3) u, h3.keeps ((Keeps.refl (· = bk) _).setCell (p := ⟨bk, 0, none⟩) (.inl rfl) u) (by omega)⟩, h4.setCell (p := ⟨bk, 0, none⟩) (.inl (.inl rfl)) u⟩
  case hIx =>
    rintro cd s A B row ⟨h1, h2, h3, h4⟩ hg hr
    exact ⟨h1, h2, ⟨own_cells hg hr h3.row⟩, own_keeps hg hr h4 (Nat.le_refl _)⟩
  case hAx =>
    rintro pre x a' _ A B row ⟨⟨h1, ⟨v, h2, h3⟩, h4⟩, h5⟩ hg hr
    exact ⟨⟨h1, ⟨v, ⟨own_cells hg hr h2.row⟩, h3.turn hg hr⟩, own_keeps hg hr h4 (Nat.le_refl _)⟩, h5⟩
  case assign =>
    rintro l' pre x rest V K hx h1 hK'
    have HK : Hid (∀ a' W', _ → _ → _ → K a' W') := hK'
    clear hK' hx
    simp only [encY]
    gi_wp2
    have k0 := Keeps.refl (fun _ => False) V
    exact HK.out _ _ (k0.from (fun _ _ h => h.elim)) (k0.kpx (fun _ h => h.elim)) ⟨h1, rfl⟩
  case body =>
    rintro l' pre x rest a' V hl' hx ⟨⟨h1, ⟨v, h2, h3⟩, h4⟩, rfl⟩
    have H1 : Hid (∀ y ∈ pre, y.2 = true) := h1
    obtain ⟨x1, x2⟩ := x
    dsimp only
    have hpl : (pre.map (·.1)).length ≤ 100000 := by rw [List.length_map]; rw [hx] at hsl; simp at hsl; omega
    clear hx h1
    cases x2 with
    | false =>
      have v2 := d2.keeps h4 (by omega)
      have f2 := v2.live
      have q2 := v2.cell
      gi_wp2
      have kk : Keeps (fun k => k = bk ∨ k = g2 ∨ k = g3) V (V.setCell ⟨g2, 0, none⟩ (.slice none 0 0)) := (Keeps.refl _ V).setCell (p := ⟨g2, 0, none⟩) (.inl (.inr (.inl rfl))) _
      refine ⟨kk.from (fun k hk e => by omega), rfl, ⟨(x1, false), by simp, rfl⟩, v2.set _, (h4.mono (fun _ _ h => by omega)).trans kk⟩
    | true =>
      have f3 := h2.live
      have q3 := h2.cell
      have hVs := h4.size
      gi_wp2_with (first
        | (refine in_round (fun _ h => by cases h) ?_; refine wpList_build1I rfl _ rfl x1 rfl ?_; intro g9 w6 b6 z6 k6; refine OnlyN.go ?_; have o6 := h3.keeps k6 (fun i _ h => h.elim); have c6 := h2.keep k6)
        | (refine in_round (fun _ h => by cases h) ?_; refine wpList_appI rfl _ _ rfl w5.heap.size v _ rfl o6 g9 rfl x1 b6 hpl (by have := k6.size; omega) ?_; intro v' w7 o7 k7; obtain ⟨aa, nn, cc, rfl⟩ := o7.shape; refine OnlyN.go ?_; have c7 := c6.keeps k7 (fun e => by have := OwnI.from o6 e; omega); have q7 := c7.cell; have f7 := c7.live))
      have kA : Keeps (fun k => k = g3 ∨ v.ownBlock = some k) V (w7.setCell ⟨g3, 0, none⟩ (.slice aa nn cc)) := ((k6.mono (fun _ _ h => h.elim)).trans (k7.mono (fun _ _ h => .inr h))).setCell (p := ⟨g3, 0, none⟩) (.inl (.inl rfl)) _
      refine ⟨kA.from (fun k hk e => by rcases e with rfl | e; omega; exact h3.cells e), kA.kpx (fun k e => by rcases e with rfl | e; exact .inl (.inl rfl); exact .inl (.inr (OwnI.from h3 e).1)), ?_⟩
      refine ⟨?_, ⟨_, c7.set (.slice aa nn cc), ?_⟩, ?_⟩
      · intro y hy
        rcases List.mem_append.1 hy with hy | hy
        · exact H1.out y hy
        · obtain rfl : y = (x1, true) := by simpa using hy
          rfl
      · rw [List.map_append]
        exact o7.keeps ((Keeps.refl (· = g3) _).setCell (p := ⟨g3, 0, none⟩) (.inl rfl) (.slice aa nn cc)) (by omega)
      · refine h4.trans' kA (fun k e => ?_)
        rcases e with rfl | e
        · exact .inl (.inr rfl)
        · exact .inr (OwnI.from h3 e).1
  case done =>
    rintro D V hD' ⟨h1, ⟨v, h2, h3⟩, h4⟩ hd
    have hR : Hid (sg s.data.toList = XS.map (·.1)) := by
      show _ = _
      unfold sg vd
      rw [HX.out, if_pos (List.all_eq_true.2 h1)]
    have v2 := d2.keeps h4 (by omega)
    have f2 := v2.live
    have q2 := v2.cell
    have f3 := h2.live
    have q3 := h2.cell
    obtain ⟨aa, nn, cc, rfl⟩ := h3.shape
    clear h1
    gi_wp2
    have kk : Keeps (· = g2) V (V.setCell ⟨g2, 0, none⟩ (.slice aa nn cc)) := (Keeps.refl (fun k => k = g2) V).setCell (p := ⟨g2, 0, none⟩) (.inl (rfl : g2 = g2)) (.slice aa nn cc)
    have hd4 := kk.row hd (by omega)
    refine ⟨by simp, .inl ⟨_, _, rfl, run_takeDeferred hd4, ?_⟩⟩
    refine ⟨_, results_c1 rfl Tryd.isAgg26 _ _ g2 _ rfl ((v2.set _).put (by omega) _), ⟨_, rfl, ?_⟩, ?_⟩
    · rw [hR.out]
      exact ((h3.keeps kk (by omega)).turn (B := w5.heap.size) (grownBy_putObj' _ D _) (fun r e => by cases e; exact ⟨hD', _, hd4, rfl⟩)).down K5.size
    · exact K5.trans' (((h4.mono (fun _ _ h => .inl h)).trans (kk.mono (fun _ _ h => .inr h)) : Keeps (fun k => (k = bk ∨ k = g3) ∨ k = g2) w5 _).grown (grownBy_putObj' _ D _) (fun k e => by cases e; exact .inr hD')) (fun k e => .inr (by omega))
  case stop =>
    rintro D cd pre x rest V hD' hx ⟨rfl, ⟨y, hy, hy2⟩, h3, h4⟩ hd
    have hR : Hid (sg s.data.toList = []) := by
      show _ = _
      refine sg_no ?_
      unfold vd
      rw [HX.out, List.all_eq_false]
      exact ⟨y, by rw [hx]; rcases List.mem_append.1 hy with h | h; simp [h]; simp at h; simp [h], by simp [hy2]⟩
    clear hx hy hy2
    gi_wp2
    refine ⟨by simp, .inl ⟨_, _, rfl, run_takeDeferred hd, ?_⟩⟩
    refine ⟨_, results_c1 rfl Tryd.isAgg26 _ _ g2 (.slice none 0 0) rfl (h3.put (by omega) _), ⟨_, rfl, by rw [hR.out]; exact OwnI.nil _ _⟩, ?_⟩
    exact K5.trans' (h4.grown (grownBy_putObj' V D _) (fun k e => by cases e; exact .inr hD')) (fun k e => .inr (by omega))

end Go.Proofs.YtcfimggnmcnkhaaDoor
