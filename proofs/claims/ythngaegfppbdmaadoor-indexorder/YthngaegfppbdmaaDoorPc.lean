/-
  Good of the program's leaf.
-/
import Derived.Test.YthngaegfppbdmaaDoorPb
set_option linter.all false
namespace Go.Proofs.YthngaegfppbdmaaDoor
open Go.RowKit Go.Sort Go.Shelf
attribute [local go_sem] Oper.semAt_some

/-- In block g lies a bool. -/
structure BoAt (w : World) (g : Nat) (v : Bool) : Prop where
  row : w.heap[g]? = some (.cells #[.bool v] 4 (0, 0))
theorem BoAt.lt {w : World} {g : Nat} {v : Bool} (h : BoAt w g v) : g < w.heap.size := lt_of_row h.row
theorem BoAt.keeps {S : Nat → Prop} {a w : World} {g : Nat} {v : Bool} (h : BoAt a g v) (hk : Keeps S a w) (hs : ¬ S g) : BoAt w g v := ⟨hk.row h.row hs⟩
theorem BoAt.keep {a w : World} {g : Nat} {v : Bool} (h : BoAt a g v) (hk : Keeps (fun _ => False) a w) : BoAt w g v := h.keeps hk (fun h => h)
theorem BoAt.cell {w : World} {g : Nat} {v : Bool} (h : BoAt w g v) : w.cell? ⟨g, 0, none⟩ = some (.bool v) := by simp [World.cell?, h.row]
theorem BoAt.live {w : World} {g : Nat} {v : Bool} (h : BoAt w g v) : w.frozen? ⟨g, 0, none⟩ = false := frozen_of_row w g 0 _ _ h.row
theorem BoAt.set {w : World} {g : Nat} {v : Bool} (h : BoAt w g v) (u : Bool) : BoAt (w.setCell ⟨g, 0, none⟩ (.bool u)) g u := ⟨by rw [heap_setCell_same w _ _ _ _ _ h.row]; rfl⟩
theorem BoAt.put {w : World} {g D : Nat} {v : Bool} (h : BoAt w g v) (hD : g ≠ D) (o : Obj) : BoAt (w.putObj D o) g v := ⟨(World.putObj_heap_other hD).trans h.row⟩
theorem zero4 (w : World) : (zeroValue 4).run Tryd.prog w = .ok (.bool false) w := by kernel_rfl
theorem wpList_alloc4 {ops : Array Oper} {rest : List Oper} {o : Oper} {a : Act} {w : World} {Q : Exit → Act → World → Prop} (hgd : o.guard = none) (ho : o.op = .alloc 4)
    (h : ∀ g w', BoAt w' g false → w.heap.size ≤ g → Keeps (fun _ => False) w w' → wpList Tryd.prog ops Q rest (a.put o.dst (.pointer (some ⟨g, 0, none⟩))) w') : wpList Tryd.prog ops Q (o :: rest) a w := by
  refine wpList_plain hgd fun K hK => ?_
  unfold Oper.wp execOp
  simp only [ho, Instr.alloc, zero4, newVar, newRow, Sem.run_bind, Result.andThen_ok, Sem.run_pure]
  exact hK _ _ (h w.heap.size _ ⟨heap_alloc_new w _⟩ (Nat.le_refl _) (keeps_alloc w _))
theorem load_bo {w : World} {g : Nat} {v : Bool} (h : BoAt w g v) : (loadVar 4 ⟨g, 0, none⟩).run Tryd.prog w = .ok (.bool v) w := by
  have hc := h.cell
  have hu := Tryd.underlying4
  simp [go_sem, loadVar, hc]
theorem results_bo {fn : Func} {p : Tmp} (h : fn.results = #[.cell p 4]) (tmps : Array Value) (w : World) (g : Nat) (v : Bool) (hp : tmps.getD p undef = .pointer (some ⟨g, 0, none⟩)) (hb : BoAt w g v) :
    (results fn tmps).run Tryd.prog w = .ok (.bool v) w := by
  have hp' : tmps[p]?.getD undef = .pointer (some ⟨g, 0, none⟩) := by simpa using hp
  simp [results, h, hp', asAddr, load_bo hb]

theorem ords_mem {l : List En} {y : En × Bool} (h : y ∈ ords l) : ∃ i, i < l.length ∧ y = (l.getD i default, ordB l i) := by
  simp only [ords, List.mem_map, List.mem_range] at h
  obtain ⟨i, h1, h2⟩ := h
  exact ⟨i, h1, h2.symm⟩
theorem badAt_ord (l : List En) (i : Nat) : badAt l i = !(one (l.getD i default) && ordB l i) := by
  unfold badAt ordB
  by_cases h : i = 0
  · subst h; simp
  · rw [decide_eq_false h, decide_eq_true (by omega : 0 < i), Bool.false_or, Bool.true_and, Bool.not_and]
theorem gd_ords {l : List En} (h1 : 1 ≤ l.length) (h3 : l.length ≤ 3) (h : ∀ y ∈ ords l, y.2 = true ∧ one y.1 = true) : gd l = true := by
  unfold gd
  rw [decide_eq_true ⟨h1, h3⟩, Bool.and_true]
  refine okAll_iff.2 fun i hi => ?_
  obtain ⟨e1, e2⟩ := h _ (List.mem_of_getElem? (ords_at hi))
  dsimp only at e1 e2
  rw [badAt_ord, e1, e2]; rfl
theorem gd_noOrds {l : List En} {y : En × Bool} (hy : y ∈ ords l) (h : y.2 = false ∨ one y.1 = false) : gd l = false := by
  obtain ⟨i, hi, rfl⟩ := ords_mem hy
  refine gd_bad (i := i) hi ?_
  rw [badAt_ord]
  rcases h with h | h
  · dsimp only at h; rw [h, Bool.and_false]; rfl
  · dsimp only at h; rw [h, Bool.false_and]; rfl

theorem fold2 (T : Array Value) (p q : Nat) (x y : Value) : (#[p, q].zip #[x, y]).foldl (fun t (z : Nat × Value) => t.setIfInBounds z.1 z.2) T = (T.setIfInBounds p x).setIfInBounds q y := by simp
theorem fold1 (T : Array Value) (p : Nat) (x : Value) : (#[p].zip #[x]).foldl (fun t (z : Nat × Value) => t.setIfInBounds z.1 z.2) T = T.setIfInBounds p x := by simp

theorem good23_len (w : World) (a : Option Addr) (n c : Nat) (l : List En) (hl : SlE w a n c l) (h : n < 1 ∨ 3 < n) :
    Calls Tryd.prog 23 #[.slice a n c] w fun e w' => e = .returned (.bool (gd l)) ∧ Keeps (fun _ => False) w w' := by
  have hg : Hid (gd l = false) := by
    show _ = _
    unfold gd
    rw [decide_eq_false (by rw [hl.len]; omega), Bool.and_false]
  have cs : (n : Int) < 1 ∨ (¬ (n : Int) < 1 ∧ (3 : Int) < (n : Int)) := by omega
  clear h
  go_enter Tryd.func23, Tryd.ntmps23
  rcases cs with h1 | ⟨h1, h2⟩
  all_goals
    go_wp2_with (refine wpList_alloc4 rfl rfl ?_; intro g2 w1 b1 z1 k1; have c1 := b1.cell; have f1 := b1.live)
    rw [hg.out]
    exact bodyPost_ret (v := .bool false) (results_bo rfl _ _ g2 false rfl (b1.set false)) rfl ⟨rfl, k1.setCell (.inr z1) _⟩

set_option maxRecDepth 100000 in
set_option maxHeartbeats 1000000 in
theorem good23_in (w : World) (a : Option Addr) (n c : Nat) (l : List En) (hl : SlE w a n c l) (h1 : 1 ≤ n) (h3 : n ≤ 3) :
    Calls Tryd.prog 23 #[.slice a n c] w fun e w' => e = .returned (.bool (gd l)) ∧ Keeps (fun _ => False) w w' := by
  have h1' : 1 ≤ n := h1
  have hn1 : ¬ (n : Int) < 1 := by omega
  have hn3 : ¬ (3 : Int) < (n : Int) := by omega
  have hlen := hl.len
  have Hlen : Hid (l.length = n) := hlen
  clear hlen
  refine (callsIn_wide (n := 9)).1 ?_
  refine callsIn_of_wp_marks Tryd.func23 rfl trivial ?_ rfl
  simp only [Tryd.ntmps23, List.size_toArray, List.length_cons, List.length_nil, Nat.reduceAdd, Nat.reduceSub, Array.replicate_succ, Array.replicate_zero, List.push_toArray, List.append_toArray, List.nil_append, List.cons_append]
  gi_wp2_with (first
    | (refine in_wide (fun _ h => by cases h) ?_; refine wpList_alloc4 rfl rfl ?_; intro g2 w1 b1 z1 k1; refine OnlyN.go ?_)
    | (refine ⟨trivial, ?_⟩; gi_at_call 45; refine (callsIn_wide.2 (inOrder45 _ _ _ _)).mono ?_; rintro e w5 ⟨g, rfl, hg, zg, k5⟩))
  have K5 : Keeps (fun _ => False) w w5 := k1.trans k5
  have b5 := b1.keep k5
  have l5 := b5.lt
  have hl5 := hl.keep K5
  have hgg : g ≠ g2 := by have := b1.lt; omega
  have hsl : 0 < n → ∀ b o, a = some ⟨b, o, none⟩ → b < w.heap.size := fun h0 b o e => by
    obtain ⟨b', o', e', hE⟩ := hl.ent h0
    rw [e] at e'; cases e'
    exact slb_lt hE.slb (by omega) rfl
  clear b1 k1 k5 hl zg
  clear w1
  refine range_law (gf := 61) (lb := #[.pointer (some ⟨g, 0, none⟩)]) rfl (enters_of Tryd.func61 (by kernel_rfl) rfl) (ords61 (fun k => k = g2) w5 g a n c l hg hl5 (by omega) hgg (fun h0 b o e => by have := hsl h0 b o e; omega)) ?hKt ?hKb (RowKit.Below.refl _ _) (fun _ => rfl)
    (fun pre V => (∀ y ∈ pre, y.2 = true ∧ one y.1 = true) ∧ Keeps (fun _ => False) w5 V)
    (fun cd pre V => cd = .ret ∧ (∃ p y, pre = p ++ [y] ∧ (y.2 = false ∨ one y.1 = false)) ∧ BoAt V g2 false ∧ Keeps (fun k => k = g2) w5 V) ?hI ?hIx ⟨by simp, Keeps.refl _ _⟩
    (fun pre x a' V => (∀ y ∈ pre, y.2 = true ∧ one y.1 = true) ∧ Keeps (fun _ => False) w5 V ∧ ∃ ge, w5.heap.size ≤ ge ∧ ErAt V ge x.1 ∧ a' = { tmps := #[.slice a n c, undef, .pointer (some ⟨g2, 0, none⟩), .pointer (some ⟨ge, 0, none⟩), .bool x.2, .slice a n c, .int .i64 (n : Int), .bool false, .bool false, .slice a n c, .int .i64 (n : Int), .bool false, .bool false, .slice a n c, .func (.func 61) #[] #[.pointer (some ⟨g, 0, none⟩)], .agg x.1.cells.toArray, .bool x.2, undef, undef, undef, undef, undef, undef, undef], defers := [] }) ?hAx ?assign ?body ?done ?stop
  case hKt => exact fun h1 h2 => h1.trans h2
  case hKb => exact fun W l o o' _ ho hc => KpX.putObj o' ho hc
  case hI => exact fun s A B row h hg hr => ⟨h.1, own_keeps hg hr h.2 (Nat.le_refl _)⟩
  case hIx =>
    rintro cd s A B row ⟨h1, h2, h3, h4⟩ hg hr
    exact ⟨h1, h2, ⟨own_cells hg hr h3.row⟩, own_keeps hg hr h4 (Nat.le_refl _)⟩
  case hAx =>
    rintro pre x a' _ A B row ⟨h1, h2, ge, h3, h4, h5⟩ hg hr
    exact ⟨h1, own_keeps hg hr h2 (Nat.le_refl _), ge, h3, ⟨own_cells hg hr h4.row, h4.len⟩, h5⟩
  case assign =>
    rintro l' pre x rest V K hx ⟨h1, h2⟩ hK'
    obtain ⟨i, hi, rfl⟩ := ords_mem (l := l) (y := x) (by rw [hx]; simp)
    have hk : (l.getD i default).key.length = 32 := hl5.keyed _ (getD_mem hi)
    have HK : Hid (∀ a' W', _ → _ → _ → K a' W') := hK'
    clear hK' hx
    simp only [encO, fold2, List.setIfInBounds_toArray, List.set_cons_zero, List.set_cons_succ]
    generalize l.getD i default = e at *
    gi_wp2_with (first
      | (refine in_round (fun _ h => by cases h) ?_; refine wpList_alloc46 rfl rfl ?_; intro ge w6 r6 z6 k6; refine OnlyN.go ?_)
      | (refine in_round (fun _ h => by cases h) ?_; refine wpList_store46 rfl _ _ rfl ge rfl e rfl hk _ r6 ?_; intro w7 r7 k7; refine OnlyN.go ?_))
    have k0 : Keeps (fun _ => False) V w7 := k6.trans' k7 (fun i e => .inr (by omega))
    have zz := h2.size
    exact HK.out _ _ (k0.from (fun _ _ h => h.elim)) (k0.kpx (fun _ h => h.elim)) ⟨h1, h2.trans k0, ge, by omega, r7, rfl⟩
  case body =>
    rintro l' pre x rest a' V hl' hx ⟨h1, h2, ge, z6, r6, rfl⟩
    have H1 : Hid (∀ y ∈ pre, y.2 = true ∧ one y.1 = true) := h1
    have bV := b5.keep h2
    have he := r6.len
    obtain ⟨e, v⟩ := x
    dsimp only at r6 he ⊢
    clear hx h1
    cases v with
    | false =>
      have c2 := bV.cell
      have f2 := bV.live
      gi_wp2_with (refine ⟨trivial, ?_⟩)
      have kk : Keeps (fun k => k = g2) V (V.setCell ⟨g2, 0, none⟩ (.bool false)) := (Keeps.refl (fun k => k = g2) V).setCell (p := ⟨g2, 0, none⟩) (.inl rfl) _
      exact ⟨kk.from (fun k hk e => by omega), rfl, ⟨pre, (e, false), rfl, .inl rfl⟩, bV.set false, (h2.mono (fun _ _ h => h.elim)).trans kk⟩
    | true =>
      cases ho : one e with
      | false =>
        have Ho : Hid (one e = false) := ho
        clear ho
        gi_wp2_with (first
          | (refine in_round (fun _ h => by cases h) ?_; refine wpList_load46 rfl _ rfl ge 0 rfl e r6.at_ ?_; refine OnlyN.go ?_)
          | (refine ⟨trivial, ?_⟩; gi_at_call 50; refine (callsIn_wide.2 (fits_at Ho _ he)).mono ?_; rintro ed w7 ⟨rfl, k7⟩; have b7 := bV.keep k7; have c7 := b7.cell; have f7 := b7.live))
        have kk : Keeps (fun k => k = g2) V (w7.setCell ⟨g2, 0, none⟩ (.bool false)) := (k7.mono (fun _ _ h => h.elim) : Keeps (fun k => k = g2) V w7).setCell (p := ⟨g2, 0, none⟩) (.inl rfl) _
        exact ⟨kk.from (fun k hk e => by omega), rfl, ⟨pre, (e, true), rfl, .inr Ho.out⟩, b7.set false, (h2.mono (fun _ _ h => h.elim)).trans kk⟩
      | true =>
        have Ho : Hid (one e = true) := ho
        clear ho
        gi_wp2_with (first
          | (refine in_round (fun _ h => by cases h) ?_; refine wpList_load46 rfl _ rfl ge 0 rfl e r6.at_ ?_; refine OnlyN.go ?_)
          | (refine ⟨trivial, ?_⟩; gi_at_call 50; refine (callsIn_wide.2 (fits_at Ho _ he)).mono ?_; rintro ed w7 ⟨rfl, k7⟩))
        refine ⟨k7.from (fun _ _ h => h.elim), k7.kpx (fun _ h => h.elim), ?_, h2.trans k7⟩
        intro y hy
        rcases List.mem_append.1 hy with hy | hy
        · exact H1.out y hy
        · obtain rfl : y = (e, true) := by simpa using hy
          exact ⟨rfl, Ho.out⟩
  case done =>
    rintro D V hD' ⟨h1, h2⟩ hd
    have hg : Hid (gd l = true) := gd_ords (by rw [Hlen.out]; exact h1') (by rw [Hlen.out]; exact h3) h1
    have bV := b5.keep h2
    have c2 := bV.cell
    have f2 := bV.live
    clear h1
    gi_wp2
    have kk : Keeps (fun k => k = g2) V (V.setCell ⟨g2, 0, none⟩ (.bool true)) := (Keeps.refl (fun k => k = g2) V).setCell (p := ⟨g2, 0, none⟩) (.inl rfl) _
    have hd4 := kk.row hd (by omega)
    refine ⟨by simp, .inl ⟨_, _, rfl, run_takeDeferred hd4, ?_⟩⟩
    refine ⟨_, results_bo rfl _ _ g2 true rfl ((bV.set true).put (by omega) _), by rw [hg.out], ?_⟩
    exact K5.trans' (((h2.mono (fun _ _ h => h.elim)).trans kk).grown (grownBy_putObj' _ D _) (fun k e => by cases e; exact .inr hD')) (fun k e => .inr (by omega))
  case stop =>
    rintro D cd pre x rest V hD' hx ⟨rfl, ⟨p, y, h2, h4⟩, h6, h7⟩ hd
    obtain ⟨rfl, h8⟩ := List.append_inj' h2 rfl
    obtain rfl : x = y := by simpa using h8
    have hg : Hid (gd l = false) := gd_noOrds (y := x) (by rw [hx]; simp) h4
    clear hx h2 h8
    gi_wp2
    refine ⟨by simp, .inl ⟨_, _, rfl, run_takeDeferred hd, ?_⟩⟩
    refine ⟨_, results_bo rfl _ _ g2 false rfl (h6.put (by omega) _), by rw [hg.out], ?_⟩
    exact K5.trans' (h7.grown (grownBy_putObj' V D _) (fun k e => by cases e; exact .inr hD')) (fun k e => .inr (by omega))

theorem good23 (w : World) (a : Option Addr) (n c : Nat) (l : List En) (hl : SlE w a n c l) :
    Calls Tryd.prog 23 #[.slice a n c] w fun e w' => e = .returned (.bool (gd l)) ∧ Keeps (fun _ => False) w w' := by
  by_cases h : n < 1 ∨ 3 < n
  · exact good23_len w a n c l hl h
  · exact good23_in w a n c l hl (by omega) (by omega)
theorem good23_at {l : List En} {v : Bool} (h : gd l = v) (w : World) (a : Option Addr) (n c : Nat) (hl : SlE w a n c l) :
    Calls Tryd.prog 23 #[.slice a n c] w fun e w' => e = .returned (.bool v) ∧ Keeps (fun _ => False) w w' := by
  rw [← h]; exact good23 w a n c l hl

end Go.Proofs.YthngaegfppbdmaaDoor
