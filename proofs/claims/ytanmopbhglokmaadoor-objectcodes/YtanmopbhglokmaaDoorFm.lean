/-
  Frame.
-/
import Derived.Test.YtanmopbhglokmaaDoorBk
set_option linter.all false
namespace Go.Proofs.YtanmopbhglokmaaDoor
open Go.RowKit Go.Shelf Go.Sort
attribute [local go_sem] Oper.semAt_some

theorem frame9_err (w : World) (k : Int) (a : Option Addr) (n c : Nat) (h : ¬ (1 ≤ k ∧ k ≤ 6) ∨ 1000 < n) : Calls Tryd.prog 9 #[.int .i64 k, .slice a n c] w fun e w' => e = .returned (.tuple #[.slice none 0 0, .int .i64 1]) ∧ w' = w := by
  by_cases hk : 1 ≤ k ∧ k ≤ 6
  · have hn : (1000 : Int) < (n : Int) := by rcases h with h | h; exact absurd hk h; omega
    have HK : Hid (decide (1 ≤ k ∧ k ≤ 6) = true) := decide_eq_true hk
    clear h hk
    go_enter Tryd.func9, Tryd.ntmps9
    go_wp2_with (go_at_call 18; refine (isKind_at HK _).mono ?_; rintro e w' ⟨rfl, rfl⟩)
    go_ret2
    exact ⟨rfl, rfl⟩
  · have HK : Hid (decide (1 ≤ k ∧ k ≤ 6) = false) := decide_eq_false hk
    clear h hk
    go_enter Tryd.func9, Tryd.ntmps9
    go_wp2_with (go_at_call 18; refine (isKind_at HK _).mono ?_; rintro e w' ⟨rfl, rfl⟩)
    go_ret2
    exact ⟨rfl, rfl⟩

theorem results_two {fn : Func} {p q : Tmp} (h : fn.results = #[.tmp p, .tmp q]) (tmps : Array Value) (P : Program) (w : World) : (results fn tmps).run P w = .ok (.tuple #[tmps.getD p undef, tmps.getD q undef]) w := by
  simp [results, h]

/-- Behind some rounds: so many blocks are in the row. -/
structure FrIn (g q m : Nat) (L : List B) (W2 : World) (pre : List (Nat × List B)) (W : World) : Prop where
  box : W.heap[q]? = some (.cells #[.slice (some ⟨g, 0, none⟩) pre.length m] 23 (0, 0))
  own : OwnK W g (.slice (some ⟨g, 0, none⟩) pre.length m) pre.length (L.take (pre.length * 128))
  keeps : Keeps (fun k => k = g ∨ k = q) W2 W
theorem FrIn.grown {g q m : Nat} {L : List B} {W2 A A' : World} {pre : List (Nat × List B)} {row : Option Nat} (h : FrIn g q m L W2 pre A) (hg : A.grownBy A' row) (hr : ∀ r, row = some r → W2.heap.size ≤ r ∧ ∃ o : Obj, A.heap[r]? = some o ∧ o.isCells = false) : FrIn g q m L W2 pre A' :=
  ⟨own_cells hg hr h.box, h.own.same fun g cur _ e => own_cells hg hr e, own_keeps hg hr h.keeps (Nat.le_refl _)⟩
theorem FrIn.kept {S : Nat → Prop} {g q m : Nat} {L : List B} {W2 A A' : World} {pre : List (Nat × List B)} (h : FrIn g q m L W2 pre A) (hk : Keeps S A A') (hg : ¬ S g) (hq : ¬ S q) (hS : ∀ i, S i → W2.heap.size ≤ i) : FrIn g q m L W2 pre A' :=
  ⟨hk.row h.box hq, h.own.same fun g' cur e hc => hk.row hc (by cases e; exact hg), h.keeps.trans' hk (fun i hi => .inr (hS i hi))⟩

set_option maxRecDepth 100000 in
set_option maxHeartbeats 1000000 in
theorem frame9_ok (w : World) (hT : Tabs w) (k : Int) (a : Option Addr) (n c : Nat) (l : List B) (hk : 1 ≤ k ∧ k ≤ 6) (hn : n ≤ 1000) (hl : SlB w a n c l) (hnc : a = none → c = 0) {L : List B} (HL : Hid (fr k l = L)) :
    Calls Tryd.prog 9 #[.int .i64 k, .slice a n c] w fun e w' => ∃ v, e = .returned (.tuple #[v, .int .i64 0]) ∧ OwnK w' w.heap.size v ((n + 134) / 128) L ∧ Keeps (fun _ => False) w w' := by
  have HK : Hid (decide (1 ≤ k ∧ k ≤ 6) = true) := decide_eq_true hk
  have HN : Hid (nblk (n : Int) = (((n + 134) / 128 : Nat) : Int)) := nblk_of hn
  have hn' : (n : Int) ≤ 1000 := by omega
  obtain ⟨i40, hi40, hz40, hs40, hb40⟩ := info40'
  obtain ⟨m, hm⟩ : ∃ m, (n + 134) / 128 = m := ⟨_, rfl⟩
  rw [hm] at HN
  have Hm : Hid ((n + 134) / 128 = m) := hm
  have hm9 : m ≤ 9 := by omega
  rw [hm]
  clear hm
  refine (callsIn_wide (n := 9)).1 ?_
  refine callsIn_of_wp_marks Tryd.func9 rfl trivial ?_ rfl
  simp only [Tryd.ntmps9, List.size_toArray, List.length_cons, List.length_nil, Nat.reduceAdd, Nat.reduceSub, Array.replicate_succ, Array.replicate_zero, List.push_toArray, List.append_toArray, List.nil_append, List.cons_append]
  gi_wp2_with (first
    | (refine ⟨trivial, ?_⟩; gi_at_call 18; refine (callsIn_wide.2 (isKind_at HK _)).mono ?_; rintro e w' ⟨rfl, rfl⟩)
    | (refine ⟨trivial, ?_⟩; gi_at_call 15; refine (callsIn_wide.2 (nblk_at HN _)).mono ?_; rintro e w' ⟨rfl, rfl⟩)
    | (refine wpListIn_make_own w rfl _ _ 23 rfl w.heap.size 40 i40 (.agg (brow (zb 128))) 128 Tryd.underlying23 hi40 hz40 hs40 .i64 .i64 _ m rfl rfl rfl (by rw [hb40]; omega) (by unfold maxLen; omega) (Nat.le_refl _) ?_; intro w1 ho1 hg1)
    | (refine ⟨trivial, ?_⟩; gi_at_call 19; refine (callsIn_wide.2 (blocks19 _ _ _ _ _)).mono ?_; rintro e w2 ⟨rfl, rfl⟩))
  have hlt1 : w.heap.size < w1.heap.size := (ho1.lt _ rfl).2
  obtain ⟨q, hq⟩ : ∃ q, q = w1.heap.size := ⟨_, rfl⟩
  obtain ⟨W2, hW2⟩ : ∃ W2, ((w1.alloc (.cells #[.slice (some ⟨w.heap.size, 0, none⟩) 0 m] 23)).alloc (.cells #[.int .i64 k] 3)).alloc (.cells #[.slice a n c] 22) = W2 := ⟨_, rfl⟩
  have e1 : (w1.alloc (.cells #[.slice (some ⟨w.heap.size, 0, none⟩) 0 m] 23)).heap.size = q + 1 := by simp [hq]
  simp only [e1, hW2, ← hq]
  have K1 : Keeps (fun _ => False) w w1 := (Keeps.refl _ _).grown hg1 (fun k e => by cases e)
  have k12 : Keeps (fun _ => False) w1 W2 := by rw [← hW2]; exact (((Keeps.refl _ _).alloc _).alloc _).alloc _
  have s2 : W2.heap.size = q + 3 := by rw [← hW2]; simp [hq]
  have b0 : W2.heap[q]? = some (.cells #[.slice (some ⟨w.heap.size, 0, none⟩) 0 m] 23 (0, 0)) := by rw [← hW2, hq]; exact (((keeps_alloc _ _).alloc _).row (heap_alloc_new w1 _) (fun h => h))
  have b1 : W2.heap[q + 1]? = some (.cells #[.int .i64 k] 3 (0, 0)) := by rw [← hW2, ← e1]; exact ((keeps_alloc _ _).row (heap_alloc_new _ _) (fun h => h))
  have b2 : W2.heap[q + 1 + 1]? = some (.cells #[.slice a n c] 22 (0, 0)) := by
    have := heap_alloc_new ((w1.alloc (.cells #[.slice (some ⟨w.heap.size, 0, none⟩) 0 m] 23)).alloc (.cells #[.int .i64 k] 3)) (.cells #[.slice a n c] 22)
    rw [hW2] at this
    rwa [show ((w1.alloc (.cells #[.slice (some ⟨w.heap.size, 0, none⟩) 0 m] 23)).alloc (.cells #[.int .i64 k] 3)).heap.size = q + 1 + 1 by simp [hq]] at this
  have K2 := K1.trans k12
  have hT2 := hT.keeps K2 (fun h => h) (fun h => h)
  have hl2 := hl.keeps K2 (fun _ _ _ _ h => h)
  have O2 : OwnK W2 w.heap.size (.slice (some ⟨w.heap.size, 0, none⟩) 0 m) 0 [] := OwnK.keeps ⟨ho1⟩ k12 (fun _ _ h => h.elim)
  have hlq : w.heap.size < q := by omega
  clear hW2 e1 hT hl ho1 hg1 K1 k12 hq hlt1
  clear w1
  obtain ⟨T, hTe⟩ : ∃ T, chk k l = T := ⟨_, rfl⟩
  have HT : Hid (chk k l = T) := hTe
  have hLT : padB T = L := by rw [← hTe]; exact HL.out
  have lT : T.length = n + 7 := by rw [← hTe, chk_len, hl2.len]
  have hnT : nbl T = m := by unfold nbl; rw [lT]; exact Hm.out
  have lL : L.length = m * 128 := by rw [← hLT, padB_len]; unfold nbl at hnT; rw [hnT]
  clear hTe
  have hSq : ∀ k, W2.heap.size ≤ k → ¬ (k = w.heap.size ∨ k = q) := fun k h => by omega
  refine range_law (gf := 25) (lb := #[.pointer (some ⟨q + 1, 0, none⟩), .pointer (some ⟨q + 1 + 1, 0, none⟩)]) rfl (enters_of Tryd.func25 (by kernel_rfl) rfl) (blocks1 (fun k => k = w.heap.size ∨ k = q) W2 (q + 1) (q + 1 + 1) k a n c l T b1 b2 hT2 hl2 hnc hn HT hSq) ?hKt ?hKb (RowKit.Below.refl _ _) (fun _ => rfl)
    (fun pre W => FrIn w.heap.size q m L W2 pre W) (fun c pre W => False) ?hI ?hIx ⟨b0, by simpa using O2, Keeps.refl _ _⟩
    (fun pre x a' W => FrIn w.heap.size q m L W2 pre W ∧ ∃ b, W2.heap.size ≤ b ∧ W.heap[b]? = some (.cells (brow x.2) 40 (0, 0)) ∧ a' = { tmps := #[.int .i64 k, .slice a n c, undef, undef, .slice none 0 0, .int .i64 0, .pointer (some ⟨q, 0, none⟩), undef, .pointer (some ⟨b, 0, none⟩), .int .i64 k, .bool true, .bool false, .bool false, .slice a n c, .int .i64 ↑n, .bool (decide (1000 < (n : Int))), .bool (decide (1000 < (n : Int))), .slice a n c, .int .i64 ↑n, .int .i64 ↑m, .slice (some ⟨w.heap.size, 0, none⟩) 0 m, .int .i64 k, .slice a n c, .func (Fn.func 25) #[] #[.pointer (some ⟨q + 1, 0, none⟩), .pointer (some ⟨q + 1 + 1, 0, none⟩)], .int .i64 (x.1 : Int), .agg (brow x.2), undef, undef, undef, undef, undef], defers := [] }) ?hAx ?assign ?body ?done ?stop
  case hKt => exact fun h1 h2 => h1.trans h2
  case hKb => exact fun W l o o' _ ho hc => KpX.putObj o' ho hc
  case hI => exact fun s A B row h hg hr => h.grown hg hr
  case hIx => exact fun c s A B row h hg hr => h
  case hAx =>
    rintro pre x a' _ A B row ⟨h1, b, h2, h3, h4⟩ hg hr
    exact ⟨h1.grown hg hr, b, h2, own_cells hg hr h3, h4⟩
  case assign =>
    rintro l' pre x rest W K hx h1 hK'
    obtain ⟨hx1, hlt⟩ := bls_split hx
    have lx : x.2.length = 128 := by rw [hx1]; exact blk_len _ m _ (by rw [hLT]; exact lL) (by rw [← hnT]; exact hlt)
    have hix : (Tryd.prog.info? 40).map (·.size) = some (brow x.2).size := by rw [size_brow, lx]; exact size40
    have hzs : (brow (zb 128)).size = (brow x.2).size := by rw [size_brow, size_brow, lx, zb_len]
    have hone := brow_one x.2
    have hz := zero40
    have HK : Hid (∀ a' W', _ → _ → _ → K a' W') := hK'
    clear hx hK' hx1 hlt lx
    simp only [encB]
    gi_wp2_with (refine wpListIn_store_row rfl 40 _ _ rfl W.heap.size rfl (brow x.2) rfl 40 (brow (zb 128)) (heap_alloc_new W _) hix hzs hone ?_; intro w3 n3 k3 z3)
    have k0 : Keeps (fun _ => False) W w3 := keeps_new5 k3
    refine HK.out _ _ (k0.from (fun _ _ h => h.elim)) (k0.kpx (fun _ h => h.elim)) ⟨h1.kept k0 (fun h => h.elim) (fun h => h.elim) (fun _ h => h.elim), W.heap.size, h1.keeps.size, n3, rfl⟩
  case body =>
    rintro l' pre x rest a' W hl' hx ⟨h1, b, h2, h3, rfl⟩
    obtain ⟨hx1, hlt⟩ := bls_split hx
    have lx : x.2.length = 128 := by rw [hx1]; exact blk_len _ m _ (by rw [hLT]; exact lL) (by rw [← hnT]; exact hlt)
    have hix : (Tryd.prog.info? 40).map (·.size) = some (brow x.2).size := by rw [size_brow, lx]; exact size40
    have hpm : pre.length + 1 ≤ m := by omega
    have cq : W.cell? ⟨q, 0, none⟩ = some (.slice (some ⟨w.heap.size, 0, none⟩) pre.length m) := by simp [World.cell?, h1.box]
    have hown := (OwnK.keeps h1.own (keeps_alloc W (.cells (brow x.2) 40)) (fun _ _ h => h.elim)).owns
    have hcells : ∀ j u, (x.2.map vb)[j]? = some u → (W.alloc (.cells (brow x.2) 40)).cell? ((⟨W.heap.size, 0, none⟩ : Addr).add j) = some u := fun j u hu => by
      rw [Addr_add, Nat.zero_add, cell_of_row _ _ _ _ _ _ (heap_alloc_new W _)]; simpa [brow] using hu
    have hone := one_bytes x.2
    have hlx : (x.2.map vb).length = 1 * 128 := by rw [List.length_map, lx]
    have Hn : Hid (L.take (pre.length * 128) ++ x.2 = L.take ((pre ++ [x]).length * 128)) := by
      show _ = _
      rw [hx1, hLT, List.length_append, List.length_singleton, Nat.add_mul, Nat.one_mul, List.take_add]; rfl
    have k0 := keeps_alloc W (.cells (brow x.2) 40)
    have hqb := k0.row h1.box (fun h => h)
    have hqw : w.heap.size ≠ q := by omega
    have hql : q < W.heap.size := lt_of_row h1.box
    clear hx hx1 hlt
    gi_wp2_with (first
      | (refine wpListIn_load_row rfl 40 _ rfl b 0 rfl (brow x.2) (range_row h3) _ Tryd.underlying40 rfl hix ?_)
      | (refine wpListIn_buildB rfl _ rfl x.2 rfl lx ?_)
      | (refine wpListIn_append_fits _ rfl _ _ 23 rfl w.heap.size 40 i40 128 Tryd.underlying23 hi40 hs40 w.heap.size pre.length m _ rfl hown ⟨W.heap.size, 0, none⟩ 1 1 (x.2.map vb) rfl hlx hcells hone hpm ?_; intro w3 ho3 hg3; have hq3 : w3.heap[q]? = some (.cells #[.slice (some ⟨w.heap.size, 0, none⟩) pre.length m] 23 (0, 0)) := (hg3.block q (lt_of_row hqb) (fun e => hqw (by cases e; rfl))).trans hqb; have c3 : w3.cell? ⟨q, 0, none⟩ = some (.slice (some ⟨w.heap.size, 0, none⟩) pre.length m) := (by simp [World.cell?, hq3]); have f3 := frozen_of_row w3 q 0 _ _ hq3))
    have kk : Keeps (fun k => k = w.heap.size ∨ k = q) W (w3.setCell ⟨q, 0, none⟩ (.slice (some ⟨w.heap.size, 0, none⟩) (pre.length + 1) m)) := ((k0.mono (fun _ _ h => h.elim)).grown hg3 (fun k e => .inl (.inl (by cases e; rfl)))).setCell (p := ⟨q, 0, none⟩) (.inl (.inr rfl)) _
    have epl : (pre ++ [x]).length = pre.length + 1 := by simp
    refine ⟨kk.from (fun k hk e => absurd e (hSq k hk)), kk.kpx (fun k e => .inl e), ⟨?_, ?_, h1.keeps.trans kk⟩⟩
    · rw [heap_setCell_same _ _ _ _ _ _ hq3, epl]; rfl
    · rw [← Hn.out, epl]
      have o3 : OwnK w3 w.heap.size (.slice (some ⟨w.heap.size, 0, none⟩) (pre.length + 1) m) (pre.length + 1) (L.take (pre.length * 128) ++ x.2) := ⟨by rw [List.map_append]; exact ho3⟩
      exact o3.same fun g cur e hc => by cases e; rw [heap_setCell_other _ _ _ _ (by simpa using hqw)]; exact hc
  case done =>
    rintro D W hD' h1 hd
    have hbl : (bls T).length = m := (bls_len T).trans hnT
    obtain ⟨hbox, hown, hkp⟩ := h1
    rw [hbl] at hbox hown
    rw [List.take_of_length_le (by omega)] at hown
    have cq : W.cell? ⟨q, 0, none⟩ = some (.slice (some ⟨w.heap.size, 0, none⟩) m m) := by simp [World.cell?, hbox]
    clear hbl
    gi_wp2
    refine ⟨by simp, .inl ⟨_, _, rfl, run_takeDeferred hd, ?_⟩⟩
    refine ⟨_, results_two rfl _ _ _, _, rfl, ?_, ?_⟩
    · exact hown.same fun g cur e hc => by cases e; rw [World.putObj_heap_other (by show _ ≠ _; dsimp only; omega)]; exact hc
    · exact K2.trans' (hkp.grown (grownBy_putObj' W D _) (fun k e => by cases e; exact .inr hD')) (fun k e => .inr (by omega))
  case stop => exact fun D c pre x rest W hD' hx h1 hd => h1.elim

end Go.Proofs.YtanmopbhglokmaaDoor
