/-
  Read, where it comes to the loop.
-/
import Derived.Test.YtokgnfniaeeloaaRi
set_option linter.all false
namespace Go.Proofs.Ytokgnfniaeeloaa
open Go.RowKit Go.Shelf
attribute [local go_sem] Oper.semAt_some
attribute [local go_sem ↓] Go.wp_at_zero Go.wp_at_succ wp_load37 wp_store37
attribute [local go_sem] addrOf aggOf cellsAt_drew

theorem back_any (w : World) (vl : Value) (h1 : vl.oneCell' = true) : Calls Try.prog 32 #[vl] w fun e w' => e = .returned (.func (.func 35) #[] #[.pointer (some ⟨w.heap.size, 0, none⟩)]) ∧ w' = w.alloc (.cells #[vl] 61) := by
  have hc : vl.cells = #[vl] := by cases vl <;> first | rfl | simp [Value.oneCell'] at h1
  go_enter Try.func32, Try.ntmps32
  go_wp2
  go_ret
  exact ⟨rfl, rfl⟩

/-- What is read of block i: the last loose write's, else what lasts. -/
def ReadVal (ws : List LW) (bl : Array Value) (i : Nat) (v : Array Value) : Prop :=
  (∃ pre x rest, (idx ws).reverse = pre ++ x :: rest ∧ (∀ y ∈ pre, y.2.1 ≠ (i : Int)) ∧ x.2.1 = (i : Int) ∧ v = x.2.2.toArray) ∨
  ((∀ y ∈ ws, y.1 ≠ (i : Int)) ∧ v = bl.extract (i * 128) (i * 128 + 128))

set_option maxRecDepth 100000 in
set_option maxHeartbeats 1000000 in
theorem read_ok (w : World) (p gb n : Nat) (vl : Value) (F dc : Int) (ws : List LW) (bl : Array Value) (hD : DiskAt w p (.slice (some ⟨gb, 0, none⟩) n n) vl F false dc) (hB : w.heap[gb]? = some (.cells bl 37 (0, 0))) (hbl : bl.size = n * 128) (h1b : bl.all (·.oneCell') = true)
    (hL : LooseAt w vl ws) (hlen : ws.length < 1000000) (i : Nat) (hi : i < n) :
    Calls Try.prog 17 #[.pointer (some ⟨p, 0, none⟩), .int .i64 (i : Int)] w fun e w' => (∃ v, e = .returned (.tuple #[.agg v, .int .i64 0]) ∧ ReadVal ws bl i v) ∧ Keeps (fun _ => False) w w' := by
  refine (callsIn_wide (n := 9)).1 ?_
  refine callsIn_of_wp_marks Try.func17 rfl trivial ?_ rfl
  simp only [Try.ntmps17, List.size_toArray, List.length_cons, List.length_nil, Nat.reduceAdd, Nat.reduceSub, Array.replicate_succ, Array.replicate_zero, List.push_toArray, List.append_toArray, List.nil_append, List.cons_append]
  have hz := zero37
  have h0 : ¬ (i : Int) < 0 := by omega
  have h0b : decide ((i : Int) < 0) = false := by simp
  have hn' : ¬ (n : Int) ≤ (i : Int) := by omega
  have hnb : decide ((n : Int) ≤ (i : Int)) = false := by simpa using hi
  have hv1 : vl.oneCell' = true := by rcases hL.form with ⟨rfl, _⟩ | ⟨g, cap, cur, rfl, _⟩ <;> rfl
  gi_wp2
  obtain ⟨W0, hW0⟩ : ∃ W0, ((w.alloc (.cells #[.int .i64 (i : Int)] 3)).alloc (.cells (fill 0) 37)).alloc (.cells #[.int .i64 0] 26) = W0 := ⟨_, rfl⟩
  rw [hW0]
  obtain ⟨g0, g1, g2, hsz, hK⟩ := allocs3 w W0 _ _ _ hW0
  clear hW0
  have c0 : W0.cell? ⟨w.heap.size, 0, none⟩ = some (.int .i64 (i : Int)) := by simp [World.cell?, g0]
  have hD0 : DiskAt W0 p (.slice (some ⟨gb, 0, none⟩) n n) vl F false dc := hD.kept hK (fun h => h)
  have c3 := hD0.cells.2.2.2.1
  have c1 := hD0.cells.2.1
  refine wpIn_wide.2 ?_
  go_quiet ((go_at_call 25; exact Calls.quiet_of_same (len_any _ p _ n n vl F false dc (by simpa [DiskAt] using hD0))))
  obtain ⟨W1, hW1⟩ : ∃ W1, W0.drewN nq = W1 := ⟨_, rfl⟩
  rw [hW1]
  have hh : W1.heap = W0.heap := by rw [← hW1]; rfl
  have c0 : W1.cell? ⟨w.heap.size, 0, none⟩ = some (.int .i64 (i : Int)) := by simp [World.cell?, hh, g0]
  have hD1 : DiskAt W1 p (.slice (some ⟨gb, 0, none⟩) n n) vl F false dc := by unfold DiskAt; rw [hh]; exact hD0
  have c3 := hD1.cells.2.2.2.1
  have c1 := hD1.cells.2.1
  have hK1 : Keeps (fun _ => False) w W1 := by rw [← hW1]; exact hK.drewN _
  gi_wp2_with (refine ⟨trivial, ?_⟩; gi_at_call 32; refine (callsIn_wide.2 (back_any W1 vl hv1)).mono ?_; rintro e w' ⟨rfl, rfl⟩)
  obtain ⟨W2, hW2⟩ : ∃ W2, W1.alloc (.cells #[vl] 61) = W2 := ⟨_, rfl⟩
  rw [hW2]
  have hs1 : W1.heap.size = w.heap.size + 3 := by rw [hh]; exact hsz
  have hs2 : W2.heap.size = w.heap.size + 4 := by rw [← hW2]; simp [hs1]
  have hbx : W2.heap[w.heap.size + 3]? = some (.cells #[vl] 61 (0, 0)) := by rw [← hW2, ← hs1]; exact heap_alloc2_x W1 _
  have hK2 : Keeps (fun _ => False) w W2 := by rw [← hW2]; exact hK1.alloc _
  have b0 : W2.heap[w.heap.size]? = some (.cells #[.int .i64 (i : Int)] 3 (0, 0)) := by rw [← hW2, Below.heap_alloc _ _ _ (by omega), hh]; exact g0
  have b1 : W2.heap[w.heap.size + 1]? = some (.cells (fill 0) 37 (0, 0)) := by rw [← hW2, Below.heap_alloc _ _ _ (by omega), hh]; exact g1
  have b2 : W2.heap[w.heap.size + 1 + 1]? = some (.cells #[.int .i64 0] 26 (0, 0)) := by rw [← hW2, Below.heap_alloc _ _ _ (by omega), hh]; exact g2
  have hL2 : LooseAt W2 vl ws := hL.kept ⟨hK2.size, fun g e => hK2.block g (hL.lt g e) (fun h => h)⟩
  have hD2 : DiskAt W2 p (.slice (some ⟨gb, 0, none⟩) n n) vl F false dc := hD.kept hK2 (fun h => h)
  have hB2 : W2.heap[gb]? = some (.cells bl 37 (0, 0)) := (hK2.block gb (Array.getElem?_eq_some_iff.1 hB).1 (fun h => h)).trans hB
  have hvlt : ∀ g, vl.ownBlock = some g → g < w.heap.size := hL.lt
  clear hW2 hW1 hh hD0 hD1 c0 c1 c3 g0 g1 g2 hK hK1
  refine range_law (gf := 35) (lb := #[.pointer (some ⟨w.heap.size + 3, 0, none⟩)]) rfl (enters_of Try.func35 (by kernel_rfl) rfl) (backward1 (fun _ => False) W2 (w.heap.size + 3) vl ws hbx hL2 hlen (fun _ _ h => h) (fun h => h)) ?hKt ?hKb (Below.refl _ _) (fun _ => rfl)
    (fun pre W => (∀ y ∈ pre, y.2.1 ≠ (i : Int)) ∧ Keeps (fun _ => False) W2 W)
    (fun c pre W => c = .ret ∧ ∃ pr x, pre = pr ++ [x] ∧ (∀ y ∈ pr, y.2.1 ≠ (i : Int)) ∧ x.2.1 = (i : Int) ∧ W.heap[w.heap.size + 1]? = some (.cells x.2.2.toArray 37 (0, 0)) ∧ W.heap[w.heap.size + 1 + 1]? = some (.cells #[.int .i64 0] 26 (0, 0)) ∧ Keeps (fun k => k = w.heap.size + 1 ∨ k = w.heap.size + 1 + 1) W2 W)
    ?hI ?hIx ⟨by simp, Keeps.refl _ _⟩
    (fun pre x a' W => (∀ y ∈ pre, y.2.1 ≠ (i : Int)) ∧ Keeps (fun _ => False) W2 W ∧ ∃ b u14 u15, W2.heap.size ≤ b ∧ W.heap[b]? = some (.cells (lcells x.2).toArray 65 (0, 0)) ∧ a' = { tmps := #[Value.pointer (some { block := p, off := 0 }), Value.int IntKind.i64 ↑i, undef, Value.pointer (some { block := w.heap.size, off := 0 }), Value.pointer (some { block := w.heap.size + 1, off := 0 }), Value.pointer (some { block := w.heap.size + 1 + 1, off := 0 }), undef, .pointer (some ⟨b, 0, none⟩), Value.int IntKind.i64 ↑i, Value.bool false, Value.bool false, Value.int IntKind.i64 ↑i, Value.pointer (some { block := p, off := 0 }), Value.int IntKind.i64 ↑n, u14, u15, undef, Value.pointer (some { block := p, off := 0 }), Value.pointer (some { block := p, off := 0 }), Value.pointer (some { block := p, off := 3 }), Value.bool false, undef, Value.pointer (some { block := p, off := 0 }), Value.pointer (some { block := p, off := 0 }), Value.pointer (some { block := p, off := 1 }), vl, .func (.func 35) #[] #[.pointer (some ⟨w.heap.size + 3, 0, none⟩)], .int .i64 (x.1 : Int), .agg (lcells x.2).toArray, undef, undef, undef, undef, undef, undef, undef, undef, undef, undef, undef, undef, undef], defers := [] }) ?hAx ?assign ?body ?done ?stop
  case hKt => exact fun h1 h2 => h1.trans h2
  case hKb => exact fun W l o o' _ ho hc => KpX.putObj o' ho hc
  case hI =>
    rintro s A B row ⟨h1, h2⟩ hg hr
    exact ⟨h1, own_keeps hg hr h2 (Nat.le_refl _)⟩
  case hIx =>
    rintro c s A B row ⟨h1, pr, x, h2, h3, h4, h5, h6, h7⟩ hg hr
    exact ⟨h1, pr, x, h2, h3, h4, own_cells hg hr h5, own_cells hg hr h6, own_keeps hg hr h7 (Nat.le_refl _)⟩
  case hAx =>
    rintro pre x a' _ A B row ⟨h1, h2, b, u14, u15, h3, h4, h5⟩ hg hr
    exact ⟨h1, own_keeps hg hr h2 (Nat.le_refl _), b, u14, u15, h3, own_cells hg hr h4, h5⟩
  case assign =>
    rintro l pre x rest W K hx ⟨h1, h2⟩ hK'
    have hok : LwOk x.2 := hL2.ok x.2 (by rw [(idx_back hx).2]; simp)
    have hsl : (lcells x.2).toArray.size = 129 := by simp [length_lcells hok]
    have hone : (lcells x.2).toArray.all (·.oneCell') = true := all_oneCell_toArray (one_lcells hok)
    have hi65 : (Try.prog.info? 65).map (·.size) = some (lcells x.2).toArray.size := by rw [hsl]; exact size65
    have hzs : wzero.size = (lcells x.2).toArray.size := by rw [hsl]; exact size_wzero
    have hz65 := zero65
    have Hx : Hid ((idx ws).reverse = pre ++ x :: rest) := hx
    have HK : Hid (∀ a' W', _ → _ → _ → K a' W') := hK'
    clear hx hK' hok hsl
    simp only [encW]
    gi_wp2_with (refine wpListIn_store_row rfl 65 _ _ rfl W.heap.size rfl (lcells x.2).toArray rfl 65 wzero (heap_alloc2_x W _) hi65 hzs hone ?_; intro w1 n1 k1 z1)
    have k0 : Keeps (fun _ => False) W w1 := ((Keeps.refl _ _).alloc _).trans' k1 (fun k e => .inr (by omega))
    refine HK.out _ _ (k0.from (fun _ _ h => h.elim)) (k0.kpx (fun _ h => h.elim)) ⟨h1, h2.trans k0, W.heap.size, _, _, h2.size, n1, rfl⟩
  case body =>
    rintro l pre x rest a' W hl hx ⟨h1, h2, b, u14, u15, h3, h4, rfl⟩
    have hok : LwOk x.2 := hL2.ok x.2 (by rw [(idx_back hx).2]; simp)
    have e0 : W.heap[w.heap.size]? = some (.cells #[.int .i64 (i : Int)] 3 (0, 0)) := (h2.block _ (by omega) (fun h => h)).trans b0
    have e1 : W.heap[w.heap.size + 1]? = some (.cells (fill 0) 37 (0, 0)) := (h2.block _ (by omega) (fun h => h)).trans b1
    have e2 : W.heap[w.heap.size + 1 + 1]? = some (.cells #[.int .i64 0] 26 (0, 0)) := (h2.block _ (by omega) (fun h => h)).trans b2
    have c0 : W.cell? ⟨w.heap.size, 0, none⟩ = some (.int .i64 (i : Int)) := by simp [World.cell?, e0]
    have cx : W.cell? ⟨b, 0, none⟩ = some (.int .i64 x.2.1) := by simp [World.cell?, h4, lcells]
    by_cases hc : x.2.1 = (i : Int)
    · have hcb : (x.2.1 == (i : Int)) = true := by simpa using hc
      have hce : cellsAt W b 1 128 = x.2.2.toArray := by
        rw [cellsAt, rowOf_of h4]
        apply Array.toList_inj.1
        simp [lcells, List.take_of_length_le (Nat.le_of_eq hok.1)]
      have hsl : x.2.2.toArray.size = 128 := by simp [hok.1]
      have hone : x.2.2.toArray.all (·.oneCell') = true := all_oneCell_toArray hok.2
      have hi37 : (Try.prog.info? 37).map (·.size) = some x.2.2.toArray.size := by rw [hsl]; exact size37
      have hzs : (fill 0).size = x.2.2.toArray.size := by rw [hsl]; exact size_fill 0
      have Hx : Hid ((idx ws).reverse = pre ++ x :: rest) := hx
      have Hc : Hid (x.2.1 = (i : Int)) := hc
      clear hx hc hok
      gi_wp2_with (first | (refine wpListIn_load_cells rfl 37 _ rfl b 1 rfl 128 x.2.2.toArray hce hsl _ Try.underlying37 rfl size37 ?_) | (refine wpListIn_store_row rfl 37 _ _ rfl (w.heap.size + 1) rfl x.2.2.toArray rfl 37 (fill 0) e1 hi37 hzs hone ?_; intro w1 n1 k1 z1; have n2 : w1.heap[w.heap.size + 1 + 1]? = some (.cells #[.int .i64 0] 26 (0, 0)) := (k1.block _ (Array.getElem?_eq_some_iff.1 e2).1 (by omega)).trans e2; have c2 : w1.cell? ⟨w.heap.size + 1 + 1, 0, none⟩ = some (.int .i64 0) := (by simp [World.cell?, n2]); have f2 := frozen_of_row w1 _ 0 _ _ n2))
      have kk : Keeps (fun k => k = w.heap.size + 1 ∨ k = w.heap.size + 1 + 1) W (w1.setCell ⟨w.heap.size + 1 + 1, 0, none⟩ (.int .i64 0)) := (k1.mono (fun k _ e => .inl e)).setCell (p := ⟨w.heap.size + 1 + 1, 0, none⟩) (.inl (.inr rfl)) _
      refine ⟨kk.from (fun k hk e => by omega), rfl, pre, x, rfl, h1, Hc.out, ?_, ?_, (h2.mono (fun _ _ h => h.elim)).trans kk⟩
      · rw [heap_setCell_other _ _ _ _ (by simp)]; exact n1
      · rw [heap_setCell_same _ _ _ _ _ _ n2]; rfl
    · have hcb : (x.2.1 == (i : Int)) = false := by simpa using hc
      have Hc : Hid (x.2.1 ≠ (i : Int)) := hc
      clear hc hx hok
      gi_wp2
      refine ⟨KeepsFrom.refl _ _, KpX.refl _ _, ?_, h2⟩
      intro y hy
      rcases List.mem_append.1 hy with hy | hy
      · exact h1 y hy
      · obtain rfl : y = x := by simpa using hy
        exact Hc.out
  case done =>
    rintro D W hD' ⟨h1, h2⟩ hd
    have e0 : W.heap[w.heap.size]? = some (.cells #[.int .i64 (i : Int)] 3 (0, 0)) := (h2.block _ (by omega) (fun h => h)).trans b0
    have e1 : W.heap[w.heap.size + 1]? = some (.cells (fill 0) 37 (0, 0)) := (h2.block _ (by omega) (fun h => h)).trans b1
    have e2 : W.heap[w.heap.size + 1 + 1]? = some (.cells #[.int .i64 0] 26 (0, 0)) := (h2.block _ (by omega) (fun h => h)).trans b2
    have eB : W.heap[gb]? = some (.cells bl 37 (0, 0)) := (h2.block _ (Array.getElem?_eq_some_iff.1 hB2).1 (fun h => h)).trans hB2
    have eD : DiskAt W p (.slice (some ⟨gb, 0, none⟩) n n) vl F false dc := hD2.kept h2 (fun h => h)
    have c0 : W.cell? ⟨w.heap.size, 0, none⟩ = some (.int .i64 (i : Int)) := by simp [World.cell?, e0]
    have c2 : W.cell? ⟨w.heap.size + 1 + 1, 0, none⟩ = some (.int .i64 0) := by simp [World.cell?, e2]
    have f2 := frozen_of_row W _ 0 _ _ e2
    have cp := eD.cells.1
    have hi0 : (0 : Int) ≤ (i : Int) := by omega
    have hi1 : (i : Int) < (n : Int) := by omega
    obtain ⟨X, hX⟩ : ∃ X, X = bl.extract (i * 128) (i * 128 + 128) := ⟨_, rfl⟩
    have hXs : X.size = 128 := by
      have : (i + 1) * 128 ≤ n * 128 := Nat.mul_le_mul_right 128 hi
      rw [hX]; simp; omega
    have hX1 : X.all (·.oneCell') = true := by
      rw [Array.all_eq_true_iff_forall_mem] at h1b ⊢
      intro v hv
      rw [hX] at hv
      obtain ⟨j, hj, e⟩ := Array.mem_iff_getElem.1 hv
      rw [Array.getElem_extract] at e
      exact h1b v (e ▸ Array.getElem_mem _)
    have hX2 : AllOne X := hX1
    have hca : cellsAt W gb (i * 128) 128 = X := by rw [cellsAt, rowOf_of eB, hX]
    have fr : FreeRow W.drew (w.heap.size + 1) 128 := ⟨fill 0, 37, e1, size_fill 0⟩
    obtain ⟨W5, hW5⟩ : ∃ W5, W.drew.setRow (w.heap.size + 1) X = W5 := ⟨_, rfl⟩
    have k5 : Keeps (· = w.heap.size + 1) W W5 := by rw [← hW5]; exact ((Keeps.refl (· = w.heap.size + 1) W).drew).setRow (.inl rfl) _
    have n1 : W5.heap[w.heap.size + 1]? = some (.cells X 37 (0, 0)) := by rw [← hW5]; exact setRow_heap W.drew _ _ _ _ _ e1
    have n2 : W5.heap[w.heap.size + 1 + 1]? = some (.cells #[.int .i64 0] 26 (0, 0)) := (k5.block _ (Array.getElem?_eq_some_iff.1 e2).1 (by omega)).trans e2
    have c2' : W5.cell? ⟨w.heap.size + 1 + 1, 0, none⟩ = some (.int .i64 0) := by simp [World.cell?, n2]
    have f2' := frozen_of_row W5 _ 0 _ _ n2
    have HX : Hid (X = bl.extract (i * 128) (i * 128 + 128)) := hX
    clear hX
    gi_wp2
    refine wpIn_wide.2 ?_
    refine wp_region_noPanic ?_
    go_region_law (fail)
    all_goals refine NoPanic.normal ?_
    all_goals gi_wp2
    all_goals
      have hd5 : (W5.setCell ⟨w.heap.size + 1 + 1, 0, none⟩ (.int .i64 0)).heap[D]? = some (.deferred (some [])) := by
        rw [heap_setCell_other _ _ _ _ (by simp; omega)]
        exact (k5.block D (Array.getElem?_eq_some_iff.1 hd).1 (by omega)).trans hd
      refine ⟨by simp, .inl ⟨_, _, rfl, run_takeDeferred hd5, ?_⟩⟩
      have d1 : ((W5.setCell ⟨w.heap.size + 1 + 1, 0, none⟩ (.int .i64 0)).putObj D (.deferred none)).heap[w.heap.size + 1]? = some (.cells X 37 (0, 0)) := by
        rw [World.putObj_heap_other (by omega), heap_setCell_other _ _ _ _ (by simp)]; exact n1
      have d2 : ((W5.setCell ⟨w.heap.size + 1 + 1, 0, none⟩ (.int .i64 0)).putObj D (.deferred none)).heap[w.heap.size + 1 + 1]? = some (.cells #[.int .i64 0] 26 (0, 0)) := by
        rw [World.putObj_heap_other (by omega), heap_setCell_same _ _ _ _ _ _ n2]; rfl
      refine ⟨_, results_two_cells rfl _ _ (w.heap.size + 1) (w.heap.size + 1 + 1) X _ 37 26 rfl rfl (run_loadVar_row _ _ 37 37 _ (0, 0) _ d1 Try.underlying37 rfl (by rw [hXs]; exact size37)) (load_one _ _ _ _ d2), ⟨_, rfl, .inr ⟨?_, HX.out⟩⟩, ?_⟩
      · intro y hy
        obtain ⟨j, hj, e⟩ := List.mem_iff_getElem.1 hy
        refine h1 (j, y) (List.mem_reverse.2 ?_)
        simp only [idx, List.mem_map]
        exact ⟨(y, j), by rw [← e]; exact List.mk_mem_zipIdx_iff_getElem?.2 (by simp [hj]), rfl⟩
      · have kk : Keeps (fun k => k = w.heap.size + 1 ∨ k = w.heap.size + 1 + 1) W2 (W5.setCell ⟨w.heap.size + 1 + 1, 0, none⟩ (.int .i64 0)) := ((h2.mono (fun _ _ h => h.elim)).trans (k5.mono (fun k _ e => .inl e))).setCell (p := ⟨w.heap.size + 1 + 1, 0, none⟩) (.inl (.inr rfl)) _
        exact hK2.trans' (kk.grown (grownBy_putObj' _ D _) (fun k e => by cases e; exact .inr hD')) (fun k e => .inr (by omega))
  case stop =>
    rintro D c pre x rest W hD' hx ⟨rfl, pr, y, hp, h3, h4, h5, h6, h7⟩ hd
    obtain ⟨rfl, rfl⟩ : pre = pr ∧ x = y := by simpa using List.append_inj' hp rfl
    have hok : LwOk x.2 := hL2.ok x.2 (by rw [(idx_back hx).2]; simp)
    have hsl : x.2.2.toArray.size = 128 := by simp [hok.1]
    have hi37 : (Try.prog.info? 37).map (·.size) = some x.2.2.toArray.size := by rw [hsl]; exact size37
    gi_wp2
    refine ⟨by simp, .inl ⟨_, _, rfl, run_takeDeferred hd, ?_⟩⟩
    have d1 : (W.putObj D (.deferred none)).heap[w.heap.size + 1]? = some (.cells x.2.2.toArray 37 (0, 0)) := (World.putObj_heap_other (by omega)).trans h5
    have d2 : (W.putObj D (.deferred none)).heap[w.heap.size + 1 + 1]? = some (.cells #[.int .i64 0] 26 (0, 0)) := (World.putObj_heap_other (by omega)).trans h6
    refine ⟨_, results_two_cells rfl _ _ (w.heap.size + 1) (w.heap.size + 1 + 1) x.2.2.toArray _ 37 26 rfl rfl (run_loadVar_row _ _ 37 37 _ (0, 0) _ d1 Try.underlying37 rfl hi37) (load_one _ _ _ _ d2), ⟨_, rfl, .inl ⟨pre, x, rest, hx, h3, h4, rfl⟩⟩, ?_⟩
    refine (hK2.trans' (h7.grown (grownBy_putObj' W D _) (fun k e => by cases e; exact .inr hD')) (fun k e => .inr (by omega)))

end Go.Proofs.Ytokgnfniaeeloaa
