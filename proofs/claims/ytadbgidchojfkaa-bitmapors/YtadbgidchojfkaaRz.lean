/-
  Run, of the program.
-/
import Derived.Test.YtadbgidchojfkaaRu
import Derived.Test.YtadbgidchojfkaaRx
set_option linter.all false
namespace Go.Proofs.Ytadbgidchojfkaa
open Go.RowKit Go.Sort Go.Shelf
attribute [local go_sem] Oper.semAt_some

/-- In block g lies a number of type t. -/
structure CeAt (w : World) (g : Nat) (t : TypeId) (v : Int) : Prop where
  row : w.heap[g]? = some (.cells #[.int .i64 v] t (0, 0))
theorem CeAt.lt {w : World} {g : Nat} {t : TypeId} {v : Int} (h : CeAt w g t v) : g < w.heap.size := lt_of_row h.row
theorem CeAt.keeps {S : Nat → Prop} {a w : World} {g : Nat} {t : TypeId} {v : Int} (h : CeAt a g t v) (hk : Keeps S a w) (hs : ¬ S g) : CeAt w g t v := ⟨hk.row h.row hs⟩
theorem CeAt.keep {a w : World} {g : Nat} {t : TypeId} {v : Int} (h : CeAt a g t v) (hk : Keeps (fun _ => False) a w) : CeAt w g t v := h.keeps hk (fun h => h)
theorem CeAt.cell {w : World} {g : Nat} {t : TypeId} {v : Int} (h : CeAt w g t v) : w.cell? ⟨g, 0, none⟩ = some (.int .i64 v) := by simp [World.cell?, h.row]
theorem CeAt.live {w : World} {g : Nat} {t : TypeId} {v : Int} (h : CeAt w g t v) : w.frozen? ⟨g, 0, none⟩ = false := frozen_of_row w g 0 _ _ h.row
theorem CeAt.set {w : World} {g : Nat} {t : TypeId} {v : Int} (h : CeAt w g t v) (u : Int) : CeAt (w.setCell ⟨g, 0, none⟩ (.int .i64 u)) g t u := ⟨by rw [heap_setCell_same w _ _ _ _ _ h.row]; rfl⟩
theorem CeAt.set_other {w : World} {g k : Nat} {t : TypeId} {v : Int} (h : CeAt w g t v) (hk : k ≠ g) (u : Value) : CeAt (w.setCell ⟨k, 0, none⟩ u) g t v := h.keeps ((Keeps.refl (· = k) _).setCell (.inl rfl) _) (Ne.symm hk)
theorem CeAt.put {w : World} {g D : Nat} {t : TypeId} {v : Int} (h : CeAt w g t v) (hD : g ≠ D) (o : Obj) : CeAt (w.putObj D o) g t v := ⟨(World.putObj_heap_other hD).trans h.row⟩

section
variable {F : Fence} {m : Nat} {ops : Array Oper} {rest : List Oper} {o : Oper} {a : Act} {w : World} {Q : Exit → Act → World → Prop}
theorem wpListIn_box23 (hgd : o.guard = none) (x : Operand) (ho : o.op = .box 23 x) (L : List B) (hL : L.length = 16) (hx : a.eval x = .agg (brow L))
    (h : ∀ g w', BmAt w' g L → w.heap.size ≤ g → Keeps (fun _ => False) w w' → wpListIn F m Try.prog ops Q rest (a.put o.dst (.pointer (some ⟨g, 0, none⟩))) w') : wpListIn F m Try.prog ops Q (o :: rest) a w := by
  refine wpListIn_plain hgd fun K hK => ?_
  refine ⟨fun f hf => by simp [Oper.about, ho] at hf, ?_⟩
  have hsem : Oper.semAt F.round a.eval o = execOp a.eval o := by unfold Oper.semAt; cases F.round <;> simp [ho]
  rw [hsem]
  unfold execOp
  simp only [ho, hx, newVar, newRow, Sem.run_bind, Result.andThen_ok, Sem.run_pure]
  exact hK _ _ (h w.heap.size _ ⟨heap_alloc_new w _, hL⟩ (Nat.le_refl _) (keeps_alloc w _))
theorem wpListIn_box3 (hgd : o.guard = none) (x : Operand) (ho : o.op = .box 3 x) (v : Int) (hx : a.eval x = .int .i64 v)
    (h : ∀ g w', CeAt w' g 3 v → w.heap.size ≤ g → Keeps (fun _ => False) w w' → wpListIn F m Try.prog ops Q rest (a.put o.dst (.pointer (some ⟨g, 0, none⟩))) w') : wpListIn F m Try.prog ops Q (o :: rest) a w := by
  refine wpListIn_plain hgd fun K hK => ?_
  refine ⟨fun f hf => by simp [Oper.about, ho] at hf, ?_⟩
  have hsem : Oper.semAt F.round a.eval o = execOp a.eval o := by unfold Oper.semAt; cases F.round <;> simp [ho]
  rw [hsem]
  unfold execOp
  simp only [ho, hx, newVar, newRow, Sem.run_bind, Result.andThen_ok, Sem.run_pure]
  exact hK _ _ (h w.heap.size _ ⟨heap_alloc_new w _⟩ (Nat.le_refl _) (keeps_alloc w _))
theorem zero3 (w : World) : (zeroValue 3).run Try.prog w = .ok (.int .i64 0) w := by kernel_rfl
theorem zero25 (w : World) : (zeroValue 25).run Try.prog w = .ok (.int .i64 0) w := by kernel_rfl
theorem wpListIn_alloc3 (hgd : o.guard = none) (ho : o.op = .alloc 3)
    (h : ∀ g w', CeAt w' g 3 0 → w.heap.size ≤ g → Keeps (fun _ => False) w w' → wpListIn F m Try.prog ops Q rest (a.put o.dst (.pointer (some ⟨g, 0, none⟩))) w') : wpListIn F m Try.prog ops Q (o :: rest) a w := by
  refine wpListIn_plain hgd fun K hK => ?_
  refine ⟨fun f hf => by simp [Oper.about, ho] at hf, ?_⟩
  have hsem : Oper.semAt F.round a.eval o = execOp a.eval o := by unfold Oper.semAt; cases F.round <;> simp [ho]
  rw [hsem]
  unfold execOp
  simp only [ho, Instr.alloc, zero3, newVar, newRow, Sem.run_bind, Result.andThen_ok, Sem.run_pure]
  exact hK _ _ (h w.heap.size _ ⟨heap_alloc_new w _⟩ (Nat.le_refl _) (keeps_alloc w _))
theorem wpListIn_alloc25 (hgd : o.guard = none) (ho : o.op = .alloc 25)
    (h : ∀ g w', CeAt w' g 25 0 → w.heap.size ≤ g → Keeps (fun _ => False) w w' → wpListIn F m Try.prog ops Q rest (a.put o.dst (.pointer (some ⟨g, 0, none⟩))) w') : wpListIn F m Try.prog ops Q (o :: rest) a w := by
  refine wpListIn_plain hgd fun K hK => ?_
  refine ⟨fun f hf => by simp [Oper.about, ho] at hf, ?_⟩
  have hsem : Oper.semAt F.round a.eval o = execOp a.eval o := by unfold Oper.semAt; cases F.round <;> simp [ho]
  rw [hsem]
  unfold execOp
  simp only [ho, Instr.alloc, zero25, newVar, newRow, Sem.run_bind, Result.andThen_ok, Sem.run_pure]
  exact hK _ _ (h w.heap.size _ ⟨heap_alloc_new w _⟩ (Nat.le_refl _) (keeps_alloc w _))
theorem wpList_box3 (hgd : o.guard = none) (x : Operand) (ho : o.op = .box 3 x) (v : Int) (hx : a.eval x = .int .i64 v)
    (h : ∀ g w', CeAt w' g 3 v → w.heap.size ≤ g → Keeps (fun _ => False) w w' → wpList Try.prog ops Q rest (a.put o.dst (.pointer (some ⟨g, 0, none⟩))) w') : wpList Try.prog ops Q (o :: rest) a w := by
  refine wpList_plain hgd fun K hK => ?_
  unfold Oper.wp execOp
  simp only [ho, hx, newVar, newRow, Sem.run_bind, Result.andThen_ok, Sem.run_pure]
  exact hK _ _ (h w.heap.size _ ⟨heap_alloc_new w _⟩ (Nat.le_refl _) (keeps_alloc w _))
theorem wpList_alloc3 (hgd : o.guard = none) (ho : o.op = .alloc 3)
    (h : ∀ g w', CeAt w' g 3 0 → w.heap.size ≤ g → Keeps (fun _ => False) w w' → wpList Try.prog ops Q rest (a.put o.dst (.pointer (some ⟨g, 0, none⟩))) w') : wpList Try.prog ops Q (o :: rest) a w := by
  refine wpList_plain hgd fun K hK => ?_
  unfold Oper.wp execOp
  simp only [ho, Instr.alloc, zero3, newVar, newRow, Sem.run_bind, Result.andThen_ok, Sem.run_pure]
  exact hK _ _ (h w.heap.size _ ⟨heap_alloc_new w _⟩ (Nat.le_refl _) (keeps_alloc w _))
theorem wpList_alloc25 (hgd : o.guard = none) (ho : o.op = .alloc 25)
    (h : ∀ g w', CeAt w' g 25 0 → w.heap.size ≤ g → Keeps (fun _ => False) w w' → wpList Try.prog ops Q rest (a.put o.dst (.pointer (some ⟨g, 0, none⟩))) w') : wpList Try.prog ops Q (o :: rest) a w := by
  refine wpList_plain hgd fun K hK => ?_
  unfold Oper.wp execOp
  simp only [ho, Instr.alloc, zero25, newVar, newRow, Sem.run_bind, Result.andThen_ok, Sem.run_pure]
  exact hK _ _ (h w.heap.size _ ⟨heap_alloc_new w _⟩ (Nat.le_refl _) (keeps_alloc w _))
end

theorem load_ce3 {w : World} {g : Nat} {v : Int} (h : CeAt w g 3 v) : (loadVar 3 ⟨g, 0, none⟩).run Try.prog w = .ok (.int .i64 v) w := by
  have hc := h.cell
  have hu := Try.underlying3
  simp [go_sem, loadVar, hc]
theorem load_ce25 {w : World} {g : Nat} {v : Int} (h : CeAt w g 25 v) : (loadVar 25 ⟨g, 0, none⟩).run Try.prog w = .ok (.int .i64 v) w := by
  have hc := h.cell
  have hu := Try.underlying25
  simp [go_sem, loadVar, hc]
theorem results_ce {fn : Func} {p q : Tmp} (h : fn.results = #[.cell p 3, .cell q 25]) (tmps : Array Value) (w : World) (g1 g2 : Nat) (k e : Int) (hp : tmps.getD p undef = .pointer (some ⟨g1, 0, none⟩)) (hq : tmps.getD q undef = .pointer (some ⟨g2, 0, none⟩)) (h1 : CeAt w g1 3 k) (h2 : CeAt w g2 25 e) :
    (results fn tmps).run Try.prog w = .ok (toldR (k, e)) w := by
  have hp' : tmps[p]?.getD undef = .pointer (some ⟨g1, 0, none⟩) := by simpa using hp
  have hq' : tmps[q]?.getD undef = .pointer (some ⟨g2, 0, none⟩) := by simpa using hq
  simp [results, h, hp', hq', asAddr, load_ce3 h1, load_ce25 h2, toldR]

theorem runs19 (w : World) (L : List B) (hL : L.length = 16) (k : Int) : Calls Try.prog 19 #[.agg (brow L), .int .i64 k] w fun e w' =>
    ∃ bk bm, e = .returned (.func (.func 20) #[] #[.pointer (some ⟨bk, 0, none⟩), .pointer (some ⟨bm, 0, none⟩)]) ∧ w'.heap[bk]? = some (.cells #[.int .i64 k] 3 (0, 0)) ∧ BmAt w' bm L ∧ w.heap.size ≤ bk ∧ w.heap.size ≤ bm ∧ Keeps (fun _ => False) w w' := by
  go_enter Try.func19, Try.ntmps19
  go_wp2_with (refine wpList_box23 rfl _ rfl L hL rfl ?_; intro g2 w1 b1 z1 k1)
  go_ret
  exact ⟨_, _, rfl, heap_alloc_new w1 _, b1.keep (keeps_alloc w1 _), by have := k1.size; omega, z1, k1.trans (keeps_alloc w1 _)⟩

theorem run9_bad (w : World) (L : List B) (hL : L.length = 16) (k n : Int) (h : n < 1 ∨ k < 1 ∨ 128 < k) :
    Calls Try.prog 9 #[.agg (brow L), .int .i64 k, .int .i64 n] w fun e w' => e = .returned (toldR (0, 1)) ∧ Keeps (fun _ => False) w w' := by
  have cs : n < 1 ∨ (1 ≤ n ∧ k < 1) ∨ (1 ≤ n ∧ 1 ≤ k ∧ 128 < k) := by omega
  clear h
  go_enter Try.func9, Try.ntmps9
  rcases cs with h1 | ⟨h1, h2⟩ | ⟨h1, h2, h3⟩
  all_goals
    go_wp2_with (first
      | (refine wpList_box23 rfl _ rfl L hL rfl ?_; intro g3 w1 b1 z1 k1)
      | (refine wpList_box3 rfl _ rfl n rfl ?_; intro g5 w2 b2 z2 k2; have c2 := b2.cell)
      | (refine wpList_alloc3 rfl rfl ?_; intro g6 w3 b3 z3 k3; have c3 := cell_keeps k3 c2 (fun h => h))
      | (refine wpList_alloc25 rfl rfl ?_; intro g7 w4 b4 z4 k4; have c4 := cell_keeps k4 c3 (fun h => h); have b3' := b3.keep k4; have c6 := b3'.cell; have f6 := b3'.live; have c7 := b4.cell; have f7 := b4.live; have h67 : g6 ≠ g7 := (by have := b3.lt; omega)))
    have kA : Keeps (fun _ => False) w w4 := ((k1.trans k2).trans k3).trans k4
    have z6 : w.heap.size ≤ g6 := by have := (k1.trans k2).size; omega
    have z7 : w.heap.size ≤ g7 := by have := ((k1.trans k2).trans k3).size; omega
    refine bodyPost_ret (v := toldR (0, 1)) (results_ce rfl _ _ g6 g7 0 1 rfl rfl ((b3'.set 0).set_other (Ne.symm h67) _) ((b4.set_other h67 _).set 1)) rfl ⟨rfl, (kA.setCell (.inr z6) _).setCell (.inr z7) _⟩

theorem fnd_at {L : List B} {k n : Nat} {pre rest : List (Nat × Nat)} {x : Nat × Nat} (hx : runsL L k 0 = pre ++ x :: rest) (h1 : ∀ y ∈ pre, ¬ n ≤ y.2) (h2 : n ≤ x.2) : fnd L k n = some x.1 := by
  unfold fnd
  rw [hx, List.find?_append, List.find?_eq_none.2 (fun y hy => by simpa using h1 y hy), List.find?_cons_of_pos (by simpa using h2)]
  rfl
theorem fnd_out {L : List B} {k n : Nat} (h1 : ∀ y ∈ runsL L k 0, ¬ n ≤ y.2) : fnd L k n = none := by
  unfold fnd
  rw [List.find?_eq_none.2 (fun y hy => by simpa using h1 y hy)]
  rfl
theorem runs_bound {L : List B} {k : Nat} (f : Nat) : ∀ x ∈ runsL L k f, x.1 + x.2 ≤ k := by
  intro x hx
  by_cases h : f < k
  · have h1 := runEnd_ge L k f
    have h2 := runEnd_le L k f (by omega)
    by_cases h5 : f < runEnd L k f
    · rw [runsL_some h h5] at hx
      rcases List.mem_cons.1 hx with rfl | hx
      · dsimp only; omega
      · exact runs_bound (runEnd L k f + 1) x hx
    · rw [runsL_none h h5] at hx
      exact runs_bound (runEnd L k f + 1) x hx
  · rw [runsL_done h] at hx; cases hx
termination_by k - f
decreasing_by all_goals (have := runEnd_ge L k f; omega)

/-- Where Run has stopped. -/
structure RzX (n g6 g7 : Nat) (W5 : World) (cd : Code) (pre : List (Nat × Nat)) (V : World) : Prop where
  code : cd = .ret
  at_ : ∃ p x, pre = p ++ [x] ∧ (∀ y ∈ p, ¬ n ≤ y.2) ∧ n ≤ x.2 ∧ CeAt V g6 3 (x.1 : Int)
  ok : CeAt V g7 25 0
  keeps : Keeps (fun k => k = g6 ∨ k = g7) W5 V

set_option maxRecDepth 100000 in
set_option maxHeartbeats 1000000 in
theorem run9_in (w : World) (L : List B) (hL : L.length = 16) (k n : Nat) (hn : 1 ≤ n) (hn2 : (n : Int) ≤ 9223372036854775807) (hk : 1 ≤ k) (hk2 : k ≤ 128) :
    Calls Try.prog 9 #[.agg (brow L), .int .i64 (k : Int), .int .i64 (n : Int)] w fun e w' => e = .returned (toldR (runR L (k : Int) (n : Int))) ∧ Keeps (fun _ => False) w w' := by
  have hn1 : ¬ (n : Int) < 1 := by omega
  have hk1 : ¬ (k : Int) < 1 := by omega
  have hk3 : ¬ (128 : Int) < (k : Int) := by omega
  refine (callsIn_wide (n := 9)).1 ?_
  refine callsIn_of_wp_marks Try.func9 rfl trivial ?_ rfl
  simp only [Try.ntmps9, List.size_toArray, List.length_cons, List.length_nil, Nat.reduceAdd, Nat.reduceSub, Array.replicate_succ, Array.replicate_zero, List.push_toArray, List.append_toArray, List.nil_append, List.cons_append]
  gi_wp2_with (first
    | (refine wpListIn_box23 rfl _ rfl L hL rfl ?_; intro g3 w1 b1 z1 k1)
    | (refine wpListIn_box3 rfl _ rfl n rfl ?_; intro g5 w2 b2 z2 k2; have c2 := b2.cell)
    | (refine wpListIn_alloc3 rfl rfl ?_; intro g6 w3 b3 z3 k3; have c3 := cell_keeps k3 c2 (fun h => h))
    | (refine wpListIn_alloc25 rfl rfl ?_; intro g7 w4 b4 z4 k4; have c4 := cell_keeps k4 c3 (fun h => h); have bm4 := ((b1.keep k2).keep k3).keep k4)
    | (refine wpListIn_load23 rfl _ rfl g3 rfl L bm4 ?_)
    | (refine ⟨trivial, ?_⟩; gi_at_call 19; refine (callsIn_wide.2 (runs19 _ L hL _)).mono ?_; rintro e w5 ⟨bk, bm, rfl, hbk, hbm, zk, zm, k5⟩))
  have K5 : Keeps (fun _ => False) w w5 := (((k1.trans k2).trans k3).trans k4).trans k5
  have z6 : w.heap.size ≤ g6 := by have := (k1.trans k2).size; omega
  have z7 : w.heap.size ≤ g7 := by have := ((k1.trans k2).trans k3).size; omega
  have h67 : g6 ≠ g7 := by have := b3.lt; omega
  have e5 := ((b2.keep k3).keep k4).keep k5
  have e6 := (b3.keep k4).keep k5
  have e7 := b4.keep k5
  have l6 := e6.lt
  have l7 := e7.lt
  clear k1 k2 k3 k4 k5 b1 b2 b3 b4 bm4 z1 z2 z3 z4 c2 c3 c4 zk zm
  clear w1 w2 w3 w4
  refine range_law (gf := 20) (lb := #[.pointer (some ⟨bk, 0, none⟩), .pointer (some ⟨bm, 0, none⟩)]) rfl (enters_of Try.func20 (by kernel_rfl) rfl) (runs20 (fun _ => False) w5 bk bm L k hk2 hbk hbm (fun h => h) (fun h => h)) ?hKt ?hKb (RowKit.Below.refl _ _) (fun _ => rfl)
    (fun pre V => (∀ y ∈ pre, ¬ n ≤ y.2) ∧ Keeps (fun _ => False) w5 V)
    (fun cd pre V => RzX n g6 g7 w5 cd pre V) ?hI ?hIx ⟨by simp, Keeps.refl _ _⟩
    (fun pre x a' V => (∀ y ∈ pre, ¬ n ≤ y.2) ∧ Keeps (fun _ => False) w5 V ∧ a' = { tmps := #[.agg (brow L), .int .i64 (k : Int), .int .i64 (n : Int), .pointer (some ⟨g3, 0, none⟩), undef, .pointer (some ⟨g5, 0, none⟩), .pointer (some ⟨g6, 0, none⟩), .pointer (some ⟨g7, 0, none⟩), .int .i64 (x.1 : Int), .int .i64 (x.2 : Int), .int .i64 (n : Int), .bool false, .bool false, .int .i64 (k : Int), .bool false, .bool false, .bool false, .int .i64 (k : Int), .bool false, .bool false, .agg (brow L), .int .i64 (k : Int), .func (.func 20) #[] #[.pointer (some ⟨bk, 0, none⟩), .pointer (some ⟨bm, 0, none⟩)], .int .i64 (x.1 : Int), .int .i64 (x.2 : Int), undef, undef, undef, undef], defers := [] }) ?hAx ?assign ?body ?done ?stop
  case hKt => exact fun h1 h2 => h1.trans h2
  case hKb => exact fun W l o o' _ ho hc => KpX.putObj o' ho hc
  case hI => exact fun s A B row h hg hr => ⟨h.1, own_keeps hg hr h.2 (Nat.le_refl _)⟩
  case hIx =>
    rintro cd s A B row ⟨h1, ⟨p, x, h2, h3, h4, h5⟩, h6, h7⟩ hg hr
    exact ⟨h1, ⟨p, x, h2, h3, h4, ⟨own_cells hg hr h5.row⟩⟩, ⟨own_cells hg hr h6.row⟩, own_keeps hg hr h7 (Nat.le_refl _)⟩
  case hAx =>
    rintro pre x a' _ A B row ⟨h1, h2, h3⟩ hg hr
    exact ⟨h1, own_keeps hg hr h2 (Nat.le_refl _), h3⟩
  case assign =>
    rintro l' pre x rest V K hx ⟨h1, h2⟩ hK'
    have HK : Hid (∀ a' W', _ → _ → _ → K a' W') := hK'
    clear hK' hx
    simp only [encR]
    gi_wp2
    have k0 := Keeps.refl (fun _ => False) V
    exact HK.out _ _ (k0.from (fun _ _ h => h.elim)) (k0.kpx (fun _ h => h.elim)) ⟨h1, h2, rfl⟩
  case body =>
    rintro l' pre x rest a' V hl' hx ⟨h1, h2, rfl⟩
    have hc5 := (e5.keep h2).cell
    have hb := runs_bound (L := L) (k := k) 0 x (by rw [hx]; simp)
    have H1 : Hid (∀ y ∈ pre, ¬ n ≤ y.2) := h1
    obtain ⟨x1, x2⟩ := x
    dsimp only at hb ⊢
    clear hx h1
    by_cases hle : n ≤ x2
    · have hle' : (n : Int) ≤ (x2 : Int) := by omega
      have v6 := e6.keep h2
      have v7 := e7.keep h2
      have c6 := v6.cell
      have f6 := v6.live
      have c7 := v7.cell
      have f7 := v7.live
      gi_wp2
      have kk : Keeps (fun k => k = g6 ∨ k = g7) V ((V.setCell ⟨g6, 0, none⟩ (.int .i64 (x1 : Int))).setCell ⟨g7, 0, none⟩ (.int .i64 0)) := ((Keeps.refl _ V).setCell (p := ⟨g6, 0, none⟩) (.inl (.inl rfl)) _).setCell (p := ⟨g7, 0, none⟩) (.inl (.inr rfl)) _
      refine ⟨kk.from (fun k hk e => by omega), rfl, ⟨pre, (x1, x2), rfl, H1.out, hle, (v6.set _).set_other (Ne.symm h67) _⟩, (v7.set_other h67 _).set 0, (h2.mono (fun _ _ h => h.elim)).trans kk⟩
    · have hle' : ¬ (n : Int) ≤ (x2 : Int) := by omega
      have Hall : Hid (∀ y ∈ pre ++ [(x1, x2)], ¬ n ≤ y.2) := by
        intro y hy
        rcases List.mem_append.1 hy with hy | hy
        · exact H1.out y hy
        · obtain rfl : y = (x1, x2) := by simpa using hy
          exact hle
      clear hle
      gi_wp2
      have k0 := Keeps.refl (fun _ => False) V
      refine ⟨k0.from (fun _ _ h => h.elim), k0.kpx (fun _ h => h.elim), ?_, h2⟩
      first | exact Hall.out | (intro a b h; exact Hall.out (a, b) h) | (simpa using Hall.out)
  case done =>
    rintro D V hD' ⟨h1, h2⟩ hd
    have hR : Hid (runR L (k : Int) (n : Int) = (0, 14)) := runR_none hn hk hk2 (fnd_out h1)
    have v6 := e6.keep h2
    have v7 := e7.keep h2
    have c6 := v6.cell
    have f6 := v6.live
    have c7 := v7.cell
    have f7 := v7.live
    clear h1
    gi_wp2
    have kk : Keeps (fun k => k = g6 ∨ k = g7) V ((V.setCell ⟨g6, 0, none⟩ (.int .i64 0)).setCell ⟨g7, 0, none⟩ (.int .i64 14)) := ((Keeps.refl _ V).setCell (p := ⟨g6, 0, none⟩) (.inl (.inl rfl)) _).setCell (p := ⟨g7, 0, none⟩) (.inl (.inr rfl)) _
    have hd4 := kk.row hd (by omega)
    refine ⟨by simp, .inl ⟨_, _, rfl, run_takeDeferred hd4, ?_⟩⟩
    refine ⟨_, results_ce rfl _ _ g6 g7 0 14 rfl rfl (((v6.set _).set_other (Ne.symm h67) _).put (by omega) _) (((v7.set_other h67 _).set 14).put (by omega) _), by rw [hR.out], ?_⟩
    exact K5.trans' (((h2.mono (fun _ _ h => h.elim)).trans kk).grown (grownBy_putObj' _ D _) (fun k e => by cases e; exact .inr hD')) (fun k e => .inr (by omega))
  case stop =>
    rintro D cd pre x rest V hD' hx ⟨rfl, ⟨p, y, h2, h3, h4, h5⟩, h6, h7⟩ hd
    obtain ⟨rfl, h8⟩ := List.append_inj' h2 rfl
    obtain rfl : x = y := by simpa using h8
    have hR : Hid (runR L (k : Int) (n : Int) = ((x.1 : Int), 0)) := runR_some hn hk hk2 (fnd_at hx h3 h4)
    clear hx h2 h8
    gi_wp2
    refine ⟨by simp, .inl ⟨_, _, rfl, run_takeDeferred hd, ?_⟩⟩
    refine ⟨_, results_ce rfl _ _ g6 g7 (x.1 : Int) 0 rfl rfl (h5.put (by omega) _) (h6.put (by omega) _), by rw [hR.out], ?_⟩
    exact K5.trans' (h7.grown (grownBy_putObj' V D _) (fun k e => by cases e; exact .inr hD')) (fun k e => .inr (by omega))

theorem run9 (w : World) (L : List B) (hL : L.length = 16) (k n : Int) (hn : -9223372036854775808 ≤ n ∧ n ≤ 9223372036854775807) :
    Calls Try.prog 9 #[.agg (brow L), .int .i64 k, .int .i64 n] w fun e w' => e = .returned (toldR (runR L k n)) ∧ Keeps (fun _ => False) w w' := by
  by_cases h : n < 1 ∨ k < 1 ∨ 128 < k
  · rw [runR_bad h]; exact run9_bad w L hL k n h
  · obtain ⟨k', rfl⟩ : ∃ k' : Nat, k = k' := ⟨k.toNat, by omega⟩
    obtain ⟨n', rfl⟩ : ∃ n' : Nat, n = n' := ⟨n.toNat, by omega⟩
    exact run9_in w L hL k' n' (by omega) (by omega) (by omega) (by omega)

end Go.Proofs.Ytadbgidchojfkaa
