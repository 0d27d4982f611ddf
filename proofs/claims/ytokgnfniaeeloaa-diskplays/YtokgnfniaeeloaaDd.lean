/-
  Read, where it does not come to the loop.
-/
import Derived.Test.YtokgnfniaeeloaaDc
import Derived.Deep.QuietTactic
import Derived.BigQuiet
set_option linter.all false
namespace Go.Proofs.Ytokgnfniaeeloaa
open Go.RowKit
attribute [local go_sem ↓] Go.wp_at_zero Go.wp_at_succ

theorem Keeps.trans' {S T : Nat → Prop} {a b c : World} (h : Keeps S a b) (k : Keeps T b c) (hT : ∀ k, T k → S k ∨ a.heap.size ≤ k) : Keeps S a c :=
  ⟨k.os.trans h.os, k.tape.trans h.tape, k.output.trans h.output, Nat.le_trans h.size k.size,
   fun i hi hs => (k.block i (Nat.lt_of_lt_of_le hi h.size) (fun t => by rcases hT i t with h1 | h1; exact hs h1; omega)).trans (h.block i hi hs)⟩

theorem Keeps.drewN {S : Nat → Prop} {a w : World} (h : Keeps S a w) (n : Nat) : Keeps S a (w.drewN n) :=
  h.trans ⟨rfl, rfl, rfl, Nat.le_refl _, fun _ _ _ => rfl⟩

theorem results_two_cells {fn : Func} {p q : Tmp} {t1 t2 : TypeId} (h : fn.results = #[.cell p t1, .cell q t2]) (tmps : Array Value) (w : World) (g1 g2 : Nat) (cs : Array Value) (u : Value) (tt tt2 : TypeId)
    (hp : tmps.getD p undef = .pointer (some ⟨g1, 0, none⟩)) (hq : tmps.getD q undef = .pointer (some ⟨g2, 0, none⟩))
    (r1 : (loadVar t1 ⟨g1, 0, none⟩).run Try.prog w = .ok (.agg cs) w) (r2 : (loadVar t2 ⟨g2, 0, none⟩).run Try.prog w = .ok u w) :
    (results fn tmps).run Try.prog w = .ok (.tuple #[.agg cs, u]) w := by
  have hp' : tmps[p]?.getD undef = .pointer (some ⟨g1, 0, none⟩) := by simpa using hp
  have hq' : tmps[q]?.getD undef = .pointer (some ⟨g2, 0, none⟩) := by simpa using hq
  simp [results, h, hp', hq', asAddr, r1, r2]

theorem allocs3 (w W : World) (A B C : Obj) (h : ((w.alloc A).alloc B).alloc C = W) :
    W.heap[w.heap.size]? = some A ∧ W.heap[w.heap.size + 1]? = some B ∧ W.heap[w.heap.size + 1 + 1]? = some C ∧ W.heap.size = w.heap.size + 3 ∧ Keeps (fun _ => False) w W := by
  subst h
  have s1 : (w.alloc A).heap.size = w.heap.size + 1 := by simp
  have s2 : ((w.alloc A).alloc B).heap.size = w.heap.size + 1 + 1 := by simp
  refine ⟨?_, ?_, ?_, by simp, (((Keeps.refl _ _).alloc _).alloc _).alloc _⟩
  · rw [Below.heap_alloc _ _ _ (by omega)]; exact heap_alloc2_old w A B
  · rw [Below.heap_alloc _ _ _ (by omega)]; exact heap_alloc2_new w A B
  · rw [← s2]; exact heap_alloc2_x _ C

theorem info26 : (Try.prog.info? 26).map (·.size) = some 1 := by kernel_rfl

theorem load_one (w : World) (g : Nat) (u : Value) (t : TypeId) (h : w.heap[g]? = some (.cells #[u] t (0, 0))) : (loadVar 26 ⟨g, 0, none⟩).run Try.prog w = .ok u w := by
  have hc : w.cell? ⟨g, 0, none⟩ = some u := by simp [World.cell?, h]
  have hu := Try.underlying26
  simp [go_sem, loadVar, hc]

theorem wp_build37 {d : Option Tmp} {tt : TypeId} {ps : String} {af : Array Edge} {a : Act} {w : World} {K : Act → World → Prop} {Q : Exit → Act → World → Prop} :
    Oper.wp Try.prog { dst := d, op := .build 37 #[], type := tt, pos := ps, after := af, guard := none } a w K Q = K (a.put d (.agg (fill 0))) w := by
  have hrun : (Instr.build 37 #[]).run Try.prog w = .ok (.agg (fill 0)) w := by
    unfold Instr.build
    simp only [Sem.run_bind, zero37, Result.andThen_ok, run_underlying Try.underlying37]
    have hs5 : (sizeOf 5).run Try.prog w = .ok 1 w := by simp [go_sem]
    simp [Instr.fill, Value.cells, hs5]
  unfold Oper.wp execOp
  simp only [List.map_toArray, List.map_nil, hrun, Sem.run_bind, Result.andThen_ok, Sem.run_pure]
  rfl

attribute [local go_sem ↓] wp_build37

/-- A whole row is stored; the world behind is a letter. -/
theorem wpList_store_row {ops : Array Oper} {rest : List Oper} {o : Oper} {a : Act} {w : World} {Q : Exit → Act → World → Prop} (hgd : o.guard = none) (ty : TypeId) (x y : Operand) (ho : o.op = .store ty x y)
    (g : Nat) (hx : a.eval x = .pointer (some ⟨g, 0, none⟩)) (new : Array Value) (hy : a.eval y = .agg new) (t : TypeId) (old : Array Value) (hg : w.heap[g]? = some (.cells old t (0, 0)))
    (hi : (Try.prog.info? ty).map (·.size) = some new.size) (hs : old.size = new.size) (h1 : new.all (·.oneCell') = true)
    (h : ∀ w', w'.heap[g]? = some (.cells new t (0, 0)) → Keeps (· = g) w w' → wpList Try.prog ops Q rest (a.put o.dst undef) w') : wpList Try.prog ops Q (o :: rest) a w :=
  wpList_store_all hgd ty x y ho g hx new hy t old hg hi hs h1 (h _ (setRow_heap w g _ _ _ _ hg) ((Keeps.refl (· = g) w).setRow (.inl rfl) _))

set_option maxRecDepth 100000 in
set_option maxHeartbeats 1000000 in
theorem read_neg (w : World) (po : Option Addr) (i : Int) (hi : i < 0) :
    Calls Try.prog 17 #[.pointer po, .int .i64 i] w fun e w' => e = .returned (.tuple #[.agg (fill 0), .int .i64 1]) ∧ Keeps (fun _ => False) w w' := by
  have hz := zero37
  have hs1 : (Try.prog.info? 37).map (·.size) = some (fill 0).size := by rw [size_fill]; exact size37
  have hone := fill_one 0
  go_enter Try.func17, Try.ntmps17
  go_wp2
  obtain ⟨W0, hW0⟩ : ∃ W0, ((w.alloc (.cells #[.int .i64 i] 3)).alloc (.cells (fill 0) 37)).alloc (.cells #[.int .i64 0] 26) = W0 := ⟨_, rfl⟩
  rw [hW0]
  obtain ⟨g0, g1, g2, hsz, hK⟩ := allocs3 w W0 _ _ _ hW0
  clear hW0
  have c0 : W0.cell? ⟨w.heap.size, 0, none⟩ = some (.int .i64 i) := by simp [World.cell?, g0]
  have c2 : W0.cell? ⟨w.heap.size + 1 + 1, 0, none⟩ = some (.int .i64 0) := by simp [World.cell?, g2]
  have f2 := frozen_of_row W0 _ 0 _ _ g2
  go_quiet (fail)
  go_wp2_with (refine wpList_store_row rfl 37 _ _ rfl (w.heap.size + 1) rfl (fill 0) rfl 37 (fill 0) (by simpa using g1) hs1 rfl hone ?_; intro w1 n1 k1; have n2 : w1.heap[w.heap.size + 1 + 1]? = some (.cells #[.int .i64 0] 26 (0, 0)) := (k1.block _ (by simp <;> omega) (by omega)).trans (by simpa using g2); have c2 : w1.cell? ⟨w.heap.size + 1 + 1, 0, none⟩ = some (.int .i64 0) := (by simp [World.cell?, n2]); have f2 := frozen_of_row w1 _ 0 _ _ n2)
  have n1' : (w1.setCell ⟨w.heap.size + 1 + 1, 0, none⟩ (.int .i64 1)).heap[w.heap.size + 1]? = some (.cells (fill 0) 37 (0, 0)) := by rw [heap_setCell_other _ _ _ _ (by simp)]; exact n1
  have n2' : (w1.setCell ⟨w.heap.size + 1 + 1, 0, none⟩ (.int .i64 1)).heap[w.heap.size + 1 + 1]? = some (.cells #[.int .i64 1] 26 (0, 0)) := by rw [heap_setCell_same _ _ _ _ _ _ n2]; rfl
  refine bodyPost_ret (v := .tuple #[.agg (fill 0), .int .i64 1]) ?_ rfl ⟨rfl, ?_⟩
  · exact results_two_cells rfl _ _ (w.heap.size + 1) (w.heap.size + 1 + 1) (fill 0) _ 37 26 rfl rfl (run_loadVar_row _ _ 37 37 _ (0, 0) _ n1' Try.underlying37 rfl hs1) (load_one _ _ _ _ n2')
  · have k0 : Keeps (fun _ => False) w (W0.drewN nq) := hK.drewN _
    exact (k0.trans' k1 (fun k e => .inr (by omega))).setCell (p := ⟨w.heap.size + 1 + 1, 0, none⟩) (.inr (by simp <;> omega)) _

set_option maxRecDepth 100000 in
set_option maxHeartbeats 1000000 in
theorem read_nil (w : World) (i : Int) (hi : 0 ≤ i) :
    Calls Try.prog 17 #[.pointer none, .int .i64 i] w fun e w' => e = .returned (.tuple #[.agg (fill 0), .int .i64 1]) ∧ Keeps (fun _ => False) w w' := by
  have hz := zero37
  have h0 : ¬ i < 0 := by omega
  have h0b : decide (i < 0) = false := by simpa using hi
  have hs1 : (Try.prog.info? 37).map (·.size) = some (fill 0).size := by rw [size_fill]; exact size37
  have hone := fill_one 0
  go_enter Try.func17, Try.ntmps17
  go_wp2
  obtain ⟨W0, hW0⟩ : ∃ W0, ((w.alloc (.cells #[.int .i64 i] 3)).alloc (.cells (fill 0) 37)).alloc (.cells #[.int .i64 0] 26) = W0 := ⟨_, rfl⟩
  rw [hW0]
  obtain ⟨g0, g1, g2, hsz, hK⟩ := allocs3 w W0 _ _ _ hW0
  clear hW0
  have c0 : W0.cell? ⟨w.heap.size, 0, none⟩ = some (.int .i64 i) := by simp [World.cell?, g0]
  have c2 : W0.cell? ⟨w.heap.size + 1 + 1, 0, none⟩ = some (.int .i64 0) := by simp [World.cell?, g2]
  have f2 := frozen_of_row W0 _ 0 _ _ g2
  go_quiet ((go_at_call 25; exact Calls.quiet_of_same (len_nil _)))
  go_wp2_with (refine wpList_store_row rfl 37 _ _ rfl (w.heap.size + 1) rfl (fill 0) rfl 37 (fill 0) (by simpa using g1) hs1 rfl hone ?_; intro w1 n1 k1; have n2 : w1.heap[w.heap.size + 1 + 1]? = some (.cells #[.int .i64 0] 26 (0, 0)) := (k1.block _ (by simp <;> omega) (by omega)).trans (by simpa using g2); have c2 : w1.cell? ⟨w.heap.size + 1 + 1, 0, none⟩ = some (.int .i64 0) := (by simp [World.cell?, n2]); have f2 := frozen_of_row w1 _ 0 _ _ n2)
  have n1' : (w1.setCell ⟨w.heap.size + 1 + 1, 0, none⟩ (.int .i64 1)).heap[w.heap.size + 1]? = some (.cells (fill 0) 37 (0, 0)) := by rw [heap_setCell_other _ _ _ _ (by simp)]; exact n1
  have n2' : (w1.setCell ⟨w.heap.size + 1 + 1, 0, none⟩ (.int .i64 1)).heap[w.heap.size + 1 + 1]? = some (.cells #[.int .i64 1] 26 (0, 0)) := by rw [heap_setCell_same _ _ _ _ _ _ n2]; rfl
  refine bodyPost_ret (v := .tuple #[.agg (fill 0), .int .i64 1]) ?_ rfl ⟨rfl, ?_⟩
  · exact results_two_cells rfl _ _ (w.heap.size + 1) (w.heap.size + 1 + 1) (fill 0) _ 37 26 rfl rfl (run_loadVar_row _ _ 37 37 _ (0, 0) _ n1' Try.underlying37 rfl hs1) (load_one _ _ _ _ n2')
  · have k0 : Keeps (fun _ => False) w (W0.drewN nq) := hK.drewN _
    exact (k0.trans' k1 (fun k e => .inr (by omega))).setCell (p := ⟨w.heap.size + 1 + 1, 0, none⟩) (.inr (by simp <;> omega)) _

set_option maxRecDepth 100000 in
set_option maxHeartbeats 1000000 in
theorem read_out (w : World) (p : Nat) (a : Option Addr) (n c : Nat) (vl : Value) (F : Int) (dn : Bool) (dc : Int) (hD : DiskAt w p (.slice a n c) vl F dn dc) (i : Int) (hi : 0 ≤ i) (hn : (n : Int) ≤ i) :
    Calls Try.prog 17 #[.pointer (some ⟨p, 0, none⟩), .int .i64 i] w fun e w' => e = .returned (.tuple #[.agg (fill 0), .int .i64 1]) ∧ Keeps (fun _ => False) w w' := by
  have hz := zero37
  have h0 : ¬ i < 0 := by omega
  have h0b : decide (i < 0) = false := by simpa using hi
  have hs1 : (Try.prog.info? 37).map (·.size) = some (fill 0).size := by rw [size_fill]; exact size37
  have hone := fill_one 0
  go_enter Try.func17, Try.ntmps17
  go_wp2
  obtain ⟨W0, hW0⟩ : ∃ W0, ((w.alloc (.cells #[.int .i64 i] 3)).alloc (.cells (fill 0) 37)).alloc (.cells #[.int .i64 0] 26) = W0 := ⟨_, rfl⟩
  rw [hW0]
  obtain ⟨g0, g1, g2, hsz, hK⟩ := allocs3 w W0 _ _ _ hW0
  clear hW0
  have c0 : W0.cell? ⟨w.heap.size, 0, none⟩ = some (.int .i64 i) := by simp [World.cell?, g0]
  have c2 : W0.cell? ⟨w.heap.size + 1 + 1, 0, none⟩ = some (.int .i64 0) := by simp [World.cell?, g2]
  have f2 := frozen_of_row W0 _ 0 _ _ g2
  have hD0 : DiskAt W0 p (.slice a n c) vl F dn dc := hD.kept hK (fun h => h)
  go_quiet ((go_at_call 25; exact Calls.quiet_of_same (len_any _ p a n c vl F dn dc (by simpa [DiskAt] using hD0))))
  go_wp2_with (refine wpList_store_row rfl 37 _ _ rfl (w.heap.size + 1) rfl (fill 0) rfl 37 (fill 0) (by simpa using g1) hs1 rfl hone ?_; intro w1 n1 k1; have n2 : w1.heap[w.heap.size + 1 + 1]? = some (.cells #[.int .i64 0] 26 (0, 0)) := (k1.block _ (by simp <;> omega) (by omega)).trans (by simpa using g2); have c2 : w1.cell? ⟨w.heap.size + 1 + 1, 0, none⟩ = some (.int .i64 0) := (by simp [World.cell?, n2]); have f2 := frozen_of_row w1 _ 0 _ _ n2)
  have n1' : (w1.setCell ⟨w.heap.size + 1 + 1, 0, none⟩ (.int .i64 1)).heap[w.heap.size + 1]? = some (.cells (fill 0) 37 (0, 0)) := by rw [heap_setCell_other _ _ _ _ (by simp)]; exact n1
  have n2' : (w1.setCell ⟨w.heap.size + 1 + 1, 0, none⟩ (.int .i64 1)).heap[w.heap.size + 1 + 1]? = some (.cells #[.int .i64 1] 26 (0, 0)) := by rw [heap_setCell_same _ _ _ _ _ _ n2]; rfl
  refine bodyPost_ret (v := .tuple #[.agg (fill 0), .int .i64 1]) ?_ rfl ⟨rfl, ?_⟩
  · exact results_two_cells rfl _ _ (w.heap.size + 1) (w.heap.size + 1 + 1) (fill 0) _ 37 26 rfl rfl (run_loadVar_row _ _ 37 37 _ (0, 0) _ n1' Try.underlying37 rfl hs1) (load_one _ _ _ _ n2')
  · have k0 : Keeps (fun _ => False) w (W0.drewN nq) := hK.drewN _
    exact (k0.trans' k1 (fun k e => .inr (by omega))).setCell (p := ⟨w.heap.size + 1 + 1, 0, none⟩) (.inr (by simp <;> omega)) _

set_option maxRecDepth 100000 in
set_option maxHeartbeats 1000000 in
theorem read_down (w : World) (p : Nat) (a : Option Addr) (n c : Nat) (vl : Value) (F : Int) (dc : Int) (hD : DiskAt w p (.slice a n c) vl F true dc) (i : Int) (hi : 0 ≤ i) (hn : i < (n : Int)) :
    Calls Try.prog 17 #[.pointer (some ⟨p, 0, none⟩), .int .i64 i] w fun e w' => e = .returned (.tuple #[.agg (fill 0), .int .i64 12]) ∧ Keeps (fun _ => False) w w' := by
  have hz := zero37
  have h0 : ¬ i < 0 := by omega
  have hn' : ¬ (n : Int) ≤ i := by omega
  have hnb : decide ((n : Int) ≤ i) = false := by simpa using hn
  have h0b : decide (i < 0) = false := by simpa using hi
  have hs1 : (Try.prog.info? 37).map (·.size) = some (fill 0).size := by rw [size_fill]; exact size37
  have hone := fill_one 0
  go_enter Try.func17, Try.ntmps17
  go_wp2
  obtain ⟨W0, hW0⟩ : ∃ W0, ((w.alloc (.cells #[.int .i64 i] 3)).alloc (.cells (fill 0) 37)).alloc (.cells #[.int .i64 0] 26) = W0 := ⟨_, rfl⟩
  rw [hW0]
  obtain ⟨g0, g1, g2, hsz, hK⟩ := allocs3 w W0 _ _ _ hW0
  clear hW0
  have c0 : W0.cell? ⟨w.heap.size, 0, none⟩ = some (.int .i64 i) := by simp [World.cell?, g0]
  have c2 : W0.cell? ⟨w.heap.size + 1 + 1, 0, none⟩ = some (.int .i64 0) := by simp [World.cell?, g2]
  have f2 := frozen_of_row W0 _ 0 _ _ g2
  have hD0 : DiskAt W0 p (.slice a n c) vl F true dc := hD.kept hK (fun h => h)
  have c3 := hD0.cells.2.2.2.1
  go_quiet ((go_at_call 25; exact Calls.quiet_of_same (len_any _ p a n c vl F true dc (by simpa [DiskAt] using hD0))))
  go_wp2_with (refine wpList_store_row rfl 37 _ _ rfl (w.heap.size + 1) rfl (fill 0) rfl 37 (fill 0) (by simpa using g1) hs1 rfl hone ?_; intro w1 n1 k1; have n2 : w1.heap[w.heap.size + 1 + 1]? = some (.cells #[.int .i64 0] 26 (0, 0)) := (k1.block _ (by simp <;> omega) (by omega)).trans (by simpa using g2); have c2 : w1.cell? ⟨w.heap.size + 1 + 1, 0, none⟩ = some (.int .i64 0) := (by simp [World.cell?, n2]); have f2 := frozen_of_row w1 _ 0 _ _ n2)
  have n1' : (w1.setCell ⟨w.heap.size + 1 + 1, 0, none⟩ (.int .i64 12)).heap[w.heap.size + 1]? = some (.cells (fill 0) 37 (0, 0)) := by rw [heap_setCell_other _ _ _ _ (by simp)]; exact n1
  have n2' : (w1.setCell ⟨w.heap.size + 1 + 1, 0, none⟩ (.int .i64 12)).heap[w.heap.size + 1 + 1]? = some (.cells #[.int .i64 12] 26 (0, 0)) := by rw [heap_setCell_same _ _ _ _ _ _ n2]; rfl
  refine bodyPost_ret (v := .tuple #[.agg (fill 0), .int .i64 12]) ?_ rfl ⟨rfl, ?_⟩
  · exact results_two_cells rfl _ _ (w.heap.size + 1) (w.heap.size + 1 + 1) (fill 0) _ 37 26 rfl rfl (run_loadVar_row _ _ 37 37 _ (0, 0) _ n1' Try.underlying37 rfl hs1) (load_one _ _ _ _ n2')
  · have k0 : Keeps (fun _ => False) w (W0.drewN nq) := hK.drewN _
    exact (k0.trans' k1 (fun k e => .inr (by omega))).setCell (p := ⟨w.heap.size + 1 + 1, 0, none⟩) (.inr (by simp <;> omega)) _

end Go.Proofs.Ytokgnfniaeeloaa
