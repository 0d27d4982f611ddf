/-
  The reference's Write.
-/
import Derived.Test.YtokgnfniaeeloaaTa
set_option linter.all false
namespace Go.Proofs.Ytokgnfniaeeloaa
open Go.RowKit
attribute [local go_sem ↓] Go.wp_at_zero Go.wp_at_succ

set_option maxHeartbeats 400000 in
theorem rwrite_out (w : World) (p : Nat) (a : Option Addr) (n c : Nat) (vl : Value) (F : Int) (dn : Bool) (dc : Int) (hD : RefAt w p (.slice a n c) vl F dn dc) (i : Int) (b : Array Value) (hi : ¬ (0 ≤ i ∧ i < (n : Int))) :
    Calls Try.prog 16 #[.pointer (some ⟨p, 0, none⟩), .int .i64 i, .agg b] w fun e w' => e = .returned (.int .i64 1) ∧ Keeps (fun _ => False) w w' := by
  have hdec : decide (0 ≤ i ∧ i < (n : Int)) = false := decide_eq_false hi
  clear hi
  go_enter Try.func16, Try.ntmps16
  go_wp2_with (go_at_call 30; refine (has_any _ p a n c vl F dn dc (hD.alloc _) i).mono ?_; rw [hdec]; rintro e w' ⟨rfl, rfl⟩)
  go_ret
  exact ⟨rfl, (Keeps.refl _ _).alloc _⟩

set_option maxHeartbeats 400000 in
theorem rwrite_down (w : World) (p : Nat) (a : Option Addr) (n c : Nat) (vl : Value) (F : Int) (dn : Bool) (dc : Int) (hD : RefAt w p (.slice a n c) vl F dn dc) (i : Int) (b : Array Value) (hi : 0 ≤ i ∧ i < (n : Int)) (hd : F = 0 ∨ dn = true) :
    Calls Try.prog 16 #[.pointer (some ⟨p, 0, none⟩), .int .i64 i, .agg b] w fun e w' => e = .returned (.int .i64 12) ∧ RefAt w' p (.slice a n c) vl F true dc ∧ Keeps (· = p) w w' := by
  have hdec : decide (0 ≤ i ∧ i < (n : Int)) = true := decide_eq_true hi
  clear hi
  go_enter Try.func16, Try.ntmps16
  go_wp2_with (first | (go_at_call 30; refine (has_any _ p a n c vl F dn dc (hD.alloc _) i).mono ?_; rw [hdec]; rintro e w' ⟨rfl, rfl⟩) | (go_at_call 31; refine (goes_down _ p _ vl F dn dc (hD.alloc _) hd).mono ?_; rintro e w1 ⟨rfl, hD1, hK1⟩))
  go_ret
  exact ⟨rfl, hD1, ((Keeps.refl _ _).alloc _).trans (hK1.mono (fun k _ e => e))⟩

theorem info68 : (Try.prog.info? 68).map (fun i => (i.zero, i.size, i.bytes)) = some (some (.agg wzero), 129, 136) := by kernel_rfl
theorem zero68 (w : World) : (zeroValue 68).run Try.prog w = .ok (.agg wzero) w := (zero_of_info (show (Try.prog.info? 68).map (fun i => (i.zero, i.size)) = some (some (.agg wzero), 129) by kernel_rfl)).1 w
theorem wp_buildSlice49 {d : Option Tmp} {x : Operand} {ty : TypeId} {ps : String} {af : Array Edge} {a : Act} {w : World} {K : Act → World → Prop} {Q : Exit → Act → World → Prop} (h : (a.eval x).cells.size = 129) :
    Oper.wp Try.prog { dst := d, op := .buildSlice 49 1 #[(0, x)], type := ty, pos := ps, after := af, guard := none } a w K Q =
      K (a.put d (.slice (some ⟨w.heap.size, 0, none⟩) 1 1)) (w.alloc (.cells (a.eval x).cells 68)) := by
  obtain ⟨i0, hi0, hz0, hz1, hz2⟩ := info_parts info68
  have hrun : (Instr.buildSlice 49 1 #[(0, a.eval x)]).run Try.prog w = .ok (.slice (some ⟨w.heap.size, 0, none⟩) 1 1) (w.alloc (.cells (a.eval x).cells 68)) := by
    unfold Instr.buildSlice
    have hf := fold_all (a.eval x).cells ((Array.range (1 * 129)).map ((Value.agg wzero).cells[· % (Value.agg wzero).cells.size]!)) (by simp [h])
    have hfill : Instr.fill (fun i => some (i * 129, 129)) ((Array.range (1 * 129)).map ((Value.agg wzero).cells[· % (Value.agg wzero).cells.size]!)) [(0, a.eval x)] = some (a.eval x).cells := by
      unfold Instr.fill Instr.fill
      simp only [Nat.zero_mul]
      rw [if_neg (by simp [h]), hf]
    have hsize : (sizeOf 68).run Try.prog w = .ok 129 w := by simp [sizeOf, typeInfo, hi0, hz1]
    simp only [Sem.run_bind, run_underlying Try.underlying49, hsize, Result.andThen_ok]
    rw [if_neg (by decide), if_neg (by decide)]
    simp only [Sem.run_bind, zero68, Result.andThen_ok, Sem.run_pure, hfill]
    simp [newRow]
  unfold Oper.wp execOp
  simp only [List.map_toArray, List.map_cons, List.map_nil, hrun, Sem.run_bind, Result.andThen_ok, Sem.run_pure]
  rfl


attribute [local go_sem ↓] wp_buildSlice49 wp_load37
attribute [local go_sem] addrOf cellsAt_drew cellsAt_drewN cellsAt_alloc

set_option maxRecDepth 100000 in
set_option maxHeartbeats 1000000 in
theorem rwrite_goes (w : World) (p : Nat) (a : Option Addr) (n c : Nat) (vl : Value) (F : Int) (dc : Int) (hD : RefAt w p (.slice a n c) vl F false dc) (k : Nat) (xs : List Value) (hown : w.ownsRow 0 68 129 vl k xs) (hpv : vl.ownBlock ≠ some p)
    (i : Int) (b : List Value) (hb : b.length = 128) (h1 : ∀ v ∈ b, v.oneCell' = true) (hi : 0 ≤ i) (hn : i < (n : Int)) (hF : F ≠ 0) (hlo : -9223372036854775808 ≤ F) (hhi : F ≤ 9223372036854775807) (hd0 : 0 ≤ dc) (hd1 : dc < 1000000) (hk : k < 1000000) :
    Calls Try.prog 16 #[.pointer (some ⟨p, 0, none⟩), .int .i64 i, .agg b.toArray] w fun e w' => e = .returned (.int .i64 0) ∧ ∃ g cap, RefAt w' p (.slice a n c) (.slice (some ⟨g, 0, none⟩) (k + 1) cap) (burnt F) false (dc + 1) ∧
      w'.ownsRow 0 68 129 (.slice (some ⟨g, 0, none⟩) (k + 1) cap) (k + 1) (xs ++ (.int .i64 i :: b)) ∧ (vl.ownBlock = some g ∨ w.heap.size ≤ g) ∧ Keeps (fun j => j = p ∨ vl.ownBlock = some j) w w' := by
  have h0 : ¬ i < 0 := by omega
  have hni : ¬ (n : Int) ≤ i := by omega
  obtain ⟨i0, hi0, hz0, hz1, hz2⟩ := info_parts info68
  have hpl := hD.lt
  have hdec : decide (0 ≤ i ∧ i < (n : Int)) = true := by simp; omega
  have hvl := hown.lt
  go_enter Try.func16, Try.ntmps16
  go_wp2_with (first | (go_at_call 30; refine (has_any _ p a n c vl F false dc (hD.alloc _) i).mono ?_; rw [hdec]; rintro e w' ⟨rfl, rfl⟩) | (go_at_call 31; refine (goes_goes _ p _ vl F dc (hD.alloc _) hF hlo hhi hd0 hd1).mono ?_; rintro e w1 ⟨rfl, hD1, hK1⟩))
  have hbox : w1.heap[w.heap.size]? = some (.cells b.toArray 37 (0, 0)) := (hK1.block _ (by simp) (by omega)).trans (heap_alloc2_x w _)
  have hrange : w1.rangeAt w.heap.size 0 b := fun j v hv => by
    rw [cell_of_row w1 _ _ _ _ _ hbox]; simpa using hv
  have hown1 : w1.ownsRow 0 68 129 vl k xs := ownsRow_keeps (hown.alloc _) hK1 (fun g e he => hpv (by rw [e, he]))
  have hsz1 := hK1.size
  simp only [World.size_alloc] at hsz1
  obtain ⟨c0, c1, c2, c3, c4⟩ := hD1.cells
  have f1 := hD1.free 1
  have hu := Try.underlying37
  have hi37 : (Try.prog.info? 37).map (·.size) = some b.length := by rw [hb]; exact size37
  clear c0 c2 c3 c4
  have hz68 := zero68
  have hw0 := wzero_ne
  have hw1 := size_wzero
  have hfold : List.foldl (fun (cs : Array Value) (x : Value × Nat) => cs.setIfInBounds (1 + x.snd) x.fst) (wzero.setIfInBounds 0 (.int .i64 i)) b.zipIdx = (.int .i64 i :: b).toArray := by
    rw [show wzero.setIfInBounds 0 (.int .i64 i) = ((.int .i64 i : Value) :: (fill 0).toList).toArray by simp [wzero]]
    exact fold_part _ _ _ (by simp [size_fill, hb])
  have hlen : ((.int .i64 i : Value) :: b).length = 1 * 129 := by simp [hb]
  have hone : ∀ u ∈ ((.int .i64 i : Value) :: b), u.oneCell' = true := by
    intro u hu
    rcases List.mem_cons.1 hu with rfl | hu
    · rfl
    · exact h1 u hu
  have hmx : k + 1 ≤ maxLen := by simp only [maxLen]; omega
  have hby : (k + 1) * 136 ≤ 140737488355328 := by omega
  have hca : cellsAt w1 w.heap.size 0 128 = b.toArray := by
    rw [cellsAt, rowOf_of hbox]; simp [← hb]
  clear hrange hbox hu hi37
  have c1a : ∀ o, (w1.alloc o).cell? ⟨p, 1, none⟩ = some vl := fun o => (hD1.alloc o).cells.2.1
  go_region_law ((refine step_append_lies _ (by rfl) _ _ _ (by rfl) 0 68 i0 _ 129 136 Try.underlying49 hi0 hz0 hz1 hz2 (by exact size_wzero) (by omega) vl k xs (by rfl) ((hown1.alloc _).drew) ⟨w1.heap.size, 0, none⟩ 1 1 (.int .i64 i :: b) (by rfl) hlen (World.news_of_block (cs := ((.int .i64 i : Value) :: b).toArray) (t := 68) (fr := (0, 0)) (heap_alloc2_x w1 _)) hone (by omega) hmx hby (by simp) (w1.heap.size + 1) (by simp) ?_; intro g cap w2 hown2 hgrow hat hlt; have hD2 : RefAt w2 p (.slice a n c) vl (burnt F) false (dc + 1) := (hgrow.block p (by simp; omega) (Ne.symm hpv)).trans (hD1.alloc _); have c2 := hD2.cells.2.1; have f2 := hD2.free 1))
  all_goals go_wp2
  all_goals go_ret
  all_goals
    have hgp : g ≠ p := by
      rcases hat with e | e
      · rintro rfl; exact hpv e
      · omega
    refine ⟨rfl, g, cap, hD2.set1 _, ?_, ?_, ?_⟩
    · exact ownsRow_keeps hown2 ((Keeps.refl (· = p) w2).at 1 _) (fun g' e he => hgp (by simp [Value.ownBlock] at e; omega))
    · rcases hat with e | e
      · exact .inl e
      · exact .inr (by omega)
    · have k1 : Keeps (fun j => j = p ∨ vl.ownBlock = some j) w w1 := ((Keeps.refl _ _).alloc _).trans (hK1.mono (fun k _ e => .inl e))
      exact ((((k1.alloc _).drew).grown hgrow (fun k e => .inl (.inr e))).setCell (p := ⟨p, 1, none⟩) (.inl (.inl rfl)) _)

end Go.Proofs.Ytokgnfniaeeloaa
