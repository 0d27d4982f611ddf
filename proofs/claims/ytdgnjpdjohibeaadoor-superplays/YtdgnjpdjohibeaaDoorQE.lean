/-
  Packed texts: DTa, DTb, DTc, DTd, DTe.
-/
import Derived.Test.YtdgnjpdjohibeaaDoorQD
set_option linter.all false
set_option maxRecDepth 100000
namespace Go.Proofs.YtdgnjpdjohibeaaDoor

/-! DTa: The reference's New, has, goes, Write. -/
section
open Go.RowKit Go.Shelf

/-- The reference's struct lies in block p: its five fields. -/
def RefAt (w : World) (p : Nat) (vb vl : Value) (F : Int) (dn : Bool) (dc : Int) : Prop :=
  w.heap[p]? = some (.cells #[vb, vl, .int .i64 F, .bool dn, .int .i64 dc] 63 (0, 0))

theorem RefAt.cells {w : World} {p : Nat} {vb vl : Value} {F : Int} {dn : Bool} {dc : Int} (h : RefAt w p vb vl F dn dc) :
    w.cell? ⟨p, 0, none⟩ = some vb ∧ w.cell? ⟨p, 1, none⟩ = some vl ∧ w.cell? ⟨p, 2, none⟩ = some (.int .i64 F) ∧ w.cell? ⟨p, 3, none⟩ = some (.bool dn) ∧ w.cell? ⟨p, 4, none⟩ = some (.int .i64 dc) := by
  refine ⟨?_, ?_, ?_, ?_, ?_⟩ <;> simp [World.cell?, show w.heap[p]? = _ from h]

theorem RefAt.free {w : World} {p : Nat} {vb vl : Value} {F : Int} {dn : Bool} {dc : Int} (h : RefAt w p vb vl F dn dc) (j : Nat) : w.frozen? ⟨p, j, none⟩ = false :=
  frozen_of_row w p j _ _ h

theorem RefAt.lt {w : World} {p : Nat} {vb vl : Value} {F : Int} {dn : Bool} {dc : Int} (h : RefAt w p vb vl F dn dc) : p < w.heap.size := (Array.getElem?_eq_some_iff.1 h).1
theorem RefAt.kept {w w' : World} {S : Nat → Prop} {p : Nat} {vb vl : Value} {F : Int} {dn : Bool} {dc : Int} (h : RefAt w p vb vl F dn dc) (hk : Keeps S w w') (hp : ¬ S p) : RefAt w' p vb vl F dn dc :=
  (hk.block p h.lt hp).trans h

theorem RefAt.set1 {w : World} {p : Nat} {vb vl : Value} {F : Int} {dn : Bool} {dc : Int} (h : RefAt w p vb vl F dn dc) (u : Value) : RefAt (w.setCell ⟨p, 1, none⟩ u) p vb u F dn dc := by
  unfold RefAt; rw [heap_setCell_same w p 1 _ _ u h]; rfl
theorem RefAt.set2 {w : World} {p : Nat} {vb vl : Value} {F : Int} {dn : Bool} {dc : Int} (h : RefAt w p vb vl F dn dc) (u : Int) : RefAt (w.setCell ⟨p, 2, none⟩ (.int .i64 u)) p vb vl u dn dc := by
  unfold RefAt; rw [heap_setCell_same w p 2 _ _ _ h]; rfl
theorem RefAt.set3 {w : World} {p : Nat} {vb vl : Value} {F : Int} {dn : Bool} {dc : Int} (h : RefAt w p vb vl F dn dc) (u : Bool) : RefAt (w.setCell ⟨p, 3, none⟩ (.bool u)) p vb vl F u dc := by
  unfold RefAt; rw [heap_setCell_same w p 3 _ _ _ h]; rfl
theorem RefAt.set4 {w : World} {p : Nat} {vb vl : Value} {F : Int} {dn : Bool} {dc : Int} (h : RefAt w p vb vl F dn dc) (u : Int) : RefAt (w.setCell ⟨p, 4, none⟩ (.int .i64 u)) p vb vl F dn u := by
  unfold RefAt; rw [heap_setCell_same w p 4 _ _ _ h]; rfl


theorem RefAt.alloc {w : World} {p : Nat} {vb vl : Value} {F : Int} {dn : Bool} {dc : Int} (h : RefAt w p vb vl F dn dc) (o : Obj) : RefAt (w.alloc o) p vb vl F dn dc :=
  (Below.heap_alloc w o p h.lt).trans h

theorem has_any (w : World) (p : Nat) (a : Option Addr) (n c : Nat) (vl : Value) (F : Int) (dn : Bool) (dc : Int) (h : RefAt w p (.slice a n c) vl F dn dc) (i : Int) :
    Calls Tryd.prog 44 #[.pointer (some ⟨p, 0, none⟩), .int .i64 i] w fun e w' => e = .returned (.bool (decide (0 ≤ i ∧ i < (n : Int)))) ∧ w' = w := by
  obtain ⟨h0, h1, h2, h3, h4⟩ := h.cells
  by_cases hi : 0 ≤ i
  · by_cases hn : i < (n : Int)
    · rw [show decide (0 ≤ i ∧ i < (n : Int)) = true by simp [hi, hn]]
      go_enter Tryd.func44, Tryd.ntmps44
      go_wp2
      go_ret
      exact ⟨rfl, rfl⟩
    · rw [show decide (0 ≤ i ∧ i < (n : Int)) = false by simp [hn]]
      go_enter Tryd.func44, Tryd.ntmps44
      go_wp2
      go_ret
      exact ⟨rfl, rfl⟩
  · rw [show decide (0 ≤ i ∧ i < (n : Int)) = false by simp [hi]]
    go_enter Tryd.func44, Tryd.ntmps44
    go_wp2
    go_ret
    exact ⟨rfl, rfl⟩

theorem goes_down (w : World) (p : Nat) (vb vl : Value) (F : Int) (dn : Bool) (dc : Int) (h : RefAt w p vb vl F dn dc) (hd : F = 0 ∨ dn = true) :
    Calls Tryd.prog 45 #[.pointer (some ⟨p, 0, none⟩)] w fun e w' => e = .returned (.bool false) ∧ RefAt w' p vb vl F true dc ∧ Keeps (· = p) w w' := by
  obtain ⟨h0, h1, h2, h3, h4⟩ := h.cells
  have hf := h.free 3
  have hs := h.set3 true
  have c3' := hs.cells.2.2.2.1
  cases dn with
  | true =>
    clear hd
    go_enter Tryd.func45, Tryd.ntmps45
    go_wp2
    go_ret
    exact ⟨rfl, h.set3 true, (Keeps.refl _ _).at 3 _⟩
  | false =>
    obtain rfl : F = 0 := by simpa using hd
    clear hd
    go_enter Tryd.func45, Tryd.ntmps45
    go_wp2
    go_ret
    exact ⟨rfl, h.set3 true, (Keeps.refl _ _).at 3 _⟩

theorem goes_goes (w : World) (p : Nat) (vb vl : Value) (F : Int) (dc : Int) (h : RefAt w p vb vl F false dc) (hF : F ≠ 0) (hlo : -9223372036854775808 ≤ F) (hhi : F ≤ 9223372036854775807) (hd0 : 0 ≤ dc) (hd1 : dc < 1000000) :
    Calls Tryd.prog 45 #[.pointer (some ⟨p, 0, none⟩)] w fun e w' => e = .returned (.bool true) ∧ RefAt w' p vb vl (burnt F) false (dc + 1) ∧ Keeps (· = p) w w' := by
  obtain ⟨h0, h1, h2, h3, h4⟩ := h.cells
  have hf := h.free 2
  have hf3 := h.free 3
  have hf4 := h.free 4
  have hs := h.set3 false
  have c3' := hs.cells.2.2.2.1
  have hF' : (F == 0) = false := by simpa using hF
  clear hF
  by_cases hpos : 0 < F
  · go_enter Tryd.func45, Tryd.ntmps45
    go_wp2
    go_ret
    refine ⟨rfl, ?_, (((Keeps.refl _ _).at 3 _).at 2 _).at 4 _⟩
    rw [show burnt F = F - 1 by simp [burnt, hpos]]
    exact (hs.set2 _).set4 _
  · go_enter Tryd.func45, Tryd.ntmps45
    go_wp2
    go_ret
    refine ⟨rfl, ?_, ((Keeps.refl _ _).at 3 _).at 4 _⟩
    rw [show burnt F = F by unfold burnt; rw [if_neg (by omega)]]
    exact (hs.set4 _)

set_option maxHeartbeats 400000 in
theorem rnew_no (n : Int) (w : World) (h : n < 16 ∨ 128 < n) :
    Calls Tryd.prog 19 #[.int .i64 n] w fun e w' => e = .returned (.tuple #[.pointer none, .int .i64 1]) ∧ w' = w := by
  rcases h with h | h
  · go_enter Tryd.func19, Tryd.ntmps19
    go_wp2
    go_ret2
    exact ⟨rfl, rfl⟩
  · have h' : ¬ n < 16 := by omega
    go_enter Tryd.func19, Tryd.ntmps19
    go_wp2
    go_ret2
    exact ⟨rfl, rfl⟩

theorem info51 : (Tryd.prog.info? 63).map (fun i => (i.zero, i.size)) = some (some (.agg #[.slice none 0 0, .slice none 0 0, .int .i64 0, .bool false, .int .i64 0]), 5) := by kernel_rfl

set_option maxHeartbeats 400000 in
theorem rnew_yes (n : Nat) (w : World) (h : 16 ≤ n) (h2 : n ≤ 128) :
    Calls Tryd.prog 19 #[.int .i64 n] w fun e w' => e = .returned (.tuple #[.pointer (some ⟨w.heap.size + 1, 0, none⟩), .int .i64 0]) ∧
      RefAt w' (w.heap.size + 1) (.slice (some ⟨w.heap.size, 0, none⟩) n n) (.slice none 0 0) (-1) false 0 ∧ w'.heap[w.heap.size]? = some (.cells (zeros n) 30 (0, 0)) ∧ w'.heap.size = w.heap.size + 2 ∧ Keeps (fun _ => False) w w' := by
  have h' : ¬ (n : Int) < 16 := by omega
  have h2' : ¬ 128 < (n : Int) := by omega
  have hm := make48 n h2
  go_enter Tryd.func19, Tryd.ntmps19
  go_wp2
  go_ret2
  refine ⟨rfl, ?_, heap_alloc2_old w _ _, by simp, ((Keeps.refl _ _).alloc _).alloc _⟩
  exact heap_alloc2_new w _ _
end

/-! DTb: The reference's Write. -/
section
open Go.RowKit
attribute [local go_sem ↓] Go.wp_at_zero Go.wp_at_succ

set_option maxHeartbeats 400000 in
theorem rwrite_out (w : World) (p : Nat) (a : Option Addr) (n c : Nat) (vl : Value) (F : Int) (dn : Bool) (dc : Int) (hD : RefAt w p (.slice a n c) vl F dn dc) (i : Int) (b : Array Value) (hi : ¬ (0 ≤ i ∧ i < (n : Int))) :
    Calls Tryd.prog 23 #[.pointer (some ⟨p, 0, none⟩), .int .i64 i, .agg b] w fun e w' => e = .returned (.int .i64 1) ∧ Keeps (fun _ => False) w w' := by
  have hdec : decide (0 ≤ i ∧ i < (n : Int)) = false := decide_eq_false hi
  clear hi
  go_enter Tryd.func23, Tryd.ntmps23
  go_wp2_with (go_at_call 44; refine (has_any _ p a n c vl F dn dc (hD.alloc _) i).mono ?_; rw [hdec]; rintro e w' ⟨rfl, rfl⟩)
  go_ret
  exact ⟨rfl, (Keeps.refl _ _).alloc _⟩

set_option maxHeartbeats 400000 in
theorem rwrite_down (w : World) (p : Nat) (a : Option Addr) (n c : Nat) (vl : Value) (F : Int) (dn : Bool) (dc : Int) (hD : RefAt w p (.slice a n c) vl F dn dc) (i : Int) (b : Array Value) (hi : 0 ≤ i ∧ i < (n : Int)) (hd : F = 0 ∨ dn = true) :
    Calls Tryd.prog 23 #[.pointer (some ⟨p, 0, none⟩), .int .i64 i, .agg b] w fun e w' => e = .returned (.int .i64 12) ∧ RefAt w' p (.slice a n c) vl F true dc ∧ Keeps (· = p) w w' := by
  have hdec : decide (0 ≤ i ∧ i < (n : Int)) = true := decide_eq_true hi
  clear hi
  go_enter Tryd.func23, Tryd.ntmps23
  go_wp2_with (first | (go_at_call 44; refine (has_any _ p a n c vl F dn dc (hD.alloc _) i).mono ?_; rw [hdec]; rintro e w' ⟨rfl, rfl⟩) | (go_at_call 45; refine (goes_down _ p _ vl F dn dc (hD.alloc _) hd).mono ?_; rintro e w1 ⟨rfl, hD1, hK1⟩))
  go_ret
  exact ⟨rfl, hD1, ((Keeps.refl _ _).alloc _).trans (hK1.mono (fun k _ e => e))⟩

theorem info68 : (Tryd.prog.info? 96).map (fun i => (i.zero, i.size, i.bytes)) = some (some (.agg wzero), 129, 136) := by kernel_rfl
theorem zero68 (w : World) : (zeroValue 96).run Tryd.prog w = .ok (.agg wzero) w := (zero_of_info (show (Tryd.prog.info? 96).map (fun i => (i.zero, i.size)) = some (some (.agg wzero), 129) by kernel_rfl)).1 w
theorem wp_buildSlice49 {d : Option Tmp} {x : Operand} {ty : TypeId} {ps : String} {af : Array Edge} {a : Act} {w : World} {K : Act → World → Prop} {Q : Exit → Act → World → Prop} (h : (a.eval x).cells.size = 129) :
    Oper.wp Tryd.prog { dst := d, op := .buildSlice 61 1 #[(0, x)], type := ty, pos := ps, after := af, guard := none } a w K Q =
      K (a.put d (.slice (some ⟨w.heap.size, 0, none⟩) 1 1)) (w.alloc (.cells (a.eval x).cells 96)) := by
  obtain ⟨i0, hi0, hz0, hz1, hz2⟩ := info_parts info68
  have hrun : (Instr.buildSlice 61 1 #[(0, a.eval x)]).run Tryd.prog w = .ok (.slice (some ⟨w.heap.size, 0, none⟩) 1 1) (w.alloc (.cells (a.eval x).cells 96)) := by
    unfold Instr.buildSlice
    have hf := fold_all (a.eval x).cells ((Array.range (1 * 129)).map ((Value.agg wzero).cells[· % (Value.agg wzero).cells.size]!)) (by simp [h])
    have hfill : Instr.fill (fun i => some (i * 129, 129)) ((Array.range (1 * 129)).map ((Value.agg wzero).cells[· % (Value.agg wzero).cells.size]!)) [(0, a.eval x)] = some (a.eval x).cells := by
      unfold Instr.fill Instr.fill
      simp only [Nat.zero_mul]
      rw [if_neg (by simp [h]), hf]
    have hsize : (sizeOf 96).run Tryd.prog w = .ok 129 w := by simp [sizeOf, typeInfo, hi0, hz1]
    simp only [Sem.run_bind, run_underlying Tryd.underlying61, hsize, Result.andThen_ok]
    rw [if_neg (by decide), if_neg (by decide)]
    simp only [Sem.run_bind, zero68, Result.andThen_ok, Sem.run_pure, hfill]
    simp [newRow]
  unfold Oper.wp execOp
  simp only [List.map_toArray, List.map_cons, List.map_nil, hrun, Sem.run_bind, Result.andThen_ok, Sem.run_pure]
  rfl


attribute [local go_sem ↓] wp_buildSlice49 wp_load37
attribute [local go_sem] addrOf cellsAt_drew cellsAt_drewN cellsAt_alloc

set_option maxRecDepth 100000 in
set_option maxHeartbeats 1000000 in
theorem rwrite_goes (w : World) (p : Nat) (a : Option Addr) (n c : Nat) (vl : Value) (F : Int) (dc : Int) (hD : RefAt w p (.slice a n c) vl F false dc) (k : Nat) (xs : List Value) (hown : w.ownsRow 0 96 129 vl k xs) (hpv : vl.ownBlock ≠ some p)
    (i : Int) (b : List Value) (hb : b.length = 128) (h1 : ∀ v ∈ b, v.oneCell' = true) (hi : 0 ≤ i) (hn : i < (n : Int)) (hF : F ≠ 0) (hlo : -9223372036854775808 ≤ F) (hhi : F ≤ 9223372036854775807) (hd0 : 0 ≤ dc) (hd1 : dc < 1000000) (hk : k < 1000000) :
    Calls Tryd.prog 23 #[.pointer (some ⟨p, 0, none⟩), .int .i64 i, .agg b.toArray] w fun e w' => e = .returned (.int .i64 0) ∧ ∃ g cap, RefAt w' p (.slice a n c) (.slice (some ⟨g, 0, none⟩) (k + 1) cap) (burnt F) false (dc + 1) ∧
      w'.ownsRow 0 96 129 (.slice (some ⟨g, 0, none⟩) (k + 1) cap) (k + 1) (xs ++ (.int .i64 i :: b)) ∧ (vl.ownBlock = some g ∨ w.heap.size ≤ g) ∧ Keeps (fun j => j = p ∨ vl.ownBlock = some j) w w' := by
  have h0 : ¬ i < 0 := by omega
  have hni : ¬ (n : Int) ≤ i := by omega
  obtain ⟨i0, hi0, hz0, hz1, hz2⟩ := info_parts info68
  have hpl := hD.lt
  have hdec : decide (0 ≤ i ∧ i < (n : Int)) = true := by simp; omega
  have hvl := hown.lt
  go_enter Tryd.func23, Tryd.ntmps23
  go_wp2_with (first | (go_at_call 44; refine (has_any _ p a n c vl F false dc (hD.alloc _) i).mono ?_; rw [hdec]; rintro e w' ⟨rfl, rfl⟩) | (go_at_call 45; refine (goes_goes _ p _ vl F dc (hD.alloc _) hF hlo hhi hd0 hd1).mono ?_; rintro e w1 ⟨rfl, hD1, hK1⟩))
  have hbox : w1.heap[w.heap.size]? = some (.cells b.toArray 30 (0, 0)) := (hK1.block _ (by simp) (by omega)).trans (heap_alloc2_x w _)
  have hrange : w1.rangeAt w.heap.size 0 b := fun j v hv => by
    rw [cell_of_row w1 _ _ _ _ _ hbox]; simpa using hv
  have hown1 : w1.ownsRow 0 96 129 vl k xs := ownsRow_keeps (hown.alloc _) hK1 (fun g e he => hpv (by rw [e, he]))
  have hsz1 := hK1.size
  simp only [World.size_alloc] at hsz1
  obtain ⟨c0, c1, c2, c3, c4⟩ := hD1.cells
  have f1 := hD1.free 1
  have hu := Tryd.underlying30
  have hi37 : (Tryd.prog.info? 30).map (·.size) = some b.length := by rw [hb]; exact size37
  clear c0 c2 c3 c4
  have hz68 := zero68
  have hw0 := wzero_ne
  have hw1 := size_wzero
  have hfold : List.foldl (fun (cs : Array Value) (x : Value × Nat) => cs.setIfInBounds (1 + x.snd) x.fst) (wzero.setIfInBounds 0 (.int .i64 i)) b.zipIdx = (.int .i64 i :: b).toArray := by
    rw [show wzero.setIfInBounds 0 (.int .i64 i) = ((.int .i64 i : Value) :: (fill 0).toList).toArray by simp [wzero]]
    exact fold_part _ _ _ (by simp [size_fill, hb])
  have hlen : ((.int .i64 i : Value) :: b).length = 1 * 129 := by simp [hb]
  have hone : ∀ u ∈ ((.int .i64 i : Value) :: b), u.oneCell' = true := by
    intro u hu
    rcases List.mem_cons.1 hu with rfl | hu
    · rfl
    · exact h1 u hu
  have hmx : k + 1 ≤ maxLen := by simp only [maxLen]; omega
  have hby : (k + 1) * 136 ≤ 140737488355328 := by omega
  have hca : cellsAt w1 w.heap.size 0 128 = b.toArray := by
    rw [cellsAt, rowOf_of hbox]; simp [← hb]
  clear hrange hbox hu hi37
  have c1a : ∀ o, (w1.alloc o).cell? ⟨p, 1, none⟩ = some vl := fun o => (hD1.alloc o).cells.2.1
  go_region_law ((refine step_append_lies _ (by rfl) _ _ _ (by rfl) 0 96 i0 _ 129 136 Tryd.underlying61 hi0 hz0 hz1 hz2 (by exact size_wzero) (by omega) vl k xs (by rfl) ((hown1.alloc _).drew) ⟨w1.heap.size, 0, none⟩ 1 1 (.int .i64 i :: b) (by rfl) hlen (World.news_of_block (cs := ((.int .i64 i : Value) :: b).toArray) (t := 96) (fr := (0, 0)) (heap_alloc2_x w1 _)) hone (by omega) hmx hby (by simp) (w1.heap.size + 1) (by simp) ?_; intro g cap w2 hown2 hgrow hat hlt; have hD2 : RefAt w2 p (.slice a n c) vl (burnt F) false (dc + 1) := (hgrow.block p (by simp; omega) (Ne.symm hpv)).trans (hD1.alloc _); have c2 := hD2.cells.2.1; have f2 := hD2.free 1))
  all_goals go_wp2
  all_goals go_ret
  all_goals
    have hgp : g ≠ p := by
      rcases hat with e | e
      · rintro rfl; exact hpv e
      · omega
    refine ⟨rfl, g, cap, hD2.set1 _, ?_, ?_, ?_⟩
    · exact ownsRow_keeps hown2 ((Keeps.refl (· = p) w2).at 1 _) (fun g' e he => hgp (by simp [Value.ownBlock] at e; omega))
    · rcases hat with e | e
      · exact .inl e
      · exact .inr (by omega)
    · have k1 : Keeps (fun j => j = p ∨ vl.ownBlock = some j) w w1 := ((Keeps.refl _ _).alloc _).trans (hK1.mono (fun k _ e => .inl e))
      exact ((((k1.alloc _).drew).grown hgrow (fun k e => .inl (.inr e))).setCell (p := ⟨p, 1, none⟩) (.inl (.inl rfl)) _)
end

/-! DTc: The reference's Read. -/
section
open Go.RowKit Go.Shelf

/-- The reference's loose writes ws lie in the slice vl. -/
structure RLoose (w : World) (vl : Value) (ws : List LW) : Prop where
  owns : w.ownsRow 0 96 129 vl ws.length (dk_flat ws)
  ok : ∀ x ∈ ws, LwOk x

theorem RLoose.at {w : World} {vl : Value} {ws : List LW} (h : RLoose w vl ws) (k : Nat) (hk : k < ws.length) :
    ∃ g cap cur, vl = .slice (some ⟨g, 0, none⟩) ws.length cap ∧ w.heap[g]? = some (.cells cur 96 (0, 0)) ∧ w.cell? ⟨g, k * 129, none⟩ = some (.int .i64 ws[k].1) ∧ cellsAt w g (k * 129 + 1) 128 = ws[k].2.toArray ∧ k * 129 + 129 ≤ cur.size := by
  rcases h.owns.2 with ⟨rfl, h0⟩ | ⟨g, cap, cur, rfl, hb, hg, hn, hm, hs, ht⟩
  · omega
  · have hws : ws = ws.take k ++ ws[k] :: ws.drop (k + 1) := by
      rw [List.getElem_cons_drop, List.take_append_drop]
    have hok : LwOk ws[k] := h.ok _ (List.getElem_mem hk)
    have hp := dk_flat_part h.ok (ws.take k) ws[k] (ws.drop (k + 1)) hws
    rw [List.length_take, Nat.min_eq_left (by omega)] at hp
    rw [← ht, List.drop_take, List.take_take] at hp
    have hmul : (k + 1) * 129 ≤ ws.length * 129 := Nat.mul_le_mul_right 129 hk
    rw [Nat.min_eq_left (by omega)] at hp
    have hlen : (List.take 129 (List.drop (k * 129) cur.toList)).length = 129 := by rw [hp]; exact length_lcells hok
    have hsz : k * 129 + 129 ≤ cur.size := by simp at hlen; omega
    refine ⟨g, cap, cur, rfl, hg, ?_, ?_, hsz⟩
    · rw [cell_of_row w g _ _ _ _ hg]
      have h0 : (List.take 129 (List.drop (k * 129) cur.toList))[0]? = some (.int .i64 ws[k].1) := by rw [hp]; rfl
      rw [List.getElem?_take, if_pos (by omega), List.getElem?_drop, Nat.add_zero] at h0
      simpa using h0
    · rw [cellsAt, rowOf_of hg]
      apply Array.toList_inj.1
      have h1 : (List.take 129 (List.drop (k * 129) cur.toList)).drop 1 = ws[k].2 := by rw [hp]; rfl
      rw [← h1]
      simp [List.drop_take]

theorem find_rev {ws : List LW} {i : Int} {j : Nat} (hj : j < ws.length) (he : ws[j].1 = i) (hd : ∀ y ∈ ws.drop (j + 1), y.1 ≠ i) : ws.reverse.find? (fun x => x.1 == i) = some ws[j] := by
  have hws : ws = ws.take j ++ ws[j] :: ws.drop (j + 1) := by
    rw [List.getElem_cons_drop, List.take_append_drop]
  have hr : ws.reverse = (ws.drop (j + 1)).reverse ++ (ws[j] :: (ws.take j).reverse) := by
    conv => lhs; rw [hws]
    simp
  rw [hr, List.find?_append]
  have h0 : (ws.drop (j + 1)).reverse.find? (fun x => x.1 == i) = none := by
    rw [List.find?_eq_none]
    intro y hy
    simpa using hd y (by simpa using hy)
  rw [h0, List.find?_cons]
  simp [he]

theorem results_cell_tmp {fn : Func} {p q : Tmp} {t1 : TypeId} (h : fn.results = #[.cell p t1, .tmp q]) (tmps : Array Value) (w : World) (g1 : Nat) (cs : Array Value) (u : Value)
    (hp : tmps.getD p undef = .pointer (some ⟨g1, 0, none⟩)) (hq : tmps.getD q undef = u)
    (r1 : (loadVar t1 ⟨g1, 0, none⟩).run Tryd.prog w = .ok (.agg cs) w) :
    (results fn tmps).run Tryd.prog w = .ok (.tuple #[.agg cs, u]) w := by
  have hp' : tmps[p]?.getD undef = .pointer (some ⟨g1, 0, none⟩) := by simpa using hp
  have hq' : tmps[q]?.getD undef = u := by simpa using hq
  simp [results, h, hp', hq', asAddr, r1]

attribute [local go_sem ↓] Go.wp_at_zero Go.wp_at_succ wp_build37 wp_load37
attribute [local go_sem] addrOf cellsAt_drew

set_option maxRecDepth 100000 in
set_option maxHeartbeats 1000000 in
theorem rread_out (w : World) (p : Nat) (a : Option Addr) (n c : Nat) (vl : Value) (F : Int) (dn : Bool) (dc : Int) (hD : RefAt w p (.slice a n c) vl F dn dc) (i : Int) (hi : ¬ (0 ≤ i ∧ i < (n : Int))) :
    Calls Tryd.prog 49 #[.pointer (some ⟨p, 0, none⟩), .int .i64 i] w fun e w' => e = .returned (.tuple #[.agg (fill 0), .int .i64 1]) ∧ Keeps (fun _ => False) w w' := by
  have hdec : decide (0 ≤ i ∧ i < (n : Int)) = false := decide_eq_false hi
  clear hi
  have hz := zero37
  have hs1 : (Tryd.prog.info? 30).map (·.size) = some (fill 0).size := by rw [size_fill]; exact size37
  have hone := fill_one 0
  go_enter Tryd.func49, Tryd.ntmps49
  go_wp2_with (first | (go_at_call 44; refine (has_any _ p a n c vl F dn dc (hD.alloc _) i).mono ?_; rw [hdec]; rintro e w' ⟨rfl, rfl⟩) | (refine dk_wpList_store_row rfl 30 _ _ rfl w.heap.size rfl (fill 0) rfl 30 (fill 0) (heap_alloc2_x w _) hs1 rfl hone ?_; intro w8 n8 k8))
  refine bodyPost_ret (v := .tuple #[.agg (fill 0), .int .i64 1]) (results_cell_tmp rfl _ _ w.heap.size (fill 0) (.int .i64 1) rfl rfl ?_) rfl ⟨rfl, ((Keeps.refl _ _).alloc _).trans' k8 (fun k e => .inr (by omega))⟩
  exact run_loadVar_row _ _ _ _ _ _ _ n8 Tryd.underlying30 rfl hs1

set_option maxRecDepth 100000 in
set_option maxHeartbeats 1000000 in
theorem rread_down (w : World) (p : Nat) (a : Option Addr) (n c : Nat) (vl : Value) (F : Int) (dc : Int) (hD : RefAt w p (.slice a n c) vl F true dc) (i : Int) (hi : 0 ≤ i ∧ i < (n : Int)) :
    Calls Tryd.prog 49 #[.pointer (some ⟨p, 0, none⟩), .int .i64 i] w fun e w' => e = .returned (.tuple #[.agg (fill 0), .int .i64 12]) ∧ Keeps (fun _ => False) w w' := by
  have hdec : decide (0 ≤ i ∧ i < (n : Int)) = true := decide_eq_true hi
  clear hi
  have hz := zero37
  have hs1 : (Tryd.prog.info? 30).map (·.size) = some (fill 0).size := by rw [size_fill]; exact size37
  have hone := fill_one 0
  have c3 := (hD.alloc (.cells (fill 0) 30)).cells.2.2.2.1
  go_enter Tryd.func49, Tryd.ntmps49
  go_wp2_with (first | (go_at_call 44; refine (has_any _ p a n c vl F true dc (hD.alloc _) i).mono ?_; rw [hdec]; rintro e w' ⟨rfl, rfl⟩) | (refine dk_wpList_store_row rfl 30 _ _ rfl w.heap.size rfl (fill 0) rfl 30 (fill 0) (heap_alloc2_x w _) hs1 rfl hone ?_; intro w8 n8 k8))
  refine bodyPost_ret (v := .tuple #[.agg (fill 0), .int .i64 12]) (results_cell_tmp rfl _ _ w.heap.size (fill 0) (.int .i64 12) rfl rfl ?_) rfl ⟨rfl, ((Keeps.refl _ _).alloc _).trans' k8 (fun k e => .inr (by omega))⟩
  exact run_loadVar_row _ _ _ _ _ _ _ n8 Tryd.underlying30 rfl hs1

theorem RLoose.keeps {S : Nat → Prop} {w w' : World} {vl : Value} {ws : List LW} (h : RLoose w vl ws) (hk : Keeps S w w') (hS : ∀ g, vl.ownBlock = some g → ¬ S g) : RLoose w' vl ws :=
  ⟨ownsRow_keeps h.owns hk hS, h.ok⟩

theorem RLoose.len {w : World} {vl : Value} {ws : List LW} (h : RLoose w vl ws) : ∃ a c, vl = .slice a ws.length c := by
  rcases h.owns.2 with ⟨rfl, h0⟩ | ⟨g, cap, cur, rfl, _⟩
  · exact ⟨none, 0, by rw [h0]⟩
  · exact ⟨_, _, rfl⟩

set_option maxRecDepth 100000 in
set_option maxHeartbeats 1000000 in
theorem rread_ok (w : World) (p gb n : Nat) (vl : Value) (F dc : Int) (ws : List LW) (bl : Array Value) (hD : RefAt w p (.slice (some ⟨gb, 0, none⟩) n n) vl F false dc) (hB : w.heap[gb]? = some (.cells bl 30 (0, 0))) (hbl : bl.size = n * 128) (h1b : bl.all (·.oneCell') = true)
    (hL : RLoose w vl ws) (hlen : ws.length < 1000000) (i : Nat) (hi : i < n) :
    Calls Tryd.prog 49 #[.pointer (some ⟨p, 0, none⟩), .int .i64 (i : Int)] w fun e w' => e = .returned (.tuple #[.agg (onTop bl ws i), .int .i64 0]) ∧ Keeps (fun _ => False) w w' := by
  have hdec : decide (0 ≤ (i : Int) ∧ (i : Int) < (n : Int)) = true := by simp; omega
  have hz := zero37
  obtain ⟨va, vc, rfl⟩ := hL.len
  go_enter Tryd.func49, Tryd.ntmps49
  go_wp2_with fail
  refine (has_any _ p _ n n _ F false dc (hD.alloc _) (i : Int)).mono ?_
  rw [hdec]
  rintro e w' ⟨rfl, rfl⟩
  clear hz hdec
  obtain ⟨W, hW⟩ : ∃ W, w.alloc (.cells (fill 0) 30) = W := ⟨_, rfl⟩
  rw [hW]
  have kW : Keeps (fun _ => False) w W := by rw [← hW]; exact (Keeps.refl _ _).alloc _
  have gW : W.heap[w.heap.size]? = some (.cells (fill 0) 30 (0, 0)) := by rw [← hW]; exact heap_alloc2_x w _
  have hDW := hD.kept kW (fun h => h)
  have c1 := hDW.cells.2.1
  have c3 := hDW.cells.2.2.2.1
  clear hW
  have hlb : (0 : Int) ≤ (ws.length : Int) := by omega
  have hlc : (ws.length : Int) < 1000000 := by omega
  go_wp2
  go_loopw [6] (fun j wr => ∃ (k : Nat), k ≤ ws.length ∧ j = .int .i64 ((k : Int) - 1) ∧ (∀ y ∈ ws.drop k, y.1 ≠ (i : Int)) ∧ wr = W) (fun j _ => (intOf j + 1).toNat)
  case atStart => exact ⟨ws.length, Nat.le_refl _, rfl, by simp, rfl⟩
  case round =>
    obtain ⟨k, hk, rfl, hnone, rfl⟩ := hrel
    by_cases hk0 : k = 0
    · subst hk0
      have hB' : wr.heap[gb]? = some (.cells bl 30 (0, 0)) := (kW.block gb (Array.getElem?_eq_some_iff.1 hB).1 (fun h => h)).trans hB
      have hmul : (i + 1) * 128 ≤ n * 128 := Nat.mul_le_mul_right 128 hi
      have hv : onTop bl ws i = blk bl i := by
        unfold onTop
        rw [List.find?_eq_none.2 (fun y hy => by simpa using hnone y (by simpa using hy))]
      obtain ⟨A, hA⟩ : ∃ A, blk bl i = A := ⟨_, rfl⟩
      have hcB : cellsAt wr gb (i * 128) 128 = A := by rw [cellsAt, rowOf_of hB']; exact hA
      have hsA : A.size = 128 := by rw [← hA]; unfold blk; simp; omega
      have ho1 : AllOne A := by
        unfold AllOne at *
        rw [Array.all_eq_true_iff_forall_mem] at h1b ⊢
        intro v hv
        rw [← hA] at hv
        unfold blk at hv
        obtain ⟨j, hj, e⟩ := Array.mem_iff_getElem.1 hv
        rw [Array.getElem_extract] at e
        exact h1b v (e ▸ Array.getElem_mem _)
      have hs1 : (Tryd.prog.info? 30).map (·.size) = some A.size := by rw [hsA]; exact size37
      have hz1 : (fill 0).size = A.size := by rw [hsA]; exact size_fill 0
      rw [hA] at hv
      have Hv : Hid (onTop bl ws i = A) := hv
      clear hA hv hnone c3
      have c0 := hDW.cells.1
      have hi0 : (0 : Int) ≤ (i : Int) := by omega
      have hin : (i : Int) < (n : Int) := by omega
      rw [show (((0 : Nat) : Int) - 1) = -1 from rfl]
      go_wp2_with (refine dk_wpList_store_row rfl 30 _ _ rfl w.heap.size rfl A rfl 30 (fill 0) gW hs1 hz1 ho1 ?_; intro w8 n8 k8)
      refine bodyPost_ret (v := .tuple #[.agg A, .int .i64 0]) (results_cell_tmp rfl _ _ w.heap.size A (.int .i64 0) rfl rfl ?_) rfl ⟨by rw [Hv.out], kW.trans' k8 (fun k e => .inr (by omega))⟩
      exact run_loadVar_row _ _ _ _ _ _ _ n8 Tryd.underlying30 rfl hs1
    · obtain ⟨j, rfl⟩ : ∃ j, k = j + 1 := ⟨k - 1, by omega⟩
      have hj : j < ws.length := by omega
      obtain ⟨g, cap, cur, he, hg, hcI, hcB, hsz⟩ := (hL.keeps kW (fun _ _ h => h)).at j hj
      cases he
      rw [show (((j + 1 : Nat) : Int) - 1) = (j : Int) by omega]
      have hj0 : (0 : Int) ≤ (j : Int) := by omega
      have hjl : (j : Int) < (ws.length : Int) := by omega
      obtain ⟨x, hx⟩ : ∃ x, ws[j] = x := ⟨_, rfl⟩
      have hok : LwOk x := by rw [← hx]; exact hL.ok _ (List.getElem_mem hj)
      rw [hx] at hcI hcB
      by_cases hc : x.1 = (i : Int)
      · have hv : onTop bl ws i = x.2.toArray := by
          unfold onTop
          rw [find_rev hj (by rw [hx]; exact hc) hnone, hx]
        have hcb : (x.1 == (i : Int)) = true := by simpa using hc
        have hsA : x.2.toArray.size = 128 := by simp [hok.1]
        have hs1 : (Tryd.prog.info? 30).map (·.size) = some x.2.toArray.size := by rw [hsA]; exact size37
        have hz1 : (fill 0).size = x.2.toArray.size := by rw [hsA]; exact size_fill 0
        have ho1 : x.2.toArray.all (·.oneCell') = true := all_oneCell_toArray hok.2
        have Hv : Hid (onTop bl ws i = x.2.toArray) := hv
        clear hnone hv c3 hc
        go_wp2_with (refine dk_wpList_store_row rfl 30 _ _ rfl w.heap.size rfl x.2.toArray rfl 30 (fill 0) gW hs1 hz1 ho1 ?_; intro w8 n8 k8)
        refine bodyPost_ret (v := .tuple #[.agg x.2.toArray, .int .i64 0]) (results_cell_tmp rfl _ _ w.heap.size x.2.toArray (.int .i64 0) rfl rfl ?_) rfl ⟨by rw [Hv.out], kW.trans' k8 (fun k e => .inr (by omega))⟩
        exact run_loadVar_row _ _ _ _ _ _ _ n8 Tryd.underlying30 rfl hs1
      · have hcb : (x.1 == (i : Int)) = false := by simpa using hc
        have Hn : Hid (∀ y ∈ ws.drop j, y.1 ≠ (i : Int)) := fun y hy => by
          rw [← List.getElem_cons_drop hj, hx] at hy
          rcases List.mem_cons.1 hy with rfl | hy
          · exact hc
          · exact hnone y hy
        clear hnone hc
        go_wp2
        go_roundw
        case rel => exact ⟨j, by omega, by go_num, Hn.out, by first | rfl | trivial⟩
        case measure => simp [intOf] <;> omega
end

/-! DTd: The reference's Sync and Crash. -/
section
open Go.RowKit Go.Shelf

theorem step_store37 {ops : Array Oper} {o : Oper} {a : Act} {w : World} {K : Act → World → Prop} {Q : Exit → Act → World → Prop} {E : Prop} (hgd : o.guard = none) (x y : Operand) (ho : o.op = .store 30 x y)
    (g off : Nat) (hx : a.eval x = .pointer (some ⟨g, off, none⟩)) (new : Array Value) (hy : a.eval y = .agg new) (t : TypeId) (cur : Array Value) (hg : w.heap[g]? = some (.cells cur t (0, 0)))
    (hfit : off + 128 ≤ cur.size) (hs : new.size = 128) (h1 : AllOne new)
    (h : ∀ w', w'.heap[g]? = some (.cells (over cur off new) t (0, 0)) → Keeps (· = g) w w' → K (a.put o.dst undef) w') :
    if Region.wanted o (yielded ops a.tmps) = true then Oper.wp Tryd.prog o a w K Q else E := by
  have hw : Region.wanted o (yielded ops a.tmps) = true := by simp [Region.wanted, hgd]
  rw [if_pos hw]
  exact op_store37 x y ho g off new hx hy cur t hg hfit hs h1 (h _ (setRow_heap w g _ _ _ _ hg) ((Keeps.refl (· = g) w).setRow (.inl rfl) _))

theorem wp_store37m {d : Option Tmp} {x y : Operand} {tt : TypeId} {ps : String} {af : Array Edge} {a : Act} {w : World} {K : Act → World → Prop} {Q : Exit → Act → World → Prop}
    (h1 : a.eval x = .pointer (some ⟨(addrOf (a.eval x)).block, (addrOf (a.eval x)).off, none⟩)) (h2 : a.eval y = .agg (aggOf (a.eval y))) (h3 : (aggOf (a.eval y)).size = 128) (h4 : AllOne (aggOf (a.eval y))) (h5 : RoomRow w (addrOf (a.eval x)).block ((addrOf (a.eval x)).off + 128)) :
    Oper.wp Tryd.prog { dst := d, op := .store 30 x y, type := tt, pos := ps, after := af, guard := none } a w K Q =
      K (a.put d undef) (w.setRow (addrOf (a.eval x)).block (over (rowOf w (addrOf (a.eval x)).block) (addrOf (a.eval x)).off (aggOf (a.eval y)))) := by
  obtain ⟨cs, t, hg, hs⟩ := h5
  have hr := run_storeVar_over w (addrOf (a.eval x)).block (addrOf (a.eval x)).off t 30 cs (aggOf (a.eval y)) hg (by rw [h3]; exact size37) (by rw [h3]; exact hs) h4
  rw [← rowOf_of hg] at hr
  unfold Oper.wp execOp
  dsimp only
  rw [h1, h2]
  simp only [Instr.storeAt, Instr.sureAddr, Sem.run_bind, Sem.run_pure, Result.andThen_ok]
  simp only [addrOf, aggOf] at hr ⊢
  rw [hr]
  rfl

theorem there_row {w : World} {g o n : Nat} {cur : Array Value} {t : TypeId} (hg : w.heap[g]? = some (.cells cur t (0, 0))) (hfit : o + n ≤ cur.size) : w.there g o n := fun j hj => by
  refine ⟨?_, frozen_of_row w g _ _ _ hg⟩
  rw [cell_of_row w g _ _ _ _ hg, Array.getElem?_eq_getElem (by omega)]
  rfl

theorem setCells37 {w : World} {g o : Nat} {cur : Array Value} {t : TypeId} {new : List Value} (hg : w.heap[g]? = some (.cells cur t (0, 0))) (hfit : o + 128 ≤ cur.size) (hs : new.length = 128) (h1 : ∀ v ∈ new, v.oneCell' = true) :
    w.setCells g o new = w.setRow g (over cur o new.toArray) := by
  have hA := run_storeVar_over w g o t 30 cur new.toArray hg (by simp only [List.size_toArray, hs]; exact size37) (by simp [hs]; exact hfit) (all_oneCell_toArray h1)
  have hB := run_storeVar_mid (P := Tryd.prog) w g o 30 new.toArray (by simpa [hs] using there_row hg hfit) (by simp only [List.size_toArray, hs]; exact size37) (all_oneCell_toArray h1)
  rw [hA] at hB
  have h2 : ∀ {a b : World}, Result.ok () a = Result.ok () b → a = b := fun h => by cases h; rfl
  simp only [List.size_toArray] at hB
  exact (h2 hB).symm

theorem idx_take_succ {ws : List LW} {k : Nat} (hk : k < ws.length) : idx (ws.take (k + 1)) = idx (ws.take k) ++ [(k, ws[k])] := by
  rw [List.take_succ_eq_append_getElem hk, idx_snoc, List.length_take, Nat.min_eq_left (by omega)]

theorem keptOf_rest (ks : List Int) (ws : List LW) (k : Nat) (h : ks.length ≤ k) : keptOf ks (idx ws) = keptOf ks (idx (ws.take k)) := by
  suffices H : ∀ (m : Nat), k ≤ m → keptOf ks (idx (ws.take m)) = keptOf ks (idx (ws.take k)) by
    by_cases hl : k ≤ ws.length
    · have := H ws.length hl
      rwa [List.take_length] at this
    · rw [List.take_of_length_le (by omega)]
  intro m hm
  induction m with
  | zero => rw [show k = 0 by omega]
  | succ m ih =>
    by_cases e : k = m + 1
    · rw [e]
    · by_cases hl : m < ws.length
      · rw [idx_take_succ hl, keptOf_snoc, ih (by omega)]
        have hnk : isKept ks m = false := by unfold isKept; rw [List.getElem?_eq_none (by omega)]
        simp [hnk]
      · rw [List.take_of_length_le (by omega), ← ih (by omega), List.take_of_length_le (by omega)]

theorem over_nil (row : Array Value) (o : Nat) (h : o ≤ row.size) : over row o #[] = row := by
  apply Array.ext_getElem?
  intro j
  rw [getElem?_over _ _ _ _ (by simpa using h), if_neg (by simp)]

theorem over_take_succ (row : Array Value) (o : Nat) (b : List Value) (q : Nat) (hq : q < b.length) (h : o + q < row.size) :
    (over row o (b.take q).toArray).setIfInBounds (o + q) b[q] = over row o (b.take (q + 1)).toArray := by
  have s1 : (b.take q).toArray.size = q := by simp; omega
  have s2 : (b.take (q + 1)).toArray.size = q + 1 := by simp; omega
  apply Array.ext_getElem?
  intro j
  rw [Array.getElem?_setIfInBounds, size_over (by omega), getElem?_over _ _ _ _ (by omega), getElem?_over _ _ _ _ (by omega), s1, s2]
  simp only [List.getElem?_toArray, List.getElem?_take]
  by_cases e : o + q = j
  · subst e
    rw [if_pos rfl, if_pos h, if_pos (by omega), if_pos (by omega), show o + q - o = q by omega]
    simp [hq]
  · rw [if_neg e]
    by_cases h1 : o ≤ j ∧ j < o + q
    · rw [if_pos h1, if_pos (by omega), if_pos (by omega), if_pos (by omega)]
    · rw [if_neg h1, if_neg (by omega)]

attribute [local go_sem ↓] Go.wp_at_zero Go.wp_at_succ wp_load37 wp_store37m
attribute [local go_sem] addrOf aggOf cellsAt_drew

set_option maxHeartbeats 400000 in
theorem rsync_down (w : World) (p : Nat) (vb vl : Value) (F : Int) (dn : Bool) (dc : Int) (hD : RefAt w p vb vl F dn dc) (hd : F = 0 ∨ dn = true) :
    Calls Tryd.prog 42 #[.pointer (some ⟨p, 0, none⟩)] w fun e w' => e = .returned (.int .i64 12) ∧ RefAt w' p vb vl F true dc ∧ Keeps (· = p) w w' := by
  go_enter Tryd.func42, Tryd.ntmps42
  go_wp2_with (go_at_call 45; refine (goes_down _ p _ vl F dn dc hD hd).mono ?_; rintro e w1 ⟨rfl, hD1, hK1⟩)
  go_ret
  exact ⟨rfl, hD1, hK1⟩

set_option maxRecDepth 100000 in
set_option maxHeartbeats 1000000 in
theorem rsync_goes (w : World) (p gb n : Nat) (vl : Value) (F dc : Int) (ws : List LW) (bl : Array Value)
    (hD : RefAt w p (.slice (some ⟨gb, 0, none⟩) n n) vl F false dc) (hB : w.heap[gb]? = some (.cells bl 30 (0, 0))) (hbl : bl.size = n * 128)
    (hL : RLoose w vl ws) (hlen : ws.length < 1000000) (hpl : ∀ x ∈ ws, 0 ≤ x.1 ∧ x.1 < (n : Int)) (hpg : p ≠ gb) (hlg : vl.ownBlock ≠ some gb) (hlp : vl.ownBlock ≠ some p)
    (hF : F ≠ 0) (hlo : -9223372036854775808 ≤ F) (hhi : F ≤ 9223372036854775807) (hd0 : 0 ≤ dc) (hd1 : dc < 1000000) :
    Calls Tryd.prog 42 #[.pointer (some ⟨p, 0, none⟩)] w fun e w' => e = .returned (.int .i64 0) ∧
      RefAt w' p (.slice (some ⟨gb, 0, none⟩) n n) (.slice none 0 0) (burnt F) false (dc + 1) ∧ w'.heap[gb]? = some (.cells (crashRow (-1) bl (idx ws)) 30 (0, 0)) ∧ Keeps (fun k => k = p ∨ k = gb) w w' := by
  obtain ⟨va, vc, rfl⟩ := hL.len
  go_enter Tryd.func42, Tryd.ntmps42
  go_wp2_with fail
  refine (goes_goes _ p _ _ F dc hD hF hlo hhi hd0 hd1).mono ?_
  rintro e w1 ⟨rfl, hD1, hK1⟩
  have hB1 : w1.heap[gb]? = some (.cells bl 30 (0, 0)) := (hK1.block gb (Array.getElem?_eq_some_iff.1 hB).1 (fun e => hpg e.symm)).trans hB
  have hL1 := hL.keeps hK1 (fun g e he => hlp (by rw [e, he]))
  have hgl : gb < w1.heap.size := (Array.getElem?_eq_some_iff.1 hB1).1
  clear hL hB hD
  go_wp2
  go_loopw [3] (fun j wr => ∃ (k : Nat), k ≤ ws.length ∧ j = .int .i64 (k : Int) ∧ wr.heap[gb]? = some (.cells (crashRow (-1) bl (idx (ws.take k))) 30 (0, 0)) ∧ Keeps (· = gb) w1 wr) (fun j _ => ws.length - (intOf j).toNat)
  case atStart => exact ⟨0, by omega, rfl, hB1, Keeps.refl _ _⟩
  case round =>
    obtain ⟨k, hk, rfl, gr, hKr⟩ := hrel
    have hDr := hD1.kept hKr hpg
    have c0 := hDr.cells.1
    have c1 := hDr.cells.2.1
    by_cases hlt : k < ws.length
    · obtain ⟨g, cap, cur, he, hg, hcI, hcB, hsz⟩ := (hL1.keeps hKr (fun g e h => hlg (by rw [e, h]))).at k hlt
      cases he
      have hm := List.getElem_mem hlt
      obtain ⟨q0, q1⟩ := hpl _ hm
      have hok := hL1.ok _ hm
      have Hnext := idx_take_succ hlt
      obtain ⟨x, hx⟩ : ∃ x, ws[k] = x := ⟨_, rfl⟩
      rw [hx] at hcI hcB q0 q1 hok Hnext
      obtain ⟨i, hi⟩ := Int.eq_ofNat_of_zero_le q0
      have hsR : (crashRow (-1) bl (idx (ws.take k))).size = n * 128 := size_crashRow (-1) n _ _ hbl (fun y hy => ⟨hL1.ok _ (List.mem_of_mem_take (mem_idx hy)), hpl _ (List.mem_of_mem_take (mem_idx hy))⟩)
      have hiN : i < n := by omega
      have hmul : (i + 1) * 128 ≤ n * 128 := Nat.mul_le_mul_right 128 hiN
      have hfit : i * 128 + 128 ≤ (crashRow (-1) bl (idx (ws.take k))).size := by omega
      have hs2 : x.2.toArray.size = 128 := by simp [hok.1]
      have hone : AllOne x.2.toArray := all_oneCell_toArray hok.2
      have Hrow : Hid (over (crashRow (-1) bl (idx (ws.take k))) (i * 128) x.2.toArray = crashRow (-1) bl (idx (ws.take (k + 1)))) := by
        show over _ _ _ = _
        rw [Hnext, crashRow_snoc]
        have hcut : cutOf (-1) k = 128 := by unfold cutOf; rw [if_neg (by omega)]
        simp [crashStep, hi, hcut, List.take_of_length_le (Nat.le_of_eq hok.1)]
      rw [hi] at hcI
      have hi0 : (0 : Int) ≤ (i : Int) := by omega
      have hi1 : (i : Int) < (n : Int) := by omega
      have hk0 : (0 : Int) ≤ (k : Int) := by omega
      have hkl : (k : Int) < (ws.length : Int) := by omega
      clear Hnext hx hi q0 q1 hpl hmul hsR hm
      go_wp2_with fail
      have hroom : RoomRow wr.drew gb (i * 128 + 128) := ⟨_, _, gr, hfit⟩
      have hrow : rowOf wr.drew gb = crashRow (-1) bl (idx (ws.take k)) := rowOf_of gr
      have hgg : ¬ g = gb := fun e => hlg (by rw [e]; rfl)
      have hthere : wr.drew.there gb (i * 128) 128 := there_row (w := wr.drew) gr hfit
      have hsc : wr.drew.setCells gb (i * 128) x.2 = wr.drew.setRow gb (over (crashRow (-1) bl (idx (ws.take k))) (i * 128) x.2.toArray) := setCells37 (w := wr.drew) gr hfit hok.1 hok.2
      have kS : Keeps (· = gb) wr (wr.drew.setCells gb (i * 128) x.2) := by rw [hsc]; exact ((Keeps.refl (· = gb) wr).drew).setRow (.inl rfl) _
      have rx : wr.rangeAt g (k * 129 + 1) x.2 := by
        have := rangeAt_cellsAt wr g (k * 129 + 1) 128
        rw [hcB] at this
        exact this
      have rxS : (wr.drew.setCells gb (i * 128) x.2).rangeAt g (k * 129 + 1) x.2 := fun j v hv => dk_cell_keeps kS (rx j v hv) hgg
      have hu37 := Tryd.underlying30
      have hi37 : (Tryd.prog.info? 30).map (·.size) = some x.2.length := by rw [hok.1]; exact size37
      have hfin : ((wr.drew.setCells gb (i * 128) x.2).heap[gb]? = some (.cells (crashRow (-1) bl (idx (ws.take (k + 1)))) 30 (0, 0))) := by
        rw [← Hrow.out, hsc]
        exact setRow_heap wr.drew gb _ _ _ _ gr
      have Hfin : Hid _ := hfin
      have hone2 := hok.2
      clear hok hcB hfin hsc
      go_region_held3 (fun w' => w'.cell? ⟨p, 0, none⟩ = some (.slice (some ⟨gb, 0, none⟩) n n) ∧ w'.cell? ⟨p, 1, none⟩ = some (.slice (some ⟨g, 0, none⟩) ws.length vc) ∧ w'.cell? ⟨g, k * 129, none⟩ = some (.int .i64 (i : Int)) ∧ w'.rangeAt g (k * 129 + 1) x.2)
        (first | assumption | exact ⟨c0, c1, hcI, rx⟩ | exact ⟨dk_cell_keeps kS c0 hpg, dk_cell_keeps kS c1 hpg, dk_cell_keeps kS hcI hgg, rxS⟩) (fail)
      go_wp2
      exact ⟨⟨k + 1, by omega, by go_num, Hfin.out, hKr.trans kS⟩, by simp [intOf]; omega⟩
    · obtain rfl : k = ws.length := by omega
      rw [List.take_length] at gr
      have f1 := hDr.free 1
      go_wp2
      go_ret
      refine ⟨rfl, hDr.set1 _, ?_, ?_⟩
      · rw [heap_setCell_other _ _ _ _ (fun e => hpg e.symm)]; exact gr
      · exact ((hK1.mono (fun k _ e => .inl e)).trans (hKr.mono (fun k _ e => .inr e))).setCell (p := ⟨p, 1, none⟩) (.inl (.inl rfl)) _

set_option maxRecDepth 100000 in
set_option maxHeartbeats 1000000 in
theorem rcrash_any (w : World) (p gb n : Nat) (vl : Value) (F dc t : Int) (dn : Bool) (ws : List LW) (bl : Array Value) (ka : Option Addr) (kc : Nat) (ks : List Int)
    (hD : RefAt w p (.slice (some ⟨gb, 0, none⟩) n n) vl F dn dc) (hB : w.heap[gb]? = some (.cells bl 30 (0, 0))) (hbl : bl.size = n * 128)
    (hL : RLoose w vl ws) (hlen : ws.length < 1000000) (hpl : ∀ x ∈ ws, 0 ≤ x.1 ∧ x.1 < (n : Int)) (hbyte : ∀ x ∈ ws, ∀ v ∈ x.2, ∃ z, v = .int .u8 z) (hK : KeepAt w ka ks) (hkl : ks.length ≤ 1000000) (hka : ks ≠ [] → ∀ b o, ka = some ⟨b, o, none⟩ → b ≠ gb) (hpg : p ≠ gb) (hlg : vl.ownBlock ≠ some gb) :
    Calls Tryd.prog 25 #[.pointer (some ⟨p, 0, none⟩), .slice ka ks.length kc, .int .i64 t] w fun e w' => e = .returned (.tuple #[]) ∧
      RefAt w' p (.slice (some ⟨gb, 0, none⟩) n n) (.slice none 0 0) (-1) false dc ∧ w'.heap[gb]? = some (.cells (crashRow t bl (keptOf ks (idx ws))) 30 (0, 0)) ∧ Keeps (fun k => k = p ∨ k = gb) w w' := by
  obtain ⟨va, vc, rfl⟩ := hL.len
  have hgl : gb < w.heap.size := (Array.getElem?_eq_some_iff.1 hB).1
  go_enter Tryd.func25, Tryd.ntmps25
  go_wp2
  go_loopw [6] (fun j wr => ∃ (k : Nat), k ≤ ws.length ∧ k ≤ ks.length ∧ j = .int .i64 (k : Int) ∧ wr.heap[gb]? = some (.cells (crashRow t bl (keptOf ks (idx (ws.take k)))) 30 (0, 0)) ∧ Keeps (· = gb) w wr) (fun j _ => ws.length - (intOf j).toNat)
  case atStart => exact ⟨0, by omega, by omega, rfl, hB, Keeps.refl _ _⟩
  case round =>
    obtain ⟨k, hk, hkk, rfl, gr, hKr⟩ := hrel
    have hDr := hD.kept hKr hpg
    have c0 := hDr.cells.1
    have c1 := hDr.cells.2.1
    by_cases hlt : k < ws.length
    · have hk0 : (0 : Int) ≤ (k : Int) := by omega
      have hkl' : (k : Int) < (ws.length : Int) := by omega
      by_cases hks : k < ks.length
      · have hks' : (k : Int) < (ks.length : Int) := by omega
        obtain ⟨kb, ko, rfl, hkcell, hki⟩ := hK k ks[k] (by simp [hks])
        have hkcell' := dk_cell_keeps hKr hkcell (hka (by rintro rfl; simp at hks) _ _ rfl)
        have hisk : isKept ks k = (ks[k] % 2 == 1) := by unfold isKept; rw [List.getElem?_eq_getElem hks]
        obtain ⟨ki, hkie⟩ : ∃ ki, ks[k] = ki := ⟨_, rfl⟩
        rw [hkie] at hkcell' hki hisk
        clear hkie hkcell
        have hnext := idx_take_succ hlt
        obtain ⟨g, cap, cur, he, hg, hcI, hcB, hsz⟩ := (hL.keeps hKr (fun g e h => hlg (by rw [e, h]))).at k hlt
        cases he
        have hm := List.getElem_mem hlt
        obtain ⟨q0, q1⟩ := hpl _ hm
        have hok := hL.ok _ hm
        have hby := hbyte _ hm
        obtain ⟨x, hx⟩ : ∃ x, ws[k] = x := ⟨_, rfl⟩
        rw [hx] at hcI hcB q0 q1 hok hnext hby
        obtain ⟨i, hi⟩ := Int.eq_ofNat_of_zero_le q0
        rw [hi] at hcI
        by_cases hodd : ki % 2 = 0
        · have hkept : isKept ks k = false := by rw [hisk, hodd]; rfl
          have hev : (ki % 2 == 0) = true := by simpa using hodd
          rw [← show keptOf ks (idx (ws.take (k + 1))) = keptOf ks (idx (ws.take k)) by rw [hnext, keptOf_snoc]; simp [hkept]] at gr
          have Hend : Hid (wr.heap[gb]? = some (.cells (crashRow t bl (keptOf ks (idx (ws.take (k + 1))))) 30 (0, 0))) := gr
          clear gr hcI hcB
          go_wp2
          exact ⟨⟨k + 1, by omega, by omega, by go_num, Hend.out, hKr⟩, by simp [intOf]; omega⟩
        · have hkept : isKept ks k = true := by rw [hisk]; simp; omega
          have hev : (ki % 2 == 0) = false := by simpa using hodd
          have hgg : ¬ g = gb := fun e => hlg (by rw [e]; rfl)
          have hiN : i < n := by omega
          have hmul : (i + 1) * 128 ≤ n * 128 := Nat.mul_le_mul_right 128 hiN
          obtain ⟨row, hrow⟩ : ∃ row, crashRow t bl (keptOf ks (idx (ws.take k))) = row := ⟨_, rfl⟩
          have hsR : row.size = n * 128 := by
            rw [← hrow]
            exact size_crashRow t n _ _ hbl (fun y hy => ⟨hL.ok _ (List.mem_of_mem_take (mem_idx (List.mem_filter.1 hy).1)), hpl _ (List.mem_of_mem_take (mem_idx (List.mem_filter.1 hy).1))⟩)
          have Hrow : Hid (over row (i * 128) (x.2.take (cutOf t k)).toArray = crashRow t bl (keptOf ks (idx (ws.take (k + 1))))) := by
            show over _ _ _ = _
            rw [hnext, keptOf_snoc, if_pos hkept, crashRow_snoc, hrow]
            simp [crashStep, hi]
          have rx : wr.rangeAt g (k * 129 + 1) x.2 := by
            have := rangeAt_cellsAt wr g (k * 129 + 1) 128
            rw [hcB] at this
            exact this
          rw [hrow] at gr
          have hi0 : (0 : Int) ≤ (i : Int) := by omega
          have hi1 : (i : Int) < (n : Int) := by omega
          have hx1 := hok.1
          clear hnext hx hi q0 q1 hpl hm hcB hrow hbyte
          by_cases hit : (k : Int) = t
          · have hit' : ((k : Int) == t) = true := by simpa using hit
            have hN : cutOf t k = 64 := by unfold cutOf; rw [if_pos hit]
            rw [hN] at Hrow
            clear hN hit
            obtain ⟨w0, rfl⟩ : ∃ w0, w0 = wr := ⟨_, rfl⟩
            go_wp2
            go_loopw [8] (fun m wq => ∃ (q : Nat), q ≤ 64 ∧ m = .int .i64 (q : Int) ∧ wq.heap[gb]? = some (.cells (over row (i * 128) (x.2.take q).toArray) 30 (0, 0)) ∧ Keeps (· = gb) w0 wq) (fun m _ => 64 - (intOf m).toNat)
            case atStart => exact ⟨0, by omega, rfl, by rw [List.take_zero, over_nil _ _ (by omega)]; exact gr, Keeps.refl _ _⟩
            case round =>
              obtain ⟨q, hq, rfl, gq, hKq⟩ := hrel
              by_cases hqn : q < 64
              · have hqn' : (q : Int) < 64 := by omega
                have hq00 : (0 : Int) ≤ (q : Int) := by omega
                have hq128 : (q : Int) < 128 := by omega
                have hq1 : q < x.2.length := by rw [hok.1]; omega
                have d0 := dk_cell_keeps hKq c0 hpg
                have d1 := dk_cell_keeps hKq c1 hpg
                have dI := dk_cell_keeps hKq hcI hgg
                have dB : wr.cell? ⟨g, k * 129 + 1 + q, none⟩ = some x.2[q] := dk_cell_keeps hKq (rx q x.2[q] (by simp [hq1])) hgg
                obtain ⟨z, hz⟩ : ∃ z, x.2[q] = .int .u8 z := hby _ (List.getElem_mem hq1)
                rw [hz] at dB
                have hsq : (over row (i * 128) (x.2.take q).toArray).size = row.size := size_over (by simp; omega)
                have hcell : wr.drew.cell? ⟨gb, i * 128 + q, none⟩ = some ((over row (i * 128) (x.2.take q).toArray)[i * 128 + q]'(by omega)) := by
                  rw [cell_of_row wr.drew _ _ _ _ _ gq, Array.getElem?_eq_getElem]
                have hfz : wr.drew.frozen? ⟨gb, i * 128 + q, none⟩ = false := frozen_of_row wr.drew _ _ _ _ gq
                have kC : ∀ u, Keeps (· = gb) wr ((wr.setCell ⟨gb, i * 128 + q, none⟩ u).drew) := fun u => ((Keeps.refl (· = gb) wr).setCell (p := ⟨gb, i * 128 + q, none⟩) (.inl rfl) _).drew
                have hnx : (over row (i * 128) (x.2.take q).toArray).setIfInBounds (i * 128 + q) (.int .u8 z) = over row (i * 128) (x.2.take (q + 1)).toArray := by
                  rw [← hz]; exact over_take_succ row (i * 128) x.2 q hq1 (by omega)
                have Hnx : Hid ((wr.setCell ⟨gb, i * 128 + q, none⟩ (.int .u8 z)).heap[gb]? = some (.cells (over row (i * 128) (x.2.take (q + 1)).toArray) 30 (0, 0))) := by
                  have := heap_setCell_same wr gb (i * 128 + q) _ _ (.int .u8 z) gq
                  rw [hnx] at this
                  exact this
                clear hnx hz rx
                go_wp2_with fail
                go_region_held3 (fun w' => w'.cell? ⟨p, 0, none⟩ = some (.slice (some ⟨gb, 0, none⟩) n n) ∧ w'.cell? ⟨p, 1, none⟩ = some (.slice (some ⟨g, 0, none⟩) ws.length vc) ∧ w'.cell? ⟨g, k * 129, none⟩ = some (.int .i64 (i : Int)) ∧ w'.cell? ⟨g, k * 129 + 1 + q, none⟩ = some (.int .u8 z))
                  (first | assumption | exact ⟨d0, d1, dI, dB⟩ | exact ⟨dk_cell_keeps (kC _) d0 hpg, dk_cell_keeps (kC _) d1 hpg, dk_cell_keeps (kC _) dI hgg, dk_cell_keeps (kC _) dB hgg⟩) (fail)
                go_wp2
                exact ⟨⟨q + 1, by omega, by go_num, Hnx.out, hKq.trans (kC _)⟩, by simp [intOf]; omega⟩
              · obtain rfl : q = 64 := by omega
                rw [Hrow.out] at gq
                have Hend : Hid (wr.heap[gb]? = some (.cells (crashRow t bl (keptOf ks (idx (ws.take (k + 1))))) 30 (0, 0)) ∧ Keeps (· = gb) w wr) := ⟨gq, hKr.trans hKq⟩
                clear gq hKq
                go_wp2
                exact ⟨⟨k + 1, by omega, by omega, by go_num, Hend.out⟩, by simp [intOf]; omega⟩
          · have hit' : ((k : Int) == t) = false := by simpa using hit
            have hN : cutOf t k = 128 := by unfold cutOf; rw [if_neg hit]
            rw [hN] at Hrow
            clear hN hit
            obtain ⟨w0, rfl⟩ : ∃ w0, w0 = wr := ⟨_, rfl⟩
            go_wp2
            go_loopw [8] (fun m wq => ∃ (q : Nat), q ≤ 128 ∧ m = .int .i64 (q : Int) ∧ wq.heap[gb]? = some (.cells (over row (i * 128) (x.2.take q).toArray) 30 (0, 0)) ∧ Keeps (· = gb) w0 wq) (fun m _ => 128 - (intOf m).toNat)
            case atStart => exact ⟨0, by omega, rfl, by rw [List.take_zero, over_nil _ _ (by omega)]; exact gr, Keeps.refl _ _⟩
            case round =>
              obtain ⟨q, hq, rfl, gq, hKq⟩ := hrel
              by_cases hqn : q < 128
              · have hqn' : (q : Int) < 128 := by omega
                have hq00 : (0 : Int) ≤ (q : Int) := by omega
                have hq128 : (q : Int) < 128 := by omega
                have hq1 : q < x.2.length := by rw [hok.1]; omega
                have d0 := dk_cell_keeps hKq c0 hpg
                have d1 := dk_cell_keeps hKq c1 hpg
                have dI := dk_cell_keeps hKq hcI hgg
                have dB : wr.cell? ⟨g, k * 129 + 1 + q, none⟩ = some x.2[q] := dk_cell_keeps hKq (rx q x.2[q] (by simp [hq1])) hgg
                obtain ⟨z, hz⟩ : ∃ z, x.2[q] = .int .u8 z := hby _ (List.getElem_mem hq1)
                rw [hz] at dB
                have hsq : (over row (i * 128) (x.2.take q).toArray).size = row.size := size_over (by simp; omega)
                have hcell : wr.drew.cell? ⟨gb, i * 128 + q, none⟩ = some ((over row (i * 128) (x.2.take q).toArray)[i * 128 + q]'(by omega)) := by
                  rw [cell_of_row wr.drew _ _ _ _ _ gq, Array.getElem?_eq_getElem]
                have hfz : wr.drew.frozen? ⟨gb, i * 128 + q, none⟩ = false := frozen_of_row wr.drew _ _ _ _ gq
                have kC : ∀ u, Keeps (· = gb) wr ((wr.setCell ⟨gb, i * 128 + q, none⟩ u).drew) := fun u => ((Keeps.refl (· = gb) wr).setCell (p := ⟨gb, i * 128 + q, none⟩) (.inl rfl) _).drew
                have hnx : (over row (i * 128) (x.2.take q).toArray).setIfInBounds (i * 128 + q) (.int .u8 z) = over row (i * 128) (x.2.take (q + 1)).toArray := by
                  rw [← hz]; exact over_take_succ row (i * 128) x.2 q hq1 (by omega)
                have Hnx : Hid ((wr.setCell ⟨gb, i * 128 + q, none⟩ (.int .u8 z)).heap[gb]? = some (.cells (over row (i * 128) (x.2.take (q + 1)).toArray) 30 (0, 0))) := by
                  have := heap_setCell_same wr gb (i * 128 + q) _ _ (.int .u8 z) gq
                  rw [hnx] at this
                  exact this
                clear hnx hz rx
                go_wp2_with fail
                go_region_held3 (fun w' => w'.cell? ⟨p, 0, none⟩ = some (.slice (some ⟨gb, 0, none⟩) n n) ∧ w'.cell? ⟨p, 1, none⟩ = some (.slice (some ⟨g, 0, none⟩) ws.length vc) ∧ w'.cell? ⟨g, k * 129, none⟩ = some (.int .i64 (i : Int)) ∧ w'.cell? ⟨g, k * 129 + 1 + q, none⟩ = some (.int .u8 z))
                  (first | assumption | exact ⟨d0, d1, dI, dB⟩ | exact ⟨dk_cell_keeps (kC _) d0 hpg, dk_cell_keeps (kC _) d1 hpg, dk_cell_keeps (kC _) dI hgg, dk_cell_keeps (kC _) dB hgg⟩) (fail)
                go_wp2
                exact ⟨⟨q + 1, by omega, by go_num, Hnx.out, hKq.trans (kC _)⟩, by simp [intOf]; omega⟩
              · obtain rfl : q = 128 := by omega
                rw [Hrow.out] at gq
                have Hend : Hid (wr.heap[gb]? = some (.cells (crashRow t bl (keptOf ks (idx (ws.take (k + 1))))) 30 (0, 0)) ∧ Keeps (· = gb) w wr) := ⟨gq, hKr.trans hKq⟩
                clear gq hKq
                go_wp2
                exact ⟨⟨k + 1, by omega, by omega, by go_num, Hend.out⟩, by simp [intOf]; omega⟩
      · obtain rfl : k = ks.length := by omega
        rw [← keptOf_rest ks ws ks.length (Nat.le_refl _)] at gr
        have f1 := hDr.free 1
        have f2 := hDr.free 2
        have f3 := hDr.free 3
        obtain ⟨_, _, c2, c3, _⟩ := hDr.cells
        go_wp2
        go_end0
        refine ⟨rfl, ((hDr.set1 _).set2 _).set3 _, ?_, ?_⟩
        · rw [heap_setCell_other _ _ _ _ (fun e => hpg e.symm), heap_setCell_other _ _ _ _ (fun e => hpg e.symm), heap_setCell_other _ _ _ _ (fun e => hpg e.symm)]; exact gr
        · exact (((hKr.mono (fun k _ e => .inr e)).setCell (p := ⟨p, 1, none⟩) (.inl (.inl rfl)) _).setCell (p := ⟨p, 2, none⟩) (.inl (.inl rfl)) _).setCell (p := ⟨p, 3, none⟩) (.inl (.inl rfl)) _
    · obtain rfl : k = ws.length := by omega
      rw [List.take_length] at gr
      have f1 := hDr.free 1
      have f2 := hDr.free 2
      have f3 := hDr.free 3
      obtain ⟨_, _, c2, c3, _⟩ := hDr.cells
      go_wp2
      go_end0
      refine ⟨rfl, ((hDr.set1 _).set2 _).set3 _, ?_, ?_⟩
      · rw [heap_setCell_other _ _ _ _ (fun e => hpg e.symm), heap_setCell_other _ _ _ _ (fun e => hpg e.symm), heap_setCell_other _ _ _ _ (fun e => hpg e.symm)]; exact gr
      · exact (((hKr.mono (fun k _ e => .inr e)).setCell (p := ⟨p, 1, none⟩) (.inl (.inl rfl)) _).setCell (p := ⟨p, 2, none⟩) (.inl (.inl rfl)) _).setCell (p := ⟨p, 3, none⟩) (.inl (.inl rfl)) _
end

/-! DTe: The disk and the reference, side by side. -/
section
open Go.RowKit Go.Shelf

/-- The state that the disk has where the reference has s: its fuse is at the least -1. -/
def DS.cap (s : DS) : DS := { s with F := max s.F (-1) }

theorem cap_zero {F : Int} : max F (-1) = 0 ↔ F = 0 := by omega
theorem burnt_cap (F : Int) : burnt (max F (-1)) = max (burnt F) (-1) := by unfold burnt; split <;> split <;> omega

theorem cap_write (s : DS) (i : Int) (b : List Value) : s.cap.write i b = ((s.write i b).1, (s.write i b).2.cap) := by
  have hF : s.cap.F = max s.F (-1) := rfl
  have hn : s.cap.n = s.n := rfl
  have hdn : s.cap.dn = s.dn := rfl
  unfold DS.write
  by_cases h1 : i < 0 ∨ (s.n : Int) ≤ i
  · rw [if_pos (by rw [hn]; exact h1), if_pos h1]
  · rw [if_neg (by rw [hn]; exact h1), if_neg h1]
    by_cases h2 : s.F = 0 ∨ s.dn = true
    · rw [if_pos (by rw [hF, hdn, cap_zero]; exact h2), if_pos h2]; rfl
    · rw [if_neg (by rw [hF, hdn, cap_zero]; exact h2), if_neg h2]
      unfold DS.cap
      dsimp only
      rw [burnt_cap]

theorem cap_sync (s : DS) : s.cap.sync = (s.sync.1, s.sync.2.cap) := by
  have hF : s.cap.F = max s.F (-1) := rfl
  have hdn : s.cap.dn = s.dn := rfl
  unfold DS.sync
  by_cases h2 : s.F = 0 ∨ s.dn = true
  · rw [if_pos (by rw [hF, hdn, cap_zero]; exact h2), if_pos h2]; rfl
  · rw [if_neg (by rw [hF, hdn, cap_zero]; exact h2), if_neg h2]
    unfold DS.cap
    dsimp only
    rw [burnt_cap]

theorem cap_crash (s : DS) (ks : List Int) (t : Int) : s.cap.crash ks t = (s.crash ks t).cap := rfl
theorem cap_read (s : DS) (i : Int) : s.cap.read i = s.read i := rfl

def DS.raw (s : DS) (n : Int) : DS := { s with F := n }
theorem cap_fuse (s : DS) (n : Int) : s.cap.fuse n = (s.raw n).cap := rfl

theorem DS.Ok.cap {s : DS} (h : s.Ok) : s.cap.Ok := ⟨h.size, h.one, h.lw, by show _ ≤ max s.F (-1); have := h.lo; omega, by show max s.F (-1) ≤ _; have := h.hi; omega⟩
theorem DS.Ok.raw {s : DS} (h : s.Ok) (n : Int) (h0 : -9223372036854775808 ≤ n) (h1 : n ≤ 9223372036854775807) : (s.raw n).Ok := ⟨h.size, h.one, h.lw, h0, h1⟩

/-- All of a state's bytes are bytes. -/
structure DS.By (s : DS) : Prop where
  bl : AllByte s.bl
  ws : ∀ x ∈ s.ws, ∀ v ∈ x.2, ∃ z, v = .int .u8 z

theorem By.new (n : Nat) : (DS.new n).By := ⟨allByte_zeros n, fun x hx => by cases hx⟩
theorem DS.By.raw {s : DS} (h : s.By) (n : Int) : (s.raw n).By := ⟨h.bl, h.ws⟩
theorem DS.By.write {s : DS} (h : s.By) (i : Int) (v : Int) : (s.write i (fill v).toList).2.By := by
  unfold DS.write
  split
  · exact h
  · split
    · exact ⟨h.bl, h.ws⟩
    · refine ⟨h.bl, fun x hx u hu => ?_⟩
      rcases List.mem_append.1 hx with hx | hx
      · exact h.ws x hx u hu
      · obtain rfl : x = (i, (fill v).toList) := by simpa using hx
        rw [show (fill v).toList = List.replicate 128 (.int .u8 v) by simp [fill]] at hu
        exact ⟨v, List.eq_of_mem_replicate hu⟩

theorem allByte_crashRow (t : Int) (n : Nat) (l : List (Nat × LW)) : ∀ (row : Array Value), row.size = n * 128 → (∀ y ∈ l, LwOk y.2 ∧ 0 ≤ y.2.1 ∧ y.2.1 < (n : Int)) → AllByte row → (∀ y ∈ l, ∀ v ∈ y.2.2, ∃ z, v = .int .u8 z) → AllByte (crashRow t row l) := by
  induction l with
  | nil => intro row _ _ h _; exact h
  | cons y l ih =>
    intro row hs hok h hl
    have hy := hok y (by simp)
    have hf : y.2.1.toNat * 128 + (y.2.2.take (cutOf t y.1)).toArray.size ≤ row.size := by
      have hmul : (y.2.1.toNat + 1) * 128 ≤ n * 128 := Nat.mul_le_mul_right 128 (by omega)
      have := hy.1.1
      simp; omega
    show AllByte (crashRow t (over row (y.2.1.toNat * 128) (y.2.2.take (cutOf t y.1)).toArray) l)
    refine ih _ (by rw [size_over hf]; exact hs) (fun z hz => hok z (by simp [hz])) (allByte_over h (fun j v hv => ?_) hf) (fun z hz => hl z (by simp [hz]))
    have hv' : v ∈ y.2.2.take (cutOf t y.1) := by
      rw [List.getElem?_toArray] at hv
      exact List.mem_of_getElem? hv
    exact hl y (by simp) v (List.mem_of_mem_take hv')

theorem DS.By.crash {s : DS} (h : s.By) (hok : s.Ok) (ks : List Int) (t : Int) : (s.crash ks t).By :=
  ⟨allByte_crashRow t s.n _ _ hok.size (fun y hy => hok.lw y.2 (mem_idx (List.mem_filter.1 hy).1)) h.bl (fun y hy => h.ws y.2 (mem_idx (List.mem_filter.1 hy).1)), fun x hx => by cases hx⟩
theorem DS.By.sync {s : DS} (h : s.By) (hok : s.Ok) : s.sync.2.By := by
  unfold DS.sync
  split
  · exact ⟨h.bl, h.ws⟩
  · exact ⟨allByte_crashRow (-1) s.n _ _ hok.size (fun y hy => hok.lw y.2 (mem_idx hy)) h.bl (fun y hy => h.ws y.2 (mem_idx hy)), fun x hx => by cases hx⟩

theorem DS.By.read {s : DS} (h : s.By) (hok : s.Ok) (i : Int) : Bytes (s.read i).1 := by
  unfold DS.read
  split
  · exact bytes_fill 0
  · split
    · exact bytes_fill 0
    · rename_i h1 h2
      show Bytes (s.block i.toNat)
      have hmul : (i.toNat + 1) * 128 ≤ s.n * 128 := Nat.mul_le_mul_right 128 (by omega)
      have hsz := hok.size
      unfold DS.block
      split
      · rename_i x hx
        have hm : x ∈ s.ws := by simpa using List.mem_of_find?_eq_some hx
        have hl := (hok.lw x hm).1.1
        refine ⟨by simp [hl], fun j hj => ?_⟩
        rw [List.getElem?_toArray, List.getElem?_eq_getElem (by omega)]
        obtain ⟨z, hz⟩ := h.ws x hm _ (List.getElem_mem (show j < x.2.length by omega))
        exact ⟨z, by rw [hz]⟩
      · exact bytes_blk h.bl (by omega)

/-- The reference's blocks. -/
def Rs (p gb : Nat) (vr : Value) (k : Nat) : Prop := k = p ∨ k = gb ∨ vr.ownBlock = some k

/-- The disk lies at p, gb with the state s and the reference at p', gb' with the state r; they share nothing, all of it is at or beyond B, and none of X is among it. -/
structure Half (B : Nat) (X : Nat → Prop) (w : World) (p gb p' gb' : Nat) (s r : DS) : Prop where
  out : ∃ vr, Lies B (fun k => Rs p' gb' vr k ∨ X k) w p gb s ∧ RefAt w p' (.slice (some ⟨gb', 0, none⟩) r.n r.n) vr r.F r.dn r.dc ∧ w.heap[gb']? = some (.cells r.bl 30 (0, 0)) ∧ w.ownsRow 0 96 129 vr r.ws.length (dk_flat r.ws) ∧
    p' ≠ gb' ∧ vr.ownBlock ≠ some p' ∧ vr.ownBlock ≠ some gb' ∧ B ≤ p' ∧ B ≤ gb' ∧ (∀ g, vr.ownBlock = some g → B ≤ g) ∧ (∀ k, X k → ¬ Rs p' gb' vr k)

section
variable {B : Nat} {X : Nat → Prop} {w : World} {p gb p' gb' : Nat} {s r : DS}

theorem Half.kept {w' : World} (h : Half B X w p gb p' gb' s r) (hk : Keeps (fun _ => False) w w') : Half B X w' p gb p' gb' s r := by
  obtain ⟨vr, hl, hR, hB, hL, h1⟩ := h.out
  exact ⟨vr, hl.kept hk, hR.kept hk (fun h => h), (hk.block gb' (Array.getElem?_eq_some_iff.1 hB).1 (fun h => h)).trans hB, ownsRow_keeps hL hk (fun _ _ h => h), h1⟩

theorem Half.ref_lt (h : Half B X w p gb p' gb' s r) : ∃ vr, Lies B (fun k => Rs p' gb' vr k ∨ X k) w p gb s ∧ (∀ k, Rs p' gb' vr k → k < w.heap.size) := by
  obtain ⟨vr, hl, hR, hB, hL, h1, h2, h3, h4, h5, h6, h7⟩ := h.out
  refine ⟨vr, hl, ?_⟩
  rintro k (rfl | rfl | e)
  · exact hR.lt
  · exact (Array.getElem?_eq_some_iff.1 hB).1
  · exact (hL.lt k e).2

theorem Half.more {X' : Nat → Prop} (h : Half B X w p gb p' gb' s r) (hX : ∀ k, X' k → X k ∨ w.heap.size ≤ k) : Half B X' w p gb p' gb' s r := by
  obtain ⟨vr, hl, hR, hB, hL, h1, h2, h3, h4, h5, h6, h7⟩ := h.out
  have hlt : ∀ k, Rs p' gb' vr k → k < w.heap.size := by
    rintro k (rfl | rfl | e)
    · exact hR.lt
    · exact (Array.getElem?_eq_some_iff.1 hB).1
    · exact (hL.lt k e).2
  refine ⟨vr, hl.more ?_, hR, hB, hL, h1, h2, h3, h4, h5, h6, fun k hk hr => ?_⟩
  · rintro k (e | e)
    · exact .inl (.inl e)
    · rcases hX k e with e | e
      · exact .inl (.inr e)
      · exact .inr e
  · rcases hX k hk with e | e
    · exact h7 k e hr
    · have := hlt k hr; omega

/-- What the disk's own contract gives. -/
theorem Half.disk (h : Half B X w p gb p' gb' s r) (hX : ∀ k, X k → k < w.heap.size) :
    ∃ C, Lies B C w p gb s ∧ (∀ k, C k → k < w.heap.size) ∧ ∀ w' s', Lies B C w' p gb s' → Keeps (Own1 B C) w w' → Half B X w' p gb p' gb' s' r ∧ Keeps (Own1 B X) w w' := by
  obtain ⟨vr, hl, hR, hB, hL, h1, h2, h3, h4, h5, h6, h7⟩ := h.out
  have hgl := (Array.getElem?_eq_some_iff.1 hB).1
  refine ⟨_, hl, ?_, fun w' s' hl' hk => ⟨⟨vr, hl', hR.kept hk (fun e => e.2 (.inl (.inl rfl))), (hk.block gb' hgl (fun e => e.2 (.inl (.inr (.inl rfl))))).trans hB, ownsRow_keeps hL hk (fun g e he => he.2 (.inl (.inr (.inr e)))), h1, h2, h3, h4, h5, h6, h7⟩, hk.mono (fun k _ e => ⟨e.1, fun x => e.2 (.inr x)⟩)⟩⟩
  rintro k ((rfl | rfl | e) | e)
  · exact hR.lt
  · exact hgl
  · exact (hL.lt k e).2
  · exact hX k e

/-- The reference moved in its own blocks; its loose writes may lie in a new one. -/
theorem Lies.moved {w' : World} {vr vr' : Value} (h : Lies B (fun k => Rs p' gb' vr k ∨ X k) w p gb s) (hk : Keeps (Rs p' gb' vr) w w') (hn : ∀ g, vr'.ownBlock = some g → vr.ownBlock = some g ∨ w.heap.size ≤ g) : Lies B (fun k => Rs p' gb' vr' k ∨ X k) w' p gb s := by
  have h1 : Lies B (fun k => (Rs p' gb' vr k ∨ X k) ∨ w.heap.size ≤ k) w p gb s := h.more (fun k e => e)
  have h2 := h1.keptC (hk.mono (fun k _ e => .inl (.inl e)))
  refine h2.more (fun k e => .inl ?_)
  rcases e with (e | e | e) | e
  · exact .inl (.inl (.inl e))
  · exact .inl (.inl (.inr (.inl e)))
  · rcases hn k e with e | e
    · exact .inl (.inl (.inr (.inr e)))
    · exact .inr e
  · exact .inl (.inr e)

/-- All that the reference's own contract has to give. -/
theorem Half.ref {w' : World} {vr vr' : Value} {r' : DS} (hl : Lies B (fun k => Rs p' gb' vr k ∨ X k) w p gb s) (hk : Keeps (Rs p' gb' vr) w w') (hn : ∀ g, vr'.ownBlock = some g → vr.ownBlock = some g ∨ w.heap.size ≤ g)
    (hX : ∀ k, X k → k < w.heap.size) (hBw : B ≤ w.heap.size) (hp : p' < w.heap.size) (hg : gb' < w.heap.size) (h1 : p' ≠ gb') (h2 : vr.ownBlock ≠ some p') (h3 : vr.ownBlock ≠ some gb') (h4 : B ≤ p') (h5 : B ≤ gb') (h6 : ∀ g, vr.ownBlock = some g → B ≤ g) (h7 : ∀ k, X k → ¬ Rs p' gb' vr k)
    (hR : RefAt w' p' (.slice (some ⟨gb', 0, none⟩) r'.n r'.n) vr' r'.F r'.dn r'.dc) (hB : w'.heap[gb']? = some (.cells r'.bl 30 (0, 0))) (hL : w'.ownsRow 0 96 129 vr' r'.ws.length (dk_flat r'.ws)) :
    Half B X w' p gb p' gb' s r' ∧ Keeps (Own1 B X) w w' := by
  refine ⟨⟨vr', hl.moved hk hn, hR, hB, hL, h1, ?_, ?_, h4, h5, ?_, ?_⟩, hk.mono ?_⟩
  · intro e; rcases hn _ e with e | e; exact h2 e; omega
  · intro e; rcases hn _ e with e | e; exact h3 e; omega
  · intro g e; rcases hn _ e with e | e; exact h6 g e; omega
  · rintro k hx (e | e | e)
    · exact h7 k hx (.inl e)
    · exact h7 k hx (.inr (.inl e))
    · rcases hn _ e with e | e
      · exact h7 k hx (.inr (.inr e))
      · have := hX k hx; omega
  · rintro k _ (e | e | e)
    · exact ⟨by omega, fun x => h7 k x (.inl e)⟩
    · exact ⟨by omega, fun x => h7 k x (.inr (.inl e))⟩
    · exact ⟨h6 k e, fun x => h7 k x (.inr (.inr e))⟩

theorem rwrite_half (h : Half B X w p gb p' gb' s r) (hok : r.Ok) (hX : ∀ k, X k → k < w.heap.size) (hBw : B ≤ w.heap.size) (hdc : 0 ≤ r.dc ∧ r.dc < 1000000) (hws : r.ws.length < 1000000)
    (i : Int) (b : List Value) (hb : b.length = 128 ∧ ∀ v ∈ b, v.oneCell' = true) :
    Calls Tryd.prog 23 #[.pointer (some ⟨p', 0, none⟩), .int .i64 i, .agg b.toArray] w fun e w' => e = .returned (.int .i64 (r.write i b).1) ∧ Half B X w' p gb p' gb' s (r.write i b).2 ∧ Keeps (Own1 B X) w w' := by
  obtain ⟨vr, hl, hR, hB, hL, h1, h2, h3, h4, h5, h6, h7⟩ := h.out
  have hgl : gb' < w.heap.size := (Array.getElem?_eq_some_iff.1 hB).1
  have hpl := hR.lt
  unfold DS.write
  by_cases hin : 0 ≤ i ∧ i < (r.n : Int)
  · rw [if_neg (by omega)]
    by_cases hd : r.F = 0 ∨ r.dn = true
    · rw [if_pos hd]
      refine (rwrite_down w p' _ r.n r.n vr r.F r.dn r.dc hR i _ hin hd).mono ?_
      rintro e w' ⟨rfl, hR', hk⟩
      exact ⟨rfl, Half.ref hl (hk.mono (fun k _ e => .inl e)) (fun g e => .inl e) hX hBw hpl hgl h1 h2 h3 h4 h5 h6 h7 hR' ((hk.block gb' hgl (fun e => h1 e.symm)).trans hB) (ownsRow_keeps hL hk (fun g e he => h2 (by rw [e, he])))⟩
    · rw [if_neg hd]
      simp only [not_or, Bool.not_eq_true] at hd
      rw [hd.2] at hR
      refine (rwrite_goes w p' _ r.n r.n vr r.F r.dc hR r.ws.length (dk_flat r.ws) hL h2 i b hb.1 hb.2 hin.1 hin.2 hd.1 hok.lo hok.hi hdc.1 hdc.2 hws).mono ?_
      rintro e w' ⟨rfl, g, cap, hR', hL', hg, hk⟩
      have hown : (Value.slice (some ⟨g, 0, none⟩) (r.ws.length + 1) cap).ownBlock = some g := rfl
      refine ⟨rfl, Half.ref (vr' := .slice (some ⟨g, 0, none⟩) (r.ws.length + 1) cap) hl (hk.mono (fun k _ e => by rcases e with e | e; exact .inl e; exact .inr (.inr e))) (fun g' e => by rw [hown] at e; cases e; exact hg) hX hBw hpl hgl h1 h2 h3 h4 h5 h6 h7 ?_ ?_ ?_⟩
      · dsimp only; rw [hd.2]; exact hR'
      · exact (hk.block gb' hgl (fun e => by rcases e with e | e; exact h1 e.symm; exact h3 e)).trans hB
      · dsimp only; rw [List.length_append, List.length_singleton, dk_flat_snoc]; exact hL'
  · rw [if_pos (by omega)]
    refine (rwrite_out w p' _ r.n r.n vr r.F r.dn r.dc hR i _ hin).mono ?_
    rintro e w' ⟨rfl, hk⟩
    exact ⟨rfl, h.kept hk, hk.mono (fun _ _ h => h.elim)⟩

theorem rread_half (h : Half B X w p gb p' gb' s r) (hok : r.Ok) (hws : r.ws.length < 1000000) (i : Int) :
    Calls Tryd.prog 49 #[.pointer (some ⟨p', 0, none⟩), .int .i64 i] w fun e w' => e = .returned (.tuple #[.agg (r.read i).1, .int .i64 (r.read i).2]) ∧ Keeps (fun _ => False) w w' := by
  obtain ⟨vr, hl, hR, hB, hL, h1, h2, h3, h4, h5, h6, h7⟩ := h.out
  unfold DS.read
  by_cases hin : 0 ≤ i ∧ i < (r.n : Int)
  · rw [if_neg (by omega)]
    by_cases hd : r.dn = true
    · rw [if_pos hd]
      rw [hd] at hR
      exact rread_down w p' _ r.n r.n vr r.F r.dc hR i hin
    · rw [if_neg hd]
      simp only [Bool.not_eq_true] at hd
      rw [hd] at hR
      obtain ⟨j, hj⟩ := Int.eq_ofNat_of_zero_le hin.1
      subst hj
      exact rread_ok w p' gb' r.n vr r.F r.dc r.ws r.bl hR hB hok.size hok.one ⟨hL, fun x hx => (hok.lw x hx).1⟩ hws j (by omega)
  · rw [if_pos (by omega)]
    exact rread_out w p' _ r.n r.n vr r.F r.dn r.dc hR i hin

theorem rsync_half (h : Half B X w p gb p' gb' s r) (hok : r.Ok) (hX : ∀ k, X k → k < w.heap.size) (hBw : B ≤ w.heap.size) (hdc : 0 ≤ r.dc ∧ r.dc < 1000000) (hws : r.ws.length < 1000000) :
    Calls Tryd.prog 42 #[.pointer (some ⟨p', 0, none⟩)] w fun e w' => e = .returned (.int .i64 r.sync.1) ∧ Half B X w' p gb p' gb' s r.sync.2 ∧ Keeps (Own1 B X) w w' := by
  obtain ⟨vr, hl, hR, hB, hL, h1, h2, h3, h4, h5, h6, h7⟩ := h.out
  have hgl : gb' < w.heap.size := (Array.getElem?_eq_some_iff.1 hB).1
  have hpl := hR.lt
  unfold DS.sync
  by_cases hd : r.F = 0 ∨ r.dn = true
  · rw [if_pos hd]
    refine (rsync_down w p' _ vr r.F r.dn r.dc hR hd).mono ?_
    rintro e w' ⟨rfl, hR', hk⟩
    exact ⟨rfl, Half.ref hl (hk.mono (fun k _ e => .inl e)) (fun g e => .inl e) hX hBw hpl hgl h1 h2 h3 h4 h5 h6 h7 hR' ((hk.block gb' hgl (fun e => h1 e.symm)).trans hB) (ownsRow_keeps hL hk (fun g e he => h2 (by rw [e, he])))⟩
  · rw [if_neg hd]
    simp only [not_or, Bool.not_eq_true] at hd
    rw [hd.2] at hR
    refine (rsync_goes w p' gb' r.n vr r.F r.dc r.ws r.bl hR hB hok.size ⟨hL, fun x hx => (hok.lw x hx).1⟩ hws (fun x hx => (hok.lw x hx).2) h1 h3 h2 hd.1 hok.lo hok.hi hdc.1 hdc.2).mono ?_
    rintro e w' ⟨rfl, hR', hB', hk⟩
    exact ⟨rfl, Half.ref (vr' := .slice none 0 0) hl (hk.mono (fun k _ e => by rcases e with e | e; exact .inl e; exact .inr (.inl e))) (fun g e => by cases e) hX hBw hpl hgl h1 h2 h3 h4 h5 h6 h7 (by dsimp only; rw [hd.2]; exact hR') hB' (World.ownsRow_nil _ _ _ _)⟩

theorem rcrash_half (h : Half B X w p gb p' gb' s r) (hok : r.Ok) (hby : r.By) (hX : ∀ k, X k → k < w.heap.size) (hBw : B ≤ w.heap.size) (hws : r.ws.length < 1000000) (ka : Option Addr) (kc : Nat) (ks : List Int) (t : Int) (hK : KeepAt w ka ks) (hkl : ks.length ≤ 1000000) (hka : ks ≠ [] → ∀ b o, ka = some ⟨b, o, none⟩ → b ≠ gb') :
    Calls Tryd.prog 25 #[.pointer (some ⟨p', 0, none⟩), .slice ka ks.length kc, .int .i64 t] w fun e w' => e = .returned (.tuple #[]) ∧ Half B X w' p gb p' gb' s (r.crash ks t) ∧ Keeps (Own1 B X) w w' := by
  obtain ⟨vr, hl, hR, hB, hL, h1, h2, h3, h4, h5, h6, h7⟩ := h.out
  have hgl : gb' < w.heap.size := (Array.getElem?_eq_some_iff.1 hB).1
  have hpl := hR.lt
  refine (rcrash_any w p' gb' r.n vr r.F r.dc t r.dn r.ws r.bl ka kc ks hR hB hok.size ⟨hL, fun x hx => (hok.lw x hx).1⟩ hws (fun x hx => (hok.lw x hx).2) hby.ws hK hkl hka h1 h3).mono ?_
  rintro e w' ⟨rfl, hR', hB', hk⟩
  exact ⟨rfl, Half.ref (vr' := .slice none 0 0) hl (hk.mono (fun k _ e => by rcases e with e | e; exact .inl e; exact .inr (.inl e))) (fun g e => by cases e) hX hBw hpl hgl h1 h2 h3 h4 h5 h6 h7 hR' hB' (World.ownsRow_nil _ _ _ _)⟩

/-- The store of the reference's fuse. -/
theorem Half.fuse (h : Half B X w p gb p' gb' s r) (hX : ∀ k, X k → k < w.heap.size) (hBw : B ≤ w.heap.size) (n : Int) :
    Half B X (w.setCell ⟨p', 2, none⟩ (.int .i64 n)) p gb p' gb' s (r.raw n) ∧ Keeps (Own1 B X) w (w.setCell ⟨p', 2, none⟩ (.int .i64 n)) := by
  obtain ⟨vr, hl, hR, hB, hL, h1, h2, h3, h4, h5, h6, h7⟩ := h.out
  have hgl : gb' < w.heap.size := (Array.getElem?_eq_some_iff.1 hB).1
  have hk : Keeps (· = p') w (w.setCell ⟨p', 2, none⟩ (.int .i64 n)) := (Keeps.refl (· = p') w).setCell (p := ⟨p', 2, none⟩) (.inl rfl) _
  exact Half.ref hl (hk.mono (fun k _ e => .inl e)) (fun g e => .inl e) hX hBw hR.lt hgl h1 h2 h3 h4 h5 h6 h7 (hR.set2 n) ((hk.block gb' hgl (fun e => h1 e.symm)).trans hB) (ownsRow_keeps hL hk (fun g e he => h2 (by rw [e, he])))

/-- The reference's cells, as the law reads them. -/
theorem Half.cells (h : Half B X w p gb p' gb' s r) :
    ∃ la lc, w.cell? ⟨p', 0, none⟩ = some (.slice (some ⟨gb', 0, none⟩) r.n r.n) ∧ w.cell? ⟨p', 1, none⟩ = some (.slice la r.ws.length lc) ∧ w.cell? ⟨p', 2, none⟩ = some (.int .i64 r.F) ∧ w.cell? ⟨p', 3, none⟩ = some (.bool r.dn) ∧ w.cell? ⟨p', 4, none⟩ = some (.int .i64 r.dc) ∧
      (∀ j, w.frozen? ⟨p', j, none⟩ = false) ∧ w.heap[gb']? = some (.cells r.bl 30 (0, 0)) := by
  obtain ⟨vr, hl, hR, hB, hL, _⟩ := h.out
  obtain ⟨c0, c1, c2, c3, c4⟩ := hR.cells
  rcases hL.2 with ⟨rfl, h0⟩ | ⟨g, cap, cur, rfl, _⟩
  · exact ⟨none, 0, c0, by rw [h0]; exact c1, c2, c3, c4, fun j => hR.free j, hB⟩
  · exact ⟨_, _, c0, c1, c2, c3, c4, fun j => hR.free j, hB⟩

theorem Half.lies (h : Half B X w p gb p' gb' s r) : ∃ C, Lies B C w p gb s := by
  obtain ⟨vr, hl, _⟩ := h.out
  exact ⟨_, hl⟩

theorem Half.lt (h : Half B X w p gb p' gb' s r) : gb < w.heap.size ∧ gb' < w.heap.size ∧ B ≤ gb ∧ B ≤ gb' := by
  obtain ⟨vr, ⟨vl, _, hB1, _, _, _, _, _, q, _⟩, hR, hB, hL, h1, h2, h3, h4, h5, h6⟩ := h.out
  exact ⟨(Array.getElem?_eq_some_iff.1 hB1).1, (Array.getElem?_eq_some_iff.1 hB).1, q, h5⟩

/-! ### The disk's own, beside the reference; its state is the reference's, capped -/

theorem dwrite_half (h : Half B X w p gb p' gb' r.cap r) (hok : r.Ok) (hX : ∀ k, X k → k < w.heap.size) (hBw : B ≤ w.heap.size) (hdc : 0 ≤ r.dc ∧ r.dc < 1000000) (hws : r.ws.length < 1000000)
    (i : Int) (b : List Value) (hb : b.length = 128 ∧ ∀ v ∈ b, v.oneCell' = true) :
    Calls Tryd.prog 22 #[.pointer (some ⟨p, 0, none⟩), .int .i64 i, .agg b.toArray] w fun e w' => e = .returned (.int .i64 (r.write i b).1) ∧ Half B X w' p gb p' gb' (r.write i b).2.cap r ∧ Keeps (Own1 B X) w w' := by
  obtain ⟨C, hl, hC, hnext⟩ := h.disk hX
  refine (write_ds hl hok.cap hC hBw hdc hws i b hb).mono ?_
  rw [cap_write]
  rintro e w' ⟨rfl, hl', hk⟩
  exact ⟨rfl, hnext w' _ hl' hk⟩

theorem dread_half (h : Half B X w p gb p' gb' r.cap r) (hok : r.Ok) (hws : r.ws.length < 1000000) (i : Int) :
    Calls Tryd.prog 56 #[.pointer (some ⟨p, 0, none⟩), .int .i64 i] w fun e w' => e = .returned (.tuple #[.agg (r.read i).1, .int .i64 (r.read i).2]) ∧ Keeps (fun _ => False) w w' := by
  obtain ⟨C, hl⟩ := h.lies
  exact read_ds hl hok.cap hws i

theorem dsync_half (h : Half B X w p gb p' gb' r.cap r) (hok : r.Ok) (hX : ∀ k, X k → k < w.heap.size) (hdc : 0 ≤ r.dc ∧ r.dc < 1000000) (hws : r.ws.length < 1000000) :
    Calls Tryd.prog 41 #[.pointer (some ⟨p, 0, none⟩)] w fun e w' => e = .returned (.int .i64 r.sync.1) ∧ Half B X w' p gb p' gb' r.sync.2.cap r ∧ Keeps (Own1 B X) w w' := by
  obtain ⟨C, hl, hC, hnext⟩ := h.disk hX
  refine (sync_ds hl hok.cap hws hdc).mono ?_
  rw [cap_sync]
  rintro e w' ⟨rfl, hl', hk⟩
  exact ⟨rfl, hnext w' _ hl' hk⟩

theorem dcrash_half (h : Half B X w p gb p' gb' r.cap r) (hok : r.Ok) (hX : ∀ k, X k → k < w.heap.size) (hws : r.ws.length < 1000000) (ka : Option Addr) (kc : Nat) (ks : List Int) (t : Int) (hK : KeepAt w ka ks) (hka : ∀ b o, ka = some ⟨b, o, none⟩ → b ≠ gb) :
    Calls Tryd.prog 24 #[.pointer (some ⟨p, 0, none⟩), .slice ka ks.length kc, .int .i64 t] w fun e w' => e = .returned (.tuple #[]) ∧ Half B X w' p gb p' gb' (r.crash ks t).cap r ∧ Keeps (Own1 B X) w w' := by
  obtain ⟨C, hl, hC, hnext⟩ := h.disk hX
  refine (crash_ds hl hok.cap hws ka kc ks t hK hka).mono ?_
  rw [cap_crash]
  rintro e w' ⟨rfl, hl', hk⟩
  exact ⟨rfl, hnext w' _ hl' hk⟩

theorem dfuse_half (h : Half B X w p gb p' gb' r.cap r) (hX : ∀ k, X k → k < w.heap.size) (n : Int) :
    Calls Tryd.prog 26 #[.pointer (some ⟨p, 0, none⟩), .int .i64 n] w fun e w' => e = .returned (.tuple #[]) ∧ Half B X w' p gb p' gb' (r.raw n).cap r ∧ Keeps (Own1 B X) w w' := by
  obtain ⟨C, hl, hC, hnext⟩ := h.disk hX
  refine (fuse_ds hl n).mono ?_
  rw [cap_fuse]
  rintro e w' ⟨rfl, hl', hk⟩
  exact ⟨rfl, hnext w' _ hl' hk⟩

theorem dlen_half (h : Half B X w p gb p' gb' r.cap r) : Calls Tryd.prog 39 #[.pointer (some ⟨p, 0, none⟩)] w fun e w' => e = .returned (.int .i64 (r.n : Int)) ∧ w' = w := by
  obtain ⟨C, hl⟩ := h.lies
  exact len_ds (s := r.cap) hl
theorem ddown_half (h : Half B X w p gb p' gb' r.cap r) : Calls Tryd.prog 47 #[.pointer (some ⟨p, 0, none⟩)] w fun e w' => e = .returned (.bool r.dn) ∧ w' = w := by
  obtain ⟨C, hl⟩ := h.lies
  exact down_ds (s := r.cap) hl
end

/-- Both are new. -/
theorem half_new (n : Nat) {w w1 w2 : World} (hl : Lies w.heap.size none' w1 (w.heap.size + 1) w.heap.size (DS.new n)) (hs : w1.heap.size = w.heap.size + 2) (hk : Keeps (fun _ => False) w1 w2)
    (hR : RefAt w2 (w1.heap.size + 1) (.slice (some ⟨w1.heap.size, 0, none⟩) n n) (.slice none 0 0) (-1) false 0) (hB : w2.heap[w1.heap.size]? = some (.cells (zeros n) 30 (0, 0))) :
    Half w.heap.size (fun _ => False) w2 (w.heap.size + 1) w.heap.size (w1.heap.size + 1) w1.heap.size (DS.new n).cap (DS.new n) := by
  have h0 := hl.more (C' := fun k => Rs (w1.heap.size + 1) w1.heap.size (.slice none 0 0) k ∨ False) (fun k e => by
    rcases e with (e | e | e) | e
    · exact .inr (by omega)
    · exact .inr (by omega)
    · cases e
    · exact e.elim)
  exact ⟨_, h0.kept hk, hR, hB, World.ownsRow_nil _ _ _ _, by omega, by simp [Value.ownBlock], by simp [Value.ownBlock], by omega, by omega, by simp [Value.ownBlock], fun k h => h.elim⟩
end

end Go.Proofs.YtdgnjpdjohibeaaDoor
