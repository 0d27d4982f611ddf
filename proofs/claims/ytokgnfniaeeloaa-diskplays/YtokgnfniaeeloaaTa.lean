/-
  The reference's New, has, goes, Write.
-/
import Derived.Test.YtokgnfniaeeloaaSe
set_option linter.all false
namespace Go.Proofs.Ytokgnfniaeeloaa
open Go.RowKit Go.Shelf

/-- The reference's struct lies in block p: its five fields. -/
def RefAt (w : World) (p : Nat) (vb vl : Value) (F : Int) (dn : Bool) (dc : Int) : Prop :=
  w.heap[p]? = some (.cells #[vb, vl, .int .i64 F, .bool dn, .int .i64 dc] 51 (0, 0))

theorem RefAt.cells {w : World} {p : Nat} {vb vl : Value} {F : Int} {dn : Bool} {dc : Int} (h : RefAt w p vb vl F dn dc) :
    w.cell? ⟨p, 0, none⟩ = some vb ∧ w.cell? ⟨p, 1, none⟩ = some vl ∧ w.cell? ⟨p, 2, none⟩ = some (.int .i64 F) ∧ w.cell? ⟨p, 3, none⟩ = some (.bool dn) ∧ w.cell? ⟨p, 4, none⟩ = some (.int .i64 dc) := by
  refine ⟨?_, ?_, ?_, ?_, ?_⟩ <;> simp [World.cell?, show w.heap[p]? = _ from h]

theorem RefAt.free {w : World} {p : Nat} {vb vl : Value} {F : Int} {dn : Bool} {dc : Int} (h : RefAt w p vb vl F dn dc) (j : Nat) : w.frozen? ⟨p, j, none⟩ = false :=
  frozen_of_row w p j _ _ h

theorem RefAt.lt {w : World} {p : Nat} {vb vl : Value} {F : Int} {dn : Bool} {dc : Int} (h : RefAt w p vb vl F dn dc) : p < w.heap.size := (Array.getElem?_eq_some_iff.1 h).1
theorem RefAt.kept {w w' : World} {S : Nat → Prop} {p : Nat} {vb vl : Value} {F : Int} {dn : Bool} {dc : Int} (h : RefAt w p vb vl F dn dc) (hk : Keeps S w w') (hp : ¬ S p) : RefAt w' p vb vl F dn dc :=
  (hk.block p h.lt hp).trans h

theorem RefAt.set1 {w : World} {p : Nat} {vb vl : Value} {F : Int} {dn : Bool} {dc : Int} (h : RefAt w p vb vl F dn dc) (u : Value) : RefAt (w.setCell ⟨p, 1, none⟩ u) p vb u F dn dc := by
  unfold RefAt; rw [heap_setCell_same w p 1 _ _ u h]; rfl
theorem RefAt.set2 {w : World} {p : Nat} {vb vl : Value} {F : Int} {dn : Bool} {dc : Int} (h : RefAt w p vb vl F dn dc) (u : Int) : RefAt (w.setCell ⟨p, 2, none⟩ (.int .i64 u)) p vb vl u dn dc := by
  unfold RefAt; rw [heap_setCell_same w p 2 _ _ _ h]; rfl
theorem RefAt.set3 {w : World} {p : Nat} {vb vl : Value} {F : Int} {dn : Bool} {dc : Int} (h : RefAt w p vb vl F dn dc) (u : Bool) : RefAt (w.setCell ⟨p, 3, none⟩ (.bool u)) p vb vl F u dc := by
  unfold RefAt; rw [heap_setCell_same w p 3 _ _ _ h]; rfl
theorem RefAt.set4 {w : World} {p : Nat} {vb vl : Value} {F : Int} {dn : Bool} {dc : Int} (h : RefAt w p vb vl F dn dc) (u : Int) : RefAt (w.setCell ⟨p, 4, none⟩ (.int .i64 u)) p vb vl F dn u := by
  unfold RefAt; rw [heap_setCell_same w p 4 _ _ _ h]; rfl


theorem RefAt.alloc {w : World} {p : Nat} {vb vl : Value} {F : Int} {dn : Bool} {dc : Int} (h : RefAt w p vb vl F dn dc) (o : Obj) : RefAt (w.alloc o) p vb vl F dn dc :=
  (Below.heap_alloc w o p h.lt).trans h

theorem has_any (w : World) (p : Nat) (a : Option Addr) (n c : Nat) (vl : Value) (F : Int) (dn : Bool) (dc : Int) (h : RefAt w p (.slice a n c) vl F dn dc) (i : Int) :
    Calls Try.prog 30 #[.pointer (some ⟨p, 0, none⟩), .int .i64 i] w fun e w' => e = .returned (.bool (decide (0 ≤ i ∧ i < (n : Int)))) ∧ w' = w := by
  obtain ⟨h0, h1, h2, h3, h4⟩ := h.cells
  by_cases hi : 0 ≤ i
  · by_cases hn : i < (n : Int)
    · rw [show decide (0 ≤ i ∧ i < (n : Int)) = true by simp [hi, hn]]
      go_enter Try.func30, Try.ntmps30
      go_wp2
      go_ret
      exact ⟨rfl, rfl⟩
    · rw [show decide (0 ≤ i ∧ i < (n : Int)) = false by simp [hn]]
      go_enter Try.func30, Try.ntmps30
      go_wp2
      go_ret
      exact ⟨rfl, rfl⟩
  · rw [show decide (0 ≤ i ∧ i < (n : Int)) = false by simp [hi]]
    go_enter Try.func30, Try.ntmps30
    go_wp2
    go_ret
    exact ⟨rfl, rfl⟩

theorem goes_down (w : World) (p : Nat) (vb vl : Value) (F : Int) (dn : Bool) (dc : Int) (h : RefAt w p vb vl F dn dc) (hd : F = 0 ∨ dn = true) :
    Calls Try.prog 31 #[.pointer (some ⟨p, 0, none⟩)] w fun e w' => e = .returned (.bool false) ∧ RefAt w' p vb vl F true dc ∧ Keeps (· = p) w w' := by
  obtain ⟨h0, h1, h2, h3, h4⟩ := h.cells
  have hf := h.free 3
  have hs := h.set3 true
  have c3' := hs.cells.2.2.2.1
  cases dn with
  | true =>
    clear hd
    go_enter Try.func31, Try.ntmps31
    go_wp2
    go_ret
    exact ⟨rfl, h.set3 true, (Keeps.refl _ _).at 3 _⟩
  | false =>
    obtain rfl : F = 0 := by simpa using hd
    clear hd
    go_enter Try.func31, Try.ntmps31
    go_wp2
    go_ret
    exact ⟨rfl, h.set3 true, (Keeps.refl _ _).at 3 _⟩

theorem goes_goes (w : World) (p : Nat) (vb vl : Value) (F : Int) (dc : Int) (h : RefAt w p vb vl F false dc) (hF : F ≠ 0) (hlo : -9223372036854775808 ≤ F) (hhi : F ≤ 9223372036854775807) (hd0 : 0 ≤ dc) (hd1 : dc < 1000000) :
    Calls Try.prog 31 #[.pointer (some ⟨p, 0, none⟩)] w fun e w' => e = .returned (.bool true) ∧ RefAt w' p vb vl (burnt F) false (dc + 1) ∧ Keeps (· = p) w w' := by
  obtain ⟨h0, h1, h2, h3, h4⟩ := h.cells
  have hf := h.free 2
  have hf3 := h.free 3
  have hf4 := h.free 4
  have hs := h.set3 false
  have c3' := hs.cells.2.2.2.1
  have hF' : (F == 0) = false := by simpa using hF
  clear hF
  by_cases hpos : 0 < F
  · go_enter Try.func31, Try.ntmps31
    go_wp2
    go_ret
    refine ⟨rfl, ?_, (((Keeps.refl _ _).at 3 _).at 2 _).at 4 _⟩
    rw [show burnt F = F - 1 by simp [burnt, hpos]]
    exact (hs.set2 _).set4 _
  · go_enter Try.func31, Try.ntmps31
    go_wp2
    go_ret
    refine ⟨rfl, ?_, ((Keeps.refl _ _).at 3 _).at 4 _⟩
    rw [show burnt F = F by unfold burnt; rw [if_neg (by omega)]]
    exact (hs.set4 _)

set_option maxHeartbeats 400000 in
theorem rnew_no (n : Int) (w : World) (h : n < 16 ∨ 128 < n) :
    Calls Try.prog 13 #[.int .i64 n] w fun e w' => e = .returned (.tuple #[.pointer none, .int .i64 1]) ∧ w' = w := by
  rcases h with h | h
  · go_enter Try.func13, Try.ntmps13
    go_wp2
    go_ret2
    exact ⟨rfl, rfl⟩
  · have h' : ¬ n < 16 := by omega
    go_enter Try.func13, Try.ntmps13
    go_wp2
    go_ret2
    exact ⟨rfl, rfl⟩

theorem info51 : (Try.prog.info? 51).map (fun i => (i.zero, i.size)) = some (some (.agg #[.slice none 0 0, .slice none 0 0, .int .i64 0, .bool false, .int .i64 0]), 5) := by kernel_rfl

set_option maxHeartbeats 400000 in
theorem rnew_yes (n : Nat) (w : World) (h : 16 ≤ n) (h2 : n ≤ 128) :
    Calls Try.prog 13 #[.int .i64 n] w fun e w' => e = .returned (.tuple #[.pointer (some ⟨w.heap.size + 1, 0, none⟩), .int .i64 0]) ∧
      RefAt w' (w.heap.size + 1) (.slice (some ⟨w.heap.size, 0, none⟩) n n) (.slice none 0 0) (-1) false 0 ∧ w'.heap[w.heap.size]? = some (.cells (zeros n) 37 (0, 0)) ∧ w'.heap.size = w.heap.size + 2 ∧ Keeps (fun _ => False) w w' := by
  have h' : ¬ (n : Int) < 16 := by omega
  have h2' : ¬ 128 < (n : Int) := by omega
  have hm := make48 n h2
  go_enter Try.func13, Try.ntmps13
  go_wp2
  go_ret2
  refine ⟨rfl, ?_, heap_alloc2_old w _ _, by simp, ((Keeps.refl _ _).alloc _).alloc _⟩
  exact heap_alloc2_new w _ _

end Go.Proofs.Ytokgnfniaeeloaa
