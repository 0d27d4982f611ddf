/-
  THE DISK's SMALL METHODS: what each call does, said of the one block in which the struct lies.
-/
import Derived.Test.YtokgnfniaeeloaaRows
import Derived.WalkKit
import Derived.WalkSpells
import Derived.WalkLawsBesides
set_option linter.all false
namespace Go.Proofs.Ytokgnfniaeeloaa
open Go.RowKit

/-- The disk's struct lies in block p: its five fields. -/
def DiskAt (w : World) (p : Nat) (vb vl : Value) (F : Int) (dn : Bool) (dc : Int) : Prop :=
  w.heap[p]? = some (.cells #[vb, vl, .int .i64 F, .bool dn, .int .i64 dc] 63 (0, 0))

theorem DiskAt.cells {w : World} {p : Nat} {vb vl : Value} {F : Int} {dn : Bool} {dc : Int} (h : DiskAt w p vb vl F dn dc) :
    w.cell? ⟨p, 0, none⟩ = some vb ∧ w.cell? ⟨p, 1, none⟩ = some vl ∧ w.cell? ⟨p, 2, none⟩ = some (.int .i64 F) ∧ w.cell? ⟨p, 3, none⟩ = some (.bool dn) ∧ w.cell? ⟨p, 4, none⟩ = some (.int .i64 dc) := by
  refine ⟨?_, ?_, ?_, ?_, ?_⟩ <;> simp [World.cell?, show w.heap[p]? = _ from h]

theorem DiskAt.free {w : World} {p : Nat} {vb vl : Value} {F : Int} {dn : Bool} {dc : Int} (h : DiskAt w p vb vl F dn dc) (j : Nat) : w.frozen? ⟨p, j, none⟩ = false :=
  frozen_of_row w p j _ _ h

theorem len_nil (w : World) : Calls Try.prog 25 #[.pointer none] w fun e w' => e = .returned (.int .i64 0) ∧ w' = w := by
  go_enter Try.func25, Try.ntmps25
  go_wp2
  go_ret
  exact ⟨rfl, rfl⟩

theorem len_any (w : World) (p : Nat) (a : Option Addr) (n c : Nat) (vl : Value) (F : Int) (dn : Bool) (dc : Int) (h : DiskAt w p (.slice a n c) vl F dn dc) :
    Calls Try.prog 25 #[.pointer (some ⟨p, 0, none⟩)] w fun e w' => e = .returned (.int .i64 n) ∧ w' = w := by
  obtain ⟨h0, h1, h2, h3, h4⟩ := h.cells

  go_enter Try.func25, Try.ntmps25
  go_wp2
  go_ret
  exact ⟨rfl, rfl⟩

theorem loose_nil (w : World) : Calls Try.prog 24 #[.pointer none] w fun e w' => e = .returned (.int .i64 0) ∧ w' = w := by
  go_enter Try.func24, Try.ntmps24
  go_wp2
  go_ret
  exact ⟨rfl, rfl⟩

theorem loose_any (w : World) (p : Nat) (a : Option Addr) (n c : Nat) (vb : Value) (F : Int) (dn : Bool) (dc : Int) (h : DiskAt w p vb (.slice a n c) F dn dc) :
    Calls Try.prog 24 #[.pointer (some ⟨p, 0, none⟩)] w fun e w' => e = .returned (.int .i64 n) ∧ w' = w := by
  obtain ⟨h0, h1, h2, h3, h4⟩ := h.cells

  go_enter Try.func24, Try.ntmps24
  go_wp2
  go_ret
  exact ⟨rfl, rfl⟩

theorem done_nil (w : World) : Calls Try.prog 27 #[.pointer none] w fun e w' => e = .returned (.int .i64 0) ∧ w' = w := by
  go_enter Try.func27, Try.ntmps27
  go_wp2
  go_ret
  exact ⟨rfl, rfl⟩

theorem done_any (w : World) (p : Nat) (vb vl : Value) (F : Int) (dn : Bool) (dc : Int) (h : DiskAt w p vb vl F dn dc) :
    Calls Try.prog 27 #[.pointer (some ⟨p, 0, none⟩)] w fun e w' => e = .returned (.int .i64 dc) ∧ w' = w := by
  obtain ⟨h0, h1, h2, h3, h4⟩ := h.cells

  go_enter Try.func27, Try.ntmps27
  go_wp2
  go_ret
  exact ⟨rfl, rfl⟩

theorem down_nil (w : World) : Calls Try.prog 26 #[.pointer none] w fun e w' => e = .returned (.bool false) ∧ w' = w := by
  go_enter Try.func26, Try.ntmps26
  go_wp2
  go_ret
  exact ⟨rfl, rfl⟩

theorem down_any (w : World) (p : Nat) (vb vl : Value) (F : Int) (dn : Bool) (dc : Int) (h : DiskAt w p vb vl F dn dc) :
    Calls Try.prog 26 #[.pointer (some ⟨p, 0, none⟩)] w fun e w' => e = .returned (.bool dn) ∧ w' = w := by
  obtain ⟨h0, h1, h2, h3, h4⟩ := h.cells

  go_enter Try.func26, Try.ntmps26
  go_wp2
  go_ret
  exact ⟨rfl, rfl⟩

theorem fuse_nil (w : World) (n : Int) : Calls Try.prog 23 #[.pointer none, .int .i64 n] w fun e w' => e = .returned (.tuple #[]) ∧ w' = w := by
  go_enter Try.func23, Try.ntmps23
  go_wp2
  refine bodyPost_ret (results_none rfl _ _ _) rfl ?_
  exact ⟨rfl, rfl⟩

/-- What is kept: all but the blocks of S. -/
structure Keeps (S : Nat → Prop) (w w' : World) : Prop where
  os : w'.os = w.os
  tape : w'.tape = w.tape
  output : w'.output = w.output
  size : w.heap.size ≤ w'.heap.size
  block : ∀ k, k < w.heap.size → ¬ S k → w'.heap[k]? = w.heap[k]?

theorem Keeps.refl (S : Nat → Prop) (w : World) : Keeps S w w := ⟨rfl, rfl, rfl, Nat.le_refl _, fun _ _ _ => rfl⟩
theorem Keeps.trans {S : Nat → Prop} {a b c : World} (h : Keeps S a b) (k : Keeps S b c) : Keeps S a c :=
  ⟨k.os.trans h.os, k.tape.trans h.tape, k.output.trans h.output, Nat.le_trans h.size k.size,
   fun i hi hs => (k.block i (Nat.lt_of_lt_of_le hi h.size) hs).trans (h.block i hi hs)⟩
theorem Keeps.mono {S T : Nat → Prop} {a b : World} (h : Keeps S a b) (hST : ∀ k, k < a.heap.size → S k → T k) : Keeps T a b :=
  ⟨h.os, h.tape, h.output, h.size, fun i hi ht => h.block i hi (fun hs => ht (hST i hi hs))⟩
theorem Keeps.drew {S : Nat → Prop} {a w : World} (h : Keeps S a w) : Keeps S a w.drew := ⟨h.os, h.tape, h.output, h.size, h.block⟩
theorem Keeps.alloc {S : Nat → Prop} {a w : World} (h : Keeps S a w) (o : Obj) : Keeps S a (w.alloc o) :=
  ⟨h.os, h.tape, h.output, by have := h.size; simp; omega, fun k hk hs => (Below.heap_alloc w o k (Nat.lt_of_lt_of_le hk h.size)).trans (h.block k hk hs)⟩
theorem Keeps.setCell {S : Nat → Prop} {a w : World} (h : Keeps S a w) {p : Addr} (hp : S p.block ∨ a.heap.size ≤ p.block) (u : Value) : Keeps S a (w.setCell p u) :=
  ⟨h.os, h.tape, h.output, by simpa using h.size, fun k hk hs => (heap_setCell_other w p k u (by rintro rfl; rcases hp with hp | hp; exact hs hp; omega)).trans (h.block k hk hs)⟩
theorem Keeps.setRow {S : Nat → Prop} {a w : World} (h : Keeps S a w) {g : Nat} (hp : S g ∨ a.heap.size ≤ g) (cs : Array Value) : Keeps S a (w.setRow g cs) :=
  ⟨h.os, h.tape, h.output, by simpa using h.size, fun k hk hs => (setRow_other w g k cs (by rintro rfl; rcases hp with hp | hp; exact hs hp; omega)).trans (h.block k hk hs)⟩
theorem Keeps.grown {S : Nat → Prop} {a w w' : World} {row : Option Nat} (h : Keeps S a w) (hg : w.grownBy w' row) (hr : ∀ k, row = some k → S k ∨ a.heap.size ≤ k) : Keeps S a w' :=
  ⟨hg.os.trans h.os, hg.tape.trans h.tape, hg.output.trans h.output, Nat.le_trans h.size hg.size,
   fun k hk hs => (hg.block k (Nat.lt_of_lt_of_le hk h.size) (fun e => by rcases hr k e.symm with h1 | h1; exact hs h1; omega)).trans (h.block k hk hs)⟩
theorem Keeps.below {S : Nat → Prop} {B : Nat} {a w : World} (h : Keeps S a w) (hB : B ≤ a.heap.size) (hS : ∀ k, k < B → ¬ S k) : Below B a w :=
  ⟨h.os, h.tape, h.output, h.size, fun k hk => h.block k (by omega) (hS k hk)⟩

theorem Keeps.at {p : Nat} {a w : World} (h : Keeps (· = p) a w) (j : Nat) (u : Value) : Keeps (· = p) a (w.setCell ⟨p, j, none⟩ u) := h.setCell (p := ⟨p, j, none⟩) (.inl rfl) u

theorem DiskAt.lt {w : World} {p : Nat} {vb vl : Value} {F : Int} {dn : Bool} {dc : Int} (h : DiskAt w p vb vl F dn dc) : p < w.heap.size := (Array.getElem?_eq_some_iff.1 h).1
theorem DiskAt.kept {w w' : World} {S : Nat → Prop} {p : Nat} {vb vl : Value} {F : Int} {dn : Bool} {dc : Int} (h : DiskAt w p vb vl F dn dc) (hk : Keeps S w w') (hp : ¬ S p) : DiskAt w' p vb vl F dn dc :=
  (hk.block p h.lt hp).trans h

theorem DiskAt.set1 {w : World} {p : Nat} {vb vl : Value} {F : Int} {dn : Bool} {dc : Int} (h : DiskAt w p vb vl F dn dc) (u : Value) : DiskAt (w.setCell ⟨p, 1, none⟩ u) p vb u F dn dc := by
  unfold DiskAt; rw [heap_setCell_same w p 1 _ _ u h]; rfl
theorem DiskAt.set2 {w : World} {p : Nat} {vb vl : Value} {F : Int} {dn : Bool} {dc : Int} (h : DiskAt w p vb vl F dn dc) (u : Int) : DiskAt (w.setCell ⟨p, 2, none⟩ (.int .i64 u)) p vb vl u dn dc := by
  unfold DiskAt; rw [heap_setCell_same w p 2 _ _ _ h]; rfl
theorem DiskAt.set3 {w : World} {p : Nat} {vb vl : Value} {F : Int} {dn : Bool} {dc : Int} (h : DiskAt w p vb vl F dn dc) (u : Bool) : DiskAt (w.setCell ⟨p, 3, none⟩ (.bool u)) p vb vl F u dc := by
  unfold DiskAt; rw [heap_setCell_same w p 3 _ _ _ h]; rfl
theorem DiskAt.set4 {w : World} {p : Nat} {vb vl : Value} {F : Int} {dn : Bool} {dc : Int} (h : DiskAt w p vb vl F dn dc) (u : Int) : DiskAt (w.setCell ⟨p, 4, none⟩ (.int .i64 u)) p vb vl F dn u := by
  unfold DiskAt; rw [heap_setCell_same w p 4 _ _ _ h]; rfl

theorem fuse_any (w : World) (n : Int) (p : Nat) (vb vl : Value) (F : Int) (dn : Bool) (dc : Int) (hD : DiskAt w p vb vl F dn dc) :
    Calls Try.prog 23 #[.pointer (some ⟨p, 0, none⟩), .int .i64 n] w fun e w' => e = .returned (.tuple #[]) ∧ DiskAt w' p vb vl (max n (-1)) dn dc ∧ Keeps (· = p) w w' := by
  obtain ⟨h0, h1, h2, h3, h4⟩ := hD.cells
  have hf := hD.free 2
  have hn : n < -1 ∨ -1 ≤ n := by omega
  go_enter Try.func23, Try.ntmps23
  go_wp2
  all_goals go_end0
  all_goals refine ⟨rfl, ?_, (Keeps.refl _ _).at 2 _⟩
  · have := hD.set2 (-1)
    rwa [show max n (-1) = -1 by omega]
  · have := hD.set2 n
    rwa [show max n (-1) = n by omega]

theorem burn_down (w : World) (p : Nat) (vb vl : Value) (F : Int) (dn : Bool) (dc : Int) (h : DiskAt w p vb vl F dn dc) (hd : F = 0 ∨ dn = true) :
    Calls Try.prog 29 #[.pointer (some ⟨p, 0, none⟩)] w fun e w' => e = .returned (.int .i64 12) ∧ DiskAt w' p vb vl F true dc ∧ Keeps (· = p) w w' := by
  obtain ⟨h0, h1, h2, h3, h4⟩ := h.cells
  have hf := h.free 3
  by_cases hF : F = 0
  · subst hF
    clear hd
    go_enter Try.func29, Try.ntmps29
    go_wp2
    go_ret
    exact ⟨rfl, h.set3 true, (Keeps.refl _ _).at 3 _⟩
  · have hF' : (F == 0) = false := by simpa using hF
    obtain rfl : dn = true := by simpa [hF] using hd
    clear hd
    go_enter Try.func29, Try.ntmps29
    go_wp2
    go_ret
    exact ⟨rfl, h, Keeps.refl _ _⟩

/-- The fuse behind one write or sync that goes through. -/
def burnt (F : Int) : Int := if 0 < F then F - 1 else F

theorem burn_goes (w : World) (p : Nat) (vb vl : Value) (F : Int) (dc : Int) (h : DiskAt w p vb vl F false dc) (hF : F ≠ 0) (hlo : -9223372036854775808 ≤ F) (hhi : F ≤ 9223372036854775807) (hd0 : 0 ≤ dc) (hd1 : dc < 1000000) :
    Calls Try.prog 29 #[.pointer (some ⟨p, 0, none⟩)] w fun e w' => e = .returned (.int .i64 0) ∧ DiskAt w' p vb vl (burnt F) false (dc + 1) ∧ Keeps (· = p) w w' := by
  obtain ⟨h0, h1, h2, h3, h4⟩ := h.cells
  have hf := h.free 2
  have hf4 := h.free 4
  have hF' : (F == 0) = false := by simpa using hF
  clear hF
  by_cases hpos : 0 < F
  · go_enter Try.func29, Try.ntmps29
    go_wp2
    go_ret
    refine ⟨rfl, ?_, ((Keeps.refl _ _).at 2 _).at 4 _⟩
    rw [show burnt F = F - 1 by simp [burnt, hpos]]
    exact (h.set2 _).set4 _
  · go_enter Try.func29, Try.ntmps29
    go_wp2
    go_ret
    refine ⟨rfl, ?_, (Keeps.refl _ _).at 4 _⟩
    rw [show burnt F = F by unfold burnt; rw [if_neg (by omega)]]
    exact (h.set4 _)

end Go.Proofs.Ytokgnfniaeeloaa
