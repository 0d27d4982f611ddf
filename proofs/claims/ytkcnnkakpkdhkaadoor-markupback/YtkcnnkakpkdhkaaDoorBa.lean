
/-
  What is kept; rows of words and of bytes in memory.
-/
import Derived.Test.YtkcnnkakpkdhkaaDoorRows
import Derived.WalkKit
import Derived.WalkSpells
import Derived.WalkLawsBesides
import Derived.Below
import Derived.Deep.WholeRow
import Derived.Deep.MidRow
set_option linter.all false
namespace Go.Proofs.YtkcnnkakpkdhkaaDoor
open Go.RowKit

/-- What is kept: all but the blocks of S. -/
structure Keeps (S : Nat → Prop) (w w' : World) : Prop where
  os : w'.os = w.os
  tape : w'.tape = w.tape
  output : w'.output = w.output
  size : w.heap.size ≤ w'.heap.size
  block : ∀ k, k < w.heap.size → ¬ S k → w'.heap[k]? = w.heap[k]?

theorem Keeps.refl (S : Nat → Prop) (w : World) : Keeps S w w := ⟨rfl, rfl, rfl, Nat.le_refl _, fun _ _ _ => rfl⟩
theorem Keeps.trans' {S T : Nat → Prop} {a b c : World} (h : Keeps S a b) (k : Keeps T b c) (hT : ∀ i, T i → S i ∨ a.heap.size ≤ i) : Keeps S a c :=
  ⟨k.os.trans h.os, k.tape.trans h.tape, k.output.trans h.output, Nat.le_trans h.size k.size,
   fun i hi hs => (k.block i (Nat.lt_of_lt_of_le hi h.size) (fun ht => by rcases hT i ht with h1 | h1; exact hs h1; omega)).trans (h.block i hi hs)⟩
theorem Keeps.trans {S : Nat → Prop} {a b c : World} (h : Keeps S a b) (k : Keeps S b c) : Keeps S a c := h.trans' k (fun _ hi => .inl hi)
theorem Keeps.none {S : Nat → Prop} {a b c : World} (h : Keeps S a b) (k : Keeps (fun _ => False) b c) : Keeps S a c := h.trans' k (fun _ hi => hi.elim)
theorem Keeps.mono {S T : Nat → Prop} {a b : World} (h : Keeps S a b) (hST : ∀ k, k < a.heap.size → S k → T k) : Keeps T a b :=
  ⟨h.os, h.tape, h.output, h.size, fun i hi ht => h.block i hi (fun hs => ht (hST i hi hs))⟩
theorem Keeps.drew {S : Nat → Prop} {a w : World} (h : Keeps S a w) : Keeps S a w.drew := ⟨h.os, h.tape, h.output, h.size, h.block⟩
theorem Keeps.drewN {S : Nat → Prop} {a w : World} (h : Keeps S a w) (n : Nat) : Keeps S a (w.drewN n) :=
  ⟨(show (w.drewN n).os = w.os from rfl).trans h.os, (show (w.drewN n).tape = w.tape from rfl).trans h.tape, (show (w.drewN n).output = w.output from rfl).trans h.output, by simpa using h.size, fun k hk hs => by simpa using h.block k hk hs⟩
theorem Keeps.alloc {S : Nat → Prop} {a w : World} (h : Keeps S a w) (o : Obj) : Keeps S a (w.alloc o) :=
  ⟨h.os, h.tape, h.output, by have := h.size; simp; omega, fun k hk hs => (Below.heap_alloc w o k (Nat.lt_of_lt_of_le hk h.size)).trans (h.block k hk hs)⟩
theorem Keeps.setCell {S : Nat → Prop} {a w : World} (h : Keeps S a w) {p : Addr} (hp : S p.block ∨ a.heap.size ≤ p.block) (u : Value) : Keeps S a (w.setCell p u) :=
  ⟨h.os, h.tape, h.output, by simpa using h.size, fun k hk hs => (heap_setCell_other w p k u (by rintro rfl; rcases hp with hp | hp; exact hs hp; omega)).trans (h.block k hk hs)⟩
theorem Keeps.setRow {S : Nat → Prop} {a w : World} (h : Keeps S a w) {g : Nat} (hp : S g ∨ a.heap.size ≤ g) (cs : Array Value) : Keeps S a (w.setRow g cs) :=
  ⟨h.os, h.tape, h.output, by simpa using h.size, fun k hk hs => (setRow_other w g k cs (by rintro rfl; rcases hp with hp | hp; exact hs hp; omega)).trans (h.block k hk hs)⟩
theorem Keeps.below {S : Nat → Prop} {B : Nat} {a w : World} (h : Keeps S a w) (hB : B ≤ a.heap.size) (hS : ∀ k, k < B → ¬ S k) : Below B a w :=
  ⟨h.os, h.tape, h.output, h.size, fun k hk => h.block k (by omega) (hS k hk)⟩
theorem Keeps.row {S : Nat → Prop} {a w : World} {g : Nat} {o : Obj} (h : Keeps S a w) (hg : a.heap[g]? = some o) (hs : ¬ S g) : w.heap[g]? = some o :=
  (h.block g (Array.getElem?_eq_some_iff.1 hg).1 hs).trans hg
theorem lt_of_row {w : World} {g : Nat} {o : Obj} (h : w.heap[g]? = some o) : g < w.heap.size := (Array.getElem?_eq_some_iff.1 h).1
theorem cell_keeps {S : Nat → Prop} {a w : World} {b o : Nat} {v : Value} (h : Keeps S a w) (hc : a.cell? ⟨b, o, none⟩ = some v) (hs : ¬ S b) : w.cell? ⟨b, o, none⟩ = some v := by
  have hlt : b < a.heap.size := World.block_lt_of_cell? a ⟨b, o, none⟩ hc
  have := h.block b hlt hs
  simp only [World.cell?] at hc ⊢
  rw [this]; exact hc

abbrev B := BitVec 8
/-- A byte as an integer. -/
def nb (x : B) : Int := (x.toNat : Int)
theorem nb_lt (x : B) : 0 ≤ nb x ∧ nb x < 256 := by unfold nb; have := x.isLt; omega
theorem nb_inj {x y : B} (h : nb x = nb y) : x = y := by unfold nb at h; exact BitVec.eq_of_toNat_eq (by omega)
def vb (x : B) : Value := .int .u8 (nb x)
def brow (l : List B) : Array Value := (l.map vb).toArray
theorem size_brow (l : List B) : (brow l).size = l.length := by simp [brow]
theorem brow_get (l : List B) (j : Nat) : (brow l)[j]? = (l[j]?).map vb := by simp [brow]
theorem brow_one (l : List B) : (brow l).all (·.oneCell') = true := by
  rw [Array.all_eq_true_iff_forall_mem]; intro x hx; simp [brow] at hx; obtain ⟨a, _, rfl⟩ := hx; rfl
theorem brow_set (l : List B) (j : Nat) (x : B) : (brow l).setIfInBounds j (.int .u8 (nb x)) = brow (l.set j x) := by
  simp [brow, List.map_set]; rfl

/-- The bytes l lie in block b from o on. -/
def BytesAt (w : World) (b o : Nat) (l : List B) : Prop := ∀ j x, l[j]? = some x → w.cell? ⟨b, o + j, none⟩ = some (.int .u8 (nb x))
theorem BytesAt.keeps {S : Nat → Prop} {a w : World} {b o : Nat} {l : List B} (h : BytesAt a b o l) (hk : Keeps S a w) (hs : ¬ S b) : BytesAt w b o l :=
  fun j x hx => cell_keeps hk (h j x hx) hs
theorem BytesAt.part {w : World} {b o : Nat} {l : List B} (h : BytesAt w b o l) (i n : Nat) : BytesAt w b (o + i) ((l.drop i).take n) := fun j x hx => by
  rw [List.getElem?_take] at hx
  split at hx
  · rw [List.getElem?_drop] at hx
    have := h _ _ hx
    rwa [← Nat.add_assoc] at this
  · cases hx


end Go.Proofs.YtkcnnkakpkdhkaaDoor
