
/-
  Packed texts: Ma, Ta, Ba, Rt, Sp, Sa, Sb.
-/
import Derived.Laws.BitsAllLaws
import Derived.Test.YtdgnjpdjohibeaaDoorRows
import Derived.WalkKit
import Derived.WalkSpells
import Derived.WalkLawsBesides
import Derived.Deep.WholeRow
import Derived.Deep.MidRow
import Derived.StillTail
import Derived.Deep.QuietTactic
import Derived.BigQuiet
set_option linter.all false
set_option maxRecDepth 100000
namespace Go.Proofs.YtdgnjpdjohibeaaDoor

/-! Ma: SHA-256 over words of 32 bits, in plain mathematics. -/
section
abbrev W := BitVec 32
def rotr (x : W) (n : Nat) : W := (x >>> n) ||| (x <<< (32 - n))
def ch (e f g : W) : W := (e &&& f) ^^^ (~~~e &&& g)
def maj (a b c : W) : W := ((a &&& b) ^^^ (a &&& c)) ^^^ (b &&& c)
def bs0 (a : W) : W := (rotr a 2 ^^^ rotr a 13) ^^^ rotr a 22
def bs1 (e : W) : W := (rotr e 6 ^^^ rotr e 11) ^^^ rotr e 25
def ss0 (x : W) : W := (rotr x 7 ^^^ rotr x 18) ^^^ (x >>> 3)
def ss1 (x : W) : W := (rotr x 17 ^^^ rotr x 19) ^^^ (x >>> 10)

structure St where
  a : W
  b : W
  c : W
  d : W
  e : W
  f : W
  g : W
  h : W

def St.step (s : St) (k w : W) : St :=
  let x := s.h + bs1 s.e + ch s.e s.f s.g + k + w
  let y := bs0 s.a + maj s.a s.b s.c
  ⟨x + y, s.a, s.b, s.c, s.d + x, s.e, s.f, s.g⟩

theorem ch_or (e f g : W) : (e &&& f) ||| (~~~e &&& g) = ch e f g := by
  unfold ch
  apply BitVec.eq_of_getLsbD_eq
  intro i hi
  simp
  cases e.getLsbD i <;> simp [hi]
theorem maj_or (a b c : W) : ((a &&& b) ||| (a &&& c)) ||| (b &&& c) = maj a b c := by
  unfold maj
  apply BitVec.eq_of_getLsbD_eq
  intro i hi
  simp
  cases a.getLsbD i <;> cases b.getLsbD i <;> cases c.getLsbD i <;> rfl

/-- A word as an integer. -/
def nw (x : W) : Int := (x.toNat : Int)
theorem nw_lt (x : W) : 0 ≤ nw x ∧ nw x < 4294967296 := by unfold nw; have := x.isLt; omega
theorem nw_inj {x y : W} (h : nw x = nw y) : x = y := by unfold nw at h; exact BitVec.eq_of_toNat_eq (by omega)

theorem ofInt_nw (x : W) : BitVec.ofInt 32 (nw x) = x := by unfold nw; rw [BitVec.ofInt_natCast]; simp
theorem wrap_nw (x : W) : IntKind.u32.wrap (nw x) = nw x := by rw [IntKind.wrap_u32']; have := nw_lt x; omega
theorem wrap_add (x y : W) : IntKind.u32.wrap (nw x + nw y) = nw (x + y) := by
  rw [IntKind.wrap_u32']; unfold nw; rw [BitVec.toNat_add]; omega
theorem bits_and (x y : W) : bits .and .u32 (nw x) (nw y) = nw (x &&& y) := by
  show IntKind.u32.wrap ((BitVec.ofInt 32 (nw x) &&& BitVec.ofInt 32 (nw y)).toNat : Int) = _
  rw [ofInt_nw, ofInt_nw]; exact wrap_nw _
theorem bits_or (x y : W) : bits .or .u32 (nw x) (nw y) = nw (x ||| y) := by
  show IntKind.u32.wrap ((BitVec.ofInt 32 (nw x) ||| BitVec.ofInt 32 (nw y)).toNat : Int) = _
  rw [ofInt_nw, ofInt_nw]; exact wrap_nw _
theorem bits_xor (x y : W) : bits .xor .u32 (nw x) (nw y) = nw (x ^^^ y) := by
  show IntKind.u32.wrap ((BitVec.ofInt 32 (nw x) ^^^ BitVec.ofInt 32 (nw y)).toNat : Int) = _
  rw [ofInt_nw, ofInt_nw]; exact wrap_nw _
theorem bits_not (x : W) : bits .xor .u32 4294967295 (nw x) = nw (~~~x) := by
  show IntKind.u32.wrap ((BitVec.ofInt 32 4294967295 ^^^ BitVec.ofInt 32 (nw x)).toNat : Int) = _
  rw [ofInt_nw, show BitVec.ofInt 32 4294967295 = BitVec.allOnes 32 from by decide, BitVec.allOnes_xor]; exact wrap_nw _
theorem shl_nw (x : W) (n : Nat) : IntKind.u32.wrap (nw x * 2 ^ n) = nw (x <<< n) := by
  rw [IntKind.wrap_u32']; unfold nw; rw [BitVec.toNat_shiftLeft, Nat.shiftLeft_eq, show 2 ^ 32 = 4294967296 from rfl, Int.natCast_emod, Int.natCast_mul, Int.natCast_pow]; rfl
theorem shr_nw (x : W) (n : Nat) : (nw x) / (2 ^ n) = nw (x >>> n) := by
  unfold nw; rw [BitVec.toNat_ushiftRight, Nat.shiftRight_eq_div_pow, Int.natCast_ediv, Int.natCast_pow]; rfl
theorem shr_nw' (x : W) (n : Nat) : (nw x).fdiv (2 ^ n) = nw (x >>> n) := by
  rw [← shr_nw, Int.fdiv_eq_ediv_of_nonneg]
  exact Int.pow_nonneg (by decide)

theorem shl_nw' (x : W) (n : Nat) : nw x * 2 ^ n % 4294967296 = nw (x <<< n) := by rw [← shl_nw, IntKind.wrap_u32']
theorem add_nw (x y : W) : (nw x + nw y) % 4294967296 = nw (x + y) := by rw [← wrap_add, IntKind.wrap_u32']
theorem or_nw (x y : W) (n m : Nat) : bits .or .u32 (nw x / 2 ^ n) (nw y * 2 ^ m % 4294967296) = nw ((x >>> n) ||| (y <<< m)) := by
  rw [shr_nw, shl_nw', bits_or]
theorem or_nw' (x y : W) (n m : Nat) : bits .or .u32 (nw y * 2 ^ m % 4294967296) (nw x / 2 ^ n) = nw ((x >>> n) ||| (y <<< m)) := by
  rw [shr_nw, shl_nw', bits_or, BitVec.or_comm]
theorem mask31 (n : Nat) (h0 : 0 < n) (h1 : n < 32) : bits .and .u64 (IntKind.u64.wrap (-(n : Int))) 31 = 32 - (n : Int) := by
  have : ∀ k : Fin 32, 0 < k.val → bits .and .u64 (IntKind.u64.wrap (-(k.val : Int))) 31 = 32 - (k.val : Int) := by decide +kernel
  exact this ⟨n, h1⟩ h0

theorem ss0_nw (x : W) : bits .xor .u32 (bits .xor .u32 (nw (rotr x 7)) (nw (rotr x 18))) (nw x / (8 : Int)) = nw (ss0 x) := by
  rw [show nw x / (8 : Int) = nw (x >>> (3 : Nat)) from shr_nw x 3, bits_xor, bits_xor]; rfl
theorem ss1_nw (x : W) : bits .xor .u32 (bits .xor .u32 (nw (rotr x 17)) (nw (rotr x 19))) (nw x / (1024 : Int)) = nw (ss1 x) := by
  rw [show nw x / (1024 : Int) = nw (x >>> (10 : Nat)) from shr_nw x 10, bits_xor, bits_xor]; rfl
theorem bs0_nw (x : W) : bits .xor .u32 (bits .xor .u32 (nw (rotr x 2)) (nw (rotr x 13))) (nw (rotr x 22)) = nw (bs0 x) := by
  rw [bits_xor, bits_xor]; rfl
theorem bs1_nw (x : W) : bits .xor .u32 (bits .xor .u32 (nw (rotr x 6)) (nw (rotr x 11))) (nw (rotr x 25)) = nw (bs1 x) := by
  rw [bits_xor, bits_xor]; rfl
theorem ch_nw (e f g : W) : bits .xor .u32 (bits .and .u32 (nw e) (nw f)) (bits .and .u32 (bits .xor .u32 4294967295 (nw e)) (nw g)) = nw (ch e f g) := by
  rw [bits_not, bits_and, bits_and, bits_xor]; rfl
theorem ch_nw' (e f g : W) : bits .or .u32 (bits .and .u32 (nw e) (nw f)) (bits .and .u32 (bits .xor .u32 4294967295 (nw e)) (nw g)) = nw (ch e f g) := by
  rw [bits_not, bits_and, bits_and, bits_or, ch_or]
theorem maj_nw (a b c : W) : bits .xor .u32 (bits .xor .u32 (bits .and .u32 (nw a) (nw b)) (bits .and .u32 (nw a) (nw c))) (bits .and .u32 (nw b) (nw c)) = nw (maj a b c) := by
  rw [bits_and, bits_and, bits_and, bits_xor, bits_xor]; rfl
theorem maj_nw' (a b c : W) : bits .or .u32 (bits .or .u32 (bits .and .u32 (nw a) (nw b)) (bits .and .u32 (nw a) (nw c))) (bits .and .u32 (nw b) (nw c)) = nw (maj a b c) := by
  rw [bits_and, bits_and, bits_and, bits_or, bits_or, maj_or]
theorem add4_nw (a b c d : W) : (nw a + nw b + nw c + nw d) % (4294967296 : Int) = nw (a + b + c + d) := by
  unfold nw; simp only [BitVec.toNat_add]; omega
theorem add5_nw (a b c d e : W) : (nw a + nw b + nw c + nw d + nw e) % (4294967296 : Int) = nw (a + b + c + d + e) := by
  unfold nw; simp only [BitVec.toNat_add]; omega
end

/-! Ta: turn, of both sides. -/
section
open Go.RowKit

theorem turn23 (w : World) (x : W) (n : Nat) (h0 : 0 < n) (h1 : n < 32) :
    Calls Tryd.prog 71 #[.int .u32 (nw x), .int .i64 n] w fun e w' => e = .returned (.int .u32 (nw (rotr x n))) ∧ w' = w := by
  have b := nw_lt x
  go_enter Tryd.func71, Tryd.ntmps71
  go_wp2
  go_ret
  exact ⟨by rw [or_nw]; rfl, rfl⟩
theorem rot29 (w : World) (x : W) (n : Nat) (h0 : 0 < n) (h1 : n < 32) :
    Calls Tryd.prog 74 #[.int .u32 (nw x), .int .i64 (-n)] w fun e w' => e = .returned (.int .u32 (nw (rotr x n))) ∧ w' = w := by
  have b := nw_lt x
  have hm := mask31 n h0 h1
  go_enter Tryd.func74, Tryd.ntmps74
  go_wp2
  go_ret
  exact ⟨by rw [or_nw', show 32 - (32 - n) = n by omega]; rfl, rfl⟩
theorem turn27 (w : World) (x : W) (n : Nat) (h0 : 0 < n) (h1 : n < 32) :
    Calls Tryd.prog 70 #[.int .u32 (nw x), .int .i64 n] w fun e w' => e = .returned (.int .u32 (nw (rotr x n))) ∧ w' = w := by
  go_enter Tryd.func70, Tryd.ntmps70
  go_wp2_with (go_at_call 74; refine (rot29 _ x n h0 h1).mono ?_; rintro e w' ⟨rfl, rfl⟩)
  go_ret
  exact ⟨rfl, rfl⟩
theorem turn27i (w : World) (x : W) (m : Int) (h0 : 0 < m) (h1 : m < 32) :
    Calls Tryd.prog 70 #[.int .u32 (nw x), .int .i64 m] w fun e w' => e = .returned (.int .u32 (nw (rotr x m.toNat))) ∧ w' = w := by
  obtain ⟨n, rfl⟩ := Int.eq_ofNat_of_zero_le (Int.le_of_lt h0)
  exact turn27 w x n (by omega) (by omega)
theorem turn23i (w : World) (x : W) (m : Int) (h0 : 0 < m) (h1 : m < 32) :
    Calls Tryd.prog 71 #[.int .u32 (nw x), .int .i64 m] w fun e w' => e = .returned (.int .u32 (nw (rotr x m.toNat))) ∧ w' = w := by
  obtain ⟨n, rfl⟩ := Int.eq_ofNat_of_zero_le (Int.le_of_lt h0)
  exact turn23 w x n (by omega) (by omega)
end

/-! Ba: What is kept; rows of words and of bytes in memory. -/
section
open Go.RowKit

/-- What is kept: all but the blocks of S. -/
structure Keeps (S : Nat → Prop) (w w' : World) : Prop where
  os : w'.os = w.os
  tape : w'.tape = w.tape
  output : w'.output = w.output
  size : w.heap.size ≤ w'.heap.size
  block : ∀ k, k < w.heap.size → ¬ S k → w'.heap[k]? = w.heap[k]?

theorem Keeps.refl (S : Nat → Prop) (w : World) : Keeps S w w := ⟨rfl, rfl, rfl, Nat.le_refl _, fun _ _ _ => rfl⟩
theorem Keeps.trans' {S T : Nat → Prop} {a b c : World} (h : Keeps S a b) (k : Keeps T b c) (hT : ∀ i, T i → S i ∨ a.heap.size ≤ i) : Keeps S a c :=
  ⟨k.os.trans h.os, k.tape.trans h.tape, k.output.trans h.output, Nat.le_trans h.size k.size,
   fun i hi hs => (k.block i (Nat.lt_of_lt_of_le hi h.size) (fun ht => by rcases hT i ht with h1 | h1; exact hs h1; omega)).trans (h.block i hi hs)⟩
theorem Keeps.trans {S : Nat → Prop} {a b c : World} (h : Keeps S a b) (k : Keeps S b c) : Keeps S a c := h.trans' k (fun _ hi => .inl hi)
theorem Keeps.none {S : Nat → Prop} {a b c : World} (h : Keeps S a b) (k : Keeps (fun _ => False) b c) : Keeps S a c := h.trans' k (fun _ hi => hi.elim)
theorem Keeps.mono {S T : Nat → Prop} {a b : World} (h : Keeps S a b) (hST : ∀ k, k < a.heap.size → S k → T k) : Keeps T a b :=
  ⟨h.os, h.tape, h.output, h.size, fun i hi ht => h.block i hi (fun hs => ht (hST i hi hs))⟩
theorem Keeps.drew {S : Nat → Prop} {a w : World} (h : Keeps S a w) : Keeps S a w.drew := ⟨h.os, h.tape, h.output, h.size, h.block⟩
theorem Keeps.drewN {S : Nat → Prop} {a w : World} (h : Keeps S a w) (n : Nat) : Keeps S a (w.drewN n) :=
  ⟨(show (w.drewN n).os = w.os from rfl).trans h.os, (show (w.drewN n).tape = w.tape from rfl).trans h.tape, (show (w.drewN n).output = w.output from rfl).trans h.output, by simpa using h.size, fun k hk hs => by simpa using h.block k hk hs⟩
theorem Keeps.alloc {S : Nat → Prop} {a w : World} (h : Keeps S a w) (o : Obj) : Keeps S a (w.alloc o) :=
  ⟨h.os, h.tape, h.output, by have := h.size; simp; omega, fun k hk hs => (Below.heap_alloc w o k (Nat.lt_of_lt_of_le hk h.size)).trans (h.block k hk hs)⟩
theorem Keeps.setCell {S : Nat → Prop} {a w : World} (h : Keeps S a w) {p : Addr} (hp : S p.block ∨ a.heap.size ≤ p.block) (u : Value) : Keeps S a (w.setCell p u) :=
  ⟨h.os, h.tape, h.output, by simpa using h.size, fun k hk hs => (heap_setCell_other w p k u (by rintro rfl; rcases hp with hp | hp; exact hs hp; omega)).trans (h.block k hk hs)⟩
theorem Keeps.setRow {S : Nat → Prop} {a w : World} (h : Keeps S a w) {g : Nat} (hp : S g ∨ a.heap.size ≤ g) (cs : Array Value) : Keeps S a (w.setRow g cs) :=
  ⟨h.os, h.tape, h.output, by simpa using h.size, fun k hk hs => (setRow_other w g k cs (by rintro rfl; rcases hp with hp | hp; exact hs hp; omega)).trans (h.block k hk hs)⟩
theorem Keeps.below {S : Nat → Prop} {B : Nat} {a w : World} (h : Keeps S a w) (hB : B ≤ a.heap.size) (hS : ∀ k, k < B → ¬ S k) : Below B a w :=
  ⟨h.os, h.tape, h.output, h.size, fun k hk => h.block k (by omega) (hS k hk)⟩
theorem Keeps.row {S : Nat → Prop} {a w : World} {g : Nat} {o : Obj} (h : Keeps S a w) (hg : a.heap[g]? = some o) (hs : ¬ S g) : w.heap[g]? = some o :=
  (h.block g (Array.getElem?_eq_some_iff.1 hg).1 hs).trans hg
theorem lt_of_row {w : World} {g : Nat} {o : Obj} (h : w.heap[g]? = some o) : g < w.heap.size := (Array.getElem?_eq_some_iff.1 h).1
theorem cell_keeps {S : Nat → Prop} {a w : World} {b o : Nat} {v : Value} (h : Keeps S a w) (hc : a.cell? ⟨b, o, none⟩ = some v) (hs : ¬ S b) : w.cell? ⟨b, o, none⟩ = some v := by
  have hlt : b < a.heap.size := World.block_lt_of_cell? a ⟨b, o, none⟩ hc
  have := h.block b hlt hs
  simp only [World.cell?] at hc ⊢
  rw [this]; exact hc

abbrev B := BitVec 8
/-- A byte as an integer. -/
def nb (x : B) : Int := (x.toNat : Int)
theorem nb_lt (x : B) : 0 ≤ nb x ∧ nb x < 256 := by unfold nb; have := x.isLt; omega
theorem nb_inj {x y : B} (h : nb x = nb y) : x = y := by unfold nb at h; exact BitVec.eq_of_toNat_eq (by omega)
def vw (x : W) : Value := .int .u32 (nw x)
def vb (x : B) : Value := .int .u8 (nb x)
def wrow (l : List W) : Array Value := (l.map vw).toArray
def brow (l : List B) : Array Value := (l.map vb).toArray
theorem size_wrow (l : List W) : (wrow l).size = l.length := by simp [wrow]
theorem size_brow (l : List B) : (brow l).size = l.length := by simp [brow]
theorem wrow_get (l : List W) (j : Nat) : (wrow l)[j]? = (l[j]?).map vw := by simp [wrow]
theorem brow_get (l : List B) (j : Nat) : (brow l)[j]? = (l[j]?).map vb := by simp [brow]
theorem wrow_one (l : List W) : (wrow l).all (·.oneCell') = true := by
  rw [Array.all_eq_true_iff_forall_mem]; intro x hx; simp [wrow] at hx; obtain ⟨a, _, rfl⟩ := hx; rfl
theorem brow_one (l : List B) : (brow l).all (·.oneCell') = true := by
  rw [Array.all_eq_true_iff_forall_mem]; intro x hx; simp [brow] at hx; obtain ⟨a, _, rfl⟩ := hx; rfl
theorem wrow_set (l : List W) (j : Nat) (x : W) : (wrow l).setIfInBounds j (.int .u32 (nw x)) = wrow (l.set j x) := by
  simp [wrow, List.map_set]; rfl
theorem brow_set (l : List B) (j : Nat) (x : B) : (brow l).setIfInBounds j (.int .u8 (nb x)) = brow (l.set j x) := by
  simp [brow, List.map_set]; rfl

/-- The bytes l lie in block b from o on. -/
def BytesAt (w : World) (b o : Nat) (l : List B) : Prop := ∀ j x, l[j]? = some x → w.cell? ⟨b, o + j, none⟩ = some (.int .u8 (nb x))
theorem BytesAt.keeps {S : Nat → Prop} {a w : World} {b o : Nat} {l : List B} (h : BytesAt a b o l) (hk : Keeps S a w) (hs : ¬ S b) : BytesAt w b o l :=
  fun j x hx => cell_keeps hk (h j x hx) hs
theorem BytesAt.part {w : World} {b o : Nat} {l : List B} (h : BytesAt w b o l) (i n : Nat) : BytesAt w b (o + i) ((l.drop i).take n) := fun j x hx => by
  rw [List.getElem?_take] at hx
  split at hx
  · rw [List.getElem?_drop] at hx
    have := h _ _ hx
    rwa [← Nat.add_assoc] at this
  · cases hx

/-- Bytes as a word, the highest first. -/
def be (l : List B) : W := l.foldl (fun w x => (w <<< 8) ||| x.setWidth 32) 0
theorem be_snoc (l : List B) (x : B) : be (l ++ [x]) = (be l <<< 8) ||| x.setWidth 32 := by simp [be]
theorem nb_nw (x : B) : nb x = nw (x.setWidth 32) := by
  unfold nb nw; simp
  have := x.isLt; omega
theorem take_snoc {α : Type} (l : List α) (k : Nat) (h : k < l.length) : l.take (k + 1) = l.take k ++ [l[k]] := by
  rw [List.take_succ_eq_append_getElem h]

theorem shl8 (x : W) : nw x * (256 : Int) % (4294967296 : Int) = nw (x <<< (8 : Nat)) := shl_nw' x 8

theorem take28 (w : World) (b o c : Nat) (l : List B) (n : Nat) (hn : l.length = n) (hm : n ≤ 64) (hl : BytesAt w b o l) :
    Calls Tryd.prog 73 #[.slice (some ⟨b, o, none⟩) n c] w fun e w' => e = .returned (.int .u32 (nw (be l))) ∧ w' = w := by
  go_enter Tryd.func73, Tryd.ntmps73
  go_wp2
  go_loop [3, 8] (fun t i => ∃ k : Nat, k ≤ n ∧ i = .int .i64 k ∧ t = .int .u32 (nw (be (l.take k)))) (fun _ i => n - (intOf i).toNat)
  case atStart => exact ⟨0, by omega, rfl, rfl⟩
  case round =>
    obtain ⟨k, hk, rfl, rfl⟩ := hrel
    have hb0 := nw_lt (be (l.take k))
    by_cases hlt : k < n
    · have hc := hl k l[k] (by simp)
      have hb := nb_lt l[k]
      go_wp2
      go_round
      case rel =>
        refine ⟨k + 1, by omega, by go_num, ?_⟩
        rw [take_snoc l k (by omega), be_snoc]
        rw [shl8, nb_nw, bits_or]
      case measure => simp [intOf]; omega
    · obtain rfl : k = n := by omega
      go_wp2
      go_ret
      exact ⟨by rw [List.take_of_length_le (by omega)]; rfl, rfl⟩
end

/-! Rt: A region that draws its order, reads, calls what leaves the world as it is, and ends in a tail that waits for all: one walk. -/
section
open Go.RowKit

theorem still_of_quiet {P : Program} {ops : Array Oper} {w : World} {Q : Act → Prop} : ∀ (l : List Oper) (a : Act), wpQuiet P ops (fun w' => w' = w) Q l a → wpStill P ops w Q l a
  | [], a, h => h
  | o :: l, a, h => by
    unfold wpQuiet at h
    unfold wpStill
    split at h
    · rename_i hw
      rw [if_pos hw]
      obtain ⟨v, h1, h2⟩ := h
      have h3 := h1 w rfl
      unfold Oper.quietAt at h3
      unfold Oper.still
      generalize (execOp a.eval o).run P w = r at *
      cases r with
      | ok n w' =>
        cases n <;> simp only [Oper.quietUpon] at h3 <;> simp only [Oper.stillUpon]
        case value u => obtain ⟨rfl, rfl⟩ := h3; exact ⟨rfl, still_of_quiet l _ h2⟩
        case skip => obtain ⟨rfl, rfl⟩ := h3; exact ⟨rfl, still_of_quiet l _ h2⟩
        case enter f args => exact ⟨h3.1, v, h3.2, still_of_quiet l _ h2⟩
      | halt x w' => simp only [Oper.quietUpon] at h3
    · rename_i hw
      rw [if_neg hw]
      exact still_of_quiet l _ h

theorem region_tail {P : Program} {id : Nat} {Q : Exit → Act → World → Prop} {a : Act} {w : World} {l : List Oper} (n : Nat) (hm : P.follows .mixedOrders = true) (hB : Region.lexTailB .any l.toArray n = true)
    (h : wpQuiet P l.toArray (fun w' => w' = w.drew) (fun a' => wpList P l.toArray Q (l.drop n) a' w.drew) (l.take n) a) : (Code.region id l.toArray true).wp P Q a w :=
  wp_region_still_tail n hm hB (still_of_quiet _ _ h)

/-- A callee that leaves the world as it is, met in the world of such a walk. -/
theorem quiet_call {P : Program} {f : FuncId} {args : Array Value} {w w1 : World} {v : Value}
    (h : Calls P f args w fun e w' => e = .returned v ∧ w' = w) (hw : w = w1) : Calls P f args w fun e w'' => e = .returned v ∧ w'' = w1 :=
  h.mono fun _ _ ⟨he, h2⟩ => ⟨he, h2.trans hw⟩

/-- b is a after some draws. -/
structure Drawn (a b : World) : Prop where
  out : ∃ n, b = a.drewN n
theorem Drawn.refl (a : World) : Drawn a a := ⟨0, rfl⟩
theorem Drawn.drewN {a b : World} (h : Drawn a b) (n : Nat) : Drawn a (b.drewN n) := by
  obtain ⟨m, rfl⟩ := h.out; exact ⟨_, World.drewN_drewN _ _ _⟩
theorem Drawn.drew {a b : World} (h : Drawn a b) : Drawn a b.drew := h.drewN 1
theorem Drawn.cell {a b : World} (h : Drawn a b) {x : Addr} {v : Value} (hc : a.cell? x = some v) : b.cell? x = some v := by
  obtain ⟨m, rfl⟩ := h.out; simpa using hc
theorem Drawn.heap {a b : World} (h : Drawn a b) : b.heap = a.heap := by
  obtain ⟨m, rfl⟩ := h.out; simp
theorem Drawn.keeps {S : Nat → Prop} {a b : World} (h : Drawn a b) : Keeps S a b := by
  obtain ⟨m, rfl⟩ := h.out; exact (Keeps.refl _ _).drewN _
end

/-! Sp: spread: a word for each round. -/
section
open Go.RowKit

/-- Word i of a block. -/
def word (blk : List B) (i : Nat) : W := be ((blk.drop (4 * i)).take 4)
/-- The next word of the schedule, out of those ahead. -/
def nxt (blk : List B) (l : List W) (i : Nat) : W :=
  if i < 16 then word blk i else l.getD (i - 16) 0 + ss0 (l.getD (i - 15) 0) + l.getD (i - 7) 0 + ss1 (l.getD (i - 2) 0)
/-- The first i words of the schedule. -/
def sw (blk : List B) : Nat → List W
  | 0 => []
  | i + 1 => sw blk i ++ [nxt blk (sw blk i) i]
theorem sw_len (blk : List B) (i : Nat) : (sw blk i).length = i := by induction i <;> simp [sw, *]

/-- 64 words: these, then zeros. -/
def pad (l : List W) : List W := l ++ List.replicate (64 - l.length) 0
theorem pad_len (l : List W) (h : l.length ≤ 64) : (pad l).length = 64 := by simp [pad]; omega
theorem pad_full (l : List W) (h : l.length = 64) : pad l = l := by simp [pad, h]
theorem pad_get (l : List W) (j : Nat) (h : j < l.length) : (pad l)[j]? = some (l.getD j 0) := by
  simp [pad, List.getElem?_append, h]
theorem pad_set (l : List W) (x : W) (h : l.length < 64) : (pad l).set l.length x = pad (l ++ [x]) := by
  have e : List.replicate (64 - l.length) (0 : W) = 0 :: List.replicate (64 - (l.length + 1)) 0 := by
    rw [show 64 - l.length = (64 - (l.length + 1)) + 1 by omega, List.replicate_succ]
  unfold pad
  rw [e]
  simp

theorem info57 : (Tryd.prog.info? 125).map (fun i => (i.zero, i.size)) = some (some (.agg (wrow (pad []))), 64) := by kernel_rfl
theorem zero57 (w : World) : (zeroValue 125).run Tryd.prog w = .ok (.agg (wrow (pad []))) w := (zero_of_info info57).1 w
theorem size57 : (Tryd.prog.info? 125).map (·.size) = some 64 := (zero_of_info info57).2

/-- A whole row is stored over a row that is known whole. -/
theorem wpList_store_all {ops : Array Oper} {rest : List Oper} {o : Oper} {a : Act} {w : World} {Q : Exit → Act → World → Prop} (hgd : o.guard = none) (ty : TypeId) (x y : Operand) (ho : o.op = .store ty x y)
    (g : Nat) (hx : a.eval x = .pointer (some ⟨g, 0, none⟩)) (new : Array Value) (hy : a.eval y = .agg new) (t : TypeId) (old : Array Value) (hg : w.heap[g]? = some (.cells old t (0, 0)))
    (hi : (Tryd.prog.info? ty).map (·.size) = some new.size) (hs : old.size = new.size) (h1 : new.all (·.oneCell') = true)
    (h : wpList Tryd.prog ops Q rest (a.put o.dst undef) (w.setRow g new)) : wpList Tryd.prog ops Q (o :: rest) a w := by
  refine wpList_plain hgd fun K hK => ?_
  unfold Oper.wp execOp
  simp only [ho, hx, hy, Instr.storeAt, Instr.sureAddr, Sem.run_bind, Sem.run_pure, Result.andThen_ok, run_storeVar_row w g t ty old new hg hi hs h1]
  exact hK _ _ h

/-- Behind k rounds: the result's block q0 is zeros, the words' block q1 has k words. -/
structure SpIn (q0 q1 : Nat) (w V : World) (blk : List B) (k : Nat) : Prop where
  g0 : V.heap[q0]? = some (.cells (wrow (pad [])) 125 (0, 0))
  g1 : V.heap[q1]? = some (.cells (wrow (pad (sw blk k))) 125 (0, 0))
  keeps : Keeps (fun _ => False) w V
theorem SpIn.drew {q0 q1 k : Nat} {w V : World} {blk : List B} (h : SpIn q0 q1 w V blk k) : SpIn q0 q1 w V.drew blk k := ⟨h.g0, h.g1, h.keeps.drew⟩
theorem SpIn.drewN {q0 q1 k : Nat} {w V : World} {blk : List B} (h : SpIn q0 q1 w V blk k) (n : Nat) : SpIn q0 q1 w (V.drewN n) blk k := ⟨by simpa using h.g0, by simpa using h.g1, h.keeps.drewN n⟩
theorem SpIn.next {q0 q1 k : Nat} {w V : World} {blk : List B} (h : SpIn q0 q1 w V blk k) (hk : k < 64) (h01 : q0 ≠ q1) (hq : w.heap.size ≤ q1) (x : W) (hx : nxt blk (sw blk k) k = x) :
    SpIn q0 q1 w (V.setCell ⟨q1, k, none⟩ (.int .u32 (nw x))) blk (k + 1) := by
  refine ⟨?_, ?_, h.keeps.setCell (p := ⟨q1, k, none⟩) (.inr hq) _⟩
  · rw [heap_setCell_other _ _ _ _ (by simpa using h01)]; exact h.g0
  · rw [heap_setCell_same V _ k _ _ _ h.g1, wrow_set]
    have hlen := sw_len blk k
    have := pad_set (sw blk k) x (by omega)
    rw [hlen] at this
    rw [this, ← hx]
    rfl
theorem SpIn.get {q0 q1 k : Nat} {w V : World} {blk : List B} (h : SpIn q0 q1 w V blk k) (j : Nat) (hj : j < k) : V.cell? ⟨q1, j, none⟩ = some (.int .u32 (nw ((sw blk k).getD j 0))) := by
  have hlen := sw_len blk k
  rw [cell_of_row V _ j _ _ _ h.g1, wrow_get, pad_get _ _ (by omega)]; rfl
theorem SpIn.here {q0 q1 k : Nat} {w V : World} {blk : List B} (h : SpIn q0 q1 w V blk k) (hk : k < 64) : V.frozen? ⟨q1, k, none⟩ = false ∧ ∃ v, V.cell? ⟨q1, k, none⟩ = some v := by
  refine ⟨frozen_of_row V _ k _ _ h.g1, ?_⟩
  rw [cell_of_row V _ k _ _ _ h.g1, wrow_get]
  have : k < (pad (sw blk k)).length := by rw [pad_len _ (by rw [sw_len]; omega)]; exact hk
  simp [this]

set_option maxHeartbeats 1000000 in
theorem spread26 (w : World) (b o c : Nat) (blk : List B) (hn : blk.length = 64) (hc : 64 ≤ c) (hl : BytesAt w b o blk) :
    Calls Tryd.prog 69 #[.slice (some ⟨b, o, none⟩) 64 c] w fun e w' => e = .returned (.agg (wrow (sw blk 64))) ∧ Keeps (fun _ => False) w w' := by
  have hz := zero57
  go_enter Tryd.func69, Tryd.ntmps69
  go_wp2
  clear hz
  go_loopw [7] (fun i wr => ∃ k : Nat, k ≤ 64 ∧ i = .int .i64 k ∧ SpIn w.heap.size (w.heap.size + 1) w wr blk k) (fun i _ => 64 - (intOf i).toNat)
  case atStart => exact ⟨0, by omega, rfl, heap_alloc2_old w _ _, heap_alloc2_new w _ _, ((Keeps.refl _ _).alloc _).alloc _⟩
  case round =>
    obtain ⟨k, hk, rfl, hS⟩ := hrel
    by_cases hlt : k < 64
    · obtain ⟨hf, v0, hv0⟩ := hS.here hlt
      have hlt' : (k : Int) < 64 := by omega
      by_cases h16 : k < 16
      · have h16' : (k : Int) < 16 := by omega
        have hfin := hS.next hlt (by omega) (by omega) (word blk k) (by simp [nxt, h16])
        have hbs : BytesAt wr b (o + 4 * k) ((blk.drop (4 * k)).take 4) := (hl.keeps hS.keeps (fun h => h)).part (4 * k) 4
        have hl4 : ((blk.drop (4 * k)).take 4).length = 4 := by simp [hn]; omega
        clear hS hl
        go_wp2_with (go_at_call 73; refine (take28 _ b (o + 4 * k) _ _ (4 * (k + 1) - 4 * k) (by rw [hl4]; omega) (by omega) hbs).mono ?_; rintro e w' ⟨rfl, rfl⟩)
        go_roundw
        case rel => exact ⟨k + 1, by omega, by go_num, hfin⟩
        case measure => simp [intOf]; omega
      · have h16' : ¬ (k : Int) < 16 := by omega
        have c1 := hS.get (k - 16) (by omega)
        have c2 := hS.get (k - 15) (by omega)
        have c3 := hS.get (k - 7) (by omega)
        have c4 := hS.get (k - 2) (by omega)
        have hx : nxt blk (sw blk k) k = (sw blk k).getD (k - 16) 0 + ss0 ((sw blk k).getD (k - 15) 0) + (sw blk k).getD (k - 7) 0 + ss1 ((sw blk k).getD (k - 2) 0) := by unfold nxt; rw [if_neg h16]
        generalize (sw blk k).getD (k - 16) 0 = x16 at *
        generalize (sw blk k).getD (k - 15) 0 = x15 at *
        generalize (sw blk k).getD (k - 7) 0 = x7 at *
        generalize (sw blk k).getD (k - 2) 0 = x2 at *
        have b1 := nw_lt x16
        have b2 := nw_lt x15
        have b3 := nw_lt x7
        have b4 := nw_lt x2
        have Hx : Hid (nxt blk (sw blk k) k = x16 + ss0 x15 + x7 + ss1 x2) := hx
        have e15 : (15 : Int) ≤ (k : Int) := by omega
        clear hx hl
        go_wp2
        go_quiet (fail)
        go_wp2
        refine region_tail 29 (by kernel_rfl) (by kernel_rfl) ?_
        simp only [List.take_succ_cons, List.take_zero]
        iterate 29 (first | go_big_quiet_step (fail) | (go_big_quiet_want; go_big_quiet_op; (refine ⟨_, quiet_call (turn27i _ _ _ (by decide) (by decide)) rfl, ?_⟩); go_big_quiet_on))
        refine wpQuiet_nil ?_
        simp only [List.drop_succ_cons, List.drop_zero]
        go_wp2
        rw [ss0_nw, ss1_nw, add4_nw]
        exact ⟨⟨k + 1, by omega, by go_num, (hS.drewN _).next hlt (by omega) (by omega) _ Hx.out⟩, by simp [intOf]; omega⟩
    · obtain rfl : k = 64 := by omega
      obtain ⟨g0, g1, hK⟩ := hS
      rw [pad_full _ (sw_len _ _)] at g1
      have hs1 : (Tryd.prog.info? 125).map (·.size) = some (wrow (sw blk 64)).size := by rw [size_wrow, sw_len]; exact size57
      have hs2 : (wrow (pad [])).size = (wrow (sw blk 64)).size := by rw [size_wrow, size_wrow, sw_len]; rfl
      have hone := wrow_one (sw blk 64)
      go_wp2_with (first | (refine wpList_load_row rfl 125 _ rfl (w.heap.size + 1) rfl 125 (wrow (sw blk 64)) (0, 0) _ g1 Tryd.underlying125 rfl hs1 ?_) | (refine wpList_store_all rfl 125 _ _ rfl w.heap.size rfl (wrow (sw blk 64)) rfl 125 (wrow (pad [])) g0 hs1 hs2 hone ?_))
      refine bodyPost_ret (v := .agg (wrow (sw blk 64))) ?_ rfl ⟨rfl, hK.setRow (.inr (Nat.le_refl _)) _⟩
      exact results_cell_row rfl _ _ w.heap.size 125 (wrow (sw blk 64)) (0, 0) _ rfl (setRow_heap wr _ _ _ _ _ g0) Tryd.underlying125 rfl hs1
end

/-! Sa: stir: one block worked into the hash. -/
section
open Go.RowKit

def kk : List W := [1116352408, 1899447441, 3049323471, 3921009573, 961987163, 1508970993, 2453635748, 2870763221, 3624381080, 310598401, 607225278, 1426881987, 1925078388, 2162078206, 2614888103, 3248222580, 3835390401, 4022224774, 264347078, 604807628, 770255983, 1249150122, 1555081692, 1996064986, 2554220882, 2821834349, 2952996808, 3210313671, 3336571891, 3584528711, 113926993, 338241895, 666307205, 773529912, 1294757372, 1396182291, 1695183700, 1986661051, 2177026350, 2456956037, 2730485921, 2820302411, 3259730800, 3345764771, 3516065817, 3600352804, 4094571909, 275423344, 430227734, 506948616, 659060556, 883997877, 958139571, 1322822218, 1537002063, 1747873779, 1955562222, 2024104815, 2227730452, 2361852424, 2428436474, 2756734187, 3204031479, 3329325298]
def h0 : St := ⟨1779033703, 3144134277, 1013904242, 2773480762, 1359893119, 2600822924, 528734635, 1541459225⟩
def St.toL (s : St) : List W := [s.a, s.b, s.c, s.d, s.e, s.f, s.g, s.h]
theorem toL_len (s : St) : s.toL.length = 8 := rfl
def St.plus (s v : St) : St := ⟨s.a + v.a, s.b + v.b, s.c + v.c, s.d + v.d, s.e + v.e, s.f + v.f, s.g + v.g, s.h + v.h⟩
/-- The state behind i rounds. -/
def rd (ws : List W) (s : St) (i : Nat) : St := ((kk.zip ws).take i).foldl (fun s p => s.step p.1 p.2) s
/-- The state behind a block. -/
def St.comp (s : St) (blk : List B) : St := s.plus (rd (sw blk 64) s 64)

theorem rd_succ (ws : List W) (s : St) (i : Nat) (hw : ws.length = 64) (hi : i < 64) : rd ws s (i + 1) = (rd ws s i).step (kk.getD i 0) (ws.getD i 0) := by
  have hk : kk.length = 64 := rfl
  have hz : i < (kk.zip ws).length := by simp [hk, hw, hi]
  unfold rd
  rw [List.take_succ_eq_append_getElem hz, List.foldl_append]
  simp [hk, hw, hi]

/-- The package's two tables lie as its text lays them. -/
structure Tabs (w : World) : Prop where
  first : ∀ j x, h0.toL[j]? = some x → w.cell? ⟨0, j, none⟩ = some (.int .u32 (nw x))
  roots : ∀ j x, kk[j]? = some x → w.cell? ⟨1, j, none⟩ = some (.int .u32 (nw x))
theorem Tabs.keeps {S : Nat → Prop} {w w' : World} (h : Tabs w) (hk : Keeps S w w') (h0 : ¬ S 0) (h1 : ¬ S 1) : Tabs w' :=
  ⟨fun j x hx => cell_keeps hk (h.first j x hx) h0, fun j x hx => cell_keeps hk (h.roots j x hx) h1⟩
theorem Tabs.size {w : World} (h : Tabs w) : 2 ≤ w.heap.size := by
  have := World.block_lt_of_cell? w ⟨1, 0, none⟩ (h.roots 0 _ rfl)
  exact this

/-- The state's cells: the hash's words, the rest's bytes, how many bytes came in. -/
def stRow (h : List W) (rest : List B) (t : Int) : Array Value := (h.map vw ++ (rest.map vb ++ [Value.int .u64 t])).toArray
theorem size_stRow {h : List W} {rest : List B} {t : Int} (hh : h.length = 8) (hr : rest.length = 64) : (stRow h rest t).size = 73 := by simp [stRow, hh, hr]
structure StAt (w : World) (p : Nat) (h : List W) (rest : List B) (t : Int) : Prop where
  row : w.heap[p]? = some (.cells (stRow h rest t) 113 (0, 0))
  h8 : h.length = 8
  r64 : rest.length = 64
theorem StAt.keeps {S : Nat → Prop} {w w' : World} {p : Nat} {h : List W} {rest : List B} {t : Int} (a : StAt w p h rest t) (hk : Keeps S w w') (hs : ¬ S p) : StAt w' p h rest t :=
  ⟨hk.row a.row hs, a.h8, a.r64⟩
theorem StAt.free {w : World} {p : Nat} {h : List W} {rest : List B} {t : Int} (a : StAt w p h rest t) (j : Nat) : w.frozen? ⟨p, j, none⟩ = false := frozen_of_row w p j _ _ a.row
theorem StAt.word {w : World} {p : Nat} {h : List W} {rest : List B} {t : Int} (a : StAt w p h rest t) (j : Nat) (hj : j < 8) : w.cell? ⟨p, j, none⟩ = some (.int .u32 (nw (h.getD j 0))) := by
  have := a.h8
  rw [cell_of_row w p j _ _ _ a.row]
  simp [stRow, List.getElem?_append, a.h8, hj, vw]
theorem StAt.rest {w : World} {p : Nat} {h : List W} {rest : List B} {t : Int} (a : StAt w p h rest t) : BytesAt w p 8 rest := fun j x hx => by
  have h8 := a.h8
  have hj : j < rest.length := (List.getElem?_eq_some_iff.1 hx).1
  rw [cell_of_row w p (8 + j) _ _ _ a.row]
  simp [stRow, List.getElem?_append, a.h8, hj, vb]
  exact congrArg nb (List.getElem?_eq_some_iff.1 hx).2
theorem StAt.total {w : World} {p : Nat} {h : List W} {rest : List B} {t : Int} (a : StAt w p h rest t) : w.cell? ⟨p, 72, none⟩ = some (.int .u64 t) := by
  rw [cell_of_row w p 72 _ _ _ a.row]
  simp [stRow, List.getElem?_append, a.h8, a.r64]
theorem StAt.setWord {w : World} {p : Nat} {h : List W} {rest : List B} {t : Int} (a : StAt w p h rest t) (j : Nat) (hj : j < 8) (x : W) : StAt (w.setCell ⟨p, j, none⟩ (.int .u32 (nw x))) p (h.set j x) rest t := by
  refine ⟨?_, by simp [a.h8], a.r64⟩
  rw [heap_setCell_same w _ j _ _ _ a.row]
  have h8 := a.h8
  simp only [stRow, List.setIfInBounds_toArray]
  rw [List.set_append_left _ _ (by simp [a.h8]; omega), List.map_set]
  rfl
theorem StAt.setTotal {w : World} {p : Nat} {h : List W} {rest : List B} {t : Int} (a : StAt w p h rest t) (t' : Int) : StAt (w.setCell ⟨p, 72, none⟩ (.int .u64 t')) p h rest t' := by
  refine ⟨?_, a.h8, a.r64⟩
  rw [heap_setCell_same w _ 72 _ _ _ a.row]
  simp only [stRow, List.setIfInBounds_toArray]
  rw [List.set_append_right _ _ (by simp [a.h8]), List.set_append_right _ _ (by simp [a.h8, a.r64])]
  simp [a.h8, a.r64]

theorem index40 (v : St) (k : Nat) (hk : k < 8) (w : World) : (Instr.index 109 (.agg #[.int .u32 (nw v.a), .int .u32 (nw v.b), .int .u32 (nw v.c), .int .u32 (nw v.d), .int .u32 (nw v.e), .int .u32 (nw v.f), .int .u32 (nw v.g), .int .u32 (nw v.h)]) (.int .i64 (k : Int))).run Tryd.prog w = .ok (.int .u32 (nw (v.toL.getD k 0))) w := by
  obtain rfl | rfl | rfl | rfl | rfl | rfl | rfl | rfl : k = 0 ∨ k = 1 ∨ k = 2 ∨ k = 3 ∨ k = 4 ∨ k = 5 ∨ k = 6 ∨ k = 7 := by omega
  all_goals kernel_rfl

/-- The first k words are added, the others not yet. -/
def mixd (S V : List W) (k : Nat) : List W := (List.zipWith (· + ·) S V).take k ++ S.drop k
theorem mixd_zero (S V : List W) : mixd S V 0 = S := by simp [mixd]
theorem mixd_all (s v : St) : mixd s.toL v.toL 8 = (s.plus v).toL := rfl
theorem mixd_len (s v : St) (k : Nat) (hk : k ≤ 8) : (mixd s.toL v.toL k).length = 8 := by simp [mixd, toL_len]; omega
theorem mixd_get (s v : St) (k : Nat) (hk : k < 8) : (mixd s.toL v.toL k).getD k 0 = s.toL.getD k 0 := by
  match k, hk with
  | 0, _ | 1, _ | 2, _ | 3, _ | 4, _ | 5, _ | 6, _ | 7, _ => rfl
theorem mixd_set (s v : St) (k : Nat) (hk : k < 8) : (mixd s.toL v.toL k).set k (s.toL.getD k 0 + v.toL.getD k 0) = mixd s.toL v.toL (k + 1) := by
  match k, hk with
  | 0, _ | 1, _ | 2, _ | 3, _ | 4, _ | 5, _ | 6, _ | 7, _ => rfl
end

/-! Sb: stir: the walk. -/
section
open Go.RowKit

/-- A whole row is stored over a row that is known whole; the world behind it is a letter. -/
theorem wpList_store_row {ops : Array Oper} {rest : List Oper} {o : Oper} {a : Act} {w : World} {Q : Exit → Act → World → Prop} (hgd : o.guard = none) (hdst : o.dst = none) (ty : TypeId) (x y : Operand) (ho : o.op = .store ty x y)
    (g : Nat) (hx : a.eval x = .pointer (some ⟨g, 0, none⟩)) (new : Array Value) (hy : a.eval y = .agg new) (t : TypeId) (old : Array Value) (hg : w.heap[g]? = some (.cells old t (0, 0)))
    (hi : (Tryd.prog.info? ty).map (·.size) = some new.size) (hs : old.size = new.size) (h1 : new.all (·.oneCell') = true)
    (h : ∀ w', w'.heap[g]? = some (.cells new t (0, 0)) → Keeps (· = g) w w' → w'.heap.size = w.heap.size → wpList Tryd.prog ops Q rest a w') : wpList Tryd.prog ops Q (o :: rest) a w :=
  wpList_store_all hgd ty x y ho g hx new hy t old hg hi hs h1 (by rw [hdst]; exact h _ (setRow_heap w g _ _ _ _ hg) ((Keeps.refl (· = g) w).setRow (.inl rfl) _) (by simp))

set_option maxRecDepth 100000 in
set_option maxHeartbeats 4000000 in
theorem stir20 (w : World) (p b o c : Nat) (s : St) (rest : List B) (t : Int) (blk : List B) (hS : StAt w p s.toL rest t) (hT : Tabs w) (hp : 1 < p) (hn : blk.length = 64) (hc : 64 ≤ c) (hl : BytesAt w b o blk) :
    Calls Tryd.prog 63 #[.pointer (some ⟨p, 0, none⟩), .slice (some ⟨b, o, none⟩) 64 c] w fun e w' => e = .returned (.tuple #[]) ∧ StAt w' p (s.comp blk).toL rest t ∧ Keeps (· = p) w w' := by
  have hz := zero57
  have hs1 : (Tryd.prog.info? 125).map (·.size) = some (wrow (sw blk 64)).size := by rw [size_wrow, sw_len]; exact size57
  have hs2 : (wrow (pad [])).size = (wrow (sw blk 64)).size := by rw [size_wrow, size_wrow, sw_len]; rfl
  have hone := wrow_one (sw blk 64)
  go_enter Tryd.func63, Tryd.ntmps63
  go_wp2_with (first | (go_at_call 69; refine (spread26 _ b o c blk hn hc hl).mono ?_; rintro e w1 ⟨rfl, hk1⟩) | (refine wpList_store_row rfl rfl 125 _ _ rfl w1.heap.size rfl (wrow (sw blk 64)) rfl 125 (wrow (pad [])) (heap_alloc_new _ _) hs1 hs2 hone ?_; intro w2 g2 hk2 hz2))
  have hk02 : Keeps (fun _ => False) w w2 := (hk1.alloc _).trans' hk2 (fun i e => .inr (by have := hk1.size; omega))
  have hS2 := hS.keeps hk02 (fun h => h)
  have hT2 := hT.keeps hk02 (fun h => h) (fun h => h)
  have hcw : ∀ j, j < 64 → w2.cell? ⟨w1.heap.size, j, none⟩ = some (.int .u32 (nw ((sw blk 64).getD j 0))) := fun j hj => by
    rw [cell_of_row w2 _ j _ _ _ g2, wrow_get]
    have : j < (sw blk 64).length := by rw [sw_len]; exact hj
    simp [this, vw]
  have hck : ∀ j, j < 64 → w2.cell? ⟨1, j, none⟩ = some (.int .u32 (nw (kk.getD j 0))) := fun j hj => by
    have : j < kk.length := hj
    exact hT2.roots j _ (by simp [this])
  have hlw := sw_len blk 64
  have hpq : p < w1.heap.size := Nat.lt_of_lt_of_le (lt_of_row hS.row) hk1.size
  have Hcomp : Hid (s.comp blk = s.plus (rd (sw blk 64) s 64)) := rfl
  have Hst : Hid (StAt w2 p s.toL rest t ∧ Keeps (fun _ => False) w w2 ∧ ∀ j, j < 64 → w2.cell? ⟨1, j, none⟩ = some (.int .u32 (nw (kk.getD j 0)))) := ⟨hS2, hk02, hck⟩
  have a0 := hS2.word 0 (by omega)
  have a1 := hS2.word 1 (by omega)
  have a2 := hS2.word 2 (by omega)
  have a3 := hS2.word 3 (by omega)
  have a4 := hS2.word 4 (by omega)
  have a5 := hS2.word 5 (by omega)
  have a6 := hS2.word 6 (by omega)
  have a7 := hS2.word 7 (by omega)
  clear hz hs1 hs2 hone hS hT hl hn hc hk1 hk2 hz2 g2 hS2 hT2 hk02
  generalize sw blk 64 = ws at *
  simp only [St.toL, List.getD_cons_zero, List.getD_cons_succ] at a0 a1 a2 a3 a4 a5 a6 a7
  go_quiet (fail)
  go_wp2
  go_quiet (fail)
  go_wp2
  go_loopw [5, 6, 7, 8, 9, 10, 11, 12, 60] (fun xa xb xc xd xe xf xg xh i wr => ∃ (k : Nat) (v : St), k ≤ 64 ∧ Hid (rd ws s k = v) ∧ i = .int .i64 k ∧ xa = .int .u32 (nw v.a) ∧ xb = .int .u32 (nw v.b) ∧ xc = .int .u32 (nw v.c) ∧ xd = .int .u32 (nw v.d) ∧ xe = .int .u32 (nw v.e) ∧ xf = .int .u32 (nw v.f) ∧ xg = .int .u32 (nw v.g) ∧ xh = .int .u32 (nw v.h) ∧ Drawn w2 wr) (fun _ _ _ _ _ _ _ _ i _ => 64 - (intOf i).toNat)
  case atStart => exact ⟨0, s, by omega, rfl, rfl, rfl, rfl, rfl, rfl, rfl, rfl, rfl, rfl, ((Drawn.refl _).drewN _).drewN _⟩
  case round =>
    obtain ⟨k, v, hk, Hv, rfl, rfl, rfl, rfl, rfl, rfl, rfl, rfl, rfl, hD⟩ := hrel
    by_cases hlt : k < 64
    · have hlt' : (k : Int) < 64 := by omega
      have hc1 := hD.cell (hck k hlt)
      have hc2 := hD.cell (hcw k hlt)
      have Hnx : Hid (rd ws s (k + 1) = v.step (kk.getD k 0) (ws.getD k 0)) := by
        show _ = _
        rw [rd_succ ws s k hlw hlt, Hv.out]
      generalize kk.getD k 0 = K at *
      generalize ws.getD k 0 = X at *
      have ba := nw_lt v.a
      have bb := nw_lt v.b
      have bc := nw_lt v.c
      have bd := nw_lt v.d
      have be := nw_lt v.e
      have bf := nw_lt v.f
      have bg := nw_lt v.g
      have bh := nw_lt v.h
      have bK := nw_lt K
      have bX := nw_lt X
      clear hck hcw hlw a0 a1 a2 a3 a4 a5 a6 a7
      go_wp2
      go_quiet ((go_at_call 70; exact Calls.quiet_of_same (turn27i _ _ _ (by decide) (by decide))))
      go_wp2_with (go_at_call 70; refine (turn27i _ _ _ (by decide) (by decide)).mono ?_; rintro e w' ⟨rfl, rfl⟩)
      go_roundw
      case rel =>
        simp only [show (if IntKind.u32.signed = true then (-1 : Int) else IntKind.u32.max) = 4294967295 from rfl, bs1_nw, ch_nw, bs0_nw, maj_nw, add5_nw, add_nw]
        exact ⟨k + 1, v.step K X, by omega, Hnx, by go_num, rfl, rfl, rfl, rfl, rfl, rfl, rfl, rfl, hD.drewN _⟩
      case measure => simp [intOf]; omega
    · obtain rfl : k = 64 := by omega
      have hS2 : StAt wr p (mixd s.toL v.toL 0) rest t := by rw [mixd_zero]; exact Hst.out.1.keeps (S := fun _ => False) hD.keeps (fun h => h)
      have hkw : Keeps (· = p) w wr := (Hst.out.2.1.mono (fun _ _ h => h.elim)).none hD.keeps
      have Hc : Hid (s.comp blk = s.plus v) := by show _ = _; rw [Hcomp.out, Hv.out]
      have hix := index40 v
      clear hck hcw hlw a0 a1 a2 a3 a4 a5 a6 a7 Hst Hcomp Hv hD
      go_wp2
      go_loopw [132] (fun i wq => ∃ (j : Nat), j ≤ 8 ∧ i = .int .i64 j ∧ StAt wq p (mixd s.toL v.toL j) rest t ∧ Keeps (· = p) w wq) (fun i _ => 8 - (intOf i).toNat)
      case atStart => exact ⟨0, by omega, rfl, hS2, hkw⟩
      case round =>
        clear hS2 hkw
        obtain ⟨j, hj, rfl, hSj, hkj⟩ := hrel
        by_cases hlt : j < 8
        · have hlt' : (j : Int) < 8 := by omega
          have hi := fun w => hix j hlt w
          have hc := hSj.word j hlt
          have hf := hSj.free j
          rw [mixd_get s v j hlt] at hc
          have hset := mixd_set s v j hlt
          have Hset : Hid ((mixd s.toL v.toL j).set j (s.toL.getD j 0 + v.toL.getD j 0) = mixd s.toL v.toL (j + 1)) := hset
          clear hix hset
          generalize s.toL.getD j 0 = X at *
          generalize v.toL.getD j 0 = Y at *
          have bX := nw_lt X
          have bY := nw_lt Y
          go_wp2
          refine region_tail 11 (by kernel_rfl) (by kernel_rfl) ?_
          simp only [List.take_succ_cons, List.take_zero]
          iterate 11 (go_big_quiet_step (fail))
          refine wpQuiet_nil ?_
          simp only [List.drop_succ_cons, List.drop_zero]
          go_wp2
          rw [add_nw]
          have hn := hSj.setWord j hlt (X + Y)
          rw [Hset.out] at hn
          exact ⟨⟨j + 1, by omega, by go_num, hn.keeps (S := fun _ => False) (Keeps.refl _ _).drew (fun h => h), (hkj.setCell (p := ⟨p, j, none⟩) (.inl rfl) _).drew⟩, by simp [intOf]; omega⟩
        · obtain rfl : j = 8 := by omega
          go_wp2
          go_end0
          rw [mixd_all, ← Hc.out] at hSj
          exact ⟨rfl, hSj, hkj⟩
end

end Go.Proofs.YtdgnjpdjohibeaaDoor
