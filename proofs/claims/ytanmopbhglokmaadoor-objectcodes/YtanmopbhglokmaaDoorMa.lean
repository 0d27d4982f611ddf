
/-
  SHA-256 over words of 32 bits, in plain mathematics.
-/
import Derived.Laws.BitsAllLaws
set_option linter.all false
namespace Go.Proofs.YtanmopbhglokmaaDoor

abbrev W := BitVec 32
def rotr (x : W) (n : Nat) : W := (x >>> n) ||| (x <<< (32 - n))
def ch (e f g : W) : W := (e &&& f) ^^^ (~~~e &&& g)
def maj (a b c : W) : W := ((a &&& b) ^^^ (a &&& c)) ^^^ (b &&& c)
def bs0 (a : W) : W := (rotr a 2 ^^^ rotr a 13) ^^^ rotr a 22
def bs1 (e : W) : W := (rotr e 6 ^^^ rotr e 11) ^^^ rotr e 25
def ss0 (x : W) : W := (rotr x 7 ^^^ rotr x 18) ^^^ (x >>> 3)
def ss1 (x : W) : W := (rotr x 17 ^^^ rotr x 19) ^^^ (x >>> 10)

structure St where
  a : W
  b : W
  c : W
  d : W
  e : W
  f : W
  g : W
  h : W

def St.step (s : St) (k w : W) : St :=
  let x := s.h + bs1 s.e + ch s.e s.f s.g + k + w
  let y := bs0 s.a + maj s.a s.b s.c
  ⟨x + y, s.a, s.b, s.c, s.d + x, s.e, s.f, s.g⟩

theorem ch_or (e f g : W) : (e &&& f) ||| (~~~e &&& g) = ch e f g := by
  unfold ch
  apply BitVec.eq_of_getLsbD_eq
  intro i hi
  simp
  cases e.getLsbD i <;> simp [hi]
theorem maj_or (a b c : W) : ((a &&& b) ||| (a &&& c)) ||| (b &&& c) = maj a b c := by
  unfold maj
  apply BitVec.eq_of_getLsbD_eq
  intro i hi
  simp
  cases a.getLsbD i <;> cases b.getLsbD i <;> cases c.getLsbD i <;> rfl

/-- A word as an integer. -/
def nw (x : W) : Int := (x.toNat : Int)
theorem nw_lt (x : W) : 0 ≤ nw x ∧ nw x < 4294967296 := by unfold nw; have := x.isLt; omega
theorem nw_inj {x y : W} (h : nw x = nw y) : x = y := by unfold nw at h; exact BitVec.eq_of_toNat_eq (by omega)

theorem ofInt_nw (x : W) : BitVec.ofInt 32 (nw x) = x := by unfold nw; rw [BitVec.ofInt_natCast]; simp
theorem wrap_nw (x : W) : IntKind.u32.wrap (nw x) = nw x := by rw [IntKind.wrap_u32']; have := nw_lt x; omega
theorem wrap_add (x y : W) : IntKind.u32.wrap (nw x + nw y) = nw (x + y) := by
  rw [IntKind.wrap_u32']; unfold nw; rw [BitVec.toNat_add]; omega
theorem bits_and (x y : W) : bits .and .u32 (nw x) (nw y) = nw (x &&& y) := by
  show IntKind.u32.wrap ((BitVec.ofInt 32 (nw x) &&& BitVec.ofInt 32 (nw y)).toNat : Int) = _
  rw [ofInt_nw, ofInt_nw]; exact wrap_nw _
theorem bits_or (x y : W) : bits .or .u32 (nw x) (nw y) = nw (x ||| y) := by
  show IntKind.u32.wrap ((BitVec.ofInt 32 (nw x) ||| BitVec.ofInt 32 (nw y)).toNat : Int) = _
  rw [ofInt_nw, ofInt_nw]; exact wrap_nw _
theorem bits_xor (x y : W) : bits .xor .u32 (nw x) (nw y) = nw (x ^^^ y) := by
  show IntKind.u32.wrap ((BitVec.ofInt 32 (nw x) ^^^ BitVec.ofInt 32 (nw y)).toNat : Int) = _
  rw [ofInt_nw, ofInt_nw]; exact wrap_nw _
theorem bits_not (x : W) : bits .xor .u32 4294967295 (nw x) = nw (~~~x) := by
  show IntKind.u32.wrap ((BitVec.ofInt 32 4294967295 ^^^ BitVec.ofInt 32 (nw x)).toNat : Int) = _
  rw [ofInt_nw, show BitVec.ofInt 32 4294967295 = BitVec.allOnes 32 from by decide, BitVec.allOnes_xor]; exact wrap_nw _
theorem shl_nw (x : W) (n : Nat) : IntKind.u32.wrap (nw x * 2 ^ n) = nw (x <<< n) := by
  rw [IntKind.wrap_u32']; unfold nw; rw [BitVec.toNat_shiftLeft, Nat.shiftLeft_eq, show 2 ^ 32 = 4294967296 from rfl, Int.natCast_emod, Int.natCast_mul, Int.natCast_pow]; rfl
theorem shr_nw (x : W) (n : Nat) : (nw x) / (2 ^ n) = nw (x >>> n) := by
  unfold nw; rw [BitVec.toNat_ushiftRight, Nat.shiftRight_eq_div_pow, Int.natCast_ediv, Int.natCast_pow]; rfl
theorem shr_nw' (x : W) (n : Nat) : (nw x).fdiv (2 ^ n) = nw (x >>> n) := by
  rw [← shr_nw, Int.fdiv_eq_ediv_of_nonneg]
  exact Int.pow_nonneg (by decide)

theorem shl_nw' (x : W) (n : Nat) : nw x * 2 ^ n % 4294967296 = nw (x <<< n) := by rw [← shl_nw, IntKind.wrap_u32']
theorem add_nw (x y : W) : (nw x + nw y) % 4294967296 = nw (x + y) := by rw [← wrap_add, IntKind.wrap_u32']
theorem or_nw (x y : W) (n m : Nat) : bits .or .u32 (nw x / 2 ^ n) (nw y * 2 ^ m % 4294967296) = nw ((x >>> n) ||| (y <<< m)) := by
  rw [shr_nw, shl_nw', bits_or]
theorem or_nw' (x y : W) (n m : Nat) : bits .or .u32 (nw y * 2 ^ m % 4294967296) (nw x / 2 ^ n) = nw ((x >>> n) ||| (y <<< m)) := by
  rw [shr_nw, shl_nw', bits_or, BitVec.or_comm]
theorem mask31 (n : Nat) (h0 : 0 < n) (h1 : n < 32) : bits .and .u64 (IntKind.u64.wrap (-(n : Int))) 31 = 32 - (n : Int) := by
  have : ∀ k : Fin 32, 0 < k.val → bits .and .u64 (IntKind.u64.wrap (-(k.val : Int))) 31 = 32 - (k.val : Int) := by decide +kernel
  exact this ⟨n, h1⟩ h0

theorem ss0_nw (x : W) : bits .xor .u32 (bits .xor .u32 (nw (rotr x 7)) (nw (rotr x 18))) (nw x / (8 : Int)) = nw (ss0 x) := by
  rw [show nw x / (8 : Int) = nw (x >>> (3 : Nat)) from shr_nw x 3, bits_xor, bits_xor]; rfl
theorem ss1_nw (x : W) : bits .xor .u32 (bits .xor .u32 (nw (rotr x 17)) (nw (rotr x 19))) (nw x / (1024 : Int)) = nw (ss1 x) := by
  rw [show nw x / (1024 : Int) = nw (x >>> (10 : Nat)) from shr_nw x 10, bits_xor, bits_xor]; rfl
theorem bs0_nw (x : W) : bits .xor .u32 (bits .xor .u32 (nw (rotr x 2)) (nw (rotr x 13))) (nw (rotr x 22)) = nw (bs0 x) := by
  rw [bits_xor, bits_xor]; rfl
theorem bs1_nw (x : W) : bits .xor .u32 (bits .xor .u32 (nw (rotr x 6)) (nw (rotr x 11))) (nw (rotr x 25)) = nw (bs1 x) := by
  rw [bits_xor, bits_xor]; rfl
theorem ch_nw (e f g : W) : bits .xor .u32 (bits .and .u32 (nw e) (nw f)) (bits .and .u32 (bits .xor .u32 4294967295 (nw e)) (nw g)) = nw (ch e f g) := by
  rw [bits_not, bits_and, bits_and, bits_xor]; rfl
theorem ch_nw' (e f g : W) : bits .or .u32 (bits .and .u32 (nw e) (nw f)) (bits .and .u32 (bits .xor .u32 4294967295 (nw e)) (nw g)) = nw (ch e f g) := by
  rw [bits_not, bits_and, bits_and, bits_or, ch_or]
theorem maj_nw (a b c : W) : bits .xor .u32 (bits .xor .u32 (bits .and .u32 (nw a) (nw b)) (bits .and .u32 (nw a) (nw c))) (bits .and .u32 (nw b) (nw c)) = nw (maj a b c) := by
  rw [bits_and, bits_and, bits_and, bits_xor, bits_xor]; rfl
theorem maj_nw' (a b c : W) : bits .or .u32 (bits .or .u32 (bits .and .u32 (nw a) (nw b)) (bits .and .u32 (nw a) (nw c))) (bits .and .u32 (nw b) (nw c)) = nw (maj a b c) := by
  rw [bits_and, bits_and, bits_and, bits_or, bits_or, maj_or]
theorem add4_nw (a b c d : W) : (nw a + nw b + nw c + nw d) % (4294967296 : Int) = nw (a + b + c + d) := by
  unfold nw; simp only [BitVec.toNat_add]; omega
theorem add5_nw (a b c d e : W) : (nw a + nw b + nw c + nw d + nw e) % (4294967296 : Int) = nw (a + b + c + d + e) := by
  unfold nw; simp only [BitVec.toNat_add]; omega

end Go.Proofs.YtanmopbhglokmaaDoor
