
/-
  end: the last block, and the hash's bytes.
-/
import Derived.Test.YtanmopbhglokmaaDoorAc
set_option linter.all false
namespace Go.Proofs.YtanmopbhglokmaaDoor
open Go.RowKit

theorem add16 (w : World) (p : Nat) (a : Option Addr) (n c : Nat) (bs l : List B) (hH : Has w p bs) (hT : Tabs w) (hp : 1 < p) (hl : SlB w a n c l) (ha : 0 < n → ∀ b o, a = some ⟨b, o, none⟩ → b ≠ p)
    (hb : bs.length < 1000000) (hn : n < 1000000) :
    Calls Tryd.prog 28 #[.pointer (some ⟨p, 0, none⟩), .slice a n c] w fun e w' => e = .returned (.tuple #[]) ∧ Has w' p (bs ++ l) ∧ Keeps (· = p) w w' := by
  by_cases h0 : bs.length % 64 = 0
  · exact add_zero w p a n c bs l hH hT hp hl ha hb hn h0
  · by_cases h1 : bs.length % 64 + n < 64
    · exact add_part w p a n c bs l hH hl ha hb hn (by omega) h1
    · exact add_full w p a n c bs l hH hT hp hl ha hb hn (by omega) (by omega)

/-- How many bytes the bit and the zeros take, behind T bytes. -/
def plen (T : Nat) : Nat := 1 + (119 - T % 64) % 64
/-- What is added behind T bytes: a bit, zeros, the length in bits. -/
def padd (T : Nat) : List B := (128 :: List.replicate (plen T - 1) 0) ++ beN 8 (T * 8)
theorem padd_len (T : Nat) : (padd T).length = plen T + 8 := by simp [padd, beN_len, plen]; omega
theorem plen_le (T : Nat) : plen T ≤ 64 := by unfold plen; omega
theorem plen_pos (T : Nat) : 0 < plen T := by unfold plen; omega
theorem plen_mod (T : Nat) : (T + plen T + 8) % 64 = 0 := by unfold plen; omega
/-- The words' bytes. -/
def St.dig (s : St) : List B := s.toL.flatMap fun x => beN 4 x.toNat
/-- The SHA-256 of the bytes. -/
def sha (bs : List B) : List B := (hashN (bs ++ padd bs.length) ((bs.length + plen bs.length + 8) / 64)).dig
theorem dig_len (s : St) : s.dig.length = 32 := rfl
theorem sha_len (bs : List B) : (sha bs).length = 32 := rfl

theorem sha_abc : (sha [97, 98, 99]).map (·.toNat) = [0xba, 0x78, 0x16, 0xbf, 0x8f, 0x01, 0xcf, 0xea, 0x41, 0x41, 0x40, 0xde, 0x5d, 0xae, 0x22, 0x23, 0xb0, 0x03, 0x61, 0xa3, 0x96, 0x17, 0x7a, 0x9c, 0xb4, 0x10, 0xff, 0x61, 0xf2, 0x00, 0x15, 0xad] := by
  decide +kernel

end Go.Proofs.YtanmopbhglokmaaDoor
