
/-
  The reference's bytes of a code point.
-/
import Derived.Test.YtkcnnkakpkdhkaaDoorUk
set_option linter.all false
namespace Go.Proofs.YtkcnnkakpkdhkaaDoor
open Go.RowKit Go.Sort Go.Shelf
attribute [local go_sem] Oper.semAt_some

theorem and63n (x : Nat) (h : x < 9223372036854775808) : bits .and .i64 (x : Int) 63 = ((x % 64 : Nat) : Int) := by
  have h1 : (BitVec.ofInt 64 (x : Int)).toNat = x := by
    rw [BitVec.ofInt_natCast, BitVec.toNat_ofNat]; exact Nat.mod_eq_of_lt (by omega)
  have h2 : (BitVec.ofInt 64 (63 : Int)).toNat = 63 := by decide
  have h3 : (BitVec.ofInt 64 (x : Int) &&& BitVec.ofInt 64 (63 : Int)).toNat = x % 64 := by
    rw [BitVec.toNat_and, h1, h2]; exact Nat.and_two_pow_sub_one_eq_mod x 6
  show IntKind.i64.wrap ((BitVec.ofInt 64 (x : Int) &&& BitVec.ofInt 64 (63 : Int)).toNat : Int) = _
  rw [h3, IntKind.wrap_i64]
  omega
theorem and63 (x : Int) (h0 : 0 ≤ x) (h : x < 9223372036854775808) : bits .and .i64 x 63 = x % 64 := by
  obtain ⟨n, rfl⟩ : ∃ n : Nat, x = n := ⟨x.toNat, by omega⟩
  rw [and63n n (by omega)]
  omega

/-- What Bytes tells. -/
structure BTold (v : Int) (e : Ending) (w' : World) : Prop where
  out : (isS v ∧ ∃ g, e = .returned (.slice (some ⟨g, 0, none⟩) (Lib.encodeRune v).length (Lib.encodeRune v).length) ∧ SlU w' (some ⟨g, 0, none⟩) (Lib.encodeRune v).length (Lib.encodeRune v).length (Lib.encodeRune v)) ∨ (¬ isS v ∧ e = .returned (.slice none 0 0))
theorem BTold.row {v : Int} {w : World} (hS : isS v) {C : Array Value} (hC : C = (Lib.runeCells v).toArray) : BTold v (.returned (.slice (some ⟨w.heap.size, 0, none⟩) (Lib.encodeRune v).length (Lib.encodeRune v).length)) (w.alloc (.cells C 5)) :=
  ⟨.inl ⟨hS, _, rfl, SlU.row (by rw [Lib.byteCells_encodeRune, ← hC]; exact heap_alloc_new w _)⟩⟩

set_option maxRecDepth 100000 in
set_option maxHeartbeats 1000000 in
theorem rb_1 (w : World) (v : Int) (hv : 0 ≤ v ∧ v < 128) :
    Calls Tryd.prog 53 #[.int .i64 v] w fun e w' => BTold v e w' ∧ Keeps (fun _ => False) w w' := by
  have HS : Hid (isS v) := ⟨by omega, by omega, by omega⟩
  have HC : Hid (Lib.runeCells v = [.int .u8 (v)]) := by show _ = _; unfold Lib.runeCells; rw [Lib.encodeRuneZ_one (r := v) (by omega) (by omega)]; rfl
  have HN : Hid ((Lib.encodeRune v).length = 1) := by show _ = _; rw [← Lib.runeCells_length, HC.out]; rfl
  obtain ⟨v0, v1⟩ := hv
  have g0 : ¬ v < (0 : Int) := by omega
  have g1 : v ≤ (1114111 : Int) := by omega
  have g2 : ¬ (55296 : Int) ≤ v := by omega
  have g3 : v < (128 : Int) := by omega
  go_enter Tryd.func53, Tryd.ntmps53
  go_wp2_with fail
  go_ret
  refine ⟨?_, keeps_alloc w _⟩
  have := BTold.row (w := w) HS.out (C := _) (by rw [HC.out])
  rw [HN.out] at this
  exact this

set_option maxRecDepth 100000 in
set_option maxHeartbeats 1000000 in
theorem rb_2 (w : World) (v : Int) (hv : 128 ≤ v ∧ v < 2048) :
    Calls Tryd.prog 53 #[.int .i64 v] w fun e w' => BTold v e w' ∧ Keeps (fun _ => False) w w' := by
  have HS : Hid (isS v) := ⟨by omega, by omega, by omega⟩
  have HC : Hid (Lib.runeCells v = [.int .u8 (192 + v / 64), .int .u8 (128 + v % 64)]) := by show _ = _; unfold Lib.runeCells; rw [Lib.encodeRuneZ_two (r := v) (by omega) (by omega)]; rfl
  have HN : Hid ((Lib.encodeRune v).length = 2) := by show _ = _; rw [← Lib.runeCells_length, HC.out]; rfl
  obtain ⟨v0, v1⟩ := hv
  have g0 : ¬ v < (0 : Int) := by omega
  have g1 : v ≤ (1114111 : Int) := by omega
  have g2 : ¬ (55296 : Int) ≤ v := by omega
  have g3 : ¬ v < (128 : Int) := by omega
  have g4 : v < (2048 : Int) := by omega
  have n0 : bits .and .i64 (v) 63 = (v) % 64 := and63 _ (by omega) (by omega)
  go_enter Tryd.func53, Tryd.ntmps53
  go_wp2_with fail
  go_ret
  refine ⟨?_, keeps_alloc w _⟩
  have := BTold.row (w := w) HS.out (C := _) (by rw [HC.out])
  rw [HN.out] at this
  exact this

set_option maxRecDepth 100000 in
set_option maxHeartbeats 1000000 in
theorem rb_3 (w : World) (v : Int) (hv : 2048 ≤ v ∧ v < 55296) :
    Calls Tryd.prog 53 #[.int .i64 v] w fun e w' => BTold v e w' ∧ Keeps (fun _ => False) w w' := by
  have HS : Hid (isS v) := ⟨by omega, by omega, by omega⟩
  have HC : Hid (Lib.runeCells v = [.int .u8 (224 + v / 4096), .int .u8 (128 + v / 64 % 64), .int .u8 (128 + v % 64)]) := by show _ = _; unfold Lib.runeCells; rw [Lib.encodeRuneZ_three (r := v) (by omega)]; rfl
  have HN : Hid ((Lib.encodeRune v).length = 3) := by show _ = _; rw [← Lib.runeCells_length, HC.out]; rfl
  obtain ⟨v0, v1⟩ := hv
  have g0 : ¬ v < (0 : Int) := by omega
  have g1 : v ≤ (1114111 : Int) := by omega
  have g2 : ¬ (55296 : Int) ≤ v := by omega
  have g3 : ¬ v < (128 : Int) := by omega
  have g4 : ¬ v < (2048 : Int) := by omega
  have g5 : v < (65536 : Int) := by omega
  have n0 : bits .and .i64 (v) 63 = (v) % 64 := and63 _ (by omega) (by omega)
  have n1 : bits .and .i64 (v / 64) 63 = (v / 64) % 64 := and63 _ (by omega) (by omega)
  go_enter Tryd.func53, Tryd.ntmps53
  go_wp2_with fail
  go_ret
  refine ⟨?_, keeps_alloc w _⟩
  have := BTold.row (w := w) HS.out (C := _) (by rw [HC.out])
  rw [HN.out] at this
  exact this

set_option maxRecDepth 100000 in
set_option maxHeartbeats 1000000 in
theorem rb_5 (w : World) (v : Int) (hv : 57343 < v ∧ v ≤ 65535) :
    Calls Tryd.prog 53 #[.int .i64 v] w fun e w' => BTold v e w' ∧ Keeps (fun _ => False) w w' := by
  have HS : Hid (isS v) := ⟨by omega, by omega, by omega⟩
  have HC : Hid (Lib.runeCells v = [.int .u8 (224 + v / 4096), .int .u8 (128 + v / 64 % 64), .int .u8 (128 + v % 64)]) := by show _ = _; unfold Lib.runeCells; rw [Lib.encodeRuneZ_three (r := v) (by omega)]; rfl
  have HN : Hid ((Lib.encodeRune v).length = 3) := by show _ = _; rw [← Lib.runeCells_length, HC.out]; rfl
  obtain ⟨v0, v1⟩ := hv
  have g0 : ¬ v < (0 : Int) := by omega
  have g1 : v ≤ (1114111 : Int) := by omega
  have g2 : (55296 : Int) ≤ v := by omega
  have g3 : ¬ v ≤ (57343 : Int) := by omega
  have g4 : ¬ v < (128 : Int) := by omega
  have g5 : ¬ v < (2048 : Int) := by omega
  have g6 : v < (65536 : Int) := by omega
  have n0 : bits .and .i64 (v) 63 = (v) % 64 := and63 _ (by omega) (by omega)
  have n1 : bits .and .i64 (v / 64) 63 = (v / 64) % 64 := and63 _ (by omega) (by omega)
  go_enter Tryd.func53, Tryd.ntmps53
  go_wp2_with fail
  go_ret
  refine ⟨?_, keeps_alloc w _⟩
  have := BTold.row (w := w) HS.out (C := _) (by rw [HC.out])
  rw [HN.out] at this
  exact this

set_option maxRecDepth 100000 in
set_option maxHeartbeats 1000000 in
theorem rb_4 (w : World) (v : Int) (hv : 65536 ≤ v ∧ v ≤ 1114111) :
    Calls Tryd.prog 53 #[.int .i64 v] w fun e w' => BTold v e w' ∧ Keeps (fun _ => False) w w' := by
  have HS : Hid (isS v) := ⟨by omega, by omega, by omega⟩
  have HC : Hid (Lib.runeCells v = [.int .u8 (240 + v / 262144), .int .u8 (128 + v / 4096 % 64), .int .u8 (128 + v / 64 % 64), .int .u8 (128 + v % 64)]) := by show _ = _; unfold Lib.runeCells; rw [Lib.encodeRuneZ_four (r := v) (by omega) (by omega)]; rfl
  have HN : Hid ((Lib.encodeRune v).length = 4) := by show _ = _; rw [← Lib.runeCells_length, HC.out]; rfl
  obtain ⟨v0, v1⟩ := hv
  have g0 : ¬ v < (0 : Int) := by omega
  have g1 : v ≤ (1114111 : Int) := by omega
  have g2 : (55296 : Int) ≤ v := by omega
  have g3 : ¬ v ≤ (57343 : Int) := by omega
  have g4 : ¬ v < (128 : Int) := by omega
  have g5 : ¬ v < (2048 : Int) := by omega
  have g6 : ¬ v < (65536 : Int) := by omega
  have n0 : bits .and .i64 (v) 63 = (v) % 64 := and63 _ (by omega) (by omega)
  have n1 : bits .and .i64 (v / 64) 63 = (v / 64) % 64 := and63 _ (by omega) (by omega)
  have n2 : bits .and .i64 (v / 4096) 63 = (v / 4096) % 64 := and63 _ (by omega) (by omega)
  go_enter Tryd.func53, Tryd.ntmps53
  go_wp2_with fail
  go_ret
  refine ⟨?_, keeps_alloc w _⟩
  have := BTold.row (w := w) HS.out (C := _) (by rw [HC.out])
  rw [HN.out] at this
  exact this

set_option maxRecDepth 100000 in
set_option maxHeartbeats 1000000 in
theorem rb_x (w : World) (v : Int) (hv : v < 0) :
    Calls Tryd.prog 53 #[.int .i64 v] w fun e w' => BTold v e w' ∧ Keeps (fun _ => False) w w' := by
  have HS : Hid (¬ isS v) := fun h => by have := h.1; have := h.2.1; have := h.2.2; omega
  have g0 : v < (0 : Int) := by omega
  clear hv
  go_enter Tryd.func53, Tryd.ntmps53
  go_wp2_with fail
  go_ret
  exact ⟨⟨.inr ⟨HS.out, rfl⟩⟩, Keeps.refl _ _⟩

set_option maxRecDepth 100000 in
set_option maxHeartbeats 1000000 in
theorem rb_y (w : World) (v : Int) (hv : 1114111 < v) :
    Calls Tryd.prog 53 #[.int .i64 v] w fun e w' => BTold v e w' ∧ Keeps (fun _ => False) w w' := by
  have HS : Hid (¬ isS v) := fun h => by have := h.1; have := h.2.1; have := h.2.2; omega
  have g0 : ¬ v < (0 : Int) := by omega
  have g1 : (1114111 : Int) < v := by omega
  clear hv
  go_enter Tryd.func53, Tryd.ntmps53
  go_wp2_with fail
  go_ret
  exact ⟨⟨.inr ⟨HS.out, rfl⟩⟩, Keeps.refl _ _⟩

set_option maxRecDepth 100000 in
set_option maxHeartbeats 1000000 in
theorem rb_z (w : World) (v : Int) (hv : 55296 ≤ v ∧ v ≤ 57343) :
    Calls Tryd.prog 53 #[.int .i64 v] w fun e w' => BTold v e w' ∧ Keeps (fun _ => False) w w' := by
  have HS : Hid (¬ isS v) := fun h => by have := h.1; have := h.2.1; have := h.2.2; omega
  have g0 : ¬ v < (0 : Int) := by omega
  have g1 : ¬ (1114111 : Int) < v := by omega
  have g2 : (55296 : Int) ≤ v := by omega
  have g3 : v ≤ (57343 : Int) := by omega
  clear hv
  go_enter Tryd.func53, Tryd.ntmps53
  go_wp2_with fail
  go_ret
  exact ⟨⟨.inr ⟨HS.out, rfl⟩⟩, Keeps.refl _ _⟩

theorem rbytes18 (w : World) (v : Int) : Calls Tryd.prog 53 #[.int .i64 v] w fun e w' => BTold v e w' ∧ Keeps (fun _ => False) w w' := by
  have cs : v < 0 ∨ 1114111 < v ∨ (55296 ≤ v ∧ v ≤ 57343) ∨ (0 ≤ v ∧ v < 128) ∨ (128 ≤ v ∧ v < 2048) ∨ (2048 ≤ v ∧ v < 55296) ∨ (57343 < v ∧ v ≤ 65535) ∨ (65536 ≤ v ∧ v ≤ 1114111) := by omega
  rcases cs with h | h | h | h | h | h | h | h
  · exact rb_x w v h
  · exact rb_y w v h
  · exact rb_z w v h
  · exact rb_1 w v h
  · exact rb_2 w v h
  · exact rb_3 w v h
  · exact rb_5 w v h
  · exact rb_4 w v h

end Go.Proofs.YtkcnnkakpkdhkaaDoor
