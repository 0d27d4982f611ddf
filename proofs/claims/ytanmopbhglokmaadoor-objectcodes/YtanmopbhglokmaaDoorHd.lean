/-
  head: the kind and the length that stand at the beginning.
-/
import Derived.Test.YtanmopbhglokmaaDoorKb
set_option linter.all false
namespace Go.Proofs.YtanmopbhglokmaaDoor
open Go.RowKit Go.Sort

theorem results_three {fn : Func} {p q r : Tmp} (h : fn.results = #[.tmp p, .tmp q, .tmp r]) (tmps : Array Value) (P : Program) (w : World) : (results fn tmps).run P w = .ok (.tuple #[tmps.getD p undef, tmps.getD q undef, tmps.getD r undef]) w := by
  simp [results, h]
theorem SlB.cell {w : World} {a : Option Addr} {n c : Nat} {L : List B} (h : SlB w a n c L) {b o : Nat} (ha : a = some ⟨b, o, none⟩) (j : Nat) (x : B) (hx : L[j]? = some x) : w.cell? ⟨b, o + j, none⟩ = some (.int .u8 (nb x)) := by
  obtain ⟨b', o', e, hc⟩ := h.at_ j x hx
  rw [ha] at e; cases e; exact hc

theorem three {L : List B} (h : 3 ≤ L.length) : ∃ x y z t, L = x :: y :: z :: t := by
  match L, h with
  | x :: y :: z :: t, _ => exact ⟨x, y, z, t, rfl⟩

theorem or_bytes (x y : B) : bits .or .i64 (nb x * 256) (nb y) = nb x * 256 + nb y := by
  have hx := nb_lt x
  have hy := nb_lt y
  have e1 : BitVec.ofInt 64 (nb x * 256) = (x.setWidth 64) <<< 8 := by
    apply BitVec.eq_of_toNat_eq
    rw [BitVec.toNat_ofInt, BitVec.toNat_shiftLeft, BitVec.toNat_setWidth, Nat.shiftLeft_eq]
    unfold nb at *
    have := x.isLt
    omega
  have e2 : BitVec.ofInt 64 (nb y) = y.setWidth 64 := by
    apply BitVec.eq_of_toNat_eq
    rw [BitVec.toNat_ofInt, BitVec.toNat_setWidth]
    unfold nb at *
    omega
  have e3 : ((x.setWidth 64) <<< 8 ||| y.setWidth 64 : BitVec 64).toNat = x.toNat * 256 + y.toNat := by
    rw [BitVec.toNat_or, BitVec.toNat_shiftLeft, BitVec.toNat_setWidth, BitVec.toNat_setWidth]
    have hx' := x.isLt
    have hy' := y.isLt
    rw [Nat.mod_eq_of_lt (by omega : x.toNat < 2 ^ 64), Nat.mod_eq_of_lt (by omega : y.toNat < 2 ^ 64), Nat.mod_eq_of_lt (by rw [Nat.shiftLeft_eq]; omega), ← Nat.shiftLeft_add_eq_or_of_lt (by omega), Nat.shiftLeft_eq]
  show IntKind.i64.wrap ((BitVec.ofInt 64 (nb x * 256) ||| BitVec.ofInt 64 (nb y)).toNat : Int) = _
  rw [e1, e2, e3]
  unfold nb at *
  rw [IntKind.wrap_i64]
  omega

set_option maxRecDepth 100000 in
set_option maxHeartbeats 1000000 in
theorem head22 (w : World) (a : Option Addr) (n c : Nat) (L : List B) (h : SlB w a (n * 128) (c * 128) L) (h0 : 0 < n) {b : Bool} (Hb : Hid (decide (1 ≤ kindOf L ∧ kindOf L ≤ 6 ∧ (n : Int) = nblk (lnOf L)) = b)) :
    Calls Tryd.prog 22 #[.slice a n c] w fun e w' => e = .returned (.tuple #[.int .i64 (kindOf L), .int .i64 (lnOf L : Int), .bool b]) ∧ Keeps (fun _ => False) w w' := by
  have hl := h.len
  obtain ⟨x, y, z, t, hL⟩ := three (L := L) (by omega)
  obtain ⟨g, o, rfl, _⟩ := h.bytes (n * 128) (by omega) (Nat.le_refl _)
  have cx := h.cell rfl 0 x (by rw [hL]; rfl)
  have cy := h.cell rfl 1 y (by rw [hL]; rfl)
  have cz := h.cell rfl 2 z (by rw [hL]; rfl)
  have hcy : ∀ d os, (grow (redrawn w d) os).cell? ⟨g, o + 1, none⟩ = some (.int .u8 (nb y)) := fun d os => cell_keeps (keeps_cls ⟨⟨d, os⟩, rfl⟩) cy (fun h => h)
  have hcz : ∀ d os, (grow (redrawn w d) os).cell? ⟨g, o + 2, none⟩ = some (.int .u8 (nb z)) := fun d os => cell_keeps (keeps_cls ⟨⟨d, os⟩, rfl⟩) cz (fun h => h)
  have bx := nb_lt x
  have by' := nb_lt y
  have bz := nb_lt z
  have hn0 : ¬ (n : Int) = 0 := by omega
  have hn1 : (0 : Int) < (n : Int) := by omega
  have ek : kindOf L = nb x := by rw [hL]; rfl
  have el : (lnOf L : Int) = nb y * 256 + nb z := by rw [hL]; unfold lnOf nb; simp; omega
  have ho := or_bytes y z
  rw [Nat.add_zero] at cx
  rw [ek, el] at Hb ⊢
  clear ek el hL hl
  obtain ⟨m, hm⟩ : ∃ m, nblk (nb y * 256 + nb z) = m := ⟨_, rfl⟩
  have Hm : Hid (nblk (nb y * 256 + nb z) = m) := hm
  rw [hm] at Hb
  clear hm
  by_cases hk : 1 ≤ nb x ∧ nb x ≤ 6
  · have HK : Hid (decide (1 ≤ nb x ∧ nb x ≤ 6) = true) := decide_eq_true hk
    by_cases hnm : (n : Int) = m
    · have hb : b = true := by rw [← Hb.out]; exact decide_eq_true ⟨hk.1, hk.2, hnm⟩
      subst hb hnm
      clear hk Hb
      go_enter Tryd.func22, Tryd.ntmps22
      go_wp2_with fail
      refine region_plan (S := fun w' => ∃ p : Regrown, w' = grow (redrawn w p.d) p.os) [] [0, 1, 2, 3, 4, 5, 6, 7, 8, 9, 10, 11, 12] (by kernel_rfl) (by kernel_rfl) (by kernel_rfl) (by kernel_rfl) (cls_keeps ((Keeps.refl _ _).drew)) ?_
      simp only [wpPlan, opsAt, pick]
      repeat (go_big_quiet_step (fail))
      refine wpQuiet_nil ?_
      refine NoPanic.normal ?_
      go_wp2_with (first
        | (go_at_call 18; refine (isKind_at HK _).mono ?_; rintro e w' ⟨rfl, rfl⟩)
        | (go_at_call 15; refine (nblk_at Hm _).mono ?_; rintro e w' ⟨rfl, rfl⟩))
      refine bodyPost_ret (results_three rfl _ _ _) rfl ?_
      exact ⟨rfl, (Keeps.refl _ _).drew⟩
    · have hb : b = false := by rw [← Hb.out]; exact decide_eq_false (fun h => hnm h.2.2)
      have hnb : ((n : Int) == m) = false := by simpa using hnm
      subst hb
      clear hk Hb
      go_enter Tryd.func22, Tryd.ntmps22
      go_wp2_with fail
      refine region_plan (S := fun w' => ∃ p : Regrown, w' = grow (redrawn w p.d) p.os) [] [0, 1, 2, 3, 4, 5, 6, 7, 8, 9, 10, 11, 12] (by kernel_rfl) (by kernel_rfl) (by kernel_rfl) (by kernel_rfl) (cls_keeps ((Keeps.refl _ _).drew)) ?_
      simp only [wpPlan, opsAt, pick]
      repeat (go_big_quiet_step (fail))
      refine wpQuiet_nil ?_
      refine NoPanic.normal ?_
      go_wp2_with (first
        | (go_at_call 18; refine (isKind_at HK _).mono ?_; rintro e w' ⟨rfl, rfl⟩)
        | (go_at_call 15; refine (nblk_at Hm _).mono ?_; rintro e w' ⟨rfl, rfl⟩))
      refine bodyPost_ret (results_three rfl _ _ _) rfl ?_
      exact ⟨rfl, (Keeps.refl _ _).drew⟩
  · have HK : Hid (decide (1 ≤ nb x ∧ nb x ≤ 6) = false) := decide_eq_false hk
    have hb : b = false := by rw [← Hb.out]; exact decide_eq_false (fun h => hk ⟨h.1, h.2.1⟩)
    subst hb
    clear hk Hb
    go_enter Tryd.func22, Tryd.ntmps22
    go_wp2_with fail
    refine region_plan (S := fun w' => ∃ p : Regrown, w' = grow (redrawn w p.d) p.os) [] [0, 1, 2, 3, 4, 5, 6, 7, 8, 9, 10, 11, 12] (by kernel_rfl) (by kernel_rfl) (by kernel_rfl) (by kernel_rfl) (cls_keeps ((Keeps.refl _ _).drew)) ?_
    simp only [wpPlan, opsAt, pick]
    repeat (go_big_quiet_step (fail))
    refine wpQuiet_nil ?_
    refine NoPanic.normal ?_
    go_wp2_with (first
      | (go_at_call 18; refine (isKind_at HK _).mono ?_; rintro e w' ⟨rfl, rfl⟩))
    refine bodyPost_ret (results_three rfl _ _ _) rfl ?_
    exact ⟨rfl, (Keeps.refl _ _).drew⟩

theorem head22_none (w : World) (a : Option Addr) (c : Nat) : Calls Tryd.prog 22 #[.slice a 0 c] w fun e w' => e = .returned (.tuple #[.int .i64 0, .int .i64 0, .bool false]) ∧ Keeps (fun _ => False) w w' := by
  go_enter Tryd.func22, Tryd.ntmps22
  go_wp2
  refine bodyPost_ret (results_three rfl _ _ _) rfl ?_
  exact ⟨rfl, Keeps.refl _ _⟩

end Go.Proofs.YtanmopbhglokmaaDoor
