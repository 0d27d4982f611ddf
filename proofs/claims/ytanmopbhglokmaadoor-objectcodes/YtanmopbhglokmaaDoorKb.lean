/-
  Blocks that are held against each other.
-/
import Derived.Test.YtanmopbhglokmaaDoorBk
import Derived.Test.YtanmopbhglokmaaDoorPq
set_option linter.all false
namespace Go.Proofs.YtanmopbhglokmaaDoor
open Go.RowKit Go.Sort

theorem eq40 (x y : List B) (hx : x.length = 128) (hy : y.length = 128) (w : World) : (Op.equalIn 10000 40 (.agg (brow x)) (.agg (brow y))).run Tryd.prog w = .ok (decide (x = y)) w :=
  run_equalIn_row 9998 40 128 Tryd.underlying40 x y hx hy w
theorem eq40_at {x y : List B} {b : Bool} (h : decide (x = y) = b) (hx : x.length = 128) (hy : y.length = 128) : ∀ w, (Op.equalIn 10000 40 (.agg (brow x)) (.agg (brow y))).run Tryd.prog w = .ok b w := fun w => by rw [← h]; exact eq40 x y hx hy w

/-- Block i of a slice of blocks. -/
theorem SlB.blk {w : World} {a : Option Addr} {n c : Nat} {L : List B} (h : SlB w a (n * 128) c L) (i : Nat) (hi : i < n) : ∃ b o, a = some ⟨b, o, none⟩ ∧ (blk L i).length = 128 ∧ (∀ w', Keeps (fun _ => False) w w' → w'.rangeAt b (o + i * 128) (brow (blk L i)).toList) := by
  have hl := h.len
  have hi' : (i + 1) * 128 ≤ n * 128 := Nat.mul_le_mul_right 128 hi
  obtain ⟨b, o, rfl, hby, _⟩ := h.bytes (n * 128) (by omega) (Nat.le_refl _)
  refine ⟨b, o, rfl, blk_len L n i hl hi, fun w' hk j v hv => ?_⟩
  have hj : j < 128 := by have := (List.getElem?_eq_some_iff.1 hv).1; rw [Array.length_toList, size_brow, blk_len L n i hl hi] at this; exact this
  have hv' : (brow (Go.Proofs.YtanmopbhglokmaaDoor.blk L i))[j]? = some v := by simpa using hv
  rw [brow_get, blk_get L i j hj] at hv'
  cases hq : L[i * 128 + j]? with
  | none => rw [hq] at hv'; cases hv'
  | some x =>
    rw [hq] at hv'
    have h1 := hby (i * 128 + j) x (by rw [List.getElem?_take, if_pos (by omega)]; exact hq)
    have h2 := cell_keeps hk h1 (fun h => h)
    rw [← Nat.add_assoc] at h2
    rw [h2]
    exact hv'

theorem size40_of {x : List B} (h : x.length = 128) : (Tryd.prog.info? 40).map (·.size) = some (brow x).size := by rw [size_brow, h]; exact size40

set_option maxRecDepth 100000 in
set_option maxHeartbeats 1000000 in
theorem blocks13 (w : World) (a1 a2 : Option Addr) (n1 c1 n2 c2 : Nat) (x y : List B) (h1 : SlB w a1 (n1 * 128) (c1 * 128) x) (h2 : SlB w a2 (n2 * 128) (c2 * 128) y) (hn : n1 < 1000000) :
    Calls Tryd.prog 13 #[.slice a1 n1 c1, .slice a2 n2 c2] w fun e w' => e = .returned (.bool (decide (x = y))) ∧ Keeps (fun _ => False) w w' := by
  have l1 := h1.len
  have l2 := h2.len
  by_cases hnn : n1 = n2
  · subst hnn
    have Hl1 : Hid (x.length = n1 * 128) := l1
    have Hl2 : Hid (y.length = n1 * 128) := l2
    clear l1 l2
    go_enter Tryd.func13, Tryd.ntmps13
    go_wp2
    go_loopw [5] (fun t wr => ∃ i : Nat, i ≤ n1 ∧ t = .int .i64 i ∧ Keeps (fun _ => False) w wr ∧ ∀ j, j < i → blk x j = blk y j) (fun t _ => n1 - (intOf t).toNat)
    case atStart => exact ⟨0, by omega, rfl, Keeps.refl _ _, fun j h => by omega⟩
    case round =>
      obtain ⟨i, hi, rfl, hk, hbl⟩ := hrel
      by_cases hlt : i < n1
      · have hlt' : (i : Int) < (n1 : Int) := by omega
        have hi0 : (0 : Int) ≤ (i : Int) := by omega
        obtain ⟨b1, o1, rfl, lb1, hr1⟩ := (h1.keeps hk (fun _ _ _ _ h => h)).blk i hlt
        obtain ⟨b2, o2, rfl, lb2, hr2⟩ := (h2.keeps hk (fun _ _ _ _ h => h)).blk i hlt
        have s1 := size40_of lb1
        have s2 := size40_of lb2
        have Hr1 : Hid (∀ w', (∃ p : Regrown, w' = grow (redrawn wr p.d) p.os) → w'.rangeAt b1 (o1 + i * 128) (brow (blk x i)).toList) := fun w' h => hr1 w' (keeps_cls h)
        have Hr2 : Hid (∀ w', (∃ p : Regrown, w' = grow (redrawn wr p.d) p.os) → w'.rangeAt b2 (o2 + i * 128) (brow (blk y i)).toList) := fun w' h => hr2 w' (keeps_cls h)
        have Hbl : Hid (∀ j, j < i → blk x j = blk y j) := hbl
        obtain ⟨bx, hbx⟩ : ∃ bx, blk x i = bx := ⟨_, rfl⟩
        obtain ⟨bY, hby⟩ : ∃ bY, blk y i = bY := ⟨_, rfl⟩
        have Hx : Hid (blk x i = bx) := hbx
        have Hy : Hid (blk y i = bY) := hby
        rw [hbx] at lb1 s1 Hr1
        rw [hby] at lb2 s2 Hr2
        clear hr1 hr2 hbl hbx hby
        by_cases he : bx = bY
        · have heq := eq40_at (decide_eq_true he) lb1 lb2
          have He : Hid (bx = bY) := he
          clear he
          go_wp2_with fail
          refine region_plan (S := fun w' => ∃ p : Regrown, w' = grow (redrawn wr p.d) p.os) [] [0, 1, 2, 3, 4, 5, 6, 7, 8] (by kernel_rfl) (by kernel_rfl) (by kernel_rfl) (by kernel_rfl) (cls_keeps ((Keeps.refl _ _).drew)) ?_
          simp only [wpPlan, opsAt, pick]
          repeat (first | (go_big_quiet_want; refine quiet_row_at _ _ rfl b1 (o1 + i * 128) rfl (brow bx) Hr1.out Tryd.underlying40 rfl s1 ?_; simp only [Act.put, List.setIfInBounds_toArray, List.set_cons_zero, List.set_cons_succ]; go_big_quiet_on) | (go_big_quiet_want; refine quiet_row_at _ _ rfl b2 (o2 + i * 128) rfl (brow bY) Hr2.out Tryd.underlying40 rfl s2 ?_; simp only [Act.put, List.setIfInBounds_toArray, List.set_cons_zero, List.set_cons_succ]; go_big_quiet_on) | go_big_quiet_step (fail))
          refine wpQuiet_nil ?_
          refine NoPanic.normal ?_
          go_wp2
          go_roundw
          case rel => exact ⟨i + 1, by omega, by go_num, hk.drew, fun j hj => by
            rcases Nat.lt_or_ge j i with h | h
            · exact Hbl.out j h
            · obtain rfl : j = i := by omega
              rw [Hx.out, Hy.out]; exact He.out⟩
          case measure => simp [intOf]; omega
        · have heq := eq40_at (decide_eq_false he) lb1 lb2
          have He : Hid (bx ≠ bY) := he
          clear he
          go_wp2_with fail
          refine region_plan (S := fun w' => ∃ p : Regrown, w' = grow (redrawn wr p.d) p.os) [] [0, 1, 2, 3, 4, 5, 6, 7, 8] (by kernel_rfl) (by kernel_rfl) (by kernel_rfl) (by kernel_rfl) (cls_keeps ((Keeps.refl _ _).drew)) ?_
          simp only [wpPlan, opsAt, pick]
          repeat (first | (go_big_quiet_want; refine quiet_row_at _ _ rfl b1 (o1 + i * 128) rfl (brow bx) Hr1.out Tryd.underlying40 rfl s1 ?_; simp only [Act.put, List.setIfInBounds_toArray, List.set_cons_zero, List.set_cons_succ]; go_big_quiet_on) | (go_big_quiet_want; refine quiet_row_at _ _ rfl b2 (o2 + i * 128) rfl (brow bY) Hr2.out Tryd.underlying40 rfl s2 ?_; simp only [Act.put, List.setIfInBounds_toArray, List.set_cons_zero, List.set_cons_succ]; go_big_quiet_on) | go_big_quiet_step (fail))
          refine wpQuiet_nil ?_
          refine NoPanic.normal ?_
          go_wp2
          go_ret
          refine ⟨?_, hk.drew⟩
          rw [decide_eq_false]
          · rfl
          · rintro rfl
            exact He.out (Hx.out.symm.trans Hy.out)
      · obtain rfl : i = n1 := by omega
        have hd : decide (x = y) = true := decide_eq_true (eq_of_blk Hl1.out Hl2.out hbl)
        have Hd : Hid (decide (x = y) = true) := hd
        clear hd hbl
        go_wp2
        go_ret
        exact ⟨by rw [Hd.out]; rfl, hk⟩
  · have hnn' : ¬ (n1 : Int) = (n2 : Int) := by omega
    have Hd : Hid (decide (x = y) = false) := decide_eq_false (by rintro rfl; omega)
    clear l1 l2 hnn
    rw [Hd.out]
    go_enter Tryd.func13, Tryd.ntmps13
    go_wp2
    go_ret
    exact ⟨rfl, Keeps.refl _ _⟩

end Go.Proofs.YtanmopbhglokmaaDoor
