/-
  BitmapOrs: the walk.
-/
import Derived.Test.YtadbgidchojfkaaLm
set_option linter.all false
namespace Go.Proofs.Ytadbgidchojfkaa
open Go.RowKit Go.Sort

/-- The three bitmaps. -/
structure OsIn (g2 g3 g5 : Nat) (w wr : World) (x y z : List B) : Prop where
  x : BmAt wr g2 x
  y : BmAt wr g3 y
  z : BmAt wr g5 z
  keeps : Keeps (fun _ => False) w wr
theorem OsIn.keep {g2 g3 g5 : Nat} {w wr w' : World} {x y z : List B} (h : OsIn g2 g3 g5 w wr x y z) (k : Keeps (fun _ => False) wr w') : OsIn g2 g3 g5 w w' x y z := ⟨h.x.keep k, h.y.keep k, h.z.keep k, h.keeps.trans k⟩

set_option maxRecDepth 100000 in
set_option maxHeartbeats 2000000 in
theorem ors5 (w : World) (x y : List B) (lx : x.length = 16) (ly : y.length = 16) :
    Calls Try.prog 5 #[.agg (brow x), .agg (brow y)] w fun e w' => e = .returned (.bool true) ∧ Keeps (fun _ => False) w w' := by
  obtain ⟨z, hz⟩ : ∃ z, orL x y = z := ⟨_, rfl⟩
  have lz : z.length = 16 := by rw [← hz]; exact orL_len lx ly
  have Hz : Hid (orL x y = z) := hz
  have Hc : Hid (orL y x = z) := by show _ = _; rw [← hz]; exact or_comm' lx ly
  have Hs : Hid (orL x x = x) := or_self' lx
  have Ht : Hid (orL z y = z) := by show _ = _; rw [← hz]; exact or_twice lx ly
  have Hb : Hid (∀ k, k < 128 → bit z k = (bit x k || bit y k)) := fun k hk => by rw [← hz]; exact bit_orL lx ly hk
  clear hz
  go_enter Try.func5, Try.ntmps5
  go_wp2_with (first
    | (refine wpList_box23 rfl (.tmp 0) rfl x lx rfl ?_; intro g2 w1 b1 z1 k1)
    | (refine wpList_box23 rfl (.tmp 1) rfl y ly rfl ?_; intro g3 w2 b2 z2 k2; have B12 := b1.keep k2; have K2 := k1.trans k2)
    | (refine wpList_load23 rfl _ rfl g2 rfl x B12 ?_)
    | (refine wpList_load23 rfl _ rfl g3 rfl y b2 ?_)
    | (go_at_call 13; refine (or_at Hz.out _ lx ly).mono ?_; rintro e w3 ⟨rfl, k3⟩; have B13 := B12.keep k3; have B23 := b2.keep k3; have K3 := K2.trans k3)
    | (refine wpList_alloc23 rfl rfl ?_; intro g5 w4 b4 z4 k4; have B14 := B13.keep k4; have B24 := B23.keep k4; have K4 := K3.trans k4; have h25 : g2 ≠ g5 := (by have := B13.lt; omega); have h35 : g3 ≠ g5 := (by have := B23.lt; omega))
    | (refine wpList_store23 rfl _ _ rfl g5 rfl z rfl lz _ b4 ?_; intro w5 b5 k5; have hO : OsIn g2 g3 g5 w w5 x y z := ⟨B14.keeps k5 h25, B24.keeps k5 h35, b5, K4.trans' k5 (fun i e => .inr (by have := K3.size; omega))⟩))
  clear k1 z1 b1 k2 z2 b2 B12 K2 k3 B13 B23 K3 b4 z4 k4 B14 B24 K4 h25 h35 b5 k5
  go_loopw [6, 7] (fun v t wr => ∃ k : Nat, k ≤ 128 ∧ t = .int .i64 (k : Int) ∧ v = .int .i64 (cnt z k : Int) ∧ OsIn g2 g3 g5 w wr x y z) (fun _ t _ => 128 - (intOf t).toNat)
  case atStart => exact ⟨0, by omega, rfl, rfl, hO⟩
  case round =>
    clear hO
    obtain ⟨k, hk, rfl, rfl, hO⟩ := hrel
    have hcb := cnt_le z k
    by_cases hlt : k < 128
    · have hlt' : (k : Int) < 128 := by omega
      have hb := Hb.out k hlt
      have hnx : cnt z (k + 1) = cnt z k + (bit z k).toNat := rfl
      have hcn : (cnt z (min ((k : Int) + 1).toNat 128) : Int) = (cnt z (k + 1) : Int) := by rw [show min ((k : Int) + 1).toNat 128 = k + 1 by omega]
      have ix := has_nat (L := x) hlt
      have iy := has_nat (L := y) hlt
      have iz := has_nat (L := z) hlt
      rw [hb] at iz hnx
      clear hb
      cases hx : bit x k with
      | true =>
        rw [hx] at ix iz hnx
        rw [Bool.true_or] at iz hnx
        rw [hnx] at hcn
        have HN : Hid (cnt z (k + 1) = cnt z k + 1) := hnx
        have HC : Hid ((cnt z (min ((k : Int) + 1).toNat 128) : Int) = (cnt z k : Int) + 1) := hcn
        clear hnx hcn
        generalize cnt z k = v at *
        go_wp2_with fail
        refine wp_region_quiet_below (by kernel_rfl) (by kernel_rfl) ?_
        iterate 12 (first
          | go_big_quiet_skip
          | (go_big_quiet_want; refine quiet_load23 _ rfl g2 rfl x (fun w' hp => hO.x.cls hp) ?_; simp only [Act.put, List.setIfInBounds_toArray, List.set_cons_zero, List.set_cons_succ]; go_big_quiet_on)
          | (go_big_quiet_want; refine quiet_load23 _ rfl g5 rfl z (fun w' hp => hO.z.cls hp) ?_; simp only [Act.put, List.setIfInBounds_toArray, List.set_cons_zero, List.set_cons_succ]; go_big_quiet_on)
          | go_big_quiet_step (fail)
          | (have := Q1; go_big_quiet_want; go_big_quiet_op; apply Exists.intro; refine ⟨fun _ => call_cls (has_at ix _ lx) ⟨_, rfl⟩, ?_⟩; go_big_quiet_on)
          | (go_big_quiet_want; go_big_quiet_op; apply Exists.intro; refine ⟨fun _ => call_cls (has_at iz _ lz) ⟨_, rfl⟩, ?_⟩; go_big_quiet_on; have Q1 : Hid True := trivial))
        refine wpQuiet_nil ?_
        intro w2 hw2
        have hO2 := hO.keep (keeps_cls hw2)
        clear hO hw2
        go_wp2_with (first
          | (refine wpList_load23 rfl _ rfl g5 rfl z (OsIn.z (by assumption)) ?_)
          | (go_at_call 11; refine (has_at iz _ lz).mono ?_; rintro e w3 ⟨rfl, k3⟩; have hO3 := hO2.keep k3; clear hO2)
          | (go_at_call 15; refine (count_atI HC.out _ lz (by omega)).mono ?_; rintro e w4 ⟨rfl, k4⟩; have hO4 := hO3.keep k4; clear hO3))
        exact ⟨⟨k + 1, by omega, rfl, by rw [HN.out]; rfl, hO4⟩, by simp [intOf]; omega⟩
      | false =>
        rw [hx] at ix iz hnx
        rw [Bool.false_or] at iz hnx
        cases hy : bit y k with
        | true =>
          rw [hy] at iy iz hnx
          rw [hnx] at hcn
          have HN : Hid (cnt z (k + 1) = cnt z k + 1) := hnx
          have HC : Hid ((cnt z (min ((k : Int) + 1).toNat 128) : Int) = (cnt z k : Int) + 1) := hcn
          clear hnx hcn
          generalize cnt z k = v at *
          go_wp2_with fail
          refine wp_region_quiet_below (by kernel_rfl) (by kernel_rfl) ?_
          iterate 12 (first
            | (go_big_quiet_want; refine quiet_load23 _ rfl g2 rfl x (fun w' hp => hO.x.cls hp) ?_; simp only [Act.put, List.setIfInBounds_toArray, List.set_cons_zero, List.set_cons_succ]; go_big_quiet_on)
            | (go_big_quiet_want; refine quiet_load23 _ rfl g3 rfl y (fun w' hp => hO.y.cls hp) ?_; simp only [Act.put, List.setIfInBounds_toArray, List.set_cons_zero, List.set_cons_succ]; go_big_quiet_on)
            | (go_big_quiet_want; refine quiet_load23 _ rfl g5 rfl z (fun w' hp => hO.z.cls hp) ?_; simp only [Act.put, List.setIfInBounds_toArray, List.set_cons_zero, List.set_cons_succ]; go_big_quiet_on)
            | go_big_quiet_step (fail)
            | (have := Q2; go_big_quiet_want; go_big_quiet_op; apply Exists.intro; refine ⟨fun _ => call_cls (has_at iy _ ly) ⟨_, rfl⟩, ?_⟩; go_big_quiet_on)
            | (have := Q1; go_big_quiet_want; go_big_quiet_op; apply Exists.intro; refine ⟨fun _ => call_cls (has_at ix _ lx) ⟨_, rfl⟩, ?_⟩; go_big_quiet_on; have Q2 : Hid True := trivial)
            | (go_big_quiet_want; go_big_quiet_op; apply Exists.intro; refine ⟨fun _ => call_cls (has_at iz _ lz) ⟨_, rfl⟩, ?_⟩; go_big_quiet_on; have Q1 : Hid True := trivial))
          refine wpQuiet_nil ?_
          intro w2 hw2
          have hO2 := hO.keep (keeps_cls hw2)
          clear hO hw2
          go_wp2_with (first
            | (refine wpList_load23 rfl _ rfl g5 rfl z (OsIn.z (by assumption)) ?_)
            | (go_at_call 11; refine (has_at iz _ lz).mono ?_; rintro e w3 ⟨rfl, k3⟩; have hO3 := hO2.keep k3; clear hO2)
            | (go_at_call 15; refine (count_atI HC.out _ lz (by omega)).mono ?_; rintro e w4 ⟨rfl, k4⟩; have hO4 := hO3.keep k4; clear hO3))
          exact ⟨⟨k + 1, by omega, rfl, by rw [HN.out]; rfl, hO4⟩, by simp [intOf]; omega⟩
        | false =>
          rw [hy] at iy iz hnx
          rw [hnx] at hcn
          have HN : Hid (cnt z (k + 1) = cnt z k) := hnx
          have HC : Hid ((cnt z (min ((k : Int) + 1).toNat 128) : Int) = (cnt z k : Int)) := hcn
          clear hnx hcn
          generalize cnt z k = v at *
          go_wp2_with fail
          refine wp_region_quiet_below (by kernel_rfl) (by kernel_rfl) ?_
          iterate 12 (first
            | (go_big_quiet_want; refine quiet_load23 _ rfl g2 rfl x (fun w' hp => hO.x.cls hp) ?_; simp only [Act.put, List.setIfInBounds_toArray, List.set_cons_zero, List.set_cons_succ]; go_big_quiet_on)
            | (go_big_quiet_want; refine quiet_load23 _ rfl g3 rfl y (fun w' hp => hO.y.cls hp) ?_; simp only [Act.put, List.setIfInBounds_toArray, List.set_cons_zero, List.set_cons_succ]; go_big_quiet_on)
            | (go_big_quiet_want; refine quiet_load23 _ rfl g5 rfl z (fun w' hp => hO.z.cls hp) ?_; simp only [Act.put, List.setIfInBounds_toArray, List.set_cons_zero, List.set_cons_succ]; go_big_quiet_on)
            | go_big_quiet_step (fail)
            | (have := Q2; go_big_quiet_want; go_big_quiet_op; apply Exists.intro; refine ⟨fun _ => call_cls (has_at iy _ ly) ⟨_, rfl⟩, ?_⟩; go_big_quiet_on)
            | (have := Q1; go_big_quiet_want; go_big_quiet_op; apply Exists.intro; refine ⟨fun _ => call_cls (has_at ix _ lx) ⟨_, rfl⟩, ?_⟩; go_big_quiet_on; have Q2 : Hid True := trivial)
            | (go_big_quiet_want; go_big_quiet_op; apply Exists.intro; refine ⟨fun _ => call_cls (has_at iz _ lz) ⟨_, rfl⟩, ?_⟩; go_big_quiet_on; have Q1 : Hid True := trivial))
          refine wpQuiet_nil ?_
          intro w2 hw2
          have hO2 := hO.keep (keeps_cls hw2)
          clear hO hw2
          go_wp2_with (first
            | (refine wpList_load23 rfl _ rfl g5 rfl z (OsIn.z (by assumption)) ?_)
            | (go_at_call 11; refine (has_at iz _ lz).mono ?_; rintro e w3 ⟨rfl, k3⟩; have hO3 := hO2.keep k3; clear hO2)
            | (go_at_call 15; refine (count_atI HC.out _ lz (by omega)).mono ?_; rintro e w4 ⟨rfl, k4⟩; have hO4 := hO3.keep k4; clear hO3))
          exact ⟨⟨k + 1, by omega, rfl, by rw [HN.out], hO4⟩, by simp [intOf]; omega⟩
    · obtain rfl : k = 128 := by omega
      have hlt' : ¬ ((128 : Nat) : Int) < 128 := by omega
      obtain ⟨v, hv⟩ : ∃ v, cnt z 128 = v := ⟨_, rfl⟩
      have HC : Hid ((cnt z (min (1000 : Int).toNat 128) : Int) = (v : Int)) := by show _ = _; rw [← hv]; rfl
      rw [hv]
      have hm1 : Hid (has z (-1) = true) := by show _ = _; unfold has; rw [decide_eq_true (by omega)]; rfl
      have heq := eq_at (decide_eq_true (rfl : z = z)) lz lz
      have heq2 := eq_at (decide_eq_true (rfl : x = x)) lx lx
      clear hv hcb Hb Hz
      go_wp2_with fail
      refine wp_region_quiet_below (by kernel_rfl) (by kernel_rfl) ?_
      iterate 33 (first
        | (go_big_quiet_want; refine quiet_load23 _ rfl g2 rfl x (fun w' hp => hO.x.cls hp) ?_; simp only [Act.put, List.setIfInBounds_toArray, List.set_cons_zero, List.set_cons_succ]; go_big_quiet_on)
        | (go_big_quiet_want; refine quiet_load23 _ rfl g3 rfl y (fun w' hp => hO.y.cls hp) ?_; simp only [Act.put, List.setIfInBounds_toArray, List.set_cons_zero, List.set_cons_succ]; go_big_quiet_on)
        | (go_big_quiet_want; refine quiet_load23 _ rfl g5 rfl z (fun w' hp => hO.z.cls hp) ?_; simp only [Act.put, List.setIfInBounds_toArray, List.set_cons_zero, List.set_cons_succ]; go_big_quiet_on)
        | go_big_quiet_step (fail)
        | (have := Q5; go_big_quiet_want; go_big_quiet_op; apply Exists.intro; refine ⟨fun _ => wakes_cls ⟨_, rfl⟩, ?_⟩; go_big_quiet_on)
        | (have := Q4; go_big_quiet_want; go_big_quiet_op; apply Exists.intro; refine ⟨fun _ => call_cls (has_at hm1.out _ lz) ⟨_, rfl⟩, ?_⟩; go_big_quiet_on; have Q5 : Hid True := trivial)
        | (have := Q3; go_big_quiet_want; go_big_quiet_op; apply Exists.intro; refine ⟨fun _ => call_cls (count_atI HC.out _ lz (by omega)) ⟨_, rfl⟩, ?_⟩; go_big_quiet_on; have Q4 : Hid True := trivial)
        | (have := Q2; go_big_quiet_want; go_big_quiet_op; apply Exists.intro; refine ⟨fun _ => call_cls (or_at Ht.out _ lz ly) ⟨_, rfl⟩, ?_⟩; go_big_quiet_on; have Q3 : Hid True := trivial)
        | (have := Q1; go_big_quiet_want; go_big_quiet_op; apply Exists.intro; refine ⟨fun _ => call_cls (or_at Hs.out _ lx lx) ⟨_, rfl⟩, ?_⟩; go_big_quiet_on; have Q2 : Hid True := trivial)
        | (go_big_quiet_want; go_big_quiet_op; apply Exists.intro; refine ⟨fun _ => call_cls (or_at Hc.out _ ly lx) ⟨_, rfl⟩, ?_⟩; go_big_quiet_on; have Q1 : Hid True := trivial))
      refine wpQuiet_nil ?_
      intro w2' hw2
      go_wp2
      go_ret
      exact ⟨rfl, hO.keeps.trans (keeps_cls hw2)⟩

end Go.Proofs.Ytadbgidchojfkaa
