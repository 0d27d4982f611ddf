/-
  BitmapRuns: the walk.
-/
import Derived.Test.YtadbgidchojfkaaLm
set_option linter.all false
namespace Go.Proofs.Ytadbgidchojfkaa
open Go.RowKit Go.Sort

theorem run_grows {L : List B} {b r : Nat} (hr : r ≤ b) (hf : freeB L (b - r) r = true) (hb : bit L b = false) : freeB L (b + 1 - (r + 1)) (r + 1) = true := by
  rw [show b + 1 - (r + 1) = b - r by omega, freeB_succ, hf, show b - r + r = b by omega, hb]; rfl
theorem run_short {L : List B} {k n b r : Nat} (hno : ∀ g, ¬ IsFree L k n g) (hb : b ≤ k) (hr : r ≤ b) (hf : freeB L (b - r) r = true) : r < n := by
  rcases Nat.lt_or_ge r n with h | h
  · exact h
  · refine absurd ⟨by omega, freeB_iff.2 fun i hi => ?_⟩ (hno (b - n))
    have := freeB_iff.1 hf (r - n + i) (by omega)
    rwa [show b - r + (r - n + i) = b - n + i by omega] at this

set_option maxRecDepth 100000 in
set_option maxHeartbeats 2000000 in
theorem runs4_none (w : World) (L : List B) (lL : L.length = 16) (p q : Nat) (hp : p < 256) (hq : q < 256) (K N : Nat) (hKe : 1 + p % 128 = K) (hNe : 1 + q % 12 = N) (hf : fnd L K N = none) :
    Calls Try.prog 4 #[.agg (brow L), .int .u8 (p : Int), .int .u8 (q : Int)] w fun e w' => e = .returned (.bool true) ∧ Keeps (fun _ => False) w w' := by
  have hKi : 1 + (p : Int) % 128 = (K : Int) := by omega
  have hNi : 1 + (q : Int) % 12 = (N : Int) := by omega
  have hK1 : 1 ≤ K := by omega
  have hK2 : K ≤ 128 := by omega
  have hN1 : 1 ≤ N := by omega
  have hN2 : N ≤ 12 := by omega
  have Hno : Hid (∀ g, ¬ IsFree L K N g) := fnd_none hN1 hf
  have HR : Hid (runR L (K : Int) (N : Int) = (0, 14)) := runR_none hN1 hK1 hK2 hf
  clear hKe hNe hf
  go_enter Try.func4, Try.ntmps4
  go_wp2_with (first
    | (refine wpList_box23 rfl _ rfl L lL rfl ?_; intro g3 w1 b1 z1 k1)
    | (refine wpList_load23 rfl _ rfl g3 rfl L b1 ?_)
    | (go_at_call 9; refine (run9_at' HR.out _ lL (by omega)).mono ?_; rintro e w2 ⟨rfl, k2⟩; have bm2 := b1.keep k2; have K2 := k1.trans k2; clear b1 k1 k2))
  clear HR
  go_loopw [11, 12] (fun v t wr => ∃ b r : Nat, b ≤ K ∧ r ≤ b ∧ t = .int .i64 (b : Int) ∧ v = .int .i64 (r : Int) ∧ freeB L (b - r) r = true ∧ BmAt wr g3 L ∧ Keeps (fun _ => False) w wr) (fun _ t _ => K - (intOf t).toNat)
  case atStart => exact ⟨0, 0, by omega, by omega, rfl, rfl, rfl, bm2, K2⟩
  case round =>
    clear bm2 K2
    obtain ⟨b, r, hb, hr, rfl, rfl, hfr, bm, KW⟩ := hrel
    by_cases hlt : b < K
    · have hlt' : (b : Int) < (K : Int) := by omega
      have ib := has_nat (L := L) (show b < 128 by omega)
      cases hbit : bit L b with
      | true =>
        rw [hbit] at ib
        have hNn : ¬ (N : Int) ≤ 0 := by omega
        clear hfr
        go_wp2_with (first
          | (refine wpList_load23 rfl _ rfl g3 rfl L bm ?_)
          | (go_at_call 11; refine (has_at ib _ lL).mono ?_; rintro e w3 ⟨rfl, k3⟩; have bm3 := bm.keep k3; have K3 := KW.trans k3; clear bm KW k3))
        exact ⟨⟨b + 1, 0, by omega, by omega, rfl, rfl, rfl, bm3, K3⟩, by simp [intOf]; omega⟩
      | false =>
        rw [hbit] at ib
        have hg := run_grows hr hfr hbit
        have hsh := run_short Hno.out (show b + 1 ≤ K by omega) (show r + 1 ≤ b + 1 by omega) hg
        have hNn : ¬ (N : Int) ≤ (r : Int) + 1 := by omega
        have HG : Hid (freeB L (b + 1 - (r + 1)) (r + 1) = true) := hg
        clear hfr hg
        go_wp2_with (first
          | (refine wpList_load23 rfl _ rfl g3 rfl L bm ?_)
          | (go_at_call 11; refine (has_at ib _ lL).mono ?_; rintro e w3 ⟨rfl, k3⟩; have bm3 := bm.keep k3; have K3 := KW.trans k3; clear bm KW k3))
        exact ⟨⟨b + 1, r + 1, by omega, by omega, rfl, rfl, HG.out, bm3, K3⟩, by simp [intOf]; omega⟩
    · have hlt' : ¬ (b : Int) < (K : Int) := by omega
      clear hfr
      go_wp2_with (go_at_call 17; refine (wakes17 _).mono ?_; rintro e w4 ⟨rfl, k4⟩)
      go_ret
      exact ⟨rfl, KW.trans k4⟩

set_option maxRecDepth 100000 in
set_option maxHeartbeats 2000000 in
theorem runs4_some (w : World) (L : List B) (lL : L.length = 16) (p q : Nat) (hp : p < 256) (hq : q < 256) (K N : Nat) (hKe : 1 + p % 128 = K) (hNe : 1 + q % 12 = N) (a : Nat) (hf : fnd L K N = some a) :
    Calls Try.prog 4 #[.agg (brow L), .int .u8 (p : Int), .int .u8 (q : Int)] w fun e w' => e = .returned (.bool true) ∧ Keeps (fun _ => False) w w' := by
  have hKi : 1 + (p : Int) % 128 = (K : Int) := by omega
  have hNi : 1 + (q : Int) % 12 = (N : Int) := by omega
  have hK1 : 1 ≤ K := by omega
  have hK2 : K ≤ 128 := by omega
  have hN1 : 1 ≤ N := by omega
  have hN2 : N ≤ 12 := by omega
  have hfs := fnd_some hN1 hf
  have haK := hfs.1.1
  have Hfree : Hid (∀ i, i < N → bit L (a + i) = false) := freeB_iff.1 hfs.1.2
  have Hmin : Hid (∀ g, g < a → ¬ IsFree L K N g) := hfs.2
  have HR : Hid (runR L (K : Int) (N : Int) = ((a : Int), 0)) := runR_some hN1 hK1 hK2 hf
  have HW : Hid (wth L (a : Int) (N : Int) = (setn L a N, 0)) := wth_ok hN1 (by omega) hfs.1.2
  have HT : Hid (wth (setn L a N) (a : Int) 1 = (zb 16, 11)) := setn_taken lL (by omega) hN1
  have HO : Hid (orL L (setn L a N) = setn L a N) := or_setn lL (by omega)
  have hM : (setn L a N).length = 16 := by rw [setn_len, lL]
  have hcm := cnt_setn lL (by omega) hfs.1.2
  have hcl := cnt_le L 128
  obtain ⟨v, hv⟩ : ∃ v, cnt L 128 = v := ⟨_, rfl⟩
  rw [hv] at hcl hcm
  have HC1 : Hid ((cnt (setn L a N) (min (128 : Int).toNat 128) : Int) = (v : Int) + (N : Int)) := by show _ = _; rw [show min (128 : Int).toNat 128 = 128 from rfl, hcm]; omega
  have HC2 : Hid ((cnt L (min (128 : Int).toNat 128) : Int) = (v : Int)) := by show _ = _; rw [show min (128 : Int).toNat 128 = 128 from rfl, hv]
  generalize setn L a N = M at *
  have ha1 : ¬ (K : Int) < (a : Int) + (N : Int) := by omega
  have ha2 : ¬ (a : Int) < 0 := by omega
  clear hKe hNe hf hfs hcm hv
  go_enter Try.func4, Try.ntmps4
  go_wp2_with (first
    | (refine wpList_box23 rfl _ rfl L lL rfl ?_; intro g3 w1 b1 z1 k1)
    | (refine wpList_load23 rfl _ rfl g3 rfl L b1 ?_)
    | (go_at_call 9; refine (run9_at' HR.out _ lL (by omega)).mono ?_; rintro e w2 ⟨rfl, k2⟩; have bm2 := b1.keep k2; have K2 := k1.trans k2; clear b1 k1 k2))
  clear HR
  go_loopw [13] (fun t wr => ∃ b : Nat, a ≤ b ∧ b ≤ a + N ∧ t = .int .i64 (b : Int) ∧ BmAt wr g3 L ∧ Keeps (fun _ => False) w wr) (fun t _ => a + N - (intOf t).toNat)
  case atStart => exact ⟨a, by omega, by omega, rfl, bm2, K2⟩
  case round =>
    clear bm2 K2
    obtain ⟨b, hb1, hb2, rfl, bm, KW⟩ := hrel
    by_cases hlt : b < a + N
    · have hlt' : (b : Int) < (a : Int) + (N : Int) := by omega
      have ib := has_nat (L := L) (show b < 128 by omega)
      have hbit := Hfree.out (b - a) (by omega)
      rw [show a + (b - a) = b by omega] at hbit
      rw [hbit] at ib
      go_wp2_with (first
        | (refine wpList_load23 rfl _ rfl g3 rfl L bm ?_)
        | (go_at_call 11; refine (has_at ib _ lL).mono ?_; rintro e w3 ⟨rfl, k3⟩; have bm3 := bm.keep k3; have K3 := KW.trans k3; clear bm KW k3))
      exact ⟨⟨b + 1, by omega, by omega, rfl, bm3, K3⟩, by simp [intOf]; omega⟩
    · have hlt' : ¬ (b : Int) < (a : Int) + (N : Int) := by omega
      go_wp2
      clear hlt' hlt hb1 hb2
      go_loopw [14] (fun t wr => ∃ f : Nat, f ≤ a ∧ t = .int .i64 (f : Int) ∧ BmAt wr g3 L ∧ Keeps (fun _ => False) w wr) (fun t _ => a - (intOf t).toNat)
      case atStart => exact ⟨0, by omega, rfl, bm, KW⟩
      case round =>
        clear bm KW
        obtain ⟨f, hfa, rfl, bm, KW⟩ := hrel
        by_cases hlt : f < a
        · have hlt' : (f : Int) < (a : Int) := by omega
          have hnf : freeB L f N = false := by
            cases h : freeB L f N with
            | false => rfl
            | true => exact absurd ⟨by omega, h⟩ (Hmin.out f hlt)
          have Hnf : Hid (freeB L f N = false) := hnf
          clear hnf
          go_wp2
          go_loopw [15, 16] (fun u t wr => ∃ c : Nat, f ≤ c ∧ c ≤ f + N ∧ t = .int .i64 (c : Int) ∧ u = .bool (!freeB L f (c - f)) ∧ BmAt wr g3 L ∧ Keeps (fun _ => False) w wr) (fun _ t _ => f + N - (intOf t).toNat)
          case atStart => exact ⟨f, by omega, by omega, rfl, by rw [Nat.sub_self]; rfl, bm, KW⟩
          case round =>
            clear bm KW
            obtain ⟨c, hc1, hc2, rfl, rfl, bm, KW⟩ := hrel
            by_cases hlt2 : c < f + N
            · have hlt2' : (c : Int) < (f : Int) + (N : Int) := by omega
              have hs := freeB_succ L f (c - f)
              rw [show f + (c - f) = c by omega, show c - f + 1 = c + 1 - f by omega] at hs
              have ib := has_nat (L := L) (show c < 128 by omega)
              cases hfr : freeB L f (c - f) with
              | true =>
                rw [hfr] at hs
                have Hs : Hid ((!freeB L f (c + 1 - f)) = has L (c : Int)) := by show _ = _; rw [hs, ib]; cases bit L c <;> rfl
                obtain ⟨u, hu⟩ : ∃ u, has L (c : Int) = u := ⟨_, rfl⟩
                rw [hu] at Hs
                clear hs hfr ib
                go_wp2_with (first
                  | (refine wpList_load23 rfl _ rfl g3 rfl L bm ?_)
                  | (go_at_call 11; refine (has_at hu _ lL).mono ?_; rintro e w3 ⟨rfl, k3⟩; have bm3 := bm.keep k3; have K3 := KW.trans k3; clear bm KW k3))
                exact ⟨⟨c + 1, by omega, by omega, rfl, by rw [Hs.out], bm3, K3⟩, by simp [intOf]; omega⟩
              | false =>
                rw [hfr] at hs
                have Hs : Hid (freeB L f (c + 1 - f) = false) := by show _ = _; rw [hs]; rfl
                clear hs hfr ib
                go_wp2
                exact ⟨⟨c + 1, by omega, by omega, rfl, by rw [Hs.out]; rfl, bm, KW⟩, by simp [intOf]; omega⟩
            · obtain rfl : c = f + N := by omega
              have hlt2' : ¬ ((f + N : Nat) : Int) < (f : Int) + (N : Int) := by omega
              rw [show f + N - f = N by omega, Hnf.out]
              go_wp2
              exact ⟨⟨f + 1, by omega, rfl, bm, KW⟩, by simp [intOf]; omega⟩
        · have hlt' : ¬ (f : Int) < (a : Int) := by omega
          have heq := eq_at (decide_eq_true (rfl : M = M)) hM hM
          go_wp2_with (first
            | (refine wpList_load23 rfl _ rfl g3 rfl L bm ?_)
            | (refine wpList_load23 rfl _ rfl g17 rfl M b5 ?_)
            | (go_at_call 7; have := H5; refine (with_at HT.out _ hM (by omega) (by omega)).mono ?_; rintro e w6 ⟨rfl, k6⟩; have bm6 := bm5.keep k6; have b56 := b5.keep k6; have K6 := K5.trans k6; have H6 : Hid True := trivial)
            | (go_at_call 7; refine (with_at HW.out _ lL (by omega) (by omega)).mono ?_; rintro e w3 ⟨rfl, k3⟩; have bm3 := bm.keep k3; have K3 := KW.trans k3; clear bm KW)
            | (refine wpList_alloc23 rfl rfl ?_; have := H6; intro g19 w7 b7 z7 k7; have bm7 := bm6.keep k7; have b57 := b56.keep k7; have K7 := K6.trans k7; have h319 : g3 ≠ g19 := (by have := bm6.lt; omega); have h1719 : g17 ≠ g19 := (by have := b56.lt; omega))
            | (refine wpList_alloc23 rfl rfl ?_; intro g17 w4 b4 z4 k4; have bm4 := bm3.keep k4; have K4 := K3.trans k4; have h317 : g3 ≠ g17 := (by have := bm3.lt; omega))
            | (refine wpList_store23 rfl _ _ rfl g17 rfl M rfl hM _ b4 ?_; intro w5 b5 k5; have bm5 := bm4.keeps k5 h317; have K5 : Keeps (fun _ => False) w w5 := K4.trans' k5 (fun i e => .inr (by have := K3.size; omega)); have H5 : Hid True := trivial)
            | (refine wpList_store23 rfl _ _ rfl g19 rfl (zb 16) rfl (zb_len _) _ b7 ?_; intro w8 b8 k8; have bm8 := bm7.keeps k8 h319; have b58 := b57.keeps k8 h1719; have K8 : Keeps (fun _ => False) w w8 := K7.trans' k8 (fun i e => .inr (by have := K6.size; omega))))
          clear k3 bm3 K3 b4 z4 k4 bm4 K4 h317 b5 k5 bm5 K5 k6 bm6 b56 K6 b7 z7 k7 bm7 b57 K7 h319 h1719 b8 k8 HW HT Hfree Hmin
          refine wp_region_quiet_below (by kernel_rfl) (by kernel_rfl) ?_
          iterate 26 (first
            | (go_big_quiet_want; refine quiet_load23 _ rfl g3 rfl L (fun w' hp => bm8.cls hp) ?_; simp only [Act.put, List.setIfInBounds_toArray, List.set_cons_zero, List.set_cons_succ]; go_big_quiet_on)
            | (go_big_quiet_want; refine quiet_load23 _ rfl g17 rfl M (fun w' hp => b58.cls hp) ?_; simp only [Act.put, List.setIfInBounds_toArray, List.set_cons_zero, List.set_cons_succ]; go_big_quiet_on)
            | go_big_quiet_step (fail)
            | (have := Q3; go_big_quiet_want; go_big_quiet_op; apply Exists.intro; refine ⟨fun _ => wakes_cls ⟨_, rfl⟩, ?_⟩; go_big_quiet_on)
            | (have := Q2; go_big_quiet_want; go_big_quiet_op; apply Exists.intro; refine ⟨fun _ => call_cls (or_at HO.out _ lL hM) ⟨_, rfl⟩, ?_⟩; go_big_quiet_on; have Q3 : Hid True := trivial)
            | (have := Q1; go_big_quiet_want; go_big_quiet_op; apply Exists.intro; refine ⟨fun _ => call_cls (count_atI HC2.out _ lL (by omega)) ⟨_, rfl⟩, ?_⟩; go_big_quiet_on; have Q2 : Hid True := trivial)
            | (go_big_quiet_want; go_big_quiet_op; apply Exists.intro; refine ⟨fun _ => call_cls (count_atI HC1.out _ hM (by omega)) ⟨_, rfl⟩, ?_⟩; go_big_quiet_on; have Q1 : Hid True := trivial))
          refine wpQuiet_nil ?_
          intro w2' hw2
          go_wp2
          go_ret
          exact ⟨rfl, K8.trans (keeps_cls hw2)⟩

theorem runs4 (w : World) (L : List B) (lL : L.length = 16) (p q : Nat) (hp : p < 256) (hq : q < 256) :
    Calls Try.prog 4 #[.agg (brow L), .int .u8 (p : Int), .int .u8 (q : Int)] w fun e w' => e = .returned (.bool true) ∧ Keeps (fun _ => False) w w' := by
  cases hf : fnd L (1 + p % 128) (1 + q % 12) with
  | none => exact runs4_none w L lL p q hp hq _ _ rfl rfl hf
  | some a => exact runs4_some w L lL p q hp hq _ _ rfl rfl a hf

end Go.Proofs.Ytadbgidchojfkaa
