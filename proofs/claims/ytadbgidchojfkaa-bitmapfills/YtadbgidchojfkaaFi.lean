/-
  BitmapFills: the walk.
-/
import Derived.Test.YtadbgidchojfkaaLm
set_option linter.all false
namespace Go.Proofs.Ytadbgidchojfkaa
open Go.RowKit Go.Sort

set_option maxRecDepth 100000 in
set_option maxHeartbeats 2000000 in
theorem fills6 (w : World) (L0 : List B) (l0 : L0.length = 16) (p : Nat) (hp : p < 256) :
    Calls Try.prog 6 #[.agg (brow L0), .int .u8 (p : Int)] w fun e w' => e = .returned (.bool true) ∧ Keeps (fun _ => False) w w' := by
  obtain ⟨K, hK⟩ : ∃ K : Nat, 1 + p % 9 = K := ⟨_, rfl⟩
  have hKi : 1 + (p : Int) % 9 = (K : Int) := by omega
  have hK1 : 1 ≤ K := by omega
  have hK9 : K ≤ 9 := by omega
  clear hK
  go_enter Try.func6, Try.ntmps6
  go_wp2_with (first
    | (refine wpList_box23 rfl _ rfl L0 l0 rfl ?_; intro g2 w1 b1 z1 k1))
  go_loopw [6, 7] (fun v t wr => ∃ (L : List B) (i : Nat) (last : Int), t = .int .i64 (i : Int) ∧ v = .int .i64 last ∧ BmAt wr g2 L ∧ Keeps (fun _ => False) w wr ∧ (i : Int) ≤ last + 1 ∧ last ≤ 127 ∧ ∀ f, IsFree L 128 K f → last < (f : Int)) (fun _ t _ => 130 - (intOf t).toNat)
  case atStart => exact ⟨L0, 0, -1, rfl, rfl, b1, k1, by omega, by omega, fun f _ => by omega⟩
  case round =>
    clear b1 k1
    obtain ⟨L, i, last, rfl, rfl, bm, KW, hi, hl, hno⟩ := hrel
    have lL := bm.len
    have hi' : (i : Int) < 130 := by omega
    cases hf : fnd L 128 K with
    | none =>
      have HR : Hid (runR L 128 (K : Int) = (0, 14)) := runR_none (k := 128) hK1 (by omega) (by omega) hf
      clear hno hf
      go_wp2_with (first
        | (refine wpList_load23 rfl _ rfl g2 rfl L bm ?_)
        | (go_at_call 9; refine (run9_at' HR.out _ lL (by omega)).mono ?_; rintro e w3 ⟨rfl, k3⟩)
        | (go_at_call 17; refine (wakes17 _).mono ?_; rintro e w4 ⟨rfl, k4⟩))
      go_ret
      exact ⟨rfl, (KW.trans k3).trans k4⟩
    | some f =>
      have hfs := fnd_some hK1 hf
      have hlt := hno f hfs.1
      have hfb := hfs.1.1
      have hfk : (f : Int) + (K : Int) ≤ 128 := by omega
      have HR : Hid (runR L 128 (K : Int) = ((f : Int), 0)) := runR_some (k := 128) hK1 (by omega) (by omega) hf
      have HW : Hid (wth L (f : Int) (K : Int) = (setn L f K, 0)) := wth_ok hK1 (by omega) hfs.1.2
      have hM : (setn L f K).length = 16 := by rw [setn_len, lL]
      have hcm := cnt_setn lL (by omega) hfs.1.2
      have hcl := cnt_le L 128
      obtain ⟨v, hv⟩ : ∃ v, cnt L 128 = v := ⟨_, rfl⟩
      rw [hv] at hcl hcm
      have HC1 : Hid ((cnt (setn L f K) (min (128 : Int).toNat 128) : Int) = (v : Int) + (K : Int)) := by show _ = _; rw [show min (128 : Int).toNat 128 = 128 from rfl, hcm]; omega
      have HC2 : Hid ((cnt L (min (128 : Int).toNat 128) : Int) = (v : Int)) := by show _ = _; rw [show min (128 : Int).toNat 128 = 128 from rfl, hv]
      have HN : Hid (∀ g, IsFree (setn L f K) 128 K g → (f : Int) < (g : Int)) := fun g hg => by
        have := free_less lL (by omega) hK1 hfs.2 hg
        omega
      generalize setn L f K = M at *
      clear hno hf hfs hcm hv
      go_wp2_with (first
        | (refine wpList_load23 rfl _ rfl g2 rfl L (by assumption) ?_)
        | (go_at_call 9; refine (run9_at' HR.out _ lL (by omega)).mono ?_; rintro e w3 ⟨rfl, k3⟩; have bm3 := bm.keep k3; have K3 := KW.trans k3; clear bm)
        | (go_at_call 7; refine (with_at HW.out _ lL (by omega) (by omega)).mono ?_; rintro e w4 ⟨rfl, k4⟩; have bm4 := bm3.keep k4; have K4 := K3.trans k4; clear bm3)
        | (refine wpList_alloc23 rfl rfl ?_; intro g10 w5 b5 z5 k5; have bm5 := bm4.keep k5; have K5 := K4.trans k5; have h210 : g2 ≠ g10 := (by have := bm4.lt; omega); clear bm4)
        | (refine wpList_store23 rfl _ _ rfl g10 rfl M rfl hM _ b5 ?_; intro w6 b6 k6; have bm6 := bm5.keeps k6 h210; have K6 : Keeps (fun _ => False) w w6 := K5.trans' k6 (fun i e => .inr (by have := K4.size; omega)); clear bm5))
      clear k3 K3 k4 K4 b5 z5 k5 K5 k6 HR HW KW
      have hd1 : ¬ (f : Int) ≤ last := by omega
      have hd2 : ¬ (128 : Int) < (f : Int) + (K : Int) := by omega
      refine wp_region_quiet_below (by kernel_rfl) (by kernel_rfl) ?_
      iterate 22 (first
        | (go_big_quiet_want; refine quiet_load23 _ rfl g2 rfl L (fun w' hp => bm6.cls hp) ?_; simp only [Act.put, List.setIfInBounds_toArray, List.set_cons_zero, List.set_cons_succ]; go_big_quiet_on)
        | (go_big_quiet_want; refine quiet_load23 _ rfl g10 rfl M (fun w' hp => b6.cls hp) ?_; simp only [Act.put, List.setIfInBounds_toArray, List.set_cons_zero, List.set_cons_succ]; go_big_quiet_on)
        | go_big_quiet_step (fail)
        | (have := Q1; go_big_quiet_want; go_big_quiet_op; apply Exists.intro; refine ⟨fun _ => call_cls (count_atI HC2.out _ lL (by omega)) ⟨_, rfl⟩, ?_⟩; go_big_quiet_on)
        | (go_big_quiet_want; go_big_quiet_op; apply Exists.intro; refine ⟨fun _ => call_cls (count_atI HC1.out _ hM (by omega)) ⟨_, rfl⟩, ?_⟩; go_big_quiet_on; have Q1 : Hid True := trivial))
      refine wpQuiet_nil ?_
      intro w7 hw7
      have c6 := b6.cls hw7
      have d6 := bm6.cls hw7
      have K7 := K6.trans (keeps_cls hw7)
      clear b6 bm6 hw7 K6
      go_wp2_with (first
        | (refine wpList_load23 rfl _ rfl g10 rfl M c6 ?_)
        | (refine wpList_store23 rfl _ _ rfl g2 rfl M rfl hM _ d6 ?_; intro w8 b8 k8))
      exact ⟨⟨M, i + 1, f, rfl, rfl, b8, K7.trans' k8 (fun i e => .inr (by omega)), by omega, by omega, HN.out⟩, by simp [intOf]; omega⟩

end Go.Proofs.Ytadbgidchojfkaa
