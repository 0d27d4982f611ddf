/-
  Run of the reference; the runs, one behind the other.
-/
import Derived.Test.YtadbgidchojfkaaOc
set_option linter.all false
namespace Go.Proofs.Ytadbgidchojfkaa
open Go.RowKit Go.Sort Go.Shelf

theorem results_two {fn : Func} {p q : Tmp} (h : fn.results = #[.tmp p, .tmp q]) (tmps : Array Value) (P : Program) (w : World) : (results fn tmps).run P w = .ok (.tuple #[tmps.getD p undef, tmps.getD q undef]) w := by
  simp [results, h]
def toldR (r : Int × Int) : Value := .tuple #[.int .i64 r.1, .int .i64 r.2]
theorem runR_bad {L : List B} {k n : Int} (h : n < 1 ∨ k < 1 ∨ 128 < k) : runR L k n = (0, 1) := by unfold runR; rw [if_pos h]
theorem runR_some {L : List B} {k n f : Nat} (hn : 1 ≤ n) (hk : 1 ≤ k) (hk2 : k ≤ 128) (h : fnd L k n = some f) : runR L (k : Int) (n : Int) = ((f : Int), 0) := by
  unfold runR; rw [if_neg (by omega)]; simp [h]
theorem runR_none {L : List B} {k n : Nat} (hn : 1 ≤ n) (hk : 1 ≤ k) (hk2 : k ≤ 128) (h : fnd L k n = none) : runR L (k : Int) (n : Int) = (0, 14) := by
  unfold runR; rw [if_neg (by omega)]; simp [h]

theorem run10_bad (w : World) (L : List B) (hL : L.length = 16) (k n : Int) (h : n < 1 ∨ k < 1 ∨ 128 < k) :
    Calls Try.prog 10 #[.agg (brow L), .int .i64 k, .int .i64 n] w fun e w' => e = .returned (toldR (0, 1)) ∧ Keeps (fun _ => False) w w' := by
  go_enter Try.func10, Try.ntmps10
  have cs : n < 1 ∨ (1 ≤ n ∧ k < 1) ∨ (1 ≤ n ∧ 1 ≤ k ∧ 128 < k) := by omega
  clear h
  rcases cs with h1 | ⟨h1, h2⟩ | ⟨h1, h2, h3⟩
  all_goals
    go_wp2_with (first
      | (refine wpList_box23 rfl _ rfl L hL rfl ?_; intro g3 w1 b1 z1 k1))
    refine bodyPost_ret (results_two rfl _ _ _) rfl ?_
    exact ⟨rfl, k1⟩

theorem run10_in (w : World) (L : List B) (hL : L.length = 16) (k n : Nat) (hn : 1 ≤ n) (hn2 : (n : Int) ≤ 9223372036854775807) (hk : 1 ≤ k) (hk2 : k ≤ 128) :
    Calls Try.prog 10 #[.agg (brow L), .int .i64 (k : Int), .int .i64 (n : Int)] w fun e w' => e = .returned (toldR (runR L (k : Int) (n : Int))) ∧ Keeps (fun _ => False) w w' := by
  go_enter Try.func10, Try.ntmps10
  have hn1 : ¬ (n : Int) < 1 := by omega
  have hk1 : ¬ (k : Int) < 1 := by omega
  have hk3 : ¬ (128 : Int) < (k : Int) := by omega
  go_wp2_with (first
    | (refine wpList_box23 rfl _ rfl L hL rfl ?_; intro g3 w1 b1 z1 k1))
  go_loopw [8] (fun t wr => ∃ c : Nat, c ≤ 128 ∧ t = .int .i64 c ∧ BmAt wr g3 L ∧ Keeps (fun _ => False) w wr ∧ ∀ g, g < c → ¬ IsFree L k n g) (fun t _ => 129 - (intOf t).toNat)
  case atStart => exact ⟨0, by omega, rfl, b1, k1, fun g h => by omega⟩
  case round =>
    obtain ⟨c, hc, rfl, bm, K, hno⟩ := hrel
    by_cases hnk : n ≤ k
    · by_cases hlt : c + n ≤ k
      · have h1 : (n : Int) ≤ (k : Int) := by omega
        have h2 : (c : Int) + (n : Int) ≤ (k : Int) := by omega
        cases hf : freeB L c n with
        | true =>
          have hR : Hid (runR L (k : Int) (n : Int) = ((c : Int), 0)) := runR_some hn hk hk2 (fnd_of_some hn ⟨hlt, hf⟩ hno)
          have hT : told (wth L (c : Int) (n : Int)) = .tuple #[.agg (brow (setn L c n)), .int .i64 0] := by rw [wth_ok hn (by omega) hf]; rfl
          have hM : (setn L c n).length = 16 := by rw [setn_len, hL]
          generalize setn L c n = M at *
          clear hno hf
          go_wp2_with (first
            | (refine wpList_load23 rfl _ rfl g3 rfl L bm ?_)
            | (go_at_call 8; refine (with8 _ L hL _ _ (by omega) (by omega)).mono ?_; rintro e w3 ⟨rfl, k3⟩; rw [hT])
            | (refine wpList_alloc23 rfl rfl ?_; intro g9 w4 b4 z4 k4)
            | (refine wpList_store23 rfl _ _ rfl g9 rfl M rfl hM _ b4 ?_; intro w5 b5 k5))
          refine bodyPost_ret (results_two rfl _ _ _) rfl ?_
          have K4 := (K.trans k3).trans k4
          exact ⟨by rw [hR.out]; rfl, K4.trans' k5 (fun i e => .inr (by have := (K.trans k3).size; omega))⟩
        | false =>
          have hT : told (wth L (c : Int) (n : Int)) = .tuple #[.agg (brow (zb 16)), .int .i64 11] := by rw [wth_full hn (by omega) hf]; rfl
          have hno' : Hid (∀ g, g < c + 1 → ¬ IsFree L k n g) := fun g hg => by
            rcases Nat.lt_or_ge g c with h | h
            · exact hno g h
            · obtain rfl : g = c := by omega
              intro ⟨_, h⟩; rw [hf] at h; cases h
          clear hno hf
          go_wp2_with (first
            | (refine wpList_load23 rfl _ rfl g3 rfl L bm ?_)
            | (go_at_call 8; refine (with8 _ L hL _ _ (by omega) (by omega)).mono ?_; rintro e w3 ⟨rfl, k3⟩; rw [hT]; have bm3 := bm.keep k3)
            | (refine wpList_alloc23 rfl rfl ?_; intro g9 w4 b4 z4 k4; have bm4 := bm3.keep k4; have h39 : g3 ≠ g9 := (by have := bm3.lt; omega))
            | (refine wpList_store23 rfl _ _ rfl g9 rfl (zb 16) rfl (zb_len _) _ b4 ?_; intro w5 b5 k5))
          have K4 := (K.trans k3).trans k4
          exact ⟨⟨c + 1, by omega, rfl, bm4.keeps k5 h39, K4.trans' k5 (fun i e => .inr (by have := (K.trans k3).size; omega)), hno'.out⟩, by simp [intOf]; omega⟩
      · have h1 : (n : Int) ≤ (k : Int) := by omega
        have h2 : ¬ (c : Int) + (n : Int) ≤ (k : Int) := by omega
        have hR : Hid (runR L (k : Int) (n : Int) = (0, 14)) := runR_none hn hk hk2 (fnd_of_none hn fun g hg => hno g (by omega))
        clear hno
        go_wp2
        refine bodyPost_ret (results_two rfl _ _ _) rfl ?_
        exact ⟨by rw [hR.out]; rfl, K⟩
    · have h1 : ¬ (n : Int) ≤ (k : Int) := by omega
      have hR : Hid (runR L (k : Int) (n : Int) = (0, 14)) := runR_none hn hk hk2 (fnd_of_none hn fun g hg => by omega)
      clear hno
      go_wp2
      refine bodyPost_ret (results_two rfl _ _ _) rfl ?_
      exact ⟨by rw [hR.out]; rfl, K⟩

theorem run10 (w : World) (L : List B) (hL : L.length = 16) (k n : Int) (hn : -9223372036854775808 ≤ n ∧ n ≤ 9223372036854775807) :
    Calls Try.prog 10 #[.agg (brow L), .int .i64 k, .int .i64 n] w fun e w' => e = .returned (toldR (runR L k n)) ∧ Keeps (fun _ => False) w w' := by
  by_cases h : n < 1 ∨ k < 1 ∨ 128 < k
  · rw [runR_bad h]; exact run10_bad w L hL k n h
  · obtain ⟨k', rfl⟩ : ∃ k' : Nat, k = k' := ⟨k.toNat, by omega⟩
    obtain ⟨n', rfl⟩ : ∃ n' : Nat, n = n' := ⟨n.toNat, by omega⟩
    exact run10_in w L hL k' n' (by omega) (by omega) (by omega) (by omega)

end Go.Proofs.Ytadbgidchojfkaa
