/-
  IndexSizes: the walk.
-/
import Derived.Test.YthngaegfppbdmaaDoorXy
set_option linter.all false
namespace Go.Proofs.YthngaegfppbdmaaDoor
open Go.RowKit Go.Sort Go.Shelf
attribute [local go_sem] Oper.semAt_some

set_option maxRecDepth 100000 in
set_option maxHeartbeats 4000000 in
theorem sizesL (w : World) (hT : Tabs w) (n : Int) (hn : 0 ≤ n ∧ n < 65536) :
    Calls Tryd.prog 12 #[.int .u16 n] w fun e w' => e = .returned (.bool true) ∧ Keeps (fun _ => False) w w' := by
  obtain ⟨n1, n2⟩ := hn
  obtain ⟨k, hk⟩ : ∃ k : Nat, n % 2000 = (k : Int) := ⟨(n % 2000).toNat, by omega⟩
  have hk2 : k < 2000 := by omega
  have S1 : Hid (sz (-1) = 0) := by show _ = _; decide +kernel
  have S2 : Hid (sz 1 = 2) := by show _ = _; decide +kernel
  obtain ⟨s, hs⟩ : ∃ s : Nat, sz (k : Int) = (s : Int) := ⟨(sz (k : Int)).toNat, by have := sz_nn k; omega⟩
  have HS : Hid (sz (k : Int) = (s : Int)) := hs
  by_cases h0 : k = 0
  · subst h0
    have : s = 0 := by rw [sz_zero] at hs; omega
    subst this
    clear hs
    go_enter Tryd.func12, Tryd.ntmps12
    go_wp2_with (first
      | (go_at_call 37; have := k2; refine (size_of S2 _ (by omega) (by omega)).mono ?_; rintro e w3 ⟨rfl, k3⟩)
      | (go_at_call 37; have := k1; refine (size_of S1 _ (by omega) (by omega)).mono ?_; rintro e w2 ⟨rfl, k2⟩)
      | (go_at_call 37; refine (size_of HS _ (by omega) (by omega)).mono ?_; rintro e w1 ⟨rfl, k1⟩)
      | (go_at_call 29; refine (wakes29 _ (hT.keeps (k1.trans (k2.trans k3)) (fun h => h) (fun h => h))).mono ?_; rintro e w4 ⟨rfl, k4⟩))
    go_ret
    exact ⟨rfl, (k1.trans (k2.trans k3)).trans k4⟩
  · have hs' : s = (k + 2) / 3 + 1 := by rw [sz_nat k (by omega)] at hs; omega
    obtain ⟨s1, hs1⟩ : ∃ s1 : Nat, sz ((k : Int) + 1) = (s1 : Int) := ⟨(sz ((k : Int) + 1)).toNat, by have := sz_nn (k + 1); rw [show (((k + 1 : Nat)) : Int) = (k : Int) + 1 by omega] at this; omega⟩
    have hs1' : s1 = (k + 3) / 3 + 1 := by have := sz_nat (k + 1) (by omega); rw [show (((k + 1 : Nat)) : Int) = (k : Int) + 1 by omega, hs1] at this; omega
    have H1 : Hid (sz ((k : Int) + 1) = (s1 : Int)) := hs1
    have H3 : Hid (sz ((k : Int) + 3) = (s : Int) + 1) := by
      show _ = _
      have := sz_nat (k + 3) (by omega)
      rw [show (((k + 3 : Nat)) : Int) = (k : Int) + 3 by omega] at this
      rw [this]; omega
    have g1 : (2 : Int) ≤ (s : Int) := by omega
    have g2 : (k : Int) ≤ ((s : Int) - 1) * 3 := by omega
    have g3 : ((s : Int) - 2) * 3 < (k : Int) := by omega
    have g4 : (s : Int) ≤ (s1 : Int) := by omega
    have hb : s ≤ 1000 := by omega
    have hk0 : ¬ (k : Int) = 0 := by omega
    clear hs hs1 hs' hs1' h0
    go_enter Tryd.func12, Tryd.ntmps12
    go_wp2_with (first
      | (go_at_call 37; have := k2; refine (size_of H3 _ (by omega) (by omega)).mono ?_; rintro e w3 ⟨rfl, k3⟩)
      | (go_at_call 37; have := k1; refine (size_of H1 _ (by omega) (by omega)).mono ?_; rintro e w2 ⟨rfl, k2⟩)
      | (go_at_call 37; refine (size_of HS _ (by omega) (by omega)).mono ?_; rintro e w1 ⟨rfl, k1⟩)
      | (go_at_call 29; refine (wakes29 _ (hT.keeps (k1.trans (k2.trans k3)) (fun h => h) (fun h => h))).mono ?_; rintro e w4 ⟨rfl, k4⟩))
    go_ret
    exact ⟨rfl, (k1.trans (k2.trans k3)).trans k4⟩

end Go.Proofs.YthngaegfppbdmaaDoor
