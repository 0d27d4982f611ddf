/-
  SuperPlays: the law.
-/
import Derived.Test.YtdgnjpdjohibeaaDoorPf
set_option linter.all false
set_option maxRecDepth 100000
namespace Go.Proofs.YtdgnjpdjohibeaaDoor
open Go.RowKit Go.Sort Go.Shelf

set_option maxHeartbeats 2000000 in
theorem plays_unfair (w : World) (hT : Tabs w) (n : Int) (a : Option Addr) (N c : Nat) (xs : List Stp) (hX : StsAt w a N xs) (hN : N ≤ 9223372036854775807) (hf : fair7 xs = false) :
    Calls Tryd.prog 4 #[.int .i64 n, .slice a N c] w fun e w' => e = .returned (.bool true) ∧ Keeps (fun _ => False) w w' := by
  have HF : Hid (∀ w1, Keeps (fun _ => False) w w1 → Calls Tryd.prog 17 #[.slice a N c] w1 fun e w' => e = .returned (.bool false) ∧ Keeps (fun _ => False) w1 w') := fun w1 k => by
    have := fair17 w1 a N c xs (hX.keeps k) hN
    rw [hf] at this
    exact this
  clear hf
  have T0 : Hid True := trivial
  go_enter Tryd.func4, Tryd.ntmps4
  go_wp2_with (first
    | (have tt := T0; go_at_call 17; refine (HF.out _ (Keeps.refl _ _)).mono ?_; rintro e w1 ⟨rfl, k1⟩; clear T0 tt; have T1 : Hid True := trivial)
    | (have tt := T1; go_at_call 16; refine (wakes16 _ (hT.keeps k1 (fun h => h) (fun h => h))).mono ?_; rintro e w2 ⟨rfl, k2⟩; clear T1 tt))
  go_ret
  exact ⟨rfl, k1.trans k2⟩

theorem playsL (w : World) (hT : Tabs w) (n : Int) (a : Option Addr) (N c : Nat) (xs : List Stp) (hX : StsAt w a N xs) (hN : N ≤ 9223372036854775807) :
    Calls Tryd.prog 4 #[.int .i64 n, .slice a N c] w fun e w' => e = .returned (.bool true) ∧ Keeps (fun _ => False) w w' := by
  cases hf : fair7 xs with
  | false => exact plays_unfair w hT n a N c xs hX hN hf
  | true =>
    by_cases hn : 16 ≤ n ∧ n ≤ 128
    · obtain ⟨m, rfl⟩ := Int.eq_ofNat_of_zero_le (show 0 ≤ n by omega)
      exact plays_disk w hT m (by omega) a N c xs hX hN hf
    · exact plays_none w hT n (by omega) a N c xs hX hN hf
end Go.Proofs.YtdgnjpdjohibeaaDoor
