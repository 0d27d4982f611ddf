/-
  What each law of the layer asks of fixed texts; the law that tells how wide any sign and any text are.
-/
import Derived.Test.YtcfimggnmcnkhaaDoorMb
set_option linter.all false
namespace Go.Proofs.YtcfimggnmcnkhaaDoor
open Go.RowKit Go.Sort Go.Shelf
attribute [local go_sem] Oper.semAt_some

set_option maxRecDepth 100000 in
theorem fx_m : wids (sg (⟨#[109, 97, 105, 108]⟩ : ByteArray).data.toList) = 21 := by decide
set_option maxRecDepth 100000 in
theorem fx_x : wids (sg (⟨#[255]⟩ : ByteArray).data.toList) = 0 := by decide
theorem text_m (w : World) (hT : Lib.Utf8Tabs 0 1 w) : Calls Tryd.prog 9 #[.string ⟨#[109, 97, 105, 108]⟩] w fun e w' => e = .returned (.int .i64 21) ∧ Keeps (fun _ => False) w w' :=
  text_at fx_m w hT (by show 4 ≤ 100000; omega)
theorem text_x (w : World) (hT : Lib.Utf8Tabs 0 1 w) : Calls Tryd.prog 9 #[.string ⟨#[255]⟩] w fun e w' => e = .returned (.int .i64 0) ∧ Keeps (fun _ => False) w w' :=
  text_at fx_x w hT (by show 1 ≤ 100000; omega)
theorem sign_at {v x : Int} (h : wid v = x) (w : World) : Calls Tryd.prog 7 #[.int .i64 v] w fun e w' => e = .returned (.int .i64 x) ∧ w' = w := by rw [← h]; exact sign7 w v

set_option maxRecDepth 100000 in
set_option maxHeartbeats 400000 in
theorem wakes6 (w : World) (hT : Lib.Utf8Tabs 0 1 w) : Calls Tryd.prog 6 #[] w fun e w' => e = .returned (.bool true) ∧ Keeps (fun _ => False) w w' := by
  have h1 := fun W => sign_at (v := 32) (x := 10) (by decide) W
  have h2 := fun W => sign_at (v := 65) (x := 7) (by decide) W
  have h3 := fun W => sign_at (v := 120) (x := 6) (by decide) W
  have h4 := fun W => sign_at (v := 45) (x := 4) (by decide) W
  have hm := text_m w hT
  go_enter Tryd.func6, Tryd.ntmps6
  go_wp2_with (first
    | (go_at_call 9; have := Q5; refine (text_x _ (Tabs.keep hT k1)).mono ?_; rintro e w6 ⟨rfl, k6⟩)
    | (go_at_call 9; refine hm.mono ?_; rintro e w1 ⟨rfl, k1⟩; have Q1 : Hid True := trivial)
    | (go_at_call 7; have := Q4; refine (h4 _).mono ?_; rintro e w' ⟨rfl, rfl⟩; have Q5 : Hid True := trivial)
    | (go_at_call 7; have := Q3; refine (h3 _).mono ?_; rintro e w' ⟨rfl, rfl⟩; have Q4 : Hid True := trivial)
    | (go_at_call 7; have := Q2; refine (h2 _).mono ?_; rintro e w' ⟨rfl, rfl⟩; have Q3 : Hid True := trivial)
    | (go_at_call 7; have := Q1; refine (h1 _).mono ?_; rintro e w' ⟨rfl, rfl⟩; have Q2 : Hid True := trivial))
  go_ret
  exact ⟨rfl, k1.trans k6⟩

set_option maxRecDepth 100000 in
set_option maxHeartbeats 1000000 in
theorem tellsL (w : World) (hT : Lib.Utf8Tabs 0 1 w) (v : Int) (s : ByteArray) :
    Calls Tryd.prog 3 #[.int .i64 v, .string s] w fun e w' => e = .returned (.bool true) ∧ Keeps (fun _ => False) w w' := by
  by_cases hs : s.size ≤ 2000
  · have hs' : ¬ (2000 : Int) < (s.size : Int) := by omega
    obtain ⟨N, hN⟩ : ∃ N, wid v = N := ⟨_, rfl⟩
    obtain ⟨X, hX⟩ : ∃ X, wids (sg s.data.toList) = X := ⟨_, rfl⟩
    have q1 := fun W => sign_at hN W
    have q2 := fun W => rsign8 W v
    rw [hN] at q2
    have q3 := text_at hX w hT (by omega)
    have q4 := fun W => rtext10 W s (by omega)
    rw [hX] at q4
    clear hN hX hs
    go_enter Tryd.func3, Tryd.ntmps3
    go_wp2_with (first
      | (go_at_call 7; refine (q1 _).mono ?_; rintro e w' ⟨rfl, rfl⟩)
      | (go_at_call 8; refine (q2 _).mono ?_; rintro e w' ⟨rfl, rfl⟩)
      | (go_at_call 9; refine q3.mono ?_; rintro e w1 ⟨rfl, k1⟩)
      | (go_at_call 10; refine (q4 _).mono ?_; rintro e w2 ⟨rfl, k2⟩; have K2 := k1.trans k2)
      | (go_at_call 6; refine (wakes6 _ (Tabs.keep hT K2)).mono ?_; rintro e w3 ⟨rfl, k3⟩))
    go_ret
    exact ⟨rfl, K2.trans k3⟩
  · have hs' : (2000 : Int) < (s.size : Int) := by omega
    go_enter Tryd.func3, Tryd.ntmps3
    go_wp2_with (go_at_call 6; refine (wakes6 _ hT).mono ?_; rintro e w3 ⟨rfl, k3⟩)
    go_ret
    exact ⟨rfl, k3⟩

end Go.Proofs.YtcfimggnmcnkhaaDoor
