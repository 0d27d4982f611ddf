/-
  Two texts one behind the other; a text and its signs.
-/
import Derived.Test.YtcfimggnmcnkhaaDoorMc
set_option linter.all false
namespace Go.Proofs.YtcfimggnmcnkhaaDoor
open Go.RowKit Go.Sort Go.Shelf
attribute [local go_sem] Oper.semAt_some

set_option maxRecDepth 100000 in
set_option maxHeartbeats 400000 in
theorem sums_long (w : World) (hT : Lib.Utf8Tabs 0 1 w) (s u : ByteArray) (v : Int) (h : 1000 < s.size ∨ 1000 < u.size) :
    Calls Tryd.prog 4 #[.string s, .string u, .int .i64 v] w fun e w' => e = .returned (.bool true) ∧ Keeps (fun _ => False) w w' := by
  have hw := wakes6 w hT
  by_cases c : 1000 < s.size
  · have hc : (1000 : Int) < (s.size : Int) := by omega
    clear h
    go_enter Tryd.func4, Tryd.ntmps4
    go_wp2_with (go_at_call 6; refine hw.mono ?_; rintro e w3 ⟨rfl, k3⟩)
    go_ret
    exact ⟨rfl, k3⟩
  · have hc : ¬ (1000 : Int) < (s.size : Int) := by omega
    have hd : (1000 : Int) < (u.size : Int) := by omega
    clear h
    go_enter Tryd.func4, Tryd.ntmps4
    go_wp2_with (go_at_call 6; refine hw.mono ?_; rintro e w3 ⟨rfl, k3⟩)
    go_ret
    exact ⟨rfl, k3⟩

set_option maxRecDepth 100000 in
set_option maxHeartbeats 4000000 in
theorem sums_short (w : World) (hT : Lib.Utf8Tabs 0 1 w) (s u : ByteArray) (v : Int) (hs : s.size ≤ 1000) (hu : u.size ≤ 1000) :
    Calls Tryd.prog 4 #[.string s, .string u, .int .i64 v] w fun e w' => e = .returned (.bool true) ∧ Keeps (fun _ => False) w w' := by
  have hc : ¬ (1000 : Int) < (s.size : Int) := by omega
  have hd : ¬ (1000 : Int) < (u.size : Int) := by omega
  obtain ⟨N, hN⟩ : ∃ N, wid v = N := ⟨_, rfl⟩
  have hor := wid_or v
  rw [hN] at hor
  have q1 := fun W => sign_at hN W
  obtain ⟨l, hl⟩ : ∃ l, sg s.data.toList = l := ⟨_, rfl⟩
  have q2 := signs_own hl w hT (by omega)
  obtain ⟨X, hX⟩ : ∃ X, wids l = X := ⟨_, rfl⟩
  have hX9 : wids (sg s.data.toList) = X := by rw [hl]; exact hX
  obtain ⟨Y, hY⟩ : ∃ Y, wids (sg u.data.toList) = Y := ⟨_, rfl⟩
  obtain ⟨Vs, hVs⟩ : ∃ V, vd s.data.toList = V := ⟨_, rfl⟩
  obtain ⟨Vu, hVu⟩ : ∃ V, vd u.data.toList = V := ⟨_, rfl⟩
  have q3 := fun W hT => text_at hX9 W hT (by omega)
  have q4 := fun W hT => text_at hY W hT (by omega)
  have q5 := fun W hT => valid_at hVs W hT (by omega)
  have q6 := fun W hT => valid_at hVu W hT (by omega)
  have hsum : Vs = true → Vu = true → wids (sg (s ++ u).data.toList) = X + Y := fun a b => by
    rw [app_data, sg_app2 (hVs.trans a) (hVu.trans b), wids_app, hX9, hY]
  have q7 := fun W hT a b => text_at (hsum a b) W hT (by rw [app_sz]; omega)
  have q8 := fun W v => sign7 W v
  have HL : Hid (l.length ≤ 1000) := by show _ ≤ _; rw [← hl]; have := sg_len s.data.toList; rw [sz_len] at this; omega
  have HX : Hid (wids l = X) := hX
  have hXb : 0 ≤ X ∧ X ≤ 100000 := by have := wids_le l; have := HL.out; rw [← hX]; omega
  have hYb : 0 ≤ Y ∧ Y ≤ 100000 := by have := wids_le (sg u.data.toList); have := sg_len u.data.toList; rw [sz_len] at this; rw [← hY]; omega
  obtain ⟨hX0, hX1⟩ := hXb
  obtain ⟨hY0, hY1⟩ := hYb
  have HT : Hid (Lib.Utf8Tabs 0 1 w) := hT
  clear hN hl hX hX9 hY hVs hVu hsum hs hu hT
  rcases hor with rfl | rfl | rfl | rfl | rfl | rfl
  all_goals
    go_enter Tryd.func4, Tryd.ntmps4
    go_wp2_with (first
      | (go_at_call 7; refine (q1 _).mono ?_; rintro e w' ⟨rfl, rfl⟩)
      | (go_at_call 11; refine q2.mono ?_; rintro e w1 ⟨⟨a, c, rfl, h1, _⟩, k1⟩; obtain ⟨n, hn⟩ : ∃ n, l.length = n := ⟨_, rfl⟩; rw [hn] at h1 HL ⊢))
    have HLn : Hid (l.length = n) := hn
    clear hn
    go_loopw [9, 10] (fun x t wr => ∃ i : Nat, i ≤ n ∧ t = .int .i64 (i : Int) ∧ x = .int .i64 (wids (l.take i)) ∧ wr = w1) (fun _ t _ => n - (intOf t).toNat)
    case atStart => exact ⟨0, by omega, rfl, rfl, rfl⟩
    case round =>
      obtain ⟨i, hi, rfl, rfl, rfl⟩ := hrel
      obtain ⟨S, hS⟩ : ∃ S, wids (l.take i) = S := ⟨_, rfl⟩
      have HS : Hid (wids (l.take i) = S) := hS
      rw [hS]
      have hS0 : 0 ≤ S ∧ S ≤ 1000000 := by
        have := wids_le (l.take i)
        have : (l.take i).length ≤ i := by simp; omega
        have := HL.out
        omega
      obtain ⟨hS0, hS1⟩ := hS0
      clear hS
      have hn9 : n ≤ 1000 := HL.out
      by_cases hlt : i < n
      · have hlt' : (i : Int) < (n : Int) := by omega
        have hi0 : (0 : Int) ≤ (i : Int) := by omega
        obtain ⟨b, o, rfl, _, hE⟩ := h1.ent (by omega)
        have hce := hE _ (Keeps.refl _ _) i hlt
        obtain ⟨y, hy⟩ : ∃ y, l.getD i 0 = y := ⟨_, rfl⟩
        rw [hy] at hce
        obtain ⟨M, hM⟩ : ∃ M, wid y = M := ⟨_, rfl⟩
        have HW : Hid (wids (l.take (i + 1)) = S + M) := by show _ = _; rw [wids_take (by rw [HLn.out]; exact hlt), hy, HS.out, hM]
        have hM0 : 0 ≤ M ∧ M ≤ 10 := by have := wid_or y; omega
        obtain ⟨hM0, hM1⟩ := hM0
        have hq := fun W => sign_at hM W
        clear hy hE hM q1 q8
        go_wp2_with (go_at_call 7; refine (hq _).mono ?_; rintro e w2 ⟨rfl, rfl⟩)
        refine ⟨⟨i + 1, by omega, rfl, ?_, by trivial⟩, by simp [intOf]; omega⟩
        rw [HW.out]
      · obtain rfl : i = n := by omega
        have hlt' : ¬ (i : Int) < (i : Int) := by omega
        obtain rfl : S = X := by rw [← HS.out, ← HX.out, List.take_of_length_le (by rw [HLn.out]; omega)]
        clear hlt hi q1 q8
        cases Vs with
        | false =>
          go_wp2_with (first
            | (go_at_call 9; refine (q3 _ (Tabs.keep HT.out k1)).mono ?_; rintro e w2 ⟨rfl, k2⟩; have K2 := k1.trans k2)
            | (go_at_call 12; refine (q5 _ (Tabs.keep HT.out K2)).mono ?_; rintro e w3 ⟨rfl, k3⟩; have K3 := K2.trans k3)
            | (go_at_call 6; refine (wakes6 _ (Tabs.keep HT.out K3)).mono ?_; rintro e w4 ⟨rfl, k4⟩))
          go_ret
          exact ⟨rfl, K3.trans k4⟩
        | true =>
          cases Vu with
          | false =>
            go_wp2_with (first
              | (go_at_call 9; refine (q3 _ (Tabs.keep HT.out k1)).mono ?_; rintro e w2 ⟨rfl, k2⟩; have K2 := k1.trans k2)
              | (go_at_call 12; have := K3; refine (q6 _ (Tabs.keep HT.out K3)).mono ?_; rintro e w4 ⟨rfl, k4⟩; have K4 := K3.trans k4)
              | (go_at_call 12; refine (q5 _ (Tabs.keep HT.out K2)).mono ?_; rintro e w3 ⟨rfl, k3⟩; have K3 := K2.trans k3)
              | (go_at_call 6; refine (wakes6 _ (Tabs.keep HT.out K4)).mono ?_; rintro e w5 ⟨rfl, k5⟩))
            go_ret
            exact ⟨rfl, K4.trans k5⟩
          | true =>
            go_wp2_with (first
              | (go_at_call 9; have := K5; refine (q4 _ (Tabs.keep HT.out K5)).mono ?_; rintro e w6 ⟨rfl, k6⟩; have K6 := K5.trans k6)
              | (go_at_call 9; have := K4; refine (q7 _ (Tabs.keep HT.out K4) (by trivial) (by trivial)).mono ?_; rintro e w5 ⟨rfl, k5⟩; have K5 := K4.trans k5)
              | (go_at_call 9; refine (q3 _ (Tabs.keep HT.out k1)).mono ?_; rintro e w2 ⟨rfl, k2⟩; have K2 := k1.trans k2)
              | (go_at_call 12; have := K3; refine (q6 _ (Tabs.keep HT.out K3)).mono ?_; rintro e w4 ⟨rfl, k4⟩; have K4 := K3.trans k4)
              | (go_at_call 12; refine (q5 _ (Tabs.keep HT.out K2)).mono ?_; rintro e w3 ⟨rfl, k3⟩; have K3 := K2.trans k3)
              | (go_at_call 6; refine (wakes6 _ (Tabs.keep HT.out K6)).mono ?_; rintro e w7 ⟨rfl, k7⟩))
            go_ret
            exact ⟨rfl, K6.trans k7⟩

theorem sumsL (w : World) (hT : Lib.Utf8Tabs 0 1 w) (s u : ByteArray) (v : Int) :
    Calls Tryd.prog 4 #[.string s, .string u, .int .i64 v] w fun e w' => e = .returned (.bool true) ∧ Keeps (fun _ => False) w w' := by
  by_cases hs : s.size ≤ 1000
  · by_cases hu : u.size ≤ 1000
    · exact sums_short w hT s u v hs hu
    · exact sums_long w hT s u v (.inr (by omega))
  · exact sums_long w hT s u v (.inl (by omega))

end Go.Proofs.YtcfimggnmcnkhaaDoor
