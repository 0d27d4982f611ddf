/-
  How wide a text is: both sides.
-/
import Derived.Test.YtcfimggnmcnkhaaDoorMa
set_option linter.all false
namespace Go.Proofs.YtcfimggnmcnkhaaDoor
open Go.RowKit Go.Sort Go.Shelf
attribute [local go_sem] Oper.semAt_some

/-- All together. -/
def wids (l : List Int) : Int := (l.map wid).sum
theorem wids_nil : wids [] = 0 := rfl
theorem wids_app (l m : List Int) : wids (l ++ m) = wids l + wids m := by unfold wids; rw [List.map_append, List.sum_append_int]
theorem wids_one (v : Int) : wids [v] = wid v := by unfold wids; simp
theorem wids_le (l : List Int) : 0 ≤ wids l ∧ wids l ≤ 10 * l.length := by
  induction l with
  | nil => exact ⟨Int.le_refl _, Int.le_refl _⟩
  | cons v l ih =>
    have h := wid_or v
    have e : wids (v :: l) = wid v + wids l := by unfold wids; simp
    rw [e, List.length_cons]
    omega
theorem snoc_take {l : List Int} {i : Nat} (hi : i < l.length) : l.take (i + 1) = l.take i ++ [l.getD i 0] := by
  rw [List.take_succ, List.getD_eq_getElem?_getD, List.getElem?_eq_getElem hi]
  rfl
theorem wids_take {l : List Int} {i : Nat} (hi : i < l.length) : wids (l.take (i + 1)) = wids (l.take i) + wid (l.getD i 0) := by
  rw [snoc_take hi, wids_app, wids_one]

set_option maxRecDepth 100000 in
set_option maxHeartbeats 1000000 in
theorem together14 (w : World) (a : Option Addr) (n c : Nat) (l : List Int) (hl : SlI w a n c l) (hn : n ≤ 100000) :
    Calls Tryd.prog 14 #[.slice a n c, .func (.func 7) #[] #[]] w fun e w' => e = .returned (.int .i64 (wids l)) ∧ w' = w := by
  have HL : Hid (l.length = n) := hl.len
  obtain ⟨T, hT⟩ : ∃ T, wids l = T := ⟨_, rfl⟩
  have HT : Hid (wids l = T) := hT
  rw [hT]
  clear hT
  have hw := fun W v => sign7 W v
  go_enter Tryd.func14, Tryd.ntmps14
  go_wp2
  go_loopw [5, 10] (fun u t wr => ∃ i : Nat, i ≤ n ∧ t = .int .i64 (i : Int) ∧ u = .int .i64 (wids (l.take i)) ∧ wr = w) (fun _ t _ => n - (intOf t).toNat)
  case atStart => exact ⟨0, by omega, rfl, rfl, rfl⟩
  case round =>
    obtain ⟨i, hi, rfl, rfl, rfl⟩ := hrel
    obtain ⟨S, hS⟩ : ∃ S, wids (l.take i) = S := ⟨_, rfl⟩
    have HS : Hid (wids (l.take i) = S) := hS
    rw [hS]
    have hS0 : 0 ≤ S ∧ S ≤ 1000000 := by
      have := wids_le (l.take i)
      have : (l.take i).length ≤ i := by simp; omega
      omega
    obtain ⟨hS0, hS1⟩ := hS0
    clear hS
    by_cases hlt : i < n
    · have hlt' : (i : Int) < (n : Int) := by omega
      have hi0 : (0 : Int) ≤ (i : Int) := by omega
      obtain ⟨b, o, rfl, _, hE⟩ := hl.ent (by omega)
      have hc := hE _ (Keeps.refl _ _) i hlt
      obtain ⟨v, hv⟩ : ∃ v, l.getD i 0 = v := ⟨_, rfl⟩
      rw [hv] at hc
      obtain ⟨N, hN⟩ : ∃ N, wid v = N := ⟨_, rfl⟩
      have HW : Hid (wids (l.take (i + 1)) = S + N) := by show _ = _; rw [wids_take (by rw [HL.out]; exact hlt), hv, HS.out, hN]
      have hN0 : 0 ≤ N ∧ N ≤ 10 := by have := wid_or v; omega
      obtain ⟨hN0, hN1⟩ := hN0
      have hq := fun W => sign7 W v
      rw [hN] at hq
      clear hv hE hN hw
      go_wp2_with (go_at_call 7; refine (hq _).mono ?_; rintro e w2 ⟨rfl, rfl⟩)
      refine ⟨⟨i + 1, by omega, rfl, ?_, by trivial⟩, by simp [intOf]; omega⟩
      rw [HW.out]
    · obtain rfl : i = n := by omega
      have hlt' : ¬ (i : Int) < (i : Int) := by omega
      have HF : Hid (S = T) := by show _ = _; rw [← HS.out, ← HT.out, List.take_of_length_le (by rw [HL.out]; omega)]
      clear hw hlt hi
      go_wp2
      go_ret
      exact ⟨by rw [HF.out]; rfl, rfl⟩

set_option maxRecDepth 100000 in
theorem text9 (w : World) (hT : Lib.Utf8Tabs 0 1 w) (s : ByteArray) (hs : s.size ≤ 100000) :
    Calls Tryd.prog 9 #[.string s] w fun e w' => e = .returned (.int .i64 (wids (sg s.data.toList))) ∧ Keeps (fun _ => False) w w' := by
  obtain ⟨l, hl⟩ : ∃ l, sg s.data.toList = l := ⟨_, rfl⟩
  have HL : Hid (l.length ≤ 100000) := by show _ ≤ _; rw [← hl]; have := sg_len s.data.toList; rw [sz_len] at this; omega
  have hq := signs_own hl w hT hs
  rw [hl]
  clear hl
  go_enter Tryd.func9, Tryd.ntmps9
  go_wp2_with (first
    | (go_at_call 11; refine hq.mono ?_; rintro e w1 ⟨⟨a, c, rfl, h1, _⟩, k1⟩)
    | (go_at_call 14; refine (together14 _ _ _ _ l h1 HL.out).mono ?_; rintro e w2 ⟨rfl, rfl⟩))
  go_ret
  exact ⟨rfl, k1⟩

theorem text_at {s : ByteArray} {x : Int} (h : wids (sg s.data.toList) = x) (w : World) (hT : Lib.Utf8Tabs 0 1 w) (hs : s.size ≤ 100000) :
    Calls Tryd.prog 9 #[.string s] w fun e w' => e = .returned (.int .i64 x) ∧ Keeps (fun _ => False) w w' := by
  rw [← h]; exact text9 w hT s hs

theorem field34 (a : Option Addr) (n c : Nat) (b : Bool) (w : World) : (Instr.field 34 (.agg #[.slice a n c, .bool b]) 0).run Tryd.prog w = .ok (.slice a n c) w := by kernel_rfl
set_option maxRecDepth 100000 in
set_option maxHeartbeats 1000000 in
theorem rtext10 (w : World) (s : ByteArray) (hs : s.size ≤ 90000) :
    Calls Tryd.prog 10 #[.string s] w fun e w' => e = .returned (.int .i64 (wids (sg s.data.toList))) ∧ Keeps (fun _ => False) w w' := by
  obtain ⟨l, hl⟩ : ∃ l, sg s.data.toList = l := ⟨_, rfl⟩
  have HN : Hid (l.length ≤ 90000) := by show _ ≤ _; rw [← hl]; have := sg_len s.data.toList; rw [sz_len] at this; omega
  have hq := rsigns8 w s hs
  rw [hl] at hq
  obtain ⟨T, hT⟩ : ∃ T, wids l = T := ⟨_, rfl⟩
  have HT : Hid (wids l = T) := hT
  rw [hl, hT]
  clear hT hl
  go_enter Tryd.func10, Tryd.ntmps10
  go_wp2_with (go_at_call 15; refine hq.mono ?_; rintro e w1 ⟨⟨a, n, c, rfl, hn, h1⟩, k1⟩; have HL : Hid (l.length = n) := hn.symm; have hn' : n ≤ 90000 := (by rw [hn]; exact HN.out); clear hn; have hf := fun b W => field34 a n c b W)
  go_loopw [3, 5] (fun u t wr => ∃ i : Nat, i ≤ n ∧ t = .int .i64 (i : Int) ∧ u = .int .i64 (wids (l.take i)) ∧ wr = w1) (fun _ t _ => n - (intOf t).toNat)
  case atStart => exact ⟨0, by omega, rfl, rfl, rfl⟩
  case round =>
    obtain ⟨i, hi, rfl, rfl, rfl⟩ := hrel
    obtain ⟨S, hS⟩ : ∃ S, wids (l.take i) = S := ⟨_, rfl⟩
    have HS : Hid (wids (l.take i) = S) := hS
    rw [hS]
    have hS0 : 0 ≤ S ∧ S ≤ 1000000 := by
      have := wids_le (l.take i)
      have : (l.take i).length ≤ i := by simp; omega
      omega
    obtain ⟨hS0, hS1⟩ := hS0
    clear hS
    by_cases hlt : i < n
    · have hlt' : (i : Int) < (n : Int) := by omega
      have hi0 : (0 : Int) ≤ (i : Int) := by omega
      obtain ⟨b, o, rfl, _, hE⟩ := h1.ent (by omega)
      have hc := hE _ (Keeps.refl _ _) i hlt
      obtain ⟨v, hv⟩ : ∃ v, l.getD i 0 = v := ⟨_, rfl⟩
      rw [hv] at hc
      obtain ⟨N, hN⟩ : ∃ N, wid v = N := ⟨_, rfl⟩
      have HW : Hid (wids (l.take (i + 1)) = S + N) := by show _ = _; rw [wids_take (by rw [HL.out]; exact hlt), hv, HS.out, hN]
      have hN0 : 0 ≤ N ∧ N ≤ 10 := by have := wid_or v; omega
      obtain ⟨hN0, hN1⟩ := hN0
      have hq2 := fun W => rsign8 W v
      rw [hN] at hq2
      clear hv hE hN
      go_wp2_with (go_at_call 8; refine (hq2 _).mono ?_; rintro e w2 ⟨rfl, rfl⟩)
      refine ⟨⟨i + 1, by omega, rfl, ?_, by trivial⟩, by simp [intOf]; omega⟩
      rw [HW.out]
    · obtain rfl : i = n := by omega
      have hlt' : ¬ (i : Int) < (i : Int) := by omega
      have HF : Hid (S = T) := by show _ = _; rw [← HS.out, ← HT.out, List.take_of_length_le (by rw [HL.out]; omega)]
      clear hlt hi
      go_wp2
      go_ret
      exact ⟨by rw [HF.out]; rfl, k1⟩

end Go.Proofs.YtcfimggnmcnkhaaDoor
