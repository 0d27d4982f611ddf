/-
  ObjectCodes: the program's answers beside the reference's.
-/
import Derived.Test.YtanmopbhglokmaaDoorRd
import Derived.Test.YtanmopbhglokmaaDoorTu
set_option linter.all false
namespace Go.Proofs.YtanmopbhglokmaaDoor
open Go.RowKit Go.Sort

/-- Both Frames tell the same. -/
theorem frames (k : Int) (l : List B) (n : Nat) (hn : l.length = n) : ∃ (M : Nat) (er : Int) (LL : List B), M ≤ 9 ∧
    (∀ (w : World) (a : Option Addr) (c : Nat), Tabs w → SlB w a n c l → (a = none → c = 0) → Calls Tryd.prog 9 #[.int .i64 k, .slice a n c] w fun e w' => ∃ a' c', e = .returned (.tuple #[.slice a' M c', .int .i64 er]) ∧ SlB w' a' (M * 128) (c' * 128) LL ∧ Keeps (fun _ => False) w w') ∧
    (∀ (w : World) (a : Option Addr) (c : Nat), SlB w a n c l → (a = none → c = 0) → Calls Tryd.prog 10 #[.int .i64 k, .slice a n c] w fun e w' => ∃ a' c', e = .returned (.tuple #[.slice a' M c', .int .i64 er]) ∧ SlB w' a' (M * 128) (c' * 128) LL ∧ Keeps (fun _ => False) w w') := by
  by_cases h : (1 ≤ k ∧ k ≤ 6) ∧ n ≤ 1000
  · refine ⟨(n + 134) / 128, 0, fr k l, by have := h.2; omega, fun w a c hT hl hnc => frame_ok w hT a n c h.1 h.2 hl hnc (show _ = _ from rfl), fun w a c hl hnc => ?_⟩
    refine (frame10_ok w k a n c l h.1 h.2 hl hnc (show _ = _ from rfl)).mono ?_
    rintro e w2 ⟨v2, rfl, O2, k2⟩
    obtain ⟨a2, c2, rfl, s2, b2, _⟩ := O2.slice
    exact ⟨a2, c2, rfl, s2, k2⟩
  · have h' : ¬ (1 ≤ k ∧ k ≤ 6) ∨ 1000 < n := by omega
    refine ⟨0, 1, [], by omega, fun w a c hT hl hnc => (frame9_err w k a n c h').mono ?_, fun w a c hl hnc => (frame10_err w k a n c h').mono ?_⟩
    · rintro e w' ⟨rfl, rfl⟩; exact ⟨none, 0, rfl, SlB.nil _, Keeps.refl _ _⟩
    · rintro e w' ⟨rfl, rfl⟩; exact ⟨none, 0, rfl, SlB.nil _, Keeps.refl _ _⟩
/-- Both Bodies tell the same. -/
theorem bodies (L : List B) (n : Nat) (hn : n ≤ 100) : ∃ (kk : Int) (nn : Nat) (er : Int) (BB : List B),
    (∀ (w : World) (a : Option Addr) (c : Nat), Tabs w → SlB w a (n * 128) (c * 128) L → Calls Tryd.prog 11 #[.slice a n c] w fun e w' => ∃ a' c', e = .returned (.tuple #[.int .i64 kk, .slice a' nn c', .int .i64 er]) ∧ SlB w' a' nn c' BB ∧ Keeps (fun _ => False) w w') ∧
    (∀ (w : World) (a : Option Addr) (c : Nat), SlB w a (n * 128) (c * 128) L → Calls Tryd.prog 12 #[.slice a n c] w fun e w' => ∃ a' c', e = .returned (.agg #[.int .i64 kk, .slice a' nn c', .int .i64 er]) ∧ SlB w' a' nn c' BB ∧ Keeps (fun _ => False) w w') := by
  by_cases ho : IsObj L
  · refine ⟨kindOf L, lnOf L, 0, bodyOf L, fun w a c hT hl => (body11 w hT a n c L hl).mono ?_, fun w a c hl => (body12 w a n c L hl hn).mono ?_⟩
    · rintro e w' ⟨t, k⟩
      rcases t.out with ⟨_, a', c', he, hs, _⟩ | ⟨hno, _⟩
      · exact ⟨a', c', he, hs, k⟩
      · exact absurd ho hno
    · rintro e w' ⟨t, k⟩
      rcases t.out with ⟨_, a', c', he, hs⟩ | ⟨hno, _⟩
      · exact ⟨a', c', he, hs, k⟩
      · exact absurd ho hno
  · refine ⟨0, 0, 11, [], fun w a c hT hl => (body11 w hT a n c L hl).mono ?_, fun w a c hl => (body12 w a n c L hl hn).mono ?_⟩
    · rintro e w' ⟨t, k⟩
      rcases t.out with ⟨h, _⟩ | ⟨_, he⟩
      · exact absurd h ho
      · exact ⟨none, 0, he, SlB.nil _, k⟩
    · rintro e w' ⟨t, k⟩
      rcases t.out with ⟨h, _⟩ | ⟨_, he⟩
      · exact absurd h ho
      · exact ⟨none, 0, he, SlB.nil _, k⟩

theorem wpList_appKany {ops : Array Oper} {rest : List Oper} {o : Oper} {a : Act} {w : World} {Q : Exit → Act → World → Prop} (hgd : o.guard = none) (s x : Operand) (ho : o.op = .call { callee := .builtin .append, args := #[s, x], argTypes := #[23, 23] })
    (base : Nat) (v : Value) (hs : a.eval s = v) (hown : OwnK w base v 0 []) (ad : Option Addr) (m c : Nat) (L1 : List B) (hx : a.eval x = .slice ad m c) (hl : SlB w ad (m * 128) (c * 128) L1) (hnc : ad = none → c = 0) (hlen : m ≤ 100000) (hbase : base ≤ w.heap.size)
    (h : ∀ a' c' w', SlB w' a' (m * 128) (c' * 128) L1 → Keeps (fun k => base ≤ k) w w' → wpList Tryd.prog ops Q rest (a.put o.dst (.slice a' m c')) w') : wpList Tryd.prog ops Q (o :: rest) a w := by
  cases ad with
  | none =>
    obtain rfl : c = 0 := hnc rfl
    obtain rfl : m = 0 := by have := hl.cap; omega
    obtain rfl : L1 = [] := List.eq_nil_of_length_eq_zero (by have := hl.len; omega)
    obtain ⟨i, hi, hz, hsz, hby⟩ := info40'
    refine wpList_append_own_none hgd s x 23 ho base 40 i 128 Tryd.underlying23 hi v 0 _ hs hown.owns hx ?_
    obtain ⟨a', c', rfl, hs', _⟩ := hown.slice
    exact h a' c' w hs' (Keeps.refl _ _)
  | some ad =>
    by_cases h0 : 0 < m
    · obtain ⟨b, of, e, _⟩ := hl.bytes (m * 128) (by omega) (Nat.le_refl _)
      cases e
      refine wpList_appK hgd s x ho base v 0 [] hs hown b of m c L1 hx hl (by omega) hbase fun v' w' O' k' => ?_
      rw [Nat.zero_add, List.nil_append] at O'
      obtain ⟨a', c', rfl, hs', _⟩ := O'.slice
      exact h a' c' w' hs' k'
    · obtain rfl : m = 0 := by omega
      obtain rfl : L1 = [] := List.eq_nil_of_length_eq_zero (by have := hl.len; omega)
      obtain ⟨i, hi, hz, hsz, hby⟩ := info40'
      refine wpList_append_own _ hgd s x 23 ho base 40 i (.agg (brow (zb 128))) 128 128 Tryd.underlying23 hi hz hsz hby (by show (brow (zb 128)).size = 128; rw [size_brow, zb_len]) (by omega) v 0 _ hs hown.owns ad 0 c [] hx (by simp) (fun j u hu => by simp at hu) (fun u hu => by simp at hu) (by unfold maxLen; omega) (by omega) hbase ?_
      intro v' w' ho' hg _
      have O' : OwnK w' base v' 0 [] := ⟨by simpa using ho'⟩
      obtain ⟨a', c', rfl, hs', _⟩ := O'.slice
      refine h a' c' w' hs' ⟨hg.os, hg.tape, hg.output, hg.size, fun k hk hb => hg.block k hk fun e => hb ?_⟩
      exact (hown.owns.lt k e.symm).1

set_option maxRecDepth 100000 in
set_option maxHeartbeats 2000000 in
theorem codes3_ok (w : World) (hT : Tabs w) (k : Int) (a : Option Addr) (n c : Nat) (l : List B) (hl : SlB w a n c l) (hnc : a = none → c = 0) (a2 : Option Addr) (n2 c2 : Nat) (L : List B) (h2 : SlB w a2 (n2 * 128) (c2 * 128) L) (hnc2 : a2 = none → c2 = 0) (hn : n ≤ 2000) (hn2 : n2 ≤ 20) :
    Calls Tryd.prog 3 #[.int .i64 k, .slice a n c, .slice a2 n2 c2] w fun e w' => e = .returned (.bool true) ∧ Keeps (fun _ => False) w w' := by
  have hn' : ¬ (2000 : Int) < (n : Int) := by omega
  have hn2' : ¬ (20 : Int) < (n2 : Int) := by omega
  obtain ⟨M, er, LL, hM, hF9, hF10⟩ := frames k l n hl.len
  obtain ⟨kk, nn, eb, BB, hB11, hB12⟩ := bodies L n2 (by omega)
  have HF9 : Hid (∀ _ : True, _) := fun _ => hF9
  have HF10 : Hid (∀ _ : True, _) := fun _ => hF10
  have HB11 : Hid (∀ _ : True, _) := fun _ => hB11
  have HB12 : Hid (∀ _ : True, _) := fun _ => hB12
  have hlen := hl.len
  have HM : Hid (True → M ≤ 9) := fun _ => hM
  clear hF9 hF10 hB11 hB12 hM
  go_enter Tryd.func3, Tryd.ntmps3
  go_wp2_with (first
    | (go_at_call 8; refine (wakes8 _ (hT.keeps K9 (fun h => h) (fun h => h))).mono ?_; rintro e w10 ⟨rfl, k10⟩)
    | (go_at_call 14; have hmark := H4; refine (bytes_at w9 _ _ _ _ _ _ (s1.keeps J9 (fun _ _ _ _ h => h)) (hl.keeps K9 (fun _ _ _ _ h => h))).mono ?_; rintro e wn ⟨rfl, rfl⟩)
    | (go_at_call 14; refine (bytes_at w9 _ _ _ _ _ _ s6' s7').mono ?_; rintro e wn ⟨rfl, rfl⟩; have H4 : Hid True := trivial)
    | (go_at_call 15; refine (nblk15 _ _).mono ?_; rintro e wn ⟨rfl, hw⟩; rw [hw]; clear hw)
    | (go_at_call 16; refine (nblk16 _ _).mono ?_; rintro e wn ⟨rfl, hw⟩; rw [hw]; clear hw)
    | (go_at_call 13; refine (blocks_at (Hid_refl LL) w8 _ _ _ _ _ _ s2' s3' (by have := HM.out trivial; omega)).mono ?_; rintro e w9 ⟨rfl, k9⟩; have K9 := K8.trans k9; have J9 := J8.trans k9; have s6' := s6.keeps (k7.trans k9) (fun _ _ _ _ h => h); have s7' := s7.keeps k9 (fun _ _ _ _ h => h); have g9 := k9.row g8 (fun h => h); have d0 : w9.cell? ⟨p8, 0, none⟩ = some (.int .i64 kk) := cell_of_row _ _ 0 _ _ _ g9; have d1 : w9.cell? ⟨p8, 1, none⟩ = some (.slice a7 nn c7) := cell_of_row _ _ 1 _ _ _ g9; have d2 : w9.cell? ⟨p8, 2, none⟩ = some (.int .i64 eb) := cell_of_row _ _ 2 _ _ _ g9)
    | (refine wpList_store_row rfl rfl 33 _ _ rfl p8 rfl #[.int .i64 kk, .slice a7 nn c7, .int .i64 eb] rfl 33 _ gp8 size33 rfl (one_got _ _ _ _ _) ?_; intro w8 g8 k8 z8; have k78 : Keeps (fun _ => False) w7 w8 := kp8.trans' k8 (fun i e => .inr (by omega)); have K8 := K7.trans k78; have J8 := J7.trans k78; have s7 := s70.keeps k78 (fun _ _ _ _ h => h); have s2' := s2.keeps ((J37.trans k78)) (fun _ _ _ _ h => h); have s3' := s3.keeps ((J47.trans k78)) (fun _ _ _ _ h => h); have k7 := k70.trans k78; clear z8)
    | (refine wpList_alloc33 rfl rfl ?_; intro p8 wp8 gp8 hp8 kp8)
    | (go_at_call 12; refine (HB12.out trivial w6 _ c2 (h2.keeps K6 (fun _ _ _ _ h => h))).mono ?_; rintro e w7 ⟨a7, c7, rfl, s70, k70⟩; have K7 := K6.trans k70; have J7 := J6.trans k70; have J37 := J36.trans k70; have J47 := J46.trans k70)
    | (go_at_call 11; refine (HB11.out trivial w5 _ c5 (hT.keeps K5 (fun h => h) (fun h => h)) s5).mono ?_; rintro e w6 ⟨a6, c6, rfl, s6, k6⟩; have K6 := K5.trans k6; have J6 := J5.trans k6; have J36 := J35.trans k6; have J46 := J45.trans k6)
    | (refine wpList_appKany rfl _ _ rfl w3.heap.size _ rfl O4 a2 n2 c2 L rfl (h2.keeps K4 (fun _ _ _ _ h => h)) hnc2 (by omega) (by have := k4.size; omega) ?_; intro a5 c5 w5 s5 k5; have k35 : Keeps (fun _ => False) w3 w5 := k4.trans' k5 (fun i e => .inr e); have K5 := K3.trans k35; have J5 := J3.trans k35; have J35 := k3.trans k35; have J45 := k35)
    | (refine wpList_build0K rfl rfl ?_; intro w4 O4 k4; have K4 := K3.trans k4)
    | (go_at_call 10; refine (HF10.out trivial w2 a c (hl.keeps K2 (fun _ _ _ _ h => h)) hnc).mono ?_; rintro e w3 ⟨a3, c3, rfl, s3, k3⟩; have K3 := K2.trans k3; have J3 := k2.trans k3)
    | (go_at_call 9; refine (HF9.out trivial w1 _ c1 (hT.keeps K1 (fun h => h) (fun h => h)) s1 hnc1).mono ?_; rintro e w2 ⟨aa2, cc2, rfl, s2, k2⟩; have K2 := K1.trans k2)
    | (refine wpList_app rfl _ _ rfl w.heap.size _ [] rfl O0 a n c l rfl (hl.keeps k0 (fun _ _ _ _ h => h)) hnc (by simp; omega) (by have := k0.size; omega) ?_; intro v1 w1 O1 k1; rw [List.nil_append] at O1; have K1 : Keeps (fun _ => False) w w1 := k0.trans' k1 (fun i e => .inr e); obtain ⟨a1, n1, c1, rfl, s1, _, hnc1⟩ := O1.slice; obtain rfl : n1 = n := s1.len.symm.trans hlen)
    | (refine wpList_build0L rfl rfl ?_; intro g0 w0 O0 hg0a hg0b k0))
  go_ret
  exact ⟨rfl, K9.trans k10⟩

theorem codes3 (w : World) (hT : Tabs w) (k : Int) (a : Option Addr) (n c : Nat) (l : List B) (hl : SlB w a n c l) (hnc : a = none → c = 0) (a2 : Option Addr) (n2 c2 : Nat) (L : List B) (h2 : SlB w a2 (n2 * 128) (c2 * 128) L) (hnc2 : a2 = none → c2 = 0) :
    Calls Tryd.prog 3 #[.int .i64 k, .slice a n c, .slice a2 n2 c2] w fun e w' => e = .returned (.bool true) ∧ Keeps (fun _ => False) w w' := by
  by_cases hn : n ≤ 2000
  · by_cases hn2 : n2 ≤ 20
    · exact codes3_ok w hT k a n c l hl hnc a2 n2 c2 L h2 hnc2 hn hn2
    · have hn' : ¬ (2000 : Int) < (n : Int) := by omega
      have hn2' : (20 : Int) < (n2 : Int) := by omega
      go_enter Tryd.func3, Tryd.ntmps3
      go_wp2_with (go_at_call 8; refine (wakes8 _ hT).mono ?_; rintro e w1 ⟨rfl, hk1⟩)
      go_ret
      exact ⟨rfl, hk1⟩
  · have hn' : (2000 : Int) < (n : Int) := by omega
    go_enter Tryd.func3, Tryd.ntmps3
    go_wp2_with (go_at_call 8; refine (wakes8 _ hT).mono ?_; rintro e w1 ⟨rfl, hk1⟩)
    go_ret
    exact ⟨rfl, hk1⟩

end Go.Proofs.YtanmopbhglokmaaDoor
