/-
  With, of both sides.
-/
import Derived.Test.YtadbgidchojfkaaLw
set_option linter.all false
namespace Go.Proofs.Ytadbgidchojfkaa
open Go.RowKit Go.Sort

theorem wth_bad {L : List B} {f n : Int} (h : n < 1 ∨ f < 0 ∨ 128 < f + n) : wth L f n = (zb 16, 1) := by
  unfold wth; rw [if_neg (by omega)]
theorem wth_full {L : List B} {f n : Nat} (h1 : 1 ≤ n) (h2 : f + n ≤ 128) (hf : freeB L f n = false) : wth L (f : Int) (n : Int) = (zb 16, 11) := by
  unfold wth; rw [if_pos (by omega)]; simp [hf]
theorem wth_ok {L : List B} {f n : Nat} (h1 : 1 ≤ n) (h2 : f + n ≤ 128) (hf : freeB L f n = true) : wth L (f : Int) (n : Int) = (setn L f n, 0) := by
  unfold wth; rw [if_pos (by omega)]; simp [hf]

theorem one_shl (k : Nat) (hk : k < 8) : (2 : Int) ^ k % 256 = nb (1#8 <<< k) := by
  have : ∀ k : Fin 8, (2 : Int) ^ k.val % 256 = ((1#8 <<< k.val : BitVec 8).toNat : Int) := by decide +kernel
  exact this ⟨k, hk⟩
theorem or_bit (x : B) (k : Nat) (hk : k < 8) : bits .or .u8 (nb x) ((2 : Int) ^ k % 256) = nb (x ||| (1#8 <<< k)) := by rw [one_shl k hk, bits_or8]

/-- What With tells, as values. -/
def told (r : List B × Int) : Value := .tuple #[.agg (brow r.1), .int .i64 r.2]

theorem with7_bad (w : World) (L : List B) (hL : L.length = 16) (f n : Int) (hf : -9223372036854775808 ≤ f ∧ f ≤ 9223372036854775807) (hn : -9223372036854775808 ≤ n ∧ n ≤ 9223372036854775807) (h : n < 1 ∨ f < 0 ∨ 128 < f + n) :
    Calls Try.prog 7 #[.agg (brow L), .int .i64 f, .int .i64 n] w fun e w' => e = .returned (told (zb 16, 1)) ∧ Keeps (fun _ => False) w w' := by
  go_enter Try.func7, Try.ntmps7
  have fin : ∀ (tm : Array Value) (g6 : Nat) (wr : World), tm.getD 6 undef = .pointer (some ⟨g6, 0, none⟩) → tm.getD 7 undef = .int .i64 1 → BmAt wr g6 (zb 16) → (results Try.f7 tm).run Try.prog wr = .ok (told (zb 16, 1)) wr := fun tm g6 wr h1 h2 h3 =>
    results_row_slot rfl tm wr g6 (zb 16) _ h1 h2 h3
  by_cases h1 : n < 1
  · go_wp2_with (first
      | (refine wpList_box23 rfl _ rfl L hL rfl ?_; intro g3 w1 b1 z1 k1)
      | (refine wpList_alloc23 rfl rfl ?_; intro g6 w2 b2 z2 k2; have K2 := k1.trans k2)
      | (refine wpList_build23 rfl rfl ?_)
      | (refine wpList_store23 rfl _ _ rfl g6 rfl (zb 16) rfl (zb_len _) _ b2 ?_; intro w3 b3 k3))
    refine bodyPost_ret (v := told (zb 16, 1)) (fin _ g6 _ rfl rfl b3) rfl ⟨rfl, K2.trans' k3 (fun i e => .inr (by have := k1.size; omega))⟩
  · by_cases h2 : 0 ≤ f ∧ f < 128
    · have h3 : 128 - f < n := by omega
      go_wp2_with (first
        | (refine wpList_box23 rfl _ rfl L hL rfl ?_; intro g3 w1 b1 z1 k1)
        | (refine wpList_alloc23 rfl rfl ?_; intro g6 w2 b2 z2 k2; have K2 := k1.trans k2)
        | (go_at_call 18; refine (isBlock18 _ _).mono ?_; rintro e wq ⟨rfl, rfl⟩; rw [decide_eq_true h2])
        | (refine wpList_build23 rfl rfl ?_)
        | (refine wpList_store23 rfl _ _ rfl g6 rfl (zb 16) rfl (zb_len _) _ b2 ?_; intro w3 b3 k3))
      refine bodyPost_ret (v := told (zb 16, 1)) (fin _ g6 _ rfl rfl b3) rfl ⟨rfl, K2.trans' k3 (fun i e => .inr (by have := k1.size; omega))⟩
    · go_wp2_with (first
        | (refine wpList_box23 rfl _ rfl L hL rfl ?_; intro g3 w1 b1 z1 k1)
        | (refine wpList_alloc23 rfl rfl ?_; intro g6 w2 b2 z2 k2; have K2 := k1.trans k2)
        | (go_at_call 18; refine (isBlock18 _ _).mono ?_; rintro e wq ⟨rfl, rfl⟩; rw [decide_eq_false h2])
        | (refine wpList_build23 rfl rfl ?_)
        | (refine wpList_store23 rfl _ _ rfl g6 rfl (zb 16) rfl (zb_len _) _ b2 ?_; intro w3 b3 k3))
      refine bodyPost_ret (v := told (zb 16, 1)) (fin _ g6 _ rfl rfl b3) rfl ⟨rfl, K2.trans' k3 (fun i e => .inr (by have := k1.size; omega))⟩

/-- Behind some rounds: from f up to c less 1 all is taken. -/
structure WiIn (g3 g6 : Nat) (w wr : World) (L : List B) (f c : Nat) : Prop where
  m : BmAt wr g3 (setn L f (c - f))
  z : BmAt wr g6 (zb 16)
  free : freeB L f (c - f) = true
  keeps : Keeps (fun _ => False) w wr
theorem WiIn.bit {g3 g6 f c : Nat} {w wr : World} {L : List B} (h : WiIn g3 g6 w wr L f c) (hc : f ≤ c) (hc2 : c ≤ 128) (hL : L.length = 16) : bit (setn L f (c - f)) c = bit L c := by
  rw [bit_setn hL (by omega)]
  have : ¬ (f ≤ c ∧ c < f + (c - f)) := by omega
  simp only [this, decide_false, Bool.or_false]
theorem WiIn.next {g3 g6 f c : Nat} {w wr : World} {L : List B} (h : WiIn g3 g6 w wr L f c) (hc : f ≤ c) (hb : Go.Proofs.Ytadbgidchojfkaa.bit L c = false) (h3 : w.heap.size ≤ g3) (h36 : g3 ≠ g6) :
    WiIn g3 g6 w (wr.setCell ⟨g3, c / 8, none⟩ (.int .u8 (nb ((setn L f (c - f)).getD (c / 8) 0 ||| (1#8 <<< (c % 8)))))) L f (c + 1) := by
  have e : c + 1 - f = (c - f) + 1 := by omega
  have e2 : f + (c - f) = c := by omega
  refine ⟨?_, h.z.keeps ((Keeps.refl (· = g3) _).setCell (.inl rfl) _) (Ne.symm h36), ?_, h.keeps.setCell (.inr h3) _⟩
  · rw [e, setn, e2]
    exact h.m.set _ _
  · have := freeB_iff.1 h.free
    rw [e]
    refine freeB_iff.2 fun i hi => ?_
    rcases Nat.lt_or_ge i (c - f) with h1 | h1
    · exact this i h1
    · rw [show f + i = c by omega]; exact hb
theorem WiIn.drew {g3 g6 f c : Nat} {w wr : World} {L : List B} (h : WiIn g3 g6 w wr L f c) : WiIn g3 g6 w wr.drew L f c := ⟨⟨h.m.row, h.m.len⟩, ⟨h.z.row, h.z.len⟩, h.free, h.keeps.drew⟩

theorem WiIn.keep {g3 g6 f c : Nat} {w wr w3 : World} {L : List B} (h : WiIn g3 g6 w wr L f c) (k : Keeps (fun _ => False) wr w3) : WiIn g3 g6 w w3 L f c := ⟨h.m.keep k, h.z.keep k, h.free, h.keeps.trans k⟩

theorem with7_in (w : World) (L : List B) (hL : L.length = 16) (f n : Nat) (h1 : 1 ≤ n) (h2 : f + n ≤ 128) :
    Calls Try.prog 7 #[.agg (brow L), .int .i64 (f : Int), .int .i64 (n : Int)] w fun e w' => e = .returned (told (wth L (f : Int) (n : Int))) ∧ Keeps (fun _ => False) w w' := by
  have fin : ∀ (tm : Array Value) (g6 : Nat) (wr : World) (X : List B) (v : Int), tm.getD 6 undef = .pointer (some ⟨g6, 0, none⟩) → tm.getD 7 undef = .int .i64 v → BmAt wr g6 X → (results Try.f7 tm).run Try.prog wr = .ok (told (X, v)) wr := fun tm g6 wr X v h1 h2 h3 =>
    results_row_slot rfl tm wr g6 X _ h1 h2 h3
  have hblk : 0 ≤ (f : Int) ∧ (f : Int) < 128 := by omega
  go_enter Try.func7, Try.ntmps7
  go_wp2_with (first
    | (refine wpList_box23 rfl _ rfl L hL rfl ?_; intro g3 w1 b1 z1 k1)
    | (refine wpList_alloc23 rfl rfl ?_; intro g6 w2 b2 z2 k2; have K2 := k1.trans k2; have b1' := b1.keep k2; have h36 : g3 ≠ g6 := (by have := b1.lt; omega); have z6 : w.heap.size ≤ g6 := (by have := k1.size; omega); clear k1 k2 b1 z2)
    | (go_at_call 18; refine (isBlock18 _ _).mono ?_; rintro e wq ⟨rfl, rfl⟩; rw [decide_eq_true hblk]))
  go_loopw [8] (fun t wr => ∃ c : Nat, f ≤ c ∧ c ≤ f + n ∧ t = .int .i64 c ∧ WiIn g3 g6 w wr L f c) (fun t _ => f + n - (intOf t).toNat)
  case atStart => exact ⟨f, by omega, by omega, rfl, by rw [Nat.sub_self]; exact b1', b2, by rw [Nat.sub_self]; rfl, K2⟩
  case round =>
    obtain ⟨c, hc1, hc2, rfl, hW⟩ := hrel
    by_cases hlt : c < f + n
    · cases hb : bit L c with
      | true =>
        have hcall : has (setn L f (c - f)) (c : Int) = true := by rw [has_nat (by omega), hW.bit hc1 (by omega) hL, hb]
        have hff : freeB L f n = false := freeB_false.2 ⟨c - f, by omega, by rw [show f + (c - f) = c by omega]; exact hb⟩
        have bm := hW.m
        have bz := hW.z
        have HW := hW.keeps
        generalize setn L f (c - f) = M at *
        clear hW hb
        go_wp2_with (first
          | (refine wpList_load23 rfl _ rfl g3 rfl M bm ?_)
          | (go_at_call 11; refine (has11 _ M bm.len _).mono ?_; rintro e w3 ⟨rfl, k3⟩; rw [hcall]; have bz3 := bz.keep k3)
          | (refine wpList_build23 rfl rfl ?_)
          | (refine wpList_store23 rfl _ _ rfl g6 rfl (zb 16) rfl (zb_len _) _ bz3 ?_; intro w4 b4 k4))
        rw [wth_full h1 h2 hff]
        refine bodyPost_ret (v := told (zb 16, 11)) (fin _ g6 _ _ _ rfl rfl b4) rfl ⟨rfl, (HW.trans k3).trans' k4 (fun i e => .inr (by omega))⟩
      | false =>
        have hcall : has (setn L f (c - f)) (c : Int) = false := by rw [has_nat (by omega), hW.bit hc1 (by omega) hL, hb]
        have bm := hW.m
        generalize hM : setn L f (c - f) = M at *
        go_wp2_with (first
          | (refine wpList_load23 rfl _ rfl g3 rfl M bm ?_)
          | (go_at_call 11; refine (has11 _ M bm.len _).mono ?_; rintro e w3 ⟨rfl, k3⟩; rw [hcall]; have bm3 := bm.keep k3; have hW3 := hW.keep k3; clear hW))
        have hcell := bm3.cell (j := c / 8) (by omega)
        have hlive := bm3.live (c / 8)
        generalize hX : M.getD (c / 8) 0 = x at hcell
        have hbx := nb_lt x
        have ei : ((c : Int) / 8).toNat = c / 8 := by omega
        clear hcall bm bm3 hL h2 k3
        refine region_tail 9 (by kernel_rfl) (by kernel_rfl) ?_
        simp only [List.take_succ_cons, List.take_zero]
        iterate 9 (go_big_quiet_step (fail))
        refine wpQuiet_nil ?_
        simp only [List.drop_succ_cons, List.drop_zero]
        go_wp2
        rw [or_bit x (c % 8) (by omega), ← hX, ← hM]
        exact ⟨⟨c + 1, by omega, by omega, rfl, (hW3.next hc1 hb z1 h36).drew⟩, by simp [intOf]; omega⟩
    · obtain rfl : c = f + n := by omega
      obtain ⟨bm, bz, hfr, hK⟩ := hW
      rw [show f + n - f = n by omega] at bm hfr
      have hR : Hid (wth L (f : Int) (n : Int) = (setn L f n, 0)) := wth_ok h1 h2 hfr
      have hl := bm.len
      generalize setn L f n = M at *
      clear hfr
      go_wp2_with (first
        | (refine wpList_load23 rfl _ rfl g3 rfl M bm ?_)
        | (refine wpList_store23 rfl _ _ rfl g6 rfl M rfl hl _ bz ?_; intro w4 b4 k4))
      rw [hR.out]
      refine bodyPost_ret (v := told (M, 0)) (fin _ g6 _ _ _ rfl rfl b4) rfl ⟨rfl, hK.trans' k4 (fun i e => .inr (by omega))⟩

theorem with7 (w : World) (L : List B) (hL : L.length = 16) (f n : Int) (hf : -9223372036854775808 ≤ f ∧ f ≤ 9223372036854775807) (hn : -9223372036854775808 ≤ n ∧ n ≤ 9223372036854775807) :
    Calls Try.prog 7 #[.agg (brow L), .int .i64 f, .int .i64 n] w fun e w' => e = .returned (told (wth L f n)) ∧ Keeps (fun _ => False) w w' := by
  by_cases h : n < 1 ∨ f < 0 ∨ 128 < f + n
  · rw [wth_bad h]; exact with7_bad w L hL f n hf hn h
  · obtain ⟨f', rfl⟩ : ∃ f' : Nat, f = f' := ⟨f.toNat, by omega⟩
    obtain ⟨n', rfl⟩ : ∃ n' : Nat, n = n' := ⟨n.toNat, by omega⟩
    exact with7_in w L hL f' n' (by omega) (by omega)

theorem with8_bad (w : World) (L : List B) (hL : L.length = 16) (f n : Int) (hf : -9223372036854775808 ≤ f ∧ f ≤ 9223372036854775807) (hn : -9223372036854775808 ≤ n ∧ n ≤ 9223372036854775807) (h : n < 1 ∨ f < 0 ∨ 128 < f + n) :
    Calls Try.prog 8 #[.agg (brow L), .int .i64 f, .int .i64 n] w fun e w' => e = .returned (told (zb 16, 1)) ∧ Keeps (fun _ => False) w w' := by
  go_enter Try.func8, Try.ntmps8
  have fin : ∀ (tm : Array Value) (g6 : Nat) (wr : World), tm.getD 6 undef = .pointer (some ⟨g6, 0, none⟩) → tm.getD 7 undef = .int .i64 1 → BmAt wr g6 (zb 16) → (results Try.f8 tm).run Try.prog wr = .ok (told (zb 16, 1)) wr := fun tm g6 wr h1 h2 h3 =>
    results_row_slot rfl tm wr g6 (zb 16) _ h1 h2 h3
  have cs : n < 1 ∨ 128 < n ∨ (1 ≤ n ∧ n ≤ 128 ∧ f < 0) ∨ (1 ≤ n ∧ n ≤ 128 ∧ 0 ≤ f ∧ 128 - n < f) := by omega
  clear h
  rcases cs with h1 | h1 | ⟨h1, h2, h3⟩ | ⟨h1, h2, h3, h4⟩
  all_goals
    go_wp2_with (first
      | (refine wpList_box23 rfl _ rfl L hL rfl ?_; intro g3 w1 b1 z1 k1)
      | (refine wpList_alloc23 rfl rfl ?_; intro g6 w2 b2 z2 k2; have K2 := k1.trans k2)
      | (refine wpList_build23 rfl rfl ?_)
      | (refine wpList_store23 rfl _ _ rfl g6 rfl (zb 16) rfl (zb_len _) _ b2 ?_; intro w3 b3 k3))
    refine bodyPost_ret (v := told (zb 16, 1)) (fin _ g6 _ rfl rfl b3) rfl ⟨rfl, K2.trans' k3 (fun i e => .inr (by have := k1.size; omega))⟩

theorem with8_in (w : World) (L : List B) (hL : L.length = 16) (f n : Nat) (h1 : 1 ≤ n) (h2 : f + n ≤ 128) :
    Calls Try.prog 8 #[.agg (brow L), .int .i64 (f : Int), .int .i64 (n : Int)] w fun e w' => e = .returned (told (wth L (f : Int) (n : Int))) ∧ Keeps (fun _ => False) w w' := by
  have fin : ∀ (tm : Array Value) (g6 : Nat) (wr : World) (X : List B) (v : Int), tm.getD 6 undef = .pointer (some ⟨g6, 0, none⟩) → tm.getD 7 undef = .int .i64 v → BmAt wr g6 X → (results Try.f8 tm).run Try.prog wr = .ok (told (X, v)) wr := fun tm g6 wr X v h1 h2 h3 =>
    results_row_slot rfl tm wr g6 X _ h1 h2 h3
  have hn1 : ¬ (n : Int) < 1 := by omega
  have hn2 : ¬ (128 : Int) < (n : Int) := by omega
  have hn3 : ¬ (128 : Int) - (n : Int) < (f : Int) := by omega
  go_enter Try.func8, Try.ntmps8
  go_wp2_with (first
    | (refine wpList_box23 rfl _ rfl L hL rfl ?_; intro g3 w1 b1 z1 k1)
    | (refine wpList_alloc23 rfl rfl ?_; intro g6 w2 b2 z2 k2; have K2 := k1.trans k2; have b1' := b1.keep k2; have h36 : g3 ≠ g6 := (by have := b1.lt; omega); have z6 : w.heap.size ≤ g6 := (by have := k1.size; omega); clear k1 k2 b1 z2))
  go_loopw [8] (fun t wr => ∃ c : Nat, f ≤ c ∧ c ≤ f + n ∧ t = .int .i64 c ∧ WiIn g3 g6 w wr L f c) (fun t _ => f + n - (intOf t).toNat)
  case atStart => exact ⟨f, by omega, by omega, rfl, by rw [Nat.sub_self]; exact b1', b2, by rw [Nat.sub_self]; rfl, K2⟩
  case round =>
    obtain ⟨c, hc1, hc2, rfl, hW⟩ := hrel
    by_cases hlt : c < f + n
    · cases hb : bit L c with
      | true =>
        have hcall : has (setn L f (c - f)) (c : Int) = true := by rw [has_nat (by omega), hW.bit hc1 (by omega) hL, hb]
        have hff : freeB L f n = false := freeB_false.2 ⟨c - f, by omega, by rw [show f + (c - f) = c by omega]; exact hb⟩
        have bm := hW.m
        have bz := hW.z
        have HW := hW.keeps
        generalize setn L f (c - f) = M at *
        clear hW hb
        go_wp2_with (first
          | (refine wpList_load23 rfl _ rfl g3 rfl M bm ?_)
          | (go_at_call 12; refine (has12 _ M bm.len _).mono ?_; rintro e w3 ⟨rfl, k3⟩; rw [hcall]; have bz3 := bz.keep k3)
          | (refine wpList_build23 rfl rfl ?_)
          | (refine wpList_store23 rfl _ _ rfl g6 rfl (zb 16) rfl (zb_len _) _ bz3 ?_; intro w4 b4 k4))
        rw [wth_full h1 h2 hff]
        refine bodyPost_ret (v := told (zb 16, 11)) (fin _ g6 _ _ _ rfl rfl b4) rfl ⟨rfl, (HW.trans k3).trans' k4 (fun i e => .inr (by omega))⟩
      | false =>
        have hcall : has (setn L f (c - f)) (c : Int) = false := by rw [has_nat (by omega), hW.bit hc1 (by omega) hL, hb]
        have bm := hW.m
        generalize hM : setn L f (c - f) = M at *
        generalize hX : M.getD (c / 8) 0 = x
        have hbx := nb_lt x
        have ei : ((c : Int) / 8).toNat = c / 8 := by omega
        go_wp2_with (first
          | (refine wpList_load23 rfl _ rfl g3 rfl M bm ?_)
          | (go_at_call 12; refine (has12 _ M bm.len _).mono ?_; rintro e w3 ⟨rfl, k3⟩; rw [hcall]; have hW3 := hW.keep k3; have hcell := (bm.keep k3).cell (j := c / 8) (by omega); rw [hX] at hcell; have hlive := (bm.keep k3).live (c / 8); clear hW))
        rw [or_bit x (c % 8) (by omega), ← hX, ← hM]
        exact ⟨⟨c + 1, by omega, by omega, rfl, hW3.next hc1 hb z1 h36⟩, by simp [intOf]; omega⟩
    · obtain rfl : c = f + n := by omega
      obtain ⟨bm, bz, hfr, hK⟩ := hW
      rw [show f + n - f = n by omega] at bm hfr
      have hR : Hid (wth L (f : Int) (n : Int) = (setn L f n, 0)) := wth_ok h1 h2 hfr
      have hl := bm.len
      generalize setn L f n = M at *
      clear hfr
      go_wp2_with (first
        | (refine wpList_load23 rfl _ rfl g3 rfl M bm ?_)
        | (refine wpList_store23 rfl _ _ rfl g6 rfl M rfl hl _ bz ?_; intro w4 b4 k4))
      rw [hR.out]
      refine bodyPost_ret (v := told (M, 0)) (fin _ g6 _ _ _ rfl rfl b4) rfl ⟨rfl, hK.trans' k4 (fun i e => .inr (by omega))⟩

theorem with8 (w : World) (L : List B) (hL : L.length = 16) (f n : Int) (hf : -9223372036854775808 ≤ f ∧ f ≤ 9223372036854775807) (hn : -9223372036854775808 ≤ n ∧ n ≤ 9223372036854775807) :
    Calls Try.prog 8 #[.agg (brow L), .int .i64 f, .int .i64 n] w fun e w' => e = .returned (told (wth L f n)) ∧ Keeps (fun _ => False) w w' := by
  by_cases h : n < 1 ∨ f < 0 ∨ 128 < f + n
  · rw [wth_bad h]; exact with8_bad w L hL f n hf hn h
  · obtain ⟨f', rfl⟩ : ∃ f' : Nat, f = f' := ⟨f.toNat, by omega⟩
    obtain ⟨n', rfl⟩ : ∃ n' : Nat, n = n' := ⟨n.toNat, by omega⟩
    exact with8_in w L hL f' n' (by omega) (by omega)

end Go.Proofs.Ytadbgidchojfkaa
