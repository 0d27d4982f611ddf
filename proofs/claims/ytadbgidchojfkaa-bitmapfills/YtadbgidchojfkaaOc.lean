/-
  Or and Count, of both sides.
-/
import Derived.Test.YtadbgidchojfkaaWi
set_option linter.all false
namespace Go.Proofs.Ytadbgidchojfkaa
open Go.RowKit Go.Sort

/-- Behind i rounds of Or. -/
def orP (x y : List B) (i : Nat) : List B := (List.range 16).map fun j => if j < i then x.getD j 0 ||| y.getD j 0 else x.getD j 0
theorem orP_len (x y : List B) (i : Nat) : (orP x y i).length = 16 := by simp [orP]
theorem orP_get (x y : List B) (i j : Nat) (hj : j < 16) : (orP x y i)[j]? = some (if j < i then x.getD j 0 ||| y.getD j 0 else x.getD j 0) := by
  simp [orP, List.getElem?_map, List.getElem?_range hj]
theorem orP_zero {x y : List B} (hx : x.length = 16) : orP x y 0 = x := by
  apply List.ext_getElem?
  intro j
  rcases Nat.lt_or_ge j 16 with h | h
  · rw [orP_get _ _ _ _ h, if_neg (by omega), getD_lt (by omega), List.getElem?_eq_getElem (by omega)]
  · rw [List.getElem?_eq_none (by rw [orP_len]; exact h), List.getElem?_eq_none (by omega)]
theorem orP_end {x y : List B} (hx : x.length = 16) (hy : y.length = 16) : orP x y 16 = orL x y := by
  apply List.ext_getElem?
  intro j
  rcases Nat.lt_or_ge j 16 with h | h
  · rw [orP_get _ _ _ _ h, if_pos h, getD_lt (by omega), getD_lt (by omega), orL, List.getElem?_zipWith, List.getElem?_eq_getElem (by omega), List.getElem?_eq_getElem (by omega)]
  · rw [List.getElem?_eq_none (by rw [orP_len]; exact h), List.getElem?_eq_none (by rw [orL_len hx hy]; exact h)]
theorem orP_next {x y : List B} {i : Nat} (hi : i < 16) : (orP x y i).set i (x.getD i 0 ||| y.getD i 0) = orP x y (i + 1) := by
  apply List.ext_getElem?
  intro j
  rcases Nat.lt_or_ge j 16 with h | h
  · by_cases e : i = j
    · subst e
      rw [List.getElem?_set_self (by rw [orP_len]; exact h), orP_get _ _ _ _ h, if_pos (by omega)]
    · rw [List.getElem?_set_ne e, orP_get _ _ _ _ h, orP_get _ _ _ _ h]
      by_cases h2 : j < i
      · rw [if_pos h2, if_pos (by omega)]
      · rw [if_neg h2, if_neg (by omega)]
  · rw [List.getElem?_eq_none (by rw [List.length_set, orP_len]; exact h), List.getElem?_eq_none (by rw [orP_len]; exact h)]
theorem orP_at {x y : List B} {i : Nat} (hi : i < 16) : (orP x y i).getD i 0 = x.getD i 0 := by
  rw [List.getD_eq_getElem?_getD, orP_get _ _ _ _ hi, if_neg (by omega)]; rfl

structure OrIn (g2 g3 g4 : Nat) (w wr : World) (x y : List B) (i : Nat) : Prop where
  m : BmAt wr g2 (orP x y i)
  y : BmAt wr g3 y
  z : BmAt wr g4 (zb 16)
  keeps : Keeps (fun _ => False) w wr
theorem OrIn.next {g2 g3 g4 i : Nat} {w wr : World} {x y : List B} (h : OrIn g2 g3 g4 w wr x y i) (hi : i < 16) (h2 : w.heap.size ≤ g2) (h23 : g2 ≠ g3) (h24 : g2 ≠ g4) :
    OrIn g2 g3 g4 w (wr.setCell ⟨g2, i, none⟩ (.int .u8 (nb (x.getD i 0 ||| y.getD i 0)))) x y (i + 1) := by
  refine ⟨?_, h.y.keeps ((Keeps.refl (· = g2) _).setCell (.inl rfl) _) (Ne.symm h23), h.z.keeps ((Keeps.refl (· = g2) _).setCell (.inl rfl) _) (Ne.symm h24), h.keeps.setCell (.inr h2) _⟩
  rw [← orP_next hi]
  exact h.m.set _ _
theorem OrIn.drew {g2 g3 g4 i : Nat} {w wr : World} {x y : List B} (h : OrIn g2 g3 g4 w wr x y i) : OrIn g2 g3 g4 w wr.drew x y i := ⟨⟨h.m.row, h.m.len⟩, ⟨h.y.row, h.y.len⟩, ⟨h.z.row, h.z.len⟩, h.keeps.drew⟩

theorem run_index23 (y : List B) (hy : y.length = 16) (i : Nat) (hi : i < 16) (w : World) : (Instr.index 23 (.agg (brow y)) (.int .i64 (i : Int))).run Try.prog w = .ok (.int .u8 (nb (y.getD i 0))) w := by
  have hs5 : (sizeOf 5).run Try.prog w = .ok 1 w := by simp [go_sem]
  have hp := run_part5 y (i * 1) (by omega) w
  have hp' := run_part5 y i (by omega) w
  rw [getD_lt (by omega)]
  have h1 : (0 : Int) ≤ (i : Int) ∧ (i : Int) < 16 := by omega
  simp [Instr.index, Sem.run_bind, run_underlying Try.underlying23, hs5, hp', asIntOf, h1.1, h1.2, hi]

theorem or13 (w : World) (x y : List B) (hx : x.length = 16) (hy : y.length = 16) :
    Calls Try.prog 13 #[.agg (brow x), .agg (brow y)] w fun e w' => e = .returned (.agg (brow (orL x y))) ∧ Keeps (fun _ => False) w w' := by
  go_enter Try.func13, Try.ntmps13
  go_wp2_with (first
    | (refine wpList_box23 rfl (.tmp 0) rfl x hx rfl ?_; intro g2 w1 b1 z1 k1)
    | (refine wpList_box23 rfl (.tmp 1) rfl y hy rfl ?_; intro g3 w2 b2 z2 k2)
    | (refine wpList_alloc23 rfl rfl ?_; intro g4 w3 b3 z3 k3; have K3 := (k1.trans k2).trans k3; have b1' := (b1.keep k2).keep k3; have b2' := b2.keep k3; have h23 : g2 ≠ g3 := (by have := b1.lt; omega); have h24 : g2 ≠ g4 := (by have := b1.lt; have := k2.size; omega); have z4 : w.heap.size ≤ g4 := (by have := (k1.trans k2).size; omega); have h34 : g3 ≠ g4 := (by have := b2.lt; omega); clear k1 k2 k3 b1 b2 z2 z3)
    | (refine wpList_load23 rfl _ rfl g3 rfl y b2' ?_))
  go_loopw [8] (fun t wr => ∃ i : Nat, i ≤ 16 ∧ t = .int .i64 i ∧ OrIn g2 g3 g4 w wr x y i) (fun t _ => 16 - (intOf t).toNat)
  case atStart => exact ⟨0, by omega, rfl, by rw [orP_zero hx]; exact b1', b2', b3, K3⟩
  case round =>
    obtain ⟨i, hi, rfl, hO⟩ := hrel
    by_cases hlt : i < 16
    · have hcell := hO.m.cell hlt
      have hlive := hO.m.live i
      rw [orP_at hlt] at hcell
      have hcy := run_index23 y hy i hlt
      generalize hX : x.getD i 0 = p at hcell
      generalize hY : y.getD i 0 = q at hcy
      have hbp := nb_lt p
      have hbq := nb_lt q
      have hlt' : (i : Int) < 16 := by omega
      go_wp2
      rw [bits_or8, ← hX, ← hY]
      exact ⟨⟨i + 1, by omega, rfl, hO.next hlt z1 h23 h24⟩, by simp [intOf]; omega⟩
    · obtain rfl : i = 16 := by omega
      obtain ⟨bm, by', bz, hK⟩ := hO
      rw [orP_end hx hy] at bm
      have hl := bm.len
      have hs := bm.size
      obtain ⟨M, hM⟩ : ∃ M, orL x y = M := ⟨_, rfl⟩
      have HM : Hid (orL x y = M) := hM
      rw [hM] at bm hl hs
      clear hM
      go_wp2_with (first
        | (refine wpList_load23 rfl _ rfl g2 rfl M bm ?_)
        | (refine wpList_store23 rfl _ _ rfl g4 rfl M rfl hl _ bz ?_; intro w4 b4 k4))
      refine bodyPost_ret (v := .agg (brow M)) (results_cell_row rfl _ _ g4 23 (brow M) (0, 0) _ rfl b4.row Try.underlying23 rfl (by rw [hs]; exact size23)) rfl ⟨by rw [HM.out], hK.trans' k4 (fun i e => .inr (by omega))⟩

theorem or14 (w : World) (x y : List B) (hx : x.length = 16) (hy : y.length = 16) :
    Calls Try.prog 14 #[.agg (brow x), .agg (brow y)] w fun e w' => e = .returned (.agg (brow (orL x y))) ∧ Keeps (fun _ => False) w w' := by
  go_enter Try.func14, Try.ntmps14
  go_wp2_with (first
    | (refine wpList_box23 rfl (.tmp 0) rfl x hx rfl ?_; intro g2 w1 b1 z1 k1)
    | (refine wpList_box23 rfl (.tmp 1) rfl y hy rfl ?_; intro g3 w2 b2 z2 k2)
    | (refine wpList_alloc23 rfl rfl ?_; intro g4 w3 b3 z3 k3; have K3 := (k1.trans k2).trans k3; have b1' := (b1.keep k2).keep k3; have b2' := b2.keep k3; have h23 : g2 ≠ g3 := (by have := b1.lt; omega); have h24 : g2 ≠ g4 := (by have := b1.lt; have := k2.size; omega); have z4 : w.heap.size ≤ g4 := (by have := (k1.trans k2).size; omega); have h34 : g3 ≠ g4 := (by have := b2.lt; omega); clear k1 k2 k3 b1 b2 z2 z3))
  go_loopw [5] (fun t wr => ∃ i : Nat, i ≤ 16 ∧ t = .int .i64 i ∧ OrIn g2 g3 g4 w wr x y i) (fun t _ => 16 - (intOf t).toNat)
  case atStart => exact ⟨0, by omega, rfl, by rw [orP_zero hx]; exact b1', b2', b3, K3⟩
  case round =>
    obtain ⟨i, hi, rfl, hO⟩ := hrel
    by_cases hlt : i < 16
    · have hcell := hO.m.cell hlt
      have hlive := hO.m.live i
      rw [orP_at hlt] at hcell
      have hcy := hO.y.cell hlt
      generalize hX : x.getD i 0 = p at hcell
      generalize hY : y.getD i 0 = q at hcy
      have hbp := nb_lt p
      have hbq := nb_lt q
      have hlt' : (i : Int) < 16 := by omega
      go_wp2
      refine region_tail 8 (by kernel_rfl) (by kernel_rfl) ?_
      simp only [List.take_succ_cons, List.take_zero]
      iterate 8 (go_big_quiet_step (fail))
      refine wpQuiet_nil ?_
      simp only [List.drop_succ_cons, List.drop_zero]
      go_wp2
      rw [bits_or8, ← hX, ← hY]
      exact ⟨⟨i + 1, by omega, rfl, (hO.next hlt z1 h23 h24).drew⟩, by simp [intOf]; omega⟩
    · obtain rfl : i = 16 := by omega
      obtain ⟨bm, by', bz, hK⟩ := hO
      rw [orP_end hx hy] at bm
      have hl := bm.len
      have hs := bm.size
      obtain ⟨M, hM⟩ : ∃ M, orL x y = M := ⟨_, rfl⟩
      have HM : Hid (orL x y = M) := hM
      rw [hM] at bm hl hs
      clear hM
      go_wp2_with (first
        | (refine wpList_load23 rfl _ rfl g2 rfl M bm ?_)
        | (refine wpList_store23 rfl _ _ rfl g4 rfl M rfl hl _ bz ?_; intro w4 b4 k4))
      refine bodyPost_ret (v := .agg (brow M)) (results_cell_row rfl _ _ g4 23 (brow M) (0, 0) _ rfl b4.row Try.underlying23 rfl (by rw [hs]; exact size23)) rfl ⟨by rw [HM.out], hK.trans' k4 (fun i e => .inr (by omega))⟩

structure CtIn (g2 : Nat) (w wr : World) (L : List B) : Prop where
  m : BmAt wr g2 L
  keeps : Keeps (fun _ => False) w wr
theorem CtIn.keep {g2 : Nat} {w wr w' : World} {L : List B} (h : CtIn g2 w wr L) (k : Keeps (fun _ => False) wr w') : CtIn g2 w w' L := ⟨h.m.keep k, h.keeps.trans k⟩

theorem count15 (w : World) (L : List B) (hL : L.length = 16) (k : Int) (hk : -9223372036854775808 ≤ k ∧ k ≤ 9223372036854775807) :
    Calls Try.prog 15 #[.agg (brow L), .int .i64 k] w fun e w' => e = .returned (.int .i64 (cnt L (min k.toNat 128) : Int)) ∧ Keeps (fun _ => False) w w' := by
  obtain ⟨N, hN⟩ : ∃ N : Nat, min k.toNat 128 = N := ⟨_, rfl⟩
  have HN : Hid (∀ b : Nat, b < N ↔ ((b : Int) < k ∧ b < 128)) := fun b => by omega
  have hN2 : N ≤ 128 := by omega
  rw [hN]
  clear hN
  go_enter Try.func15, Try.ntmps15
  have hcase : k ≤ 128 ∨ 128 < k := by omega
  rcases hcase with hkk | hkk
  all_goals
    go_wp2_with (first
      | (refine wpList_box23 rfl _ rfl L hL rfl ?_; intro g2 w1 b1 z1 k1))
    go_loopw [5, 9] (fun v t wr => ∃ b : Nat, b ≤ N ∧ t = .int .i64 b ∧ v = .int .i64 (cnt L b : Int) ∧ CtIn g2 w wr L) (fun _ t _ => N - (intOf t).toNat)
    case atStart => exact ⟨0, by omega, rfl, rfl, b1, k1⟩
    case round =>
      obtain ⟨b, hb, rfl, rfl, hC⟩ := hrel
      have hcb := cnt_le L b
      by_cases hlt : b < N
      · obtain ⟨h1, h2⟩ := (HN.out b).1 hlt
        have h2' : (b : Int) < 128 := by omega
        have bm := hC.m
        have hnext : cnt L (b + 1) = cnt L b + (bit L b).toNat := rfl
        have hcall := has_nat (L := L) h2
        cases hbit : bit L b with
        | true =>
          rw [hbit] at hcall hnext
          have HX : Hid (cnt L (b + 1) = cnt L b + 1) := hnext
          clear hnext
          generalize cnt L b = v at *
          go_wp2_with (first
            | (refine wpList_load23 rfl _ rfl g2 rfl L bm ?_)
            | (go_at_call 11; refine (has11 _ L bm.len _).mono ?_; rintro e w3 ⟨rfl, k3⟩; rw [hcall]; have hC3 := hC.keep k3; clear hC))
          exact ⟨⟨b + 1, by omega, rfl, by rw [HX.out]; rfl, hC3⟩, by simp [intOf]; omega⟩
        | false =>
          rw [hbit] at hcall hnext
          have HX : Hid (cnt L (b + 1) = cnt L b) := hnext
          clear hnext
          generalize cnt L b = v at *
          go_wp2_with (first
            | (refine wpList_load23 rfl _ rfl g2 rfl L bm ?_)
            | (go_at_call 11; refine (has11 _ L bm.len _).mono ?_; rintro e w3 ⟨rfl, k3⟩; rw [hcall]; have hC3 := hC.keep k3; clear hC))
          exact ⟨⟨b + 1, by omega, rfl, by rw [HX.out], hC3⟩, by simp [intOf]; omega⟩
      · obtain rfl : b = N := by omega
        have h1 := HN.out b
        have h2 : ¬ (b : Int) < k ∨ ¬ b < 128 := by omega
        have h3 : k ≤ 128 → ¬ (b : Int) < k := by omega
        have h4 : 128 < k → ¬ (b : Int) < 128 := by omega
        first | (have h5 := h3 hkk) | (have h5 := h4 hkk)
        clear h1 h2 h3 h4
        go_wp2
        go_ret
        exact ⟨rfl, hC.keeps⟩

theorem count16 (w : World) (L : List B) (hL : L.length = 16) (k : Int) (hk : -9223372036854775808 ≤ k ∧ k ≤ 9223372036854775807) :
    Calls Try.prog 16 #[.agg (brow L), .int .i64 k] w fun e w' => e = .returned (.int .i64 (cnt L (min k.toNat 128) : Int)) ∧ Keeps (fun _ => False) w w' := by
  obtain ⟨N, hN⟩ : ∃ N : Nat, min k.toNat 128 = N := ⟨_, rfl⟩
  have HN : Hid (∀ b : Nat, b < N ↔ ((b : Int) < k ∧ b < 128)) := fun b => by omega
  have hN2 : N ≤ 128 := by omega
  rw [hN]
  clear hN
  go_enter Try.func16, Try.ntmps16
  go_wp2_with (first
    | (refine wpList_box23 rfl _ rfl L hL rfl ?_; intro g2 w1 b1 z1 k1))
  go_loopw [5, 6] (fun v t wr => ∃ b : Nat, b ≤ N ∧ t = .int .i64 b ∧ v = .int .i64 (cnt L b : Int) ∧ CtIn g2 w wr L) (fun _ t _ => N - (intOf t).toNat)
  case atStart => exact ⟨0, by omega, rfl, rfl, b1, k1⟩
  case round =>
    obtain ⟨b, hb, rfl, rfl, hC⟩ := hrel
    have hcb := cnt_le L b
    by_cases hlt : b < N
    · obtain ⟨h1, h2⟩ := (HN.out b).1 hlt
      have h2' : (b : Int) < 128 := by omega
      have bm := hC.m
      have hnext : cnt L (b + 1) = cnt L b + (bit L b).toNat := rfl
      have hcall := has_nat (L := L) h2
      cases hbit : bit L b with
      | true =>
        rw [hbit] at hcall hnext
        have HX : Hid (cnt L (b + 1) = cnt L b + 1) := hnext
        clear hnext
        generalize cnt L b = v at *
        go_wp2_with (first
          | (refine wpList_load23 rfl _ rfl g2 rfl L bm ?_)
          | (go_at_call 12; refine (has12 _ L bm.len _).mono ?_; rintro e w3 ⟨rfl, k3⟩; rw [hcall]; have hC3 := hC.keep k3; clear hC))
        exact ⟨⟨b + 1, by omega, rfl, by rw [HX.out]; rfl, hC3⟩, by simp [intOf]; omega⟩
      | false =>
        rw [hbit] at hcall hnext
        have HX : Hid (cnt L (b + 1) = cnt L b) := hnext
        clear hnext
        generalize cnt L b = v at *
        go_wp2_with (first
          | (refine wpList_load23 rfl _ rfl g2 rfl L bm ?_)
          | (go_at_call 12; refine (has12 _ L bm.len _).mono ?_; rintro e w3 ⟨rfl, k3⟩; rw [hcall]; have hC3 := hC.keep k3; clear hC))
        exact ⟨⟨b + 1, by omega, rfl, by rw [HX.out], hC3⟩, by simp [intOf]; omega⟩
    · obtain rfl : b = N := by omega
      have h1 := HN.out b
      by_cases h2 : (b : Int) < k
      · have h5 : ¬ (b : Int) < 128 := by omega
        clear h1
        go_wp2
        go_ret
        exact ⟨rfl, hC.keeps⟩
      · clear h1
        go_wp2
        go_ret
        exact ⟨rfl, hC.keeps⟩

end Go.Proofs.Ytadbgidchojfkaa
