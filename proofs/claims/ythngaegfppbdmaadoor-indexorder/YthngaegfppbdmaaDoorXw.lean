/-
  Unpack of the reference's index.
-/
import Derived.Test.YthngaegfppbdmaaDoorXv
set_option linter.all false
namespace Go.Proofs.YthngaegfppbdmaaDoor
open Go.RowKit Go.Sort Go.Shelf
attribute [local go_sem] Oper.semAt_some

theorem dec16_is {x : List B} {l : List En} (h : isLf x = true) (hl : ents x = l) (w : World) (hx : x.length = 128) :
    Calls Tryd.prog 18 #[.agg (brow x)] w fun e w' => (∃ a c, e = .returned (.tuple #[.slice a l.length c, .int .i64 0]) ∧ SlE w' a l.length c l) ∧ Keeps (fun _ => False) w w' :=
  (dec16 w x hx).mono fun e w' ⟨hd, hk⟩ => by
    cases hd with
    | ok _ a c he hs => exact ⟨⟨a, c, by rw [he, hl], by rw [← hl]; exact hs⟩, hk⟩
    | no h' _ => rw [h] at h'; cases h'
theorem dec16_not {x : List B} (h : isLf x = false) (w : World) (hx : x.length = 128) :
    Calls Tryd.prog 18 #[.agg (brow x)] w fun e w' => e = .returned (.tuple #[.slice none 0 0, .int .i64 11]) ∧ Keeps (fun _ => False) w w' :=
  (dec16 w x hx).mono fun e w' ⟨hd, hk⟩ => by
    cases hd with
    | ok h' _ _ _ _ => rw [h] at h'; cases h'
    | no _ he => exact ⟨he, hk⟩
theorem good35_at {l : List En} {v : Bool} (h : ix l = v) (w : World) (a : Option Addr) (n c : Nat) (hl : SlE w a n c l) (hn : n ≤ 9223372036854775806) :
    Calls Tryd.prog 35 #[.slice a n c] w fun e w' => e = .returned (.bool v) ∧ Keeps (fun _ => False) w w' := by
  rw [← h]; exact good35 w a n c l hl hn

set_option maxRecDepth 100000 in
set_option maxHeartbeats 8000000 in
theorem unpack33 (w : World) (a : Option Addr) (m c : Nat) (X : List B) (hX : SlB w a (m * 128) (c * 128) X) (hm : m ≤ 1000) :
    Calls Tryd.prog 33 #[.slice a m c] w fun e w' => UnTold (unR X m).1 (unR X m).2 e w' ∧ Keeps (fun _ => False) w w' := by
  have HX : Hid (X.length = m * 128) := hX.len
  have hsl : 0 < m → ∀ b o, a = some ⟨b, o, none⟩ → b < w.heap.size := fun h0 b o e => slb_lt hX (by omega) e
  have Hsl : Hid (0 < m → ∀ b o, a = some ⟨b, o, none⟩ → b < w.heap.size) := hsl
  clear hsl
  go_enter Tryd.func33, Tryd.ntmps33
  go_wp2
  go_loopw [4, 5] (fun v t wr => ∃ i : Nat, i ≤ m ∧ t = .int .i64 (i : Int) ∧ OwnE wr w.heap.size v (ual X i) ∧ Hid (∀ j, j < i → ubad X m j = false) ∧ Keeps (fun _ => False) w wr) (fun v t _ => m - (intOf t).toNat)
  case atStart => exact ⟨0, by omega, rfl, OwnE.nil _ _, (fun j hj => by omega), Keeps.refl _ _⟩
  case round =>
    obtain ⟨i, hi, rfl, O, HA, KW⟩ := hrel
    by_cases hlt : i < m
    · have hlt' : (i : Int) < (m : Int) := by omega
      have hi0 : (0 : Int) ≤ (i : Int) := by omega
      obtain ⟨b, o, rfl, lx, hr⟩ := (hX.keeps KW (fun _ _ _ _ h => h)).blk i hlt
      have hr0 := hr _ (Keeps.refl _ _)
      clear hr
      obtain ⟨x, hx⟩ : ∃ x, blk X i = x := ⟨_, rfl⟩
      have Hx : Hid (blk X i = x) := hx
      rw [hx] at lx hr0
      have hul := ual_len X i
      have zw := KW.size
      clear hx
      cases hI : isLf x with
      | false =>
        have HI : Hid (isLf x = false) := hI
        have HU : Hid (unR X m = ([], 11)) := unR_bad hlt (ubad_no (by rw [Hx.out]; exact hI))
        clear hI
        go_wp2_with (first
          | (refine wpList_loadB rfl _ rfl b (o + i * 128) rfl x lx hr0 ?_)
          | (go_at_call 18; refine (dec16_not HI.out _ lx).mono ?_; rintro e w3 ⟨rfl, k3⟩))
        go_ret2
        rw [HU.out]
        exact ⟨UnTold.nil _ _, KW.trans k3⟩
      | true =>
        have HI : Hid (isLf x = true) := hI
        obtain ⟨l3, hl3⟩ : ∃ l3, ents x = l3 := ⟨_, rfl⟩
        have HL : Hid (ents x = l3) := hl3
        obtain ⟨k, hk⟩ : ∃ k, l3.length = k := ⟨_, rfl⟩
        have Hk : Hid (l3.length = k) := hk
        have hk1 : 0 < k := by rw [← hk, ← hl3]; exact isLf_len hI
        have hk3 : k ≤ 3 := by rw [← hk, ← hl3]; exact ents_le x
        have HC : Hid (ual X (i + 1) = ual X i ++ l3) := by show _ = _; rw [ual_succ, Hx.out, hl3]
        have cs : (k < 3 ∧ i + 1 < m) ∨ (k < 3 ∧ i + 1 = m) ∨ ¬ k < 3 := by omega
        have hb1 : (k < 3 ∧ i + 1 < m) → ubad X m i = true := fun h => ubad_few (by rw [Hx.out, hl3, hk]; exact h.1) h.2
        have hb2 : ((k < 3 ∧ i + 1 = m) ∨ ¬ k < 3) → ubad X m i = false := fun h => by
          rcases h with h | h
          · exact ubad_last (by rw [Hx.out]; exact hI) (by omega)
          · exact ubad_full (by rw [Hx.out]; exact hI) (by rw [Hx.out, hl3, hk]; exact h)
        have HB1 : Hid (_ → ubad X m i = true) := hb1
        have HB2 : Hid (_ → ubad X m i = false) := hb2
        have hd : ∀ w', Calls Tryd.prog 18 #[.agg (brow x)] w' fun e w'' => (∃ a c, e = .returned (.tuple #[.slice a k c, .int .i64 0]) ∧ SlE w'' a k c l3) ∧ Keeps (fun _ => False) w' w'' := fun w' => by
          have := dec16_is hI hl3 w' lx
          rw [hk] at this; exact this
        have HD : Hid (∀ w', Calls Tryd.prog 18 #[.agg (brow x)] w' fun e w'' => (∃ a c, e = .returned (.tuple #[.slice a k c, .int .i64 0]) ∧ SlE w'' a k c l3) ∧ Keeps (fun _ => False) w' w'') := hd
        clear hI hl3 hk hb1 hb2 hd
        rcases cs with ⟨c1, c2⟩ | ⟨c1, c2⟩ | c1
        · have c1' : (k : Int) < 3 := by omega
          have c2' : (i : Int) + 1 < (m : Int) := by omega
          have HU : Hid (unR X m = ([], 11)) := unR_bad hlt (HB1.out ⟨c1, c2⟩)
          go_wp2_with (first
            | (refine wpList_loadB rfl _ rfl b (o + i * 128) rfl x lx hr0 ?_)
            | (go_at_call 18; refine (HD.out _).mono ?_; rintro e w3 ⟨⟨a3, c3, rfl, s3⟩, k3⟩))
          go_ret2
          rw [HU.out]
          exact ⟨UnTold.nil _ _, KW.trans k3⟩
        · have c1' : (k : Int) < 3 := by omega
          have HG : Hid (ubad X m i = false) := HB2.out (.inl ⟨c1, c2⟩)
          have Hc2 : Hid (i + 1 = m) := c2
          have c2' : ¬ (i : Int) + 1 < (m : Int) := by omega
          clear c2
          go_wp2_with (first
            | (refine wpList_loadB rfl _ rfl b (o + i * 128) rfl x lx hr0 ?_)
            | (go_at_call 18; refine (HD.out _).mono ?_; rintro e w3 ⟨⟨a3, c3, rfl, s3⟩, k3⟩; obtain ⟨b3, o3, rfl, _⟩ := s3.ent (i := 0) hk1; have K3 := k3; have O3 := O.kept K3 (fun _ _ h => h); have z3 := K3.size)
            | (refine wpList_appSE rfl _ _ rfl w.heap.size _ (ual X i) rfl O3 b3 o3 k c3 l3 rfl s3 (by omega) (by omega) ?_; intro v4 w4 o4 k4))
          have K4 : Keeps (fun _ => False) w w4 := (KW.trans K3).trans' k4 (fun i e => .inr (O3.from e).1)
          exact ⟨⟨i + 1, by omega, by go_num, by rw [HC.out]; exact o4, (fun q hq => by
            by_cases h : q < i
            · exact HA.out q h
            · obtain rfl : q = i := (by omega)
              exact HG.out), K4⟩, by simp [intOf]; omega⟩
        · have c1' : ¬ (k : Int) < 3 := by omega
          have HG : Hid (ubad X m i = false) := HB2.out (.inr c1)
          go_wp2_with (first
            | (refine wpList_loadB rfl _ rfl b (o + i * 128) rfl x lx hr0 ?_)
            | (go_at_call 18; refine (HD.out _).mono ?_; rintro e w3 ⟨⟨a3, c3, rfl, s3⟩, k3⟩; obtain ⟨b3, o3, rfl, _⟩ := s3.ent (i := 0) hk1; have K3 := k3; have O3 := O.kept K3 (fun _ _ h => h); have z3 := K3.size)
            | (refine wpList_appSE rfl _ _ rfl w.heap.size _ (ual X i) rfl O3 b3 o3 k c3 l3 rfl s3 (by omega) (by omega) ?_; intro v4 w4 o4 k4))
          have K4 : Keeps (fun _ => False) w w4 := (KW.trans K3).trans' k4 (fun i e => .inr (O3.from e).1)
          exact ⟨⟨i + 1, by omega, by go_num, by rw [HC.out]; exact o4, (fun q hq => by
            by_cases h : q < i
            · exact HA.out q h
            · obtain rfl : q = i := (by omega)
              exact HG.out), K4⟩, by simp [intOf]; omega⟩
    · obtain rfl : i = m := by omega
      have hlt' : ¬ (i : Int) < (i : Int) := by omega
      have HU : Hid (unR X i = if ix (ual X i) = true then (ual X i, 0) else ([], 11)) := unR_end HA.out
      obtain ⟨v, hv⟩ : ∃ v, ix (ual X i) = v := ⟨_, rfl⟩
      have HV : Hid (ix (ual X i) = v) := hv
      obtain ⟨a4, c4, rfl, s4, _⟩ := O.slice
      have hul := ual_len X i
      generalize hL : ual X i = L at *
      have HLe : Hid (L.length = L.length) := rfl
      clear hv
      cases v
      all_goals
        go_wp2_with (go_at_call 35; refine (good35_at HV.out _ a4 _ c4 s4 (by omega)).mono ?_; rintro e w5 ⟨rfl, k5⟩)
        go_ret2
        rw [HU.out, HV.out]
      · exact ⟨UnTold.nil _ _, KW.trans k5⟩
      · exact ⟨⟨a4, c4, rfl, s4.keep k5⟩, KW.trans k5⟩


end Go.Proofs.YthngaegfppbdmaaDoor
