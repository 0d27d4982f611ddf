/-
  Unpack of the program's index, and the reference's.
-/
import Derived.Test.YthngaegfppbdmaaDoorXt
import Derived.Test.YthngaegfppbdmaaDoorXk
import Derived.Test.YthngaegfppbdmaaDoorTo
set_option linter.all false
namespace Go.Proofs.YthngaegfppbdmaaDoor
open Go.RowKit Go.Sort Go.Shelf
attribute [local go_sem] Oper.semAt_some

/-- What Unpack told, in memory. -/
def UnTold (l : List En) (v : Int) (e : Ending) (w : World) : Prop := ∃ a c, e = .returned (.tuple #[.slice a l.length c, .int .i64 v]) ∧ SlE w a l.length c l
theorem UnTold.nil (v : Int) (w : World) : UnTold [] v (.returned (.tuple #[.slice none 0 0, .int .i64 v])) w := ⟨none, 0, rfl, SlE.nil w⟩
theorem ubad_no {X : List B} {m i : Nat} (h : isLf (blk X i) = false) : ubad X m i = true := by unfold ubad; rw [h]; rfl
theorem ubad_few {X : List B} {m i : Nat} (h : (ents (blk X i)).length < 3) (hi : i + 1 < m) : ubad X m i = true := by
  unfold ubad; rw [decide_eq_true h, decide_eq_true hi, Bool.and_true, Bool.or_true]
theorem ubad_last {X : List B} {m i : Nat} (h : isLf (blk X i) = true) (hi : ¬ i + 1 < m) : ubad X m i = false := by
  unfold ubad; rw [h, decide_eq_false hi, Bool.and_false]; rfl
theorem ubad_full {X : List B} {m i : Nat} (h : isLf (blk X i) = true) (hi : ¬ (ents (blk X i)).length < 3) : ubad X m i = false := by
  unfold ubad; rw [h, decide_eq_false hi]; rfl
theorem isLf_len {x : List B} (h : isLf x = true) : 1 ≤ (ents x).length := (gd_len (isLf_iff.1 h).1).1

set_option maxRecDepth 100000 in
set_option maxHeartbeats 8000000 in
theorem unpack32 (w : World) (hT : Tabs w) (a : Option Addr) (m c : Nat) (X : List B) (hX : SlB w a (m * 128) (c * 128) X) (hm : m ≤ 1000) :
    Calls Tryd.prog 32 #[.slice a m c] w fun e w' => UnTold (unR X m).1 (unR X m).2 e w' ∧ Keeps (fun _ => False) w w' := by
  have HX : Hid (X.length = m * 128) := hX.len
  have hsl : 0 < m → ∀ b o, a = some ⟨b, o, none⟩ → b < w.heap.size := fun h0 b o e => slb_lt hX (by omega) e
  have Hsl : Hid (0 < m → ∀ b o, a = some ⟨b, o, none⟩ → b < w.heap.size) := hsl
  clear hsl
  go_enter Tryd.func32, Tryd.ntmps32
  go_wp2
  go_loopw [4, 12] (fun v t wr => ∃ i : Nat, i ≤ m ∧ t = .int .i64 (i : Int) ∧ OwnE wr w.heap.size v (ual X i) ∧ Hid (∀ j, j < i → ubad X m j = false) ∧ Keeps (fun _ => False) w wr) (fun v t _ => m - (intOf t).toNat)
  case atStart => exact ⟨0, by omega, rfl, OwnE.nil _ _, (fun j hj => by omega), Keeps.refl _ _⟩
  case round =>
    obtain ⟨i, hi, rfl, O, HA, KW⟩ := hrel
    by_cases hlt : i < m
    · have hlt' : (i : Int) < (m : Int) := by omega
      have hi0 : (0 : Int) ≤ (i : Int) := by omega
      obtain ⟨b, o, rfl, lx, hr⟩ := (hX.keeps KW (fun _ _ _ _ h => h)).blk i hlt
      have hr0 := hr _ (Keeps.refl _ _)
      clear hr
      obtain ⟨x, hx⟩ : ∃ x, blk X i = x := ⟨_, rfl⟩
      have Hx : Hid (blk X i = x) := hx
      rw [hx] at lx hr0
      have hTr := hT.keeps KW (fun h => h) (fun h => h)
      have hul := ual_len X i
      have zw := KW.size
      clear hx
      cases hI : isLf x with
      | false =>
        have HI : Hid (isLf x = false) := hI
        have HU : Hid (unR X m = ([], 11)) := unR_bad hlt (ubad_no (by rw [Hx.out]; exact hI))
        clear hI
        go_wp2_with (first
          | (refine wpList_loadB rfl _ rfl b (o + i * 128) rfl x lx hr0 ?_)
          | (refine wpList_alloc26 rfl rfl ?_; intro g6 w1 b1 z1 k1)
          | (refine wpList_store26 rfl _ _ rfl g6 rfl x rfl lx _ b1 ?_; intro w2 b2 k2; have K2 : Keeps (fun _ => False) wr w2 := k1.trans' k2 (fun i e => .inr (by omega)))
          | (refine wpList_load26 rfl _ rfl g6 rfl x b2 ?_)
          | (go_at_call 17; refine (decP_not HI.out _ (hTr.keeps K2 (fun h => h) (fun h => h)) lx).mono ?_; rintro e w3 ⟨rfl, k3⟩))
        go_ret2
        rw [HU.out]
        exact ⟨UnTold.nil _ _, KW.trans (K2.trans k3)⟩
      | true =>
        have HI : Hid (isLf x = true) := hI
        obtain ⟨l3, hl3⟩ : ∃ l3, ents x = l3 := ⟨_, rfl⟩
        have HL : Hid (ents x = l3) := hl3
        obtain ⟨k, hk⟩ : ∃ k, l3.length = k := ⟨_, rfl⟩
        have Hk : Hid (l3.length = k) := hk
        have hk1 : 0 < k := by rw [← hk, ← hl3]; exact isLf_len hI
        have hk3 : k ≤ 3 := by rw [← hk, ← hl3]; exact ents_le x
        have HC : Hid (ual X (i + 1) = ual X i ++ l3) := by show _ = _; rw [ual_succ, Hx.out, hl3]
        have cs : (k < 3 ∧ i + 1 < m) ∨ (k < 3 ∧ i + 1 = m) ∨ ¬ k < 3 := by omega
        have hb1 : (k < 3 ∧ i + 1 < m) → ubad X m i = true := fun h => ubad_few (by rw [Hx.out, hl3, hk]; exact h.1) h.2
        have hb2 : ((k < 3 ∧ i + 1 = m) ∨ ¬ k < 3) → ubad X m i = false := fun h => by
          rcases h with h | h
          · exact ubad_last (by rw [Hx.out]; exact hI) (by omega)
          · exact ubad_full (by rw [Hx.out]; exact hI) (by rw [Hx.out, hl3, hk]; exact h)
        have HB1 : Hid (_ → ubad X m i = true) := hb1
        have HB2 : Hid (_ → ubad X m i = false) := hb2
        have hd : ∀ w', Tabs w' → Calls Tryd.prog 17 #[.agg (brow x)] w' fun e w'' => (∃ a c, e = .returned (.tuple #[.slice a k c, .int .i64 0]) ∧ SlE w'' a k c l3) ∧ Keeps (fun _ => False) w' w'' := fun w' ht => by
          have := decP_is hI hl3 w' ht lx
          rw [hk] at this; exact this
        have HD : Hid (∀ w', Tabs w' → Calls Tryd.prog 17 #[.agg (brow x)] w' fun e w'' => (∃ a c, e = .returned (.tuple #[.slice a k c, .int .i64 0]) ∧ SlE w'' a k c l3) ∧ Keeps (fun _ => False) w' w'') := hd
        clear hI hl3 hk hb1 hb2 hd
        rcases cs with ⟨c1, c2⟩ | ⟨c1, c2⟩ | c1
        · have c1' : (k : Int) < 3 := by omega
          have hb9 : ((i : Int) == (m : Int) - 1) = false := by simp; omega
          have HU : Hid (unR X m = ([], 11)) := unR_bad hlt (HB1.out ⟨c1, c2⟩)
          go_wp2_with (first
            | (refine wpList_loadB rfl _ rfl b (o + i * 128) rfl x lx hr0 ?_)
            | (refine wpList_alloc26 rfl rfl ?_; intro g6 w1 b1 z1 k1)
            | (refine wpList_store26 rfl _ _ rfl g6 rfl x rfl lx _ b1 ?_; intro w2 b2 k2; have K2 : Keeps (fun _ => False) wr w2 := k1.trans' k2 (fun i e => .inr (by omega)))
            | (refine wpList_load26 rfl _ rfl g6 rfl x b2 ?_)
            | (go_at_call 17; refine (HD.out _ (hTr.keeps K2 (fun h => h) (fun h => h))).mono ?_; rintro e w3 ⟨⟨a3, c3, rfl, s3⟩, k3⟩))
          go_ret2
          rw [HU.out]
          exact ⟨UnTold.nil _ _, KW.trans (K2.trans k3)⟩
        · have c1' : (k : Int) < 3 := by omega
          have HG : Hid (ubad X m i = false) := HB2.out (.inl ⟨c1, c2⟩)
          have Hc2 : Hid (i + 1 = m) := c2
          have hb9 : ((i : Int) == (m : Int) - 1) = true := by simp; omega
          clear c2
          go_wp2_with (first
            | (refine wpList_loadB rfl _ rfl b (o + i * 128) rfl x lx hr0 ?_)
            | (refine wpList_alloc26 rfl rfl ?_; intro g6 w1 b1 z1 k1)
            | (refine wpList_store26 rfl _ _ rfl g6 rfl x rfl lx _ b1 ?_; intro w2 b2 k2; have K2 : Keeps (fun _ => False) wr w2 := k1.trans' k2 (fun i e => .inr (by omega)))
            | (refine wpList_load26 rfl _ rfl g6 rfl x b2 ?_)
            | (go_at_call 17; refine (HD.out _ (hTr.keeps K2 (fun h => h) (fun h => h))).mono ?_; rintro e w3 ⟨⟨a3, c3, rfl, s3⟩, k3⟩; obtain ⟨b3, o3, rfl, _⟩ := s3.ent (i := 0) hk1; have K3 := K2.trans k3; have O3 := O.kept K3 (fun _ _ h => h); have z3 := K3.size)
            | (refine wpList_appSE rfl _ _ rfl w.heap.size _ (ual X i) rfl O3 b3 o3 k c3 l3 rfl s3 (by omega) (by omega) ?_; intro v4 w4 o4 k4))
          have K4 : Keeps (fun _ => False) w w4 := (KW.trans K3).trans' k4 (fun i e => .inr (O3.from e).1)
          exact ⟨⟨i + 1, by omega, by go_num, by rw [HC.out]; exact o4, (fun q hq => by
            by_cases h : q < i
            · exact HA.out q h
            · obtain rfl : q = i := (by omega)
              exact HG.out), K4⟩, by simp [intOf]; omega⟩
        · have c1' : ¬ (k : Int) < 3 := by omega
          have HG : Hid (ubad X m i = false) := HB2.out (.inr c1)
          go_wp2_with (first
            | (refine wpList_loadB rfl _ rfl b (o + i * 128) rfl x lx hr0 ?_)
            | (refine wpList_alloc26 rfl rfl ?_; intro g6 w1 b1 z1 k1)
            | (refine wpList_store26 rfl _ _ rfl g6 rfl x rfl lx _ b1 ?_; intro w2 b2 k2; have K2 : Keeps (fun _ => False) wr w2 := k1.trans' k2 (fun i e => .inr (by omega)))
            | (refine wpList_load26 rfl _ rfl g6 rfl x b2 ?_)
            | (go_at_call 17; refine (HD.out _ (hTr.keeps K2 (fun h => h) (fun h => h))).mono ?_; rintro e w3 ⟨⟨a3, c3, rfl, s3⟩, k3⟩; obtain ⟨b3, o3, rfl, _⟩ := s3.ent (i := 0) hk1; have K3 := K2.trans k3; have O3 := O.kept K3 (fun _ _ h => h); have z3 := K3.size)
            | (refine wpList_appSE rfl _ _ rfl w.heap.size _ (ual X i) rfl O3 b3 o3 k c3 l3 rfl s3 (by omega) (by omega) ?_; intro v4 w4 o4 k4))
          have K4 : Keeps (fun _ => False) w w4 := (KW.trans K3).trans' k4 (fun i e => .inr (O3.from e).1)
          exact ⟨⟨i + 1, by omega, by go_num, by rw [HC.out]; exact o4, (fun q hq => by
            by_cases h : q < i
            · exact HA.out q h
            · obtain rfl : q = i := (by omega)
              exact HG.out), K4⟩, by simp [intOf]; omega⟩
    · obtain rfl : i = m := by omega
      have hlt' : ¬ (i : Int) < (i : Int) := by omega
      have HU : Hid (unR X i = if ix (ual X i) = true then (ual X i, 0) else ([], 11)) := unR_end HA.out
      obtain ⟨v, hv⟩ : ∃ v, ix (ual X i) = v := ⟨_, rfl⟩
      have HV : Hid (ix (ual X i) = v) := hv
      obtain ⟨a4, c4, rfl, s4, _⟩ := O.slice
      have hul := ual_len X i
      generalize hL : ual X i = L at *
      have HLe : Hid (L.length = L.length) := rfl
      clear hv
      cases v
      all_goals
        go_wp2_with (go_at_call 34; refine (good34_at HV.out _ a4 _ c4 s4 (by omega)).mono ?_; rintro e w5 ⟨rfl, k5⟩)
        go_ret2
        rw [HU.out, HV.out]
      · exact ⟨UnTold.nil _ _, KW.trans k5⟩
      · exact ⟨⟨a4, c4, rfl, s4.keep k5⟩, KW.trans k5⟩

end Go.Proofs.YthngaegfppbdmaaDoor
