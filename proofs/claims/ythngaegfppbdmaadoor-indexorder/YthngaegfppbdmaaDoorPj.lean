/-
  Root of the program's leaf.
-/
import Derived.Test.YthngaegfppbdmaaDoorPi
set_option linter.all false
namespace Go.Proofs.YthngaegfppbdmaaDoor
open Go.RowKit Go.Sort

theorem index76 (w : World) (b o n c : Nat) (l : List Int) (hl : l.length = n) (hc : ∀ i, i < n → w.cell? ⟨b, o + i, none⟩ = some (.int .i64 (l.getD i 0))) (hn : n ≤ 1000) (v : Int) :
    Calls Tryd.prog 76 #[.slice (some ⟨b, o, none⟩) n c, .int .i64 v] w fun e w' => (∃ r : Int, e = .returned (.int .i64 r) ∧ (0 ≤ r ↔ v ∈ l)) ∧ w' = w := by
  have Hl : Hid (l.length = n) := hl
  have Hc : Hid (∀ i, i < n → w.cell? ⟨b, o + i, none⟩ = some (.int .i64 (l.getD i 0))) := hc
  clear hl hc
  go_enter Tryd.func76, Tryd.ntmps76
  go_wp2
  go_loop [8] (fun t => ∃ i : Nat, i ≤ n ∧ t = .int .i64 (i : Int) ∧ (∀ j, j < i → l.getD j 0 ≠ v)) (fun t => n - (intOf t).toNat)
  case atStart => exact ⟨0, by omega, rfl, fun j h => by omega⟩
  case round =>
    obtain ⟨i, hi, rfl, hno⟩ := hrel
    have Hno : Hid (∀ j, j < i → l.getD j 0 ≠ v) := hno
    clear hno
    by_cases hlt : i < n
    · have hlt' : (i : Int) < (n : Int) := by omega
      have hi0 : (0 : Int) ≤ (i : Int) := by omega
      have ci := Hc.out i hlt
      obtain ⟨u, hu⟩ : ∃ u, l.getD i 0 = u := ⟨_, rfl⟩
      have Hu : Hid (l.getD i 0 = u) := hu
      rw [hu] at ci
      clear hu
      by_cases he : v = u
      · have hd : (v == u) = true := by simp [he]
        have He : Hid (v = u) := he
        go_wp2
        go_ret
        refine ⟨⟨_, rfl, ?_⟩, rfl⟩
        refine ⟨fun _ => ?_, fun _ => hi0⟩
        rw [← Hu.out, List.getD_eq_getElem?_getD, List.getElem?_eq_getElem (by rw [Hl.out]; exact hlt)]
        exact List.getElem_mem _
      · have hd : (v == u) = false := by simp [he]
        have He : Hid (v ≠ u) := he
        go_wp2
        go_round
        case rel =>
          refine ⟨i + 1, by omega, by go_num, fun j hj => ?_⟩
          rcases Nat.lt_or_ge j i with h | h
          · exact Hno.out j h
          · obtain rfl : j = i := by omega
            rw [Hu.out]; exact fun e => He.out e.symm
        case measure => simp [intOf]; omega
    · obtain rfl : i = n := by omega
      have hlt' : ¬ (i : Int) < (i : Int) := by omega
      go_wp2
      go_ret
      refine ⟨⟨_, rfl, ?_⟩, rfl⟩
      refine ⟨fun h => by omega, fun h => ?_⟩
      obtain ⟨j, hj, e⟩ := List.getElem_of_mem h
      exact absurd (by rw [List.getD_eq_getElem?_getD, List.getElem?_eq_getElem hj]; exact e) (Hno.out j (by rw [Hl.out] at hj; exact hj))

theorem contains66 (w : World) (b o n c : Nat) (l : List Int) (hl : l.length = n) (hc : ∀ i, i < n → w.cell? ⟨b, o + i, none⟩ = some (.int .i64 (l.getD i 0))) (hn : n ≤ 1000) (v : Int) {u : Bool} (hu : Hid (decide (v ∈ l) = u)) :
    Calls Tryd.prog 66 #[.slice (some ⟨b, o, none⟩) n c, .int .i64 v] w fun e w' => e = .returned (.bool u) ∧ w' = w := by
  have H1 : Hid (∀ w, (∀ i, i < n → w.cell? ⟨b, o + i, none⟩ = some (.int .i64 (l.getD i 0))) → Calls Tryd.prog 76 #[.slice (some ⟨b, o, none⟩) n c, .int .i64 v] w fun e w' => (∃ r : Int, e = .returned (.int .i64 r) ∧ (0 ≤ r ↔ v ∈ l)) ∧ w' = w) := fun w h => index76 w b o n c l hl h hn v
  have Hc : Hid (∀ i, i < n → w.cell? ⟨b, o + i, none⟩ = some (.int .i64 (l.getD i 0))) := hc
  clear hl hc hn
  go_enter Tryd.func66, Tryd.ntmps66
  cases u with
  | true =>
    have hm0 : v ∈ l := of_decide_eq_true hu.out
    have hm : Hid (v ∈ l) := hm0
    clear hm0
    go_wp2_with (go_at_call 76; refine (H1.out w Hc.out).mono ?_; rintro e w' ⟨⟨r, rfl, hr⟩, rfl⟩; have hr0 : 0 ≤ r := hr.2 hm.out; clear hr)
    go_ret
    exact ⟨rfl, rfl⟩
  | false =>
    have hm0 : ¬ v ∈ l := of_decide_eq_false hu.out
    have hm : Hid (¬ v ∈ l) := hm0
    clear hm0
    go_wp2_with (go_at_call 76; refine (H1.out w Hc.out).mono ?_; rintro e w' ⟨⟨r, rfl, hr⟩, rfl⟩; have hr0 : ¬ 0 ≤ r := (fun h => hm.out (hr.1 h)); clear hr)
    go_ret
    refine ⟨?_, rfl⟩
    show Ending.returned (.bool (decide (0 ≤ r))) = _
    rw [decide_eq_false (by omega)]

theorem mem_take {l : List Int} {i : Nat} (hi : i ≤ l.length) (v : Int) : v ∈ l.take i ↔ ∃ k, k < i ∧ l.getD k 0 = v := by
  constructor
  · intro h
    obtain ⟨j, hj, e⟩ := List.getElem_of_mem h
    rw [List.length_take] at hj
    refine ⟨j, by omega, ?_⟩
    rw [List.getElem_take] at e
    rw [List.getD_eq_getElem?_getD, List.getElem?_eq_getElem (by omega)]; exact e
  · rintro ⟨k, hk, e⟩
    rw [List.getD_eq_getElem?_getD, List.getElem?_eq_getElem (by omega)] at e
    have : (l.take i)[k]? = some v := by rw [List.getElem?_take, if_pos hk, List.getElem?_eq_getElem (by omega)]; exact congrArg some e
    exact List.mem_of_getElem? this

theorem goodPl_len (w : World) (a : Option Addr) (n c : Nat) (l : List Int) (hl : SlI w a n c l) (h : n < 1 ∨ 100 < n) :
    Calls Tryd.prog 49 #[.slice a n c] w fun e w' => e = .returned (.bool (okR l)) ∧ w' = w := by
  have hR : Hid (okR l = false) := by
    show _ = _
    unfold okR
    rw [decide_eq_false (by rw [hl.len]; omega)]; rfl
  have cs : (n : Int) < 1 ∨ (¬ (n : Int) < 1 ∧ (100 : Int) < (n : Int)) := by omega
  clear h
  go_enter Tryd.func49, Tryd.ntmps49
  rcases cs with h1 | ⟨h1, h2⟩
  all_goals
    go_wp2
    go_ret
    exact ⟨by rw [hR.out]; rfl, rfl⟩

set_option maxRecDepth 100000 in
set_option maxHeartbeats 1000000 in
theorem goodPl_in (w : World) (a : Option Addr) (n c : Nat) (l : List Int) (hl : SlI w a n c l) (hn1 : 1 ≤ n) (hn2 : n ≤ 100) :
    Calls Tryd.prog 49 #[.slice a n c] w fun e w' => e = .returned (.bool (okR l)) ∧ w' = w := by
  have hlen := hl.len
  have hcap := hl.cap
  obtain ⟨b, o, rfl, hb, hcell⟩ := hl.ent (by omega)
  have Hcell : Hid (∀ i, i < n → w.cell? ⟨b, o + i, none⟩ = some (.int .i64 (l.getD i 0))) := hcell w (Keeps.refl _ _)
  have Hlen : Hid (l.length = n) := hlen
  have hRbad : Hid (∀ i, i < n → rbad l i = true → okR l = false) := fun i hi h => okR_bad (by omega) h
  have h1 : ¬ (n : Int) < 1 := by omega
  have h2 : ¬ (100 : Int) < (n : Int) := by omega
  have hn2' : (n : Int) ≤ 100 := by omega
  have hcap' : (n : Int) ≤ (c : Int) := by omega
  clear hcell hlen hl
  go_enter Tryd.func49, Tryd.ntmps49
  go_wp2
  go_loop [15] (fun t => ∃ i : Nat, i ≤ n ∧ t = .int .i64 (i : Int) ∧ (∀ j, j < i → rbad l j = false)) (fun t => n - (intOf t).toNat)
  case atStart => exact ⟨0, by omega, rfl, fun j h => by omega⟩
  case round =>
    obtain ⟨i, hi, rfl, hno⟩ := hrel
    have Hno : Hid (∀ j, j < i → rbad l j = false) := hno
    clear hno
    by_cases hlt : i < n
    · have hlt' : (i : Int) < (n : Int) := by omega
      have hi0 : (0 : Int) ≤ (i : Int) := by omega
      have hic : (i : Int) ≤ (c : Int) := by omega
      have ci := Hcell.out i hlt
      obtain ⟨v, hv⟩ : ∃ v, l.getD i 0 = v := ⟨_, rfl⟩
      have Hv : Hid (l.getD i 0 = v) := hv
      rw [hv] at ci
      clear hv
      by_cases hc1 : v < 2 ∨ 127 < v
      · have hR : Hid (okR l = false) := hRbad.out i hlt (rbad_iff.2 (.inl (by rw [Hv.out]; exact hc1)))
        have HP : Hid (isPl v = false) := isPl_no hc1
        clear hc1
        go_wp2_with (go_at_call 65; refine (place_at HP _).mono ?_; rintro e w2 ⟨rfl, rfl⟩)
        go_ret
        exact ⟨by rw [hR.out]; rfl, rfl⟩
      · have HP : Hid (isPl v = true) := isPl_yes (by omega) (by omega)
        have Hc1 : Hid (¬ (v < 2 ∨ 127 < v)) := hc1
        clear hc1
        have hlt4 : ((l.take i)).length = i := by rw [List.length_take, Hlen.out]; omega
        have hct : ∀ j, j < i → w.cell? ⟨b, o + j, none⟩ = some (.int .i64 ((l.take i).getD j 0)) := fun j hj => by
          rw [Hcell.out j (by omega), List.getD_eq_getElem?_getD, List.getD_eq_getElem?_getD, List.getElem?_take, if_pos hj]
        have hmem := mem_take (l := l) (i := i) (by rw [Hlen.out]; omega) v
        cases hm : decide (v ∈ l.take i) with
        | true =>
          have Hm : Hid (decide (v ∈ l.take i) = true) := hm
          have hR : Hid (okR l = false) := hRbad.out i hlt (rbad_iff.2 (.inr (by
            obtain ⟨k, hk, e⟩ := hmem.1 (of_decide_eq_true hm)
            exact ⟨k, hk, by rw [e, Hv.out]⟩)))
          have HC : Hid (Calls Tryd.prog 66 #[.slice (some ⟨b, o, none⟩) i c, .int .i64 v] w fun e w' => e = .returned (.bool true) ∧ w' = w) := contains66 w b o i c _ hlt4 hct (by omega) v Hm
          clear hm hmem hct hlt4
          go_wp2_with (first
            | (go_at_call 65; refine (place_at HP _).mono ?_; rintro e w2 ⟨rfl, rfl⟩)
            | (go_at_call 66; refine HC.out.mono ?_; rintro e w2 ⟨rfl, rfl⟩))
          go_ret
          exact ⟨by rw [hR.out]; rfl, rfl⟩
        | false =>
          have Hm : Hid (decide (v ∈ l.take i) = false) := hm
          have HC : Hid (Calls Tryd.prog 66 #[.slice (some ⟨b, o, none⟩) i c, .int .i64 v] w fun e w' => e = .returned (.bool false) ∧ w' = w) := contains66 w b o i c _ hlt4 hct (by omega) v Hm
          have hgood : Hid (∀ j, j < i + 1 → rbad l j = false) := fun j hj => by
            rcases Nat.lt_or_ge j i with h | h
            · exact Hno.out j h
            · obtain rfl : j = i := by omega
              cases hb' : rbad l j with
              | false => rfl
              | true =>
                exfalso
                rcases rbad_iff.1 hb' with h3 | ⟨q, hq, h4⟩
                · rw [Hv.out] at h3; exact Hc1.out h3
                · exact of_decide_eq_false hm (hmem.2 ⟨q, hq, by rw [h4, Hv.out]⟩)
          clear hm hmem hct hlt4
          go_wp2_with (first
            | (go_at_call 65; refine (place_at HP _).mono ?_; rintro e w2 ⟨rfl, rfl⟩)
            | (go_at_call 66; refine HC.out.mono ?_; rintro e w2 ⟨rfl, rfl⟩))
          go_round
          case rel => exact ⟨i + 1, by omega, by go_num, hgood.out⟩
          case measure => simp [intOf]; omega
    · obtain rfl : i = n := by omega
      have hlt' : ¬ (i : Int) < (i : Int) := by omega
      have hR : Hid (okR l = true) := okR_iff.2 ⟨by rw [Hlen.out]; omega, fun j hj => Hno.out j (by rw [Hlen.out] at hj; exact hj)⟩
      go_wp2
      go_ret
      exact ⟨by rw [hR.out]; rfl, rfl⟩

theorem goodPl (w : World) (a : Option Addr) (n c : Nat) (l : List Int) (hl : SlI w a n c l) {v : Bool} (hv : Hid (okR l = v)) :
    Calls Tryd.prog 49 #[.slice a n c] w fun e w' => e = .returned (.bool v) ∧ w' = w := by
  rw [← hv.out]
  by_cases h : n < 1 ∨ 100 < n
  · exact goodPl_len w a n c l hl h
  · exact goodPl_in w a n c l hl (by omega) (by omega)

theorem results_blk19 (tm : Array Value) (g6 : Nat) (wr : World) (X : List B) (v : Int) (h1 : tm.getD 2 undef = .pointer (some ⟨g6, 0, none⟩)) (h2 : tm.getD 3 undef = .int .i64 v) (h3 : BlAt wr g6 X) : (results Tryd.f19 tm).run Tryd.prog wr = .ok (toldB (X, v)) wr :=
  results_row_slot rfl tm wr g6 X _ h1 h2 h3

theorem rootP_no (w : World) (a : Option Addr) (n c : Nat) (l : List Int) (hl : SlI w a n c l) (hg : okR l = false) :
    Calls Tryd.prog 19 #[.slice a n c] w fun e w' => e = .returned (toldB (rootR l)) ∧ Keeps (fun _ => False) w w' := by
  have hR : Hid (rootR l = (zb 128, 11)) := by show _ = _; unfold rootR; rw [hg]; rfl
  have Hg : Hid (okR l = false) := hg
  clear hg
  go_enter Tryd.func19, Tryd.ntmps19
  go_wp2_with (first
    | (refine wpList_alloc26 rfl rfl ?_; intro g2 w1 b1 z1 k1)
    | (go_at_call 49; refine (goodPl _ a n c _ (hl.keep k1) Hg).mono ?_; rintro e w2 ⟨rfl, rfl⟩)
    | (refine wpList_build26 rfl rfl ?_)
    | (refine wpList_store26 rfl _ _ rfl g2 rfl (zb 128) rfl (zb_len _) _ b1 ?_; intro w3 b3 k3))
  rw [hR.out]
  exact bodyPost_ret (v := toldB (zb 128, 11)) (results_blk19 _ g2 _ _ _ rfl rfl b3) rfl ⟨rfl, k1.trans' k3 (fun i e => .inr (by omega))⟩

set_option maxRecDepth 100000 in
set_option maxHeartbeats 2000000 in
theorem rootP_ok (w : World) (hT : Tabs w) (a : Option Addr) (n c : Nat) (l : List Int) (hl : SlI w a n c l) (hg : okR l = true) :
    Calls Tryd.prog 19 #[.slice a n c] w fun e w' => e = .returned (toldB (rootR l)) ∧ Keeps (fun _ => False) w w' := by
  have hlen := hl.len
  have hn := (okR_iff.1 hg).1
  rw [hlen] at hn
  obtain ⟨hn1, hn2⟩ := hn
  obtain ⟨b, o, rfl, hb, hcell⟩ := hl.ent (by omega)
  have Hcell : Hid (∀ w', Keeps (fun _ => False) w w' → ∀ i, i < n → w'.cell? ⟨b, o + i, none⟩ = some (.int .i64 (l.getD i 0))) := hcell
  obtain ⟨L, hL⟩ : ∃ L, rt l = L := ⟨_, rfl⟩
  have lL : L.length = 128 := by rw [← hL]; exact rt_len (by omega)
  have HL : Hid (blk5 (rtxt l) = L) := hL
  have hR : Hid (rootR l = (L, 0)) := by show _ = _; unfold rootR; rw [hg, ← hL]; rfl
  have Hg : Hid (okR l = true) := hg
  have Hlen : Hid (l.length = n) := hlen
  have hts := hT.size
  clear hcell hL hg hlen
  go_enter Tryd.func19, Tryd.ntmps19
  go_wp2_with (first
    | (refine wpList_alloc26 rfl rfl ?_; intro g2 w1 b1 z1 k1)
    | (go_at_call 49; refine (goodPl _ _ n c _ (hl.keep k1) Hg).mono ?_; rintro e W1 ⟨rfl, rfl⟩)
    | (refine wpList_build2 rfl _ _ rfl 82 (n : Int) _ _ rfl rfl (by omega) (by omega) ?_; intro g4 w3 o3 z4 k3; have b3 := b1.keep k3; have K3 := k1.trans k3))
  have l2 := b1.lt
  have z0 := k1.size
  have z3 := k3.size
  clear k1 b1 k3 hl
  go_loopw [4, 17] (fun v t wr => ∃ i : Nat, i ≤ n ∧ t = .int .i64 (i : Int) ∧ OwnB wr W1.heap.size v (kb 82 :: kb (n : Int) :: (l.take i).map kb) ∧ BlAt wr g2 (zb 128) ∧ W1.heap.size ≤ wr.heap.size ∧ Keeps (fun _ => False) w wr) (fun _ t _ => n - (intOf t).toNat)
  case atStart => exact ⟨0, by omega, rfl, o3, b3, z3, K3⟩
  case round =>
    clear o3 b3 K3
    obtain ⟨i, hi, rfl, O, bz, zr, KW⟩ := hrel
    by_cases hlt : i < n
    · have hlt' : (i : Int) < (n : Int) := by omega
      have hi0 : (0 : Int) ≤ (i : Int) := by omega
      have ci := Hcell.out wr KW i hlt
      have HN : Hid ((l.take (i + 1)).map kb = (l.take i).map kb ++ [kb (l.getD i 0)]) := take_snoc' (by rw [Hlen.out]; omega)
      have hFl : ((l.take i).map kb).length ≤ 100 := by rw [List.length_map, List.length_take]; omega
      generalize l.getD i 0 = v at *
      generalize (l.take i).map kb = F at *
      go_wp2_with (first
        | (refine wpList_build1B rfl _ rfl v _ rfl (by omega) ?_; intro g7 w6 s6 z7 k6; have O6 := O.keeps k6 (fun _ _ h => h.elim); have bz6 := bz.keep k6; have z6 := k6.size)
        | (refine wpList_app1 rfl _ _ rfl W1.heap.size _ _ rfl O6 _ _ 1 1 [kb v] rfl s6 (by simp; omega) (by omega) ?_; intro v8 w7 o7 k7; have hown : ∀ k, u4.ownBlock = some k → W1.heap.size ≤ k ∧ k < w6.heap.size := fun k hk => O6.owns.lt k hk; have bz7 := bz6.keeps k7 (fun h => by have := (hown _ h).1; omega); have z7' := k7.size))
      have K7 : Keeps (fun _ => False) w w7 := (KW.trans k6).trans' k7 (fun i e => .inr (by have := (hown i e).1; omega))
      exact ⟨⟨i + 1, by omega, rfl, by rw [HN.out]; exact o7, bz7, by omega, K7⟩, by simp [intOf]; omega⟩
    · obtain rfl : i = n := by omega
      have hlt' : ¬ (i : Int) < (i : Int) := by omega
      rw [List.take_of_length_le (by rw [Hlen.out]; omega)] at O
      obtain ⟨a4, n4, c4, rfl, s4, _, hnc4⟩ := O.slice
      have e4 : kb 82 :: kb (i : Int) :: l.map kb = rtxt l := by unfold rtxt; rw [Hlen.out]
      rw [e4] at s4
      have hn4 := s4.len
      rw [rtxt_len, Hlen.out] at hn4
      have hTw := hT.keeps KW (fun h => h) (fun h => h)
      clear O e4
      go_wp2_with (first
        | (go_at_call 46; refine (sealed46 wr a4 n4 c4 _ hTw s4 (by omega) (by omega) HL).mono ?_; rintro e w5 ⟨rfl, k5⟩; have b5 := bz.keep k5)
        | (refine wpList_store26 rfl _ _ rfl g2 rfl L rfl lL _ b5 ?_; intro w6 b6 k6))
      rw [hR.out]
      exact bodyPost_ret (v := toldB (L, 0)) (results_blk19 _ g2 _ _ _ rfl rfl b6) rfl ⟨rfl, (KW.trans k5).trans' k6 (fun i e => .inr (by omega))⟩

theorem rootP (w : World) (hT : Tabs w) (a : Option Addr) (n c : Nat) (l : List Int) (hl : SlI w a n c l) :
    Calls Tryd.prog 19 #[.slice a n c] w fun e w' => e = .returned (toldB (rootR l)) ∧ Keeps (fun _ => False) w w' := by
  cases hg : okR l with
  | false => exact rootP_no w a n c l hl hg
  | true => exact rootP_ok w hT a n c l hl hg
theorem rootP_at {l : List Int} {L : List B} {v : Int} (h : rootR l = (L, v)) (w : World) (hT : Tabs w) (a : Option Addr) (n c : Nat) (hl : SlI w a n c l) :
    Calls Tryd.prog 19 #[.slice a n c] w fun e w' => e = .returned (.tuple #[.agg (brow L), .int .i64 v]) ∧ Keeps (fun _ => False) w w' := by
  have := rootP w hT a n c l hl
  rw [h] at this; exact this

end Go.Proofs.YthngaegfppbdmaaDoor
