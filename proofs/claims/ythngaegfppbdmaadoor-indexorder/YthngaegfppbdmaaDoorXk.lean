/-
  Good of the reference's index.
-/
import Derived.Test.YthngaegfppbdmaaDoorXc
set_option linter.all false
namespace Go.Proofs.YthngaegfppbdmaaDoor
open Go.RowKit Go.Sort Go.Shelf
attribute [local go_sem] Oper.semAt_some

theorem ix_no {l : List En} {i : Nat} (hi : i < l.length) (h : ordB l i = false ∨ okI l i = false) : ix l = false := by
  unfold ix
  rcases h with h | h
  · rw [rises_no hi h]; rfl
  · rw [apt_no hi h, Bool.and_false]
theorem okI_ovl {l : List En} {k i : Nat} (hk : k < i) (h : ovl l k i = true) : okI l i = false := by
  cases ho : okI l i with
  | false => rfl
  | true => have := (okI_iff.1 ho).2 k hk; rw [h] at this; cases this

set_option maxRecDepth 100000 in
set_option maxHeartbeats 8000000 in
theorem good35u (w : World) (a : Option Addr) (n c : Nat) (l : List En) (hl : SlE w a n c l) (hn : n ≤ 9223372036854775807) :
    Calls Tryd.prog 35 #[.slice a n c] w fun e w' => e = .returned (.bool (ix l)) ∧ Keeps (fun _ => False) w w' := by
  have Hlen : Hid (l.length = n) := hl.len
  go_enter Tryd.func35, Tryd.ntmps35
  go_wp2
  go_loopw [3] (fun t wr => ∃ i : Nat, i ≤ n ∧ t = .int .i64 (i : Int) ∧ Hid (∀ j, j < i → ordB l j = true ∧ okI l j = true) ∧ Keeps (fun _ => False) w wr) (fun t _ => n - (intOf t).toNat)
  case atStart => exact ⟨0, by omega, rfl, (fun j hj => by omega), Keeps.refl _ _⟩
  case round =>
    obtain ⟨i, hi, rfl, HA, KW⟩ := hrel
    by_cases hlt : i < n
    · have hlt' : (i : Int) < (n : Int) := by omega
      have hi0 : (0 : Int) ≤ (i : Int) := by omega
      obtain ⟨b, o, rfl, E1⟩ := (hl.keep KW).ent hlt
      obtain ⟨e1, he⟩ : ∃ e1, l.getD i default = e1 := ⟨_, rfl⟩
      have HE : Hid (l.getD i default = e1) := he
      rw [he] at E1
      have l1 := E1.len
      obtain ⟨s, hs⟩ : ∃ s, one e1 = s := ⟨_, rfl⟩
      have HS : Hid (one e1 = s) := hs
      obtain ⟨v, hv⟩ : ∃ v, ordB l i = v := ⟨_, rfl⟩
      have HV : Hid (ordB l i = v) := hv
      have cs : (s = false) ∨ (s = true ∧ v = true ∧ i = 0) ∨ (s = true ∧ 0 < i) := by
        cases s with
        | false => exact .inl rfl
        | true =>
          by_cases h0 : i = 0
          · exact .inr (.inl ⟨rfl, by rw [← hv, h0]; rfl, h0⟩)
          · exact .inr (.inr ⟨rfl, by omega⟩)
      clear hs hv he
      rcases cs with rfl | ⟨rfl, rfl, hi1⟩ | ⟨rfl, hi1⟩
      · go_wp2_with fail
        refine wp_region_quiet_below (by kernel_rfl) (by kernel_rfl) ?_
        repeat (first
          | go_big_quiet_step (fail)
          | (go_big_quiet_want; refine quiet_load46 _ rfl b (o + i * 35) rfl e1 (fun w' hp => E1.cls hp) ?_; simp only [Act.put, List.setIfInBounds_toArray, List.set_cons_zero, List.set_cons_succ]; go_big_quiet_on)
          | (go_big_quiet_want; go_big_quiet_op; apply Exists.intro; refine ⟨fun _ => call_cls (one_at HS.out _ l1) ⟨_, rfl⟩, ?_⟩; go_big_quiet_on))
        refine wpQuiet_nil ?_
        intro w5 hw5
        go_wp2
        go_ret
        exact ⟨by rw [ix_no (by rw [Hlen.out]; exact hlt) (.inr (okI_one (by rw [HE.out]; exact HS.out)))]; rfl, KW.trans (keeps_cls hw5)⟩
      · subst hi1
        have E1' : EnAt wr b o e1 := by simpa using E1
        go_wp2_with fail
        refine wp_region_quiet_below (by kernel_rfl) (by kernel_rfl) ?_
        repeat (first
          | go_big_quiet_step (fail)
          | (go_big_quiet_want; refine quiet_load46 _ rfl b o rfl e1 (fun w' hp => E1'.cls hp) ?_; simp only [Act.put, List.setIfInBounds_toArray, List.set_cons_zero, List.set_cons_succ]; go_big_quiet_on)
          | (go_big_quiet_want; go_big_quiet_op; apply Exists.intro; refine ⟨fun _ => call_cls (one_at HS.out _ l1) ⟨_, rfl⟩, ?_⟩; go_big_quiet_on))
        refine wpQuiet_nil ?_
        intro w5 hw5
        have K5 := KW.trans (keeps_cls hw5)
        go_wp2
        go_loopw [4] (fun t wq => t = .int .i64 0 ∧ Keeps (fun _ => False) w5 wq) (fun t _ => 0)
        case atStart => exact ⟨rfl, Keeps.refl _ _⟩
        case round =>
          obtain ⟨rfl, KQ⟩ := hrel
          have HO : Hid (okI l 0 = true) := okI_iff.2 ⟨by rw [HE.out]; exact HS.out, fun k hk => by omega⟩
          go_wp2
          exact ⟨⟨1, by omega, by go_num, (fun q hq => by
            obtain rfl : q = 0 := (by omega)
            exact ⟨HV.out, HO.out⟩), K5.trans KQ⟩, by simp [intOf]; omega⟩
      · have hi2 : (0 : Int) < (i : Int) := by omega
        obtain ⟨m, hm⟩ : ∃ m : Nat, (i : Int) - 1 = (m : Int) := ⟨i - 1, by omega⟩
        have hm0 : (0 : Int) ≤ (m : Int) := by omega
        have hmn : (m : Int) < (n : Int) := by omega
        obtain ⟨b', o', e', E2⟩ := (hl.keep KW).ent (i := m) (by omega)
        cases e'
        have HL : Hid (lessB (l.getD m default).key e1.key = v) := by
          show _ = _
          rw [← HV.out, ← HE.out]; unfold ordB
          rw [decide_eq_false (by omega), Bool.false_or, show i - 1 = m by omega]
        generalize l.getD m default = e2 at *
        have l2 := E2.len
        go_wp2_with fail
        refine wp_region_quiet_below (by kernel_rfl) (by kernel_rfl) ?_
        repeat (first
          | go_big_quiet_step (fail)
          | (go_big_quiet_want; refine quiet_load46 _ rfl b (o + i * 35) rfl e1 (fun w' hp => E1.cls hp) ?_; simp only [Act.put, List.setIfInBounds_toArray, List.set_cons_zero, List.set_cons_succ]; go_big_quiet_on)
          | (go_big_quiet_want; refine quiet_key _ rfl b (o + i * 35) rfl e1 (fun w' hp => E1.cls hp) l1 ?_; simp only [Act.put, List.setIfInBounds_toArray, List.set_cons_zero, List.set_cons_succ]; go_big_quiet_on)
          | (go_big_quiet_want; refine quiet_key _ rfl b (o + m * 35) rfl e2 (fun w' hp => E2.cls hp) l2 ?_; simp only [Act.put, List.setIfInBounds_toArray, List.set_cons_zero, List.set_cons_succ]; go_big_quiet_on)
          | (go_big_quiet_want; go_big_quiet_op; apply Exists.intro; refine ⟨fun _ => call_cls (one_at HS.out _ l1) ⟨_, rfl⟩, ?_⟩; go_big_quiet_on)
          | (go_big_quiet_want; go_big_quiet_op; apply Exists.intro; refine ⟨fun _ => call_cls (less_ref HL _ l2 l1) ⟨_, rfl⟩, ?_⟩; go_big_quiet_on))
        refine wpQuiet_nil ?_
        intro w5 hw5
        clear E2 HL hm hm0 hmn
        cases v with
        | false =>
          go_wp2
          go_ret
          exact ⟨by rw [ix_no (by rw [Hlen.out]; exact hlt) (.inl HV.out)]; rfl, KW.trans (keeps_cls hw5)⟩
        | true =>
          have K5 := KW.trans (keeps_cls hw5)
          have hl5 := hl.keep K5
          go_wp2
          go_loopw [4] (fun t wq => ∃ k : Nat, k ≤ i ∧ t = .int .i64 (k : Int) ∧ Hid (∀ q, q < k → ovl l q i = false) ∧ Keeps (fun _ => False) w5 wq) (fun t _ => i - (intOf t).toNat)
          case atStart => exact ⟨0, by omega, rfl, (fun q hq => by omega), Keeps.refl _ _⟩
          case round =>
            obtain ⟨k, hk, rfl, HB, KQ⟩ := hrel
            by_cases hki : k < i
            · have hki' : (k : Int) < (i : Int) := by omega
              have hk0 : (0 : Int) ≤ (k : Int) := by omega
              have hkn : (k : Int) < (n : Int) := by omega
              obtain ⟨b', o', e', D2⟩ := (hl5.keep KQ).ent (i := k) (by omega)
              cases e'
              obtain ⟨b', o', e', D1⟩ := (hl5.keep KQ).ent (i := i) hlt
              cases e'
              have q2 := (okI_iff.1 (HA.out k hki).2).1
              have q1 := HS.out
              rw [← HE.out] at q1
              obtain ⟨u1, hu1⟩ : ∃ u, decide ((l.getD k default).place < (l.getD i default).place + (l.getD i default).blocks) = u := ⟨_, rfl⟩
              obtain ⟨u2, hu2⟩ : ∃ u, decide ((l.getD i default).place < (l.getD k default).place + (l.getD k default).blocks) = u := ⟨_, rfl⟩
              have HO : Hid (ovl l k i = (u1 && u2)) := by
                show _ = _
                rw [← hu1, ← hu2]; unfold ovl
                rw [Bool.decide_and]
              have f1 : ∀ d os, (grow (redrawn _ d) os).cell? ⟨b, o + i * 35 + 32, none⟩ = some (.int .i64 (l.getD i default).place) := fun d os => (D1.cls ⟨⟨d, os⟩, rfl⟩).place
              have f2 : ∀ d os, (grow (redrawn _ d) os).cell? ⟨b, o + i * 35 + 33, none⟩ = some (.int .i64 (l.getD i default).blocks) := fun d os => (D1.cls ⟨⟨d, os⟩, rfl⟩).blocks
              have f3 : ∀ d os, (grow (redrawn _ d) os).cell? ⟨b, o + k * 35 + 32, none⟩ = some (.int .i64 (l.getD k default).place) := fun d os => (D2.cls ⟨⟨d, os⟩, rfl⟩).place
              have f4 : ∀ d os, (grow (redrawn _ d) os).cell? ⟨b, o + k * 35 + 33, none⟩ = some (.int .i64 (l.getD k default).blocks) := fun d os => (D2.cls ⟨⟨d, os⟩, rfl⟩).blocks
              unfold one at q1 q2
              simp only [decide_eq_true_eq] at q1 q2
              obtain ⟨x1, x2, x3, x4, _⟩ := q1
              obtain ⟨y1, y2, y3, y4, _⟩ := q2
              generalize (l.getD i default).place = pi at *
              generalize (l.getD i default).blocks = bi at *
              generalize (l.getD k default).place = pk at *
              generalize (l.getD k default).blocks = bk' at *
              obtain ⟨s1, hs1⟩ : ∃ s, pi + bi = s := ⟨_, rfl⟩
              obtain ⟨s2, hs2⟩ : ∃ s, pk + bk' = s := ⟨_, rfl⟩
              rw [hs1] at hu1
              rw [hs2] at hu2
              clear D1 D2
              cases u1
              all_goals
                simp only [decide_eq_true_eq, decide_eq_false_iff_not] at hu1
              all_goals
                cases u2
              all_goals
                simp only [decide_eq_true_eq, decide_eq_false_iff_not] at hu2
              all_goals
                try (exfalso; omega)
              all_goals
                have g1 := hu1
                have g2 := hu2
                rw [← hs1] at g1
                rw [← hs2] at g2
                clear hs1 hs2 hu1 hu2
                try have d1 : decide (pk < pi + bi) = false := decide_eq_false g1
                try have d1 : ¬ (pi + bi - pk ≥ 1) := by omega
                try have d3 : (pk < pi + bi) = False := eq_false g1
              all_goals
                go_wp2_with fail
                refine wp_region_quiet_below (by kernel_rfl) (by kernel_rfl) ?_
                repeat (go_big_quiet_step (fail))
                refine wpQuiet_nil ?_
                intro w6 hw6
                go_wp2
              · exact ⟨⟨_, _, _, _, _, _, _, _, _, _, _, _, _, _, _, _, _, _, _, _, _, _, _, _, _, _, _, _, _, _, _, _, _, _, _, _, _, _, _, _, _, _, _, ⟨k + 1, by omega, rfl, (fun q hq => by
                  by_cases h : q < k
                  · exact HB.out q h
                  · obtain rfl : q = k := (by omega)
                    exact HO.out), KQ.trans (keeps_cls hw6)⟩, rfl⟩, by simp [intOf]; omega⟩
              · exact ⟨⟨_, _, _, _, _, _, _, _, _, _, _, _, _, _, _, _, _, _, _, _, _, _, _, _, _, _, _, _, _, _, _, _, _, _, _, _, _, _, _, _, _, _, _, ⟨k + 1, by omega, rfl, (fun q hq => by
                  by_cases h : q < k
                  · exact HB.out q h
                  · obtain rfl : q = k := (by omega)
                    exact HO.out), KQ.trans (keeps_cls hw6)⟩, rfl⟩, by simp [intOf]; omega⟩
              · go_ret
                exact ⟨by rw [ix_no (by rw [Hlen.out]; exact hlt) (.inr (okI_ovl hki HO.out))]; rfl, K5.trans (KQ.trans (keeps_cls hw6))⟩
            · obtain rfl : k = i := by omega
              have hki' : ¬ (k : Int) < (k : Int) := by omega
              have HO : Hid (okI l k = true) := okI_iff.2 ⟨by rw [HE.out]; exact HS.out, HB.out⟩
              go_wp2
              exact ⟨⟨k + 1, by omega, by go_num, (fun q hq => by
                by_cases h : q < k
                · exact HA.out q h
                · obtain rfl : q = k := (by omega)
                  exact ⟨HV.out, HO.out⟩), K5.trans KQ⟩, by simp [intOf]; omega⟩
    · have hlt' : ¬ (i : Int) < (n : Int) := by omega
      have HR : Hid (ix l = true) := by
        show _ = _
        unfold ix
        rw [rises_iff.2 fun j hj => (HA.out j (by rw [Hlen.out] at hj; omega)).1, apt_iff.2 fun j hj => (HA.out j (by rw [Hlen.out] at hj; omega)).2]; rfl
      go_wp2
      go_ret
      exact ⟨by rw [HR.out]; rfl, KW⟩

theorem good35 (w : World) (a : Option Addr) (n c : Nat) (l : List En) (hl : SlE w a n c l) (hn : n ≤ 9223372036854775806) :
    Calls Tryd.prog 35 #[.slice a n c] w fun e w' => e = .returned (.bool (ix l)) ∧ Keeps (fun _ => False) w w' := good35u w a n c l hl (by omega)

end Go.Proofs.YthngaegfppbdmaaDoor
