/-
  The sorted list: whether its keys rise.
-/
import Derived.Test.YthngaegfppbdmaaDoorXa
set_option linter.all false
namespace Go.Proofs.YthngaegfppbdmaaDoor
open Go.RowKit Go.Sort Go.Shelf
attribute [local go_sem] Oper.semAt_some

set_option maxHeartbeats 4000000 in
theorem rises56 (w : World) (a : Option Addr) (n c : Nat) (l : List En) (hl : SlE w a n c l) (hn : n ≤ 9223372036854775807) :
    Calls Tryd.prog 56 #[bk a n c] w fun e w' => e = .returned (.bool (rises l)) ∧ Keeps (fun _ => False) w w' := by
  have Hlen : Hid (l.length = n) := hl.len
  unfold bk
  go_enter Tryd.func56, Tryd.ntmps56
  go_wp2_with (refine wpList_boxR rfl 95 _ rfl _ rfl ?_; intro g1 w1 b1 z1 k1)
  have hl1 := hl.keep k1
  go_loopw [3] (fun t wr => ∃ i : Nat, 1 ≤ i ∧ t = .int .i64 (i : Int) ∧ (i = 1 ∨ i ≤ n) ∧ Hid (∀ j, j < i → ordB l j = true) ∧ Keeps (fun _ => False) w1 wr) (fun t _ => n - (intOf t).toNat)
  case atStart => exact ⟨1, by omega, rfl, .inl rfl, (fun j hj => by obtain rfl : j = 0 := (by omega); rfl), Keeps.refl _ _⟩
  case round =>
    obtain ⟨i, h1, rfl, hin, HA, KW⟩ := hrel
    have B := b1.keep KW
    have d0 : wr.cell? ⟨g1, 0, none⟩ = some (.slice a n c) := B.cell 0
    by_cases hlt : i < n
    · have hlt' : (i : Int) < (n : Int) := by omega
      obtain ⟨k, hk⟩ : ∃ k : Nat, (i : Int) - 1 = (k : Int) := ⟨i - 1, by omega⟩
      have hk0 : (0 : Int) ≤ (k : Int) := by omega
      have hi0 : (0 : Int) ≤ (i : Int) := by omega
      have hkn : (k : Int) < (n : Int) := by omega
      have hkn' : k < n := by omega
      obtain ⟨b, o, rfl, E1⟩ := (hl1.keep KW).ent hlt
      obtain ⟨b', o', e', E2⟩ := (hl1.keep KW).ent hkn'
      cases e'
      obtain ⟨v, hv⟩ : ∃ v, ordB l i = v := ⟨_, rfl⟩
      have HV : Hid (ordB l i = v) := hv
      have HL : Hid (lessB (l.getD k default).key (l.getD i default).key = v) := by
        show _ = _
        rw [← hv]; unfold ordB
        rw [decide_eq_false (by omega), Bool.false_or, show i - 1 = k by omega]
      clear hv
      generalize l.getD i default = e1 at *
      generalize l.getD k default = e2 at *
      have l1 := E1.len
      have l2 := E2.len
      have c0 : ∀ d os, (grow (redrawn wr d) os).cell? ⟨g1, 0, none⟩ = some (.slice (some ⟨b, o, none⟩) n c) := fun d os => (B.cls ⟨⟨d, os⟩, rfl⟩).cell 0
      have c1 : ∀ d os, (grow (redrawn wr d) os).cell? ⟨g1, 1, none⟩ = some (.func (.func 70) #[] #[]) := fun d os => (B.cls ⟨⟨d, os⟩, rfl⟩).cell 1
      have c2 : ∀ d os, (grow (redrawn wr d) os).cell? ⟨g1, 2, none⟩ = some (.func (.func 62) #[] #[]) := fun d os => (B.cls ⟨⟨d, os⟩, rfl⟩).cell 2
      go_wp2_with fail
      refine wp_region_quiet_below (by kernel_rfl) (by kernel_rfl) ?_
      repeat (first
        | go_big_quiet_step (fail)
        | (go_big_quiet_want; refine quiet_load46 _ rfl b (o + i * 35) rfl e1 (fun w' hp => E1.cls hp) ?_; simp only [Act.put, List.setIfInBounds_toArray, List.set_cons_zero, List.set_cons_succ]; go_big_quiet_on)
        | (go_big_quiet_want; refine quiet_load46 _ rfl b (o + k * 35) rfl e2 (fun w' hp => E2.cls hp) ?_; simp only [Act.put, List.setIfInBounds_toArray, List.set_cons_zero, List.set_cons_succ]; go_big_quiet_on)
        | (go_big_quiet_want; go_big_quiet_op; apply Exists.intro; refine ⟨fun _ => call_cls (less_of HL _ l2 l1) ⟨_, rfl⟩, ?_⟩; go_big_quiet_on)
        | (have := Q1; go_big_quiet_want; go_big_quiet_op; apply Exists.intro; refine ⟨fun _ => call_cls (key70 _ e1 l1) ⟨_, rfl⟩, ?_⟩; go_big_quiet_on)
        | (go_big_quiet_want; go_big_quiet_op; apply Exists.intro; refine ⟨fun _ => call_cls (key70 _ e2 l2) ⟨_, rfl⟩, ?_⟩; go_big_quiet_on; have Q1 : Hid True := trivial))
      refine wpQuiet_nil ?_
      intro w5 hw5
      cases v with
      | false =>
        go_wp2
        go_ret
        exact ⟨by rw [rises_no (by rw [Hlen.out]; exact hlt) HV.out]; rfl, k1.trans (KW.trans (keeps_cls hw5))⟩
      | true =>
        go_wp2
        exact ⟨⟨i + 1, by omega, by go_num, .inr (by omega), (fun j hj => by
          by_cases h : j < i
          · exact HA.out j h
          · obtain rfl : j = i := (by omega)
            exact HV.out), KW.trans (keeps_cls hw5)⟩, by simp [intOf]; omega⟩
    · have hlt' : ¬ (i : Int) < (n : Int) := by omega
      have HR : Hid (rises l = true) := rises_iff.2 fun j hj => HA.out j (by rw [Hlen.out] at hj; omega)
      go_wp2
      go_ret
      exact ⟨by rw [HR.out]; rfl, k1.trans KW⟩
theorem rises_at {l : List En} {v : Bool} (h : rises l = v) (w : World) (a : Option Addr) (n c : Nat) (hl : SlE w a n c l) (hn : n ≤ 9223372036854775807) :
    Calls Tryd.prog 56 #[bk a n c] w fun e w' => e = .returned (.bool v) ∧ Keeps (fun _ => False) w w' := by
  rw [← h]; exact rises56 w a n c l hl hn

end Go.Proofs.YthngaegfppbdmaaDoor
