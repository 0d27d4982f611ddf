/-
  The index: sizes, the sorted list's making, whether keys rise.
-/
import Derived.Test.YthngaegfppbdmaaDoorLb
import Derived.Test.YthngaegfppbdmaaDoorXr
set_option linter.all false
namespace Go.Proofs.YthngaegfppbdmaaDoor
open Go.RowKit Go.Sort Go.Shelf
attribute [local go_sem] Oper.semAt_some

def sz (n : Int) : Int := if n ≤ 0 then 0 else (n - 1).tdiv 3 + 2
theorem size37 (w : World) (n : Int) (h0 : -9223372036854775808 ≤ n) (hn : n ≤ 9223372036854775807) : Calls Tryd.prog 37 #[.int .i64 n] w fun e w' => e = .returned (.int .i64 (sz n)) ∧ w' = w := by
  by_cases h : n ≤ 0
  · have H : Hid (sz n = 0) := if_pos h
    go_enter Tryd.func37, Tryd.ntmps37
    go_wp2
    go_ret
    exact ⟨by rw [H.out]; rfl, rfl⟩
  · obtain ⟨q, hq⟩ : ∃ q, (n - 1).tdiv 3 = q := ⟨_, rfl⟩
    have H : Hid (sz n = q + 2) := by show _ = _; unfold sz; rw [if_neg h, hq]
    have hq0 : 0 ≤ q := by rw [← hq]; exact Int.tdiv_nonneg (by omega) (by omega)
    have hq1 : q ≤ 3074457345618258602 := by rw [← hq, Int.tdiv_eq_ediv_of_nonneg (by omega)]; omega
    go_enter Tryd.func37, Tryd.ntmps37
    go_wp2
    go_ret
    exact ⟨by rw [H.out]; go_num, rfl⟩
theorem size38 (w : World) (n : Int) (h0 : -9223372036854775808 ≤ n) (hn : n ≤ 9223372036854775807) : Calls Tryd.prog 38 #[.int .i64 n] w fun e w' => e = .returned (.int .i64 (sz n)) ∧ w' = w := by
  by_cases h : n ≤ 0
  · have H : Hid (sz n = 0) := if_pos h
    have h1 : n < 1 := by omega
    go_enter Tryd.func38, Tryd.ntmps38
    go_wp2
    go_ret
    exact ⟨by rw [H.out]; rfl, rfl⟩
  · obtain ⟨q, hq⟩ : ∃ q, (n - 1).tdiv 3 = q := ⟨_, rfl⟩
    have H : Hid (sz n = q + 2) := by show _ = _; unfold sz; rw [if_neg h, hq]
    have hq0 : 0 ≤ q := by rw [← hq]; exact Int.tdiv_nonneg (by omega) (by omega)
    have hq1 : q ≤ 3074457345618258602 := by rw [← hq, Int.tdiv_eq_ediv_of_nonneg (by omega)]; omega
    have h1 : ¬ n < 1 := by omega
    go_enter Tryd.func38, Tryd.ntmps38
    go_wp2
    go_ret
    exact ⟨by rw [H.out]; go_num, rfl⟩

def rises (l : List En) : Bool := (List.range l.length).all (ordB l)
theorem rises_iff {l : List En} : rises l = true ↔ ∀ i, i < l.length → ordB l i = true := by simp [rises]
theorem rises_no {l : List En} {i : Nat} (hi : i < l.length) (h : ordB l i = false) : rises l = false := by
  cases hr : rises l with
  | false => rfl
  | true => rw [rises_iff.1 hr i hi] at h; cases h

set_option maxHeartbeats 2000000 in
theorem rising39 (w : World) (a : Option Addr) (n c : Nat) (l : List En) (hl : SlE w a n c l) (hn : n ≤ 9223372036854775807) :
    Calls Tryd.prog 39 #[.slice a n c] w fun e w' => e = .returned (.bool (rises l)) ∧ Keeps (fun _ => False) w w' := by
  have Hlen : Hid (l.length = n) := hl.len
  go_enter Tryd.func39, Tryd.ntmps39
  go_wp2
  go_loopw [3] (fun t wr => ∃ i : Nat, 1 ≤ i ∧ t = .int .i64 (i : Int) ∧ (i = 1 ∨ i ≤ n) ∧ Hid (∀ j, j < i → ordB l j = true) ∧ Keeps (fun _ => False) w wr) (fun t _ => n - (intOf t).toNat)
  case atStart => exact ⟨1, by omega, rfl, .inl rfl, (fun j hj => by obtain rfl : j = 0 := (by omega); rfl), Keeps.refl _ _⟩
  case round =>
    obtain ⟨i, h1, rfl, hin, HA, KW⟩ := hrel
    by_cases hlt : i < n
    · have hlt' : (i : Int) < (n : Int) := by omega
      obtain ⟨k, hk⟩ : ∃ k : Nat, (i : Int) - 1 = (k : Int) := ⟨i - 1, by omega⟩
      have hk0 : (0 : Int) ≤ (k : Int) := by omega
      have hi0 : (0 : Int) ≤ (i : Int) := by omega
      have hkn : (k : Int) < (n : Int) := by omega
      have hkn' : k < n := by omega
      obtain ⟨b, o, rfl, E1⟩ := (hl.keep KW).ent hlt
      obtain ⟨b', o', e', E2⟩ := (hl.keep KW).ent hkn'
      cases e'
      obtain ⟨v, hv⟩ : ∃ v, ordB l i = v := ⟨_, rfl⟩
      have HV : Hid (ordB l i = v) := hv
      have HL : Hid (lessB (l.getD k default).key (l.getD i default).key = v) := by
        show _ = _
        rw [← hv]; unfold ordB
        rw [decide_eq_false (by omega), Bool.false_or, show i - 1 = k by omega]
      clear hv
      generalize l.getD i default = e1 at *
      generalize l.getD k default = e2 at *
      have l1 := E1.len
      have l2 := E2.len
      go_wp2_with fail
      refine wp_region_quiet_below (by kernel_rfl) (by kernel_rfl) ?_
      repeat (first
        | go_big_quiet_step (fail)
        | (go_big_quiet_want; refine quiet_key _ rfl b (o + i * 35) rfl e1 (fun w' hp => E1.cls hp) l1 ?_; simp only [Act.put, List.setIfInBounds_toArray, List.set_cons_zero, List.set_cons_succ]; go_big_quiet_on)
        | (go_big_quiet_want; refine quiet_key _ rfl b (o + k * 35) rfl e2 (fun w' hp => E2.cls hp) l2 ?_; simp only [Act.put, List.setIfInBounds_toArray, List.set_cons_zero, List.set_cons_succ]; go_big_quiet_on)
        | (go_big_quiet_want; go_big_quiet_op; apply Exists.intro; refine ⟨fun _ => call_cls (less_ref HL _ l2 l1) ⟨_, rfl⟩, ?_⟩; go_big_quiet_on))
      refine wpQuiet_nil ?_
      intro w5 hw5
      cases v with
      | false =>
        go_wp2
        go_ret
        exact ⟨by rw [rises_no (by rw [Hlen.out]; exact hlt) HV.out]; rfl, KW.trans (keeps_cls hw5)⟩
      | true =>
        go_wp2
        exact ⟨⟨i + 1, by omega, by go_num, .inr (by omega), (fun j hj => by
          by_cases h : j < i
          · exact HA.out j h
          · obtain rfl : j = i := (by omega)
            exact HV.out), KW.trans (keeps_cls hw5)⟩, by simp [intOf]; omega⟩
    · have hlt' : ¬ (i : Int) < (n : Int) := by omega
      have HR : Hid (rises l = true) := rises_iff.2 fun j hj => HA.out j (by rw [Hlen.out] at hj; omega)
      go_wp2
      go_ret
      exact ⟨by rw [HR.out]; rfl, KW⟩

theorem key70 (w : World) (e : En) (he : e.key.length = 32) :
    Calls Tryd.prog 70 #[.agg e.cells.toArray] w fun x w' => x = .returned (.agg (brow e.key)) ∧ Keeps (fun _ => False) w w' := by
  go_enter Tryd.func70, Tryd.ntmps70
  go_wp2_with (first
    | (refine wpList_box46 rfl _ rfl e he rfl ?_; intro g w1 b1 z1 k1)
    | (refine wpList_allocR rfl 52 rfl _ zero52 ?_; intro g2 w2 b2 z2 k2; have d1 := b1.keep k2)
    | (refine wpList_key rfl _ rfl g 0 rfl e d1 ?_)
    | (refine wpList_storeR rfl 52 _ _ rfl g2 rfl (brow e.key) rfl (by rw [size_brow, he]; exact rowTy52) (brow_one _) _ b2 (by rw [size_brow, size_brow, he]; rfl) ?_; intro w3 b3 k3))
  exact bodyPost_ret (v := .agg (brow e.key)) (results_ro rfl _ _ g2 _ rfl b3 (by rw [size_brow, he]; exact rowTy52)) rfl ⟨rfl, (k1.trans k2).trans' k3 (fun i e => .inr (by have := k1.size; omega))⟩

def bk (a : Option Addr) (n c : Nat) : Value := .agg #[.slice a n c, .func (.func 70) #[] #[], .func (.func 62) #[] #[]]
theorem bk_one (a : Option Addr) (n c : Nat) : (#[Value.slice a n c, .func (.func 70) #[] #[], .func (.func 62) #[] #[]]).all (·.oneCell') = true := by
  simp [Value.oneCell']
theorem byKey55 (w : World) (a : Option Addr) (n c : Nat) :
    Calls Tryd.prog 55 #[.slice a n c] w fun e w' => e = .returned (bk a n c) ∧ Keeps (fun _ => False) w w' := by
  go_enter Tryd.func55, Tryd.ntmps55
  go_wp2_with (first
    | (refine wpList_allocR rfl 95 rfl _ zero95 ?_; intro g2 w2 b2 z2 k2)
    | (refine wpList_storeR rfl 95 _ _ rfl g2 rfl #[.slice a n c, .func (.func 70) #[] #[], .func (.func 62) #[] #[]] rfl rowTy95 (bk_one a n c) _ b2 (by rfl) ?_; intro w3 b3 k3))
  exact bodyPost_ret (v := bk a n c) (results_ro rfl _ _ g2 _ rfl b3 rowTy95) rfl ⟨rfl, k2.trans' k3 (fun i e => .inr (by omega))⟩

end Go.Proofs.YthngaegfppbdmaaDoor
