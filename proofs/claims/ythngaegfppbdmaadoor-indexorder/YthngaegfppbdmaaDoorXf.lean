/-
  Find of the program's index, and the reference's.
-/
import Derived.Test.YthngaegfppbdmaaDoorXe
set_option linter.all false
namespace Go.Proofs.YthngaegfppbdmaaDoor
open Go.RowKit Go.Sort Go.Shelf
attribute [local go_sem] Oper.semAt_some

set_option maxHeartbeats 4000000 in
theorem find40 (w : World) (a : Option Addr) (n c : Nat) (l : List En) (hl : SlE w a n c l) (hn : n ≤ 4611686018427387903) (hr : rises l = true) (key : List B) (lk : key.length = 32) :
    Calls Tryd.prog 40 #[.slice a n c, .agg (brow key)] w fun e w' => e = .returned (.tuple #[.int .i64 (fnd l key : Nat), .bool (ths l key)]) ∧ Keeps (fun _ => False) w w' := by
  have HR : Hid (rises l = true) := hr
  clear hr
  obtain ⟨k, hk⟩ : ∃ k, fnd l key = k := ⟨_, rfl⟩
  obtain ⟨v, hv⟩ : ∃ v, ths l key = v := ⟨_, rfl⟩
  have HF : Hid (fnd l key = k) := hk
  have HT : Hid (ths l key = v) := hv
  clear hk hv
  have hf : ∀ w, SlE w a n c l → Calls Tryd.prog 58 #[bk a n c, .agg (brow key)] w fun e w' => e = .returned (.tuple #[.int .i64 (k : Nat), .bool v]) ∧ Keeps (fun _ => False) w w' := fun w h => by
    have := find58 w a n c l h hn HR.out key lk
    rw [HF.out, HT.out] at this
    exact this
  have Hf : Hid (∀ w, SlE w a n c l → Calls Tryd.prog 58 #[bk a n c, .agg (brow key)] w fun e w' => e = .returned (.tuple #[.int .i64 (k : Nat), .bool v]) ∧ Keeps (fun _ => False) w w') := hf
  clear hf
  rw [HF.out, HT.out]
  go_enter Tryd.func40, Tryd.ntmps40
  go_wp2_with (refine wpList_boxR rfl 52 _ rfl _ rfl ?_; intro g2 w1 b1 z1 k1)
  have hl1 := hl.keep k1
  refine wp_region_quiet_below (by kernel_rfl) (by kernel_rfl) ?_
  repeat (first
    | go_big_quiet_step (fail)
    | (go_big_quiet_want; refine quiet_loadR 52 _ rfl g2 rfl (brow key) (by rw [size_brow, lk]; exact rowTy52) (fun w' hp => b1.cls hp) ?_; simp only [Act.put, List.setIfInBounds_toArray, List.set_cons_zero, List.set_cons_succ]; go_big_quiet_on)
    | (go_big_quiet_want; go_big_quiet_op; apply Exists.intro; refine ⟨fun _ => call_cls (byKey55 _ a n c) ⟨_, rfl⟩, ?_⟩; go_big_quiet_on)
    | (go_big_quiet_want; go_big_quiet_op; apply Exists.intro; refine ⟨fun _ => call_cls (Hf.out _ (hl1.keep (keeps_cls ⟨_, rfl⟩))) ⟨_, rfl⟩, ?_⟩; go_big_quiet_on))
  refine wpQuiet_nil ?_
  intro w5 hw5
  go_wp2
  go_ret2
  exact ⟨rfl, k1.trans (keeps_cls hw5)⟩

theorem eqKey_at {x y : List B} {v : Bool} (h : Hid (decide (x = y) = v)) (hx : x.length = 32) (hy : y.length = 32) : ∀ w, (Op.equalIn 10000 52 (.agg (brow x)) (.agg (brow y))).run Tryd.prog w = .ok v w := fun w => by
  rw [← h.out]; exact run_equalIn_row 9998 52 32 Tryd.underlying52 x y hx hy w
set_option maxHeartbeats 4000000 in
theorem find41 (w : World) (a : Option Addr) (n c : Nat) (l : List En) (hl : SlE w a n c l) (hn : n ≤ 9223372036854775806) (key : List B) (lk : key.length = 32) :
    Calls Tryd.prog 41 #[.slice a n c, .agg (brow key)] w fun e w' => e = .returned (.tuple #[.int .i64 (fnd l key : Nat), .bool (ths l key)]) ∧ Keeps (fun _ => False) w w' := by
  have Hlen : Hid (l.length = n) := hl.len
  go_enter Tryd.func41, Tryd.ntmps41
  go_wp2_with (refine wpList_boxR rfl 52 _ rfl _ rfl ?_; intro g2 w1 b1 z1 k1)
  have hl1 := hl.keep k1
  go_loopw [6] (fun t wr => ∃ i : Nat, i ≤ n ∧ t = .int .i64 (i : Int) ∧ Hid (∀ j, j < i → lessB (l.getD j default).key key = true) ∧ Keeps (fun _ => False) w1 wr) (fun t _ => n - (intOf t).toNat)
  case atStart => exact ⟨0, by omega, rfl, (fun j hj => by omega), Keeps.refl _ _⟩
  case round =>
    obtain ⟨i, hi, rfl, HA, KW⟩ := hrel
    have B := b1.keep KW
    by_cases hlt : i < n
    · have hlt' : (i : Int) < (n : Int) := by omega
      have hi0 : (0 : Int) ≤ (i : Int) := by omega
      obtain ⟨b, o, rfl, E1⟩ := (hl1.keep KW).ent hlt
      obtain ⟨e1, he⟩ : ∃ e1, l.getD i default = e1 := ⟨_, rfl⟩
      have HE : Hid (l.getD i default = e1) := he
      rw [he] at E1
      clear he
      have l1 := E1.len
      obtain ⟨v, hv⟩ : ∃ v, lessB e1.key key = v := ⟨_, rfl⟩
      have HL : Hid (lessB e1.key key = v) := hv
      clear hv
      cases v with
      | true =>
        go_wp2_with fail
        refine wp_region_quiet_below (by kernel_rfl) (by kernel_rfl) ?_
        repeat (first
          | go_big_quiet_step (fail)
          | (go_big_quiet_want; refine quiet_key _ rfl b (o + i * 35) rfl e1 (fun w' hp => E1.cls hp) l1 ?_; simp only [Act.put, List.setIfInBounds_toArray, List.set_cons_zero, List.set_cons_succ]; go_big_quiet_on)
          | (go_big_quiet_want; refine quiet_loadR 52 _ rfl g2 rfl (brow key) (by rw [size_brow, lk]; exact rowTy52) (fun w' hp => B.cls hp) ?_; simp only [Act.put, List.setIfInBounds_toArray, List.set_cons_zero, List.set_cons_succ]; go_big_quiet_on)
          | (go_big_quiet_want; go_big_quiet_op; apply Exists.intro; refine ⟨fun _ => call_cls (less_ref HL _ l1 lk) ⟨_, rfl⟩, ?_⟩; go_big_quiet_on))
        refine wpQuiet_nil ?_
        intro w5 hw5
        go_wp2
        exact ⟨⟨i + 1, by omega, by go_num, (fun j hj => by
          by_cases h : j < i
          · exact HA.out j h
          · obtain rfl : j = i := (by omega)
            rw [HE.out]; exact HL.out), KW.trans (keeps_cls hw5)⟩, by simp [intOf]; omega⟩
      | false =>
        have HF : Hid (fnd l key = i) := fnd_is (by rw [Hlen.out]; exact hi) HA.out (fun _ => by rw [HE.out]; exact HL.out)
        obtain ⟨u, hu⟩ : ∃ u, decide (e1.key = key) = u := ⟨_, rfl⟩
        have HQ := eqKey_at (x := e1.key) (y := key) (v := u) hu l1 lk
        have HT : Hid (ths l key = u) := by
          show _ = _
          unfold ths
          rw [HF.out, decide_eq_true (by rw [Hlen.out]; exact hlt), Bool.true_and, HE.out, ← hu]
          rcases less_ways e1.key key key with ⟨h1, h2, h3⟩ | ⟨h1, h2, h3⟩ | ⟨h1, _⟩ | ⟨h1, _⟩
          · rw [h2, h3]; rfl
          · rw [h2, h3]; rfl
          · rw [HL.out] at h1; cases h1
          · rw [HL.out] at h1; cases h1
        clear hu
        go_wp2_with fail
        refine wp_region_quiet_below (by kernel_rfl) (by kernel_rfl) ?_
        repeat (first
          | go_big_quiet_step (fail)
          | (go_big_quiet_want; refine quiet_key _ rfl b (o + i * 35) rfl e1 (fun w' hp => E1.cls hp) l1 ?_; simp only [Act.put, List.setIfInBounds_toArray, List.set_cons_zero, List.set_cons_succ]; go_big_quiet_on)
          | (go_big_quiet_want; refine quiet_loadR 52 _ rfl g2 rfl (brow key) (by rw [size_brow, lk]; exact rowTy52) (fun w' hp => B.cls hp) ?_; simp only [Act.put, List.setIfInBounds_toArray, List.set_cons_zero, List.set_cons_succ]; go_big_quiet_on)
          | (go_big_quiet_want; go_big_quiet_op; apply Exists.intro; refine ⟨fun _ => call_cls (less_ref HL _ l1 lk) ⟨_, rfl⟩, ?_⟩; go_big_quiet_on))
        refine wpQuiet_nil ?_
        intro w5 hw5
        have E5 := E1.cls hw5
        have B5 := B.cls hw5
        go_wp2_with fail
        refine wp_region_quiet_below (by kernel_rfl) (by kernel_rfl) ?_
        repeat (first
          | go_big_quiet_step (fail)
          | (go_big_quiet_want; refine quiet_key _ rfl b (o + i * 35) rfl e1 (fun w' hp => E5.cls hp) l1 ?_; simp only [Act.put, List.setIfInBounds_toArray, List.set_cons_zero, List.set_cons_succ]; go_big_quiet_on)
          | (go_big_quiet_want; refine quiet_loadR 52 _ rfl g2 rfl (brow key) (by rw [size_brow, lk]; exact rowTy52) (fun w' hp => B5.cls hp) ?_; simp only [Act.put, List.setIfInBounds_toArray, List.set_cons_zero, List.set_cons_succ]; go_big_quiet_on))
        refine wpQuiet_nil ?_
        intro w6 hw6
        go_wp2
        go_ret2
        exact ⟨by rw [HF.out, HT.out]; rfl, k1.trans ((KW.trans (keeps_cls hw5)).trans (keeps_cls hw6))⟩
    · obtain rfl : i = n := by omega
      have hlt' : ¬ (i : Int) < (i : Int) := by omega
      have HF : Hid (fnd l key = i) := fnd_is (by rw [Hlen.out]; exact hi) HA.out (fun h => by rw [Hlen.out] at h; omega)
      have HT : Hid (ths l key = false) := by show _ = _; unfold ths; rw [HF.out, decide_eq_false (by rw [Hlen.out]; omega), Bool.false_and]
      go_wp2_with fail
      refine wp_region_quiet_below (by kernel_rfl) (by kernel_rfl) ?_
      repeat (go_big_quiet_step (fail))
      refine wpQuiet_nil ?_
      intro w5 hw5
      go_wp2_with fail
      refine wp_region_quiet_below (by kernel_rfl) (by kernel_rfl) ?_
      repeat (go_big_quiet_step (fail))
      refine wpQuiet_nil ?_
      intro w6 hw6
      go_wp2
      go_ret2
      exact ⟨by rw [HF.out, HT.out]; rfl, k1.trans ((KW.trans (keeps_cls hw5)).trans (keeps_cls hw6))⟩

end Go.Proofs.YthngaegfppbdmaaDoor
