/-
  An element less; Insert and Remove of the program's index.
-/
import Derived.Test.YthngaegfppbdmaaDoorXi
import Derived.Test.YthngaegfppbdmaaDoorXm
set_option linter.all false
namespace Go.Proofs.YthngaegfppbdmaaDoor
open Go.RowKit Go.Sort Go.Shelf
attribute [local go_sem] Oper.semAt_some

set_option maxHeartbeats 4000000 in
theorem without60_there (w : World) (a : Option Addr) (n c : Nat) (l : List En) (hl : SlE w a n c l) (hn : n ≤ 1000) (hr : rises l = true) (key : List B) (lk : key.length = 32) (ht : ths l key = true) :
    Calls Tryd.prog 60 #[bk a n c, .agg (brow key)] w fun e w' => (∃ v, e = .returned (.tuple #[v, .bool true]) ∧ OwnE w' w.heap.size v (del l key)) ∧ Keeps (fun _ => False) w w' := by
  obtain ⟨k, hk⟩ : ∃ k, fnd l key = k := ⟨_, rfl⟩
  have Hf : Hid (∀ w, SlE w a n c l → Calls Tryd.prog 58 #[bk a n c, .agg (brow key)] w fun e w' => e = .returned (.tuple #[.int .i64 (k : Nat), .bool true]) ∧ Keeps (fun _ => False) w w') := fun w h => find_at hr hk ht w a n c h (by omega) lk
  have HK : Hid (fnd l key = k) := hk
  have hkn : k < n := by
    unfold ths at ht
    rw [hk, Bool.and_eq_true, decide_eq_true_eq, hl.len] at ht
    exact ht.1
  clear hr hk ht
  unfold bk at *
  go_enter Tryd.func60, Tryd.ntmps60
  go_wp2_with (first
    | (refine wpList_boxR rfl 95 _ rfl _ rfl ?_; intro g2 w1 b1 z1 k1)
    | (refine wpList_boxR rfl 52 _ rfl _ rfl ?_; intro g3 w2 b2 z2 k2; have d1 := b1.keep k2; have K2 := k1.trans k2)
    | (refine wpList_loadR rfl 95 _ rfl g2 rfl #[.slice a n c, .func (.func 70) #[] #[], .func (.func 62) #[] #[]] rowTy95 d1 ?_)
    | (refine wpList_loadR rfl 52 _ rfl g3 rfl (brow key) (by rw [size_brow, lk]; exact rowTy52) b2 ?_)
    | (go_at_call 58; refine (Hf.out _ (hl.keep K2)).mono ?_; rintro e w5 ⟨rfl, k5⟩; have K5 := K2.trans k5; have d5 := d1.keep k5))
  go_wp2_with fail
  have kd : Keeps (fun _ => False) w5 w5.drew := (Keeps.refl _ _).drew
  have c0 : ∀ d os, (grow (redrawn w5 d) os).cell? ⟨g2, 0, none⟩ = some (.slice a n c) := fun d os => (d5.cls ⟨⟨d, os⟩, rfl⟩).cell 0
  have hcap := hl.cap
  cases a with
  | none =>
    exfalso
    obtain ⟨b, o, e', _⟩ := hl.ent hkn
    cases e'
  | some ad =>
    obtain ⟨b, o, q⟩ := ad
    obtain ⟨m, hm⟩ : ∃ m, k + 1 = m := ⟨_, rfl⟩
    have hmi : (k : Int) + 1 = (m : Int) := by omega
    have HM : Hid (k + 1 = m) := hm
    have hk0 : (0 : Int) ≤ (k : Int) := by omega
    have hkc : (k : Int) ≤ (c : Int) := by omega
    have hm0 : (0 : Int) ≤ (m : Int) := by omega
    have hmc : (m : Int) ≤ (c : Int) := by omega
    have hmn' : (m : Int) ≤ (n : Int) := by omega
    have hmn : m ≤ n := by omega
    have hkn2 : k ≤ n := by omega
    have hnc' : (n : Int) ≤ (c : Int) := by omega
    clear hm
    refine region_plan (S := fun w' => ∃ p : Regrown, w' = grow (redrawn w5 p.d) p.os) [([0, 1, 2, 3, 4, 5, 6, 7, 8], 9), ([], 10)] [11, 12] (by kernel_rfl) (by kernel_rfl) (by kernel_rfl) (by kernel_rfl) (cls_keeps kd) ?_
    simp only [wpPlan, opsAt, pick]
    repeat (go_big_quiet_step (fail))
    refine wpQuiet_nil ?_
    have hA := (hl.keep K5).sufI hmn
    have o1 : Sv.Ok w5 ⟨some ⟨b, o, q⟩, k, c, l.take k⟩ := ⟨(hl.keep K5).pre hkn2, fun h => by cases h⟩
    have HS : Hid ((l.take k ++ l.drop m).length ≤ 100000) := by show _ ≤ _; rw [List.length_append, List.length_take, List.length_drop, hl.len]; omega
    have hA2 : (if c = m then some (⟨b, o, q⟩ : Addr) else some ((⟨b, o, q⟩ : Addr).add (m * 35))) = none → c - m = 0 := fun h => by split at h <;> cases h
    generalize (if c = m then some (⟨b, o, q⟩ : Addr) else some ((⟨b, o, q⟩ : Addr).add (m * 35))) = a3 at *
    have o3 : Sv.Ok w5 ⟨a3, n - m, c - m, l.drop m⟩ := ⟨hA, hA2⟩
    go_wp2_with (refine wpList_build2S rfl _ _ rfl ⟨some ⟨b, o, q⟩, k, c, l.take k⟩ ⟨a3, n - m, c - m, l.drop m⟩ rfl rfl ?_; intro g8 w8 r8 z8 k8)
    have K8 := kd.trans k8
    have O1 := o1.keep K8
    have O3 := o3.keep K8
    refine ⟨cls_keeps K8, ?_⟩
    simp only [wpPlan, opsAt, pick]
    refine wpQuiet_nil ?_
    go_wp2_with (go_at_call 73; refine (concat73 _ g8 2 [⟨some ⟨b, o, q⟩, k, c, l.take k⟩, ⟨a3, n - m, c - m, l.drop m⟩] r8 rfl (fun y hy => by
      simp only [List.mem_cons, List.not_mem_nil, or_false] at hy
      rcases hy with rfl | rfl
      · exact O1
      · exact O3) (by have := HS.out; simpa [cat] using this) (by omega)).mono ?_; rintro e w9 ⟨v9, rfl, o9, k9⟩)
    have K9 := K8.trans k9
    have o9' : OwnE w9 w.heap.size v9 (del l key) := by
      have hc : cat [(⟨some ⟨b, o, q⟩, k, c, l.take k⟩ : Sv), ⟨a3, n - m, c - m, l.drop m⟩] = del l key := by
        unfold del
        rw [HK.out, HM.out]
        simp [cat]
      rw [← hc]
      exact o9.lower (by have := K5.size; have := K8.size; omega)
    refine ⟨cls_keeps K9, ?_⟩
    simp only [wpPlan, opsAt, pick]
    repeat (go_big_quiet_step (fail))
    refine wpQuiet_nil ?_
    refine NoPanic.normal ?_
    go_wp2
    go_ret2
    exact ⟨⟨v9, rfl, o9'⟩, K5.trans K9⟩

set_option maxHeartbeats 4000000 in
theorem insert42_there (w : World) (a : Option Addr) (n c : Nat) (l : List En) (hl : SlE w a n c l) (hnc : a = none → c = 0) (hn : n ≤ 1000) (hr : rises l = true) (x : En) (lk : x.key.length = 32) (ht : ths l x.key = true) :
    Calls Tryd.prog 42 #[.slice a n c, .agg x.cells.toArray] w fun e w' => e = .returned (.tuple #[.slice none 0 0, .int .i64 1]) ∧ Keeps (fun _ => False) w w' := by
  have Hi : Hid (∀ w, SlE w a n c l → Calls Tryd.prog 59 #[bk a n c, .agg x.cells.toArray] w fun e w' => e = .returned (.tuple #[.slice none 0 0, .bool false]) ∧ Keeps (fun _ => False) w w') := fun w h => with59_there w a n c l h hn hr x lk ht
  clear hr ht
  go_enter Tryd.func42, Tryd.ntmps42
  go_wp2_with (refine wpList_box46 rfl _ rfl x lk rfl ?_; intro g3 w1 b1 z1 k1)
  have hl1 := hl.keep k1
  have kd : Keeps (fun _ => False) w1 w1.drew := (Keeps.refl _ _).drew
  refine region_planX (S := fun w' => ∃ p : Regrown, w' = grow (redrawn w1 p.d) p.os) [([0, 2], 1), ([], 3)] [4, 5, 6, 7, 8] (by kernel_rfl) (by kernel_rfl) (by kernel_rfl) (by kernel_rfl) (cls_keeps kd) ?_
  simp only [wpPlan, opsAt, pick]
  repeat (first
    | go_big_quiet_step (fail)
    | (go_big_quiet_want; refine quiet_load46 _ rfl g3 0 rfl x (fun w' hp => b1.cls hp) ?_; simp only [Act.put, List.setIfInBounds_toArray, List.set_cons_zero, List.set_cons_succ]; go_big_quiet_on))
  refine wpQuiet_nil ?_
  go_wp2_with (go_at_call 55; refine (byKey55 _ a n c).mono ?_; rintro e w2 ⟨rfl, k2⟩)
  have K2 := kd.trans k2
  refine ⟨cls_keeps K2, ?_⟩
  simp only [wpPlan, opsAt, pick]
  refine wpQuiet_nil ?_
  go_wp2_with (go_at_call 59; refine (Hi.out _ (hl1.keep K2)).mono ?_; rintro e w3 ⟨rfl, k3⟩)
  have K3 := K2.trans k3
  refine ⟨cls_keeps K3, ?_⟩
  simp only [wpPlan, opsAt, pick]
  repeat (go_big_quiet_step (fail))
  refine wpQuiet_nil ?_
  refine NoPanic.normal ?_
  go_wp2
  go_ret2
  exact ⟨rfl, k1.trans K3⟩

set_option maxHeartbeats 4000000 in
theorem insert42_new (w : World) (a : Option Addr) (n c : Nat) (l : List En) (hl : SlE w a n c l) (hnc : a = none → c = 0) (hn : n ≤ 1000) (hr : rises l = true) (x : En) (lk : x.key.length = 32) (ht : ths l x.key = false) :
    Calls Tryd.prog 42 #[.slice a n c, .agg x.cells.toArray] w fun e w' => (∃ v, e = .returned (.tuple #[v, .int .i64 0]) ∧ OwnE w' w.heap.size v (ins l x)) ∧ Keeps (fun _ => False) w w' := by
  have Hi : Hid (∀ w, SlE w a n c l → Calls Tryd.prog 59 #[bk a n c, .agg x.cells.toArray] w fun e w' => (∃ v, e = .returned (.tuple #[v, .bool true]) ∧ OwnE w' w.heap.size v (ins l x)) ∧ Keeps (fun _ => False) w w') := fun w h => with59_new w a n c l h hnc hn hr x lk ht
  clear hr ht
  go_enter Tryd.func42, Tryd.ntmps42
  go_wp2_with (refine wpList_box46 rfl _ rfl x lk rfl ?_; intro g3 w1 b1 z1 k1)
  have hl1 := hl.keep k1
  have kd : Keeps (fun _ => False) w1 w1.drew := (Keeps.refl _ _).drew
  refine region_planX (S := fun w' => ∃ p : Regrown, w' = grow (redrawn w1 p.d) p.os) [([0, 2], 1), ([], 3)] [4, 5, 6, 7, 8] (by kernel_rfl) (by kernel_rfl) (by kernel_rfl) (by kernel_rfl) (cls_keeps kd) ?_
  simp only [wpPlan, opsAt, pick]
  repeat (first
    | go_big_quiet_step (fail)
    | (go_big_quiet_want; refine quiet_load46 _ rfl g3 0 rfl x (fun w' hp => b1.cls hp) ?_; simp only [Act.put, List.setIfInBounds_toArray, List.set_cons_zero, List.set_cons_succ]; go_big_quiet_on))
  refine wpQuiet_nil ?_
  go_wp2_with (go_at_call 55; refine (byKey55 _ a n c).mono ?_; rintro e w2 ⟨rfl, k2⟩)
  have K2 := kd.trans k2
  refine ⟨cls_keeps K2, ?_⟩
  simp only [wpPlan, opsAt, pick]
  refine wpQuiet_nil ?_
  go_wp2_with (go_at_call 59; refine (Hi.out _ (hl1.keep K2)).mono ?_; rintro e w3 ⟨⟨v3, rfl, o3⟩, k3⟩)
  have K3 := K2.trans k3
  refine ⟨cls_keeps K3, ?_⟩
  simp only [wpPlan, opsAt, pick]
  repeat (go_big_quiet_step (fail))
  refine wpQuiet_nil ?_
  refine NoPanic.normal ?_
  go_wp2
  go_ret2
  exact ⟨⟨v3, rfl, o3.lower (by have := k1.size; have := K2.size; omega)⟩, k1.trans K3⟩

set_option maxHeartbeats 4000000 in
theorem remove43_none (w : World) (a : Option Addr) (n c : Nat) (l : List En) (hl : SlE w a n c l) (hnc : a = none → c = 0) (hn : n ≤ 1000) (hr : rises l = true) (key : List B) (lk : key.length = 32) (ht : ths l key = false) :
    Calls Tryd.prog 43 #[.slice a n c, .agg (brow key)] w fun e w' => e = .returned (.tuple #[.slice none 0 0, .int .i64 19]) ∧ Keeps (fun _ => False) w w' := by
  have Hi : Hid (∀ w, SlE w a n c l → Calls Tryd.prog 60 #[bk a n c, .agg (brow key)] w fun e w' => e = .returned (.tuple #[.slice none 0 0, .bool false]) ∧ Keeps (fun _ => False) w w') := fun w h => without60_none w a n c l h hn hr key lk ht
  clear hr ht
  go_enter Tryd.func43, Tryd.ntmps43
  go_wp2_with (refine wpList_boxR rfl 52 _ rfl _ rfl ?_; intro g3 w1 b1 z1 k1)
  have hl1 := hl.keep k1
  have kd : Keeps (fun _ => False) w1 w1.drew := (Keeps.refl _ _).drew
  refine region_planX (S := fun w' => ∃ p : Regrown, w' = grow (redrawn w1 p.d) p.os) [([0, 2], 1), ([], 3)] [4, 5, 6, 7, 8] (by kernel_rfl) (by kernel_rfl) (by kernel_rfl) (by kernel_rfl) (cls_keeps kd) ?_
  simp only [wpPlan, opsAt, pick]
  repeat (first
    | go_big_quiet_step (fail)
    | (go_big_quiet_want; refine quiet_loadR 52 _ rfl g3 rfl (brow key) (by rw [size_brow, lk]; exact rowTy52) (fun w' hp => b1.cls hp) ?_; simp only [Act.put, List.setIfInBounds_toArray, List.set_cons_zero, List.set_cons_succ]; go_big_quiet_on))
  refine wpQuiet_nil ?_
  go_wp2_with (go_at_call 55; refine (byKey55 _ a n c).mono ?_; rintro e w2 ⟨rfl, k2⟩)
  have K2 := kd.trans k2
  refine ⟨cls_keeps K2, ?_⟩
  simp only [wpPlan, opsAt, pick]
  refine wpQuiet_nil ?_
  go_wp2_with (go_at_call 60; refine (Hi.out _ (hl1.keep K2)).mono ?_; rintro e w3 ⟨rfl, k3⟩)
  have K3 := K2.trans k3
  refine ⟨cls_keeps K3, ?_⟩
  simp only [wpPlan, opsAt, pick]
  repeat (go_big_quiet_step (fail))
  refine wpQuiet_nil ?_
  refine NoPanic.normal ?_
  go_wp2
  go_ret2
  exact ⟨rfl, k1.trans K3⟩

set_option maxHeartbeats 4000000 in
theorem remove43_there (w : World) (a : Option Addr) (n c : Nat) (l : List En) (hl : SlE w a n c l) (hnc : a = none → c = 0) (hn : n ≤ 1000) (hr : rises l = true) (key : List B) (lk : key.length = 32) (ht : ths l key = true) :
    Calls Tryd.prog 43 #[.slice a n c, .agg (brow key)] w fun e w' => (∃ v, e = .returned (.tuple #[v, .int .i64 0]) ∧ OwnE w' w.heap.size v (del l key)) ∧ Keeps (fun _ => False) w w' := by
  have Hi : Hid (∀ w, SlE w a n c l → Calls Tryd.prog 60 #[bk a n c, .agg (brow key)] w fun e w' => (∃ v, e = .returned (.tuple #[v, .bool true]) ∧ OwnE w' w.heap.size v (del l key)) ∧ Keeps (fun _ => False) w w') := fun w h => without60_there w a n c l h hn hr key lk ht
  clear hr ht
  go_enter Tryd.func43, Tryd.ntmps43
  go_wp2_with (refine wpList_boxR rfl 52 _ rfl _ rfl ?_; intro g3 w1 b1 z1 k1)
  have hl1 := hl.keep k1
  have kd : Keeps (fun _ => False) w1 w1.drew := (Keeps.refl _ _).drew
  refine region_planX (S := fun w' => ∃ p : Regrown, w' = grow (redrawn w1 p.d) p.os) [([0, 2], 1), ([], 3)] [4, 5, 6, 7, 8] (by kernel_rfl) (by kernel_rfl) (by kernel_rfl) (by kernel_rfl) (cls_keeps kd) ?_
  simp only [wpPlan, opsAt, pick]
  repeat (first
    | go_big_quiet_step (fail)
    | (go_big_quiet_want; refine quiet_loadR 52 _ rfl g3 rfl (brow key) (by rw [size_brow, lk]; exact rowTy52) (fun w' hp => b1.cls hp) ?_; simp only [Act.put, List.setIfInBounds_toArray, List.set_cons_zero, List.set_cons_succ]; go_big_quiet_on))
  refine wpQuiet_nil ?_
  go_wp2_with (go_at_call 55; refine (byKey55 _ a n c).mono ?_; rintro e w2 ⟨rfl, k2⟩)
  have K2 := kd.trans k2
  refine ⟨cls_keeps K2, ?_⟩
  simp only [wpPlan, opsAt, pick]
  refine wpQuiet_nil ?_
  go_wp2_with (go_at_call 60; refine (Hi.out _ (hl1.keep K2)).mono ?_; rintro e w3 ⟨⟨v3, rfl, o3⟩, k3⟩)
  have K3 := K2.trans k3
  refine ⟨cls_keeps K3, ?_⟩
  simp only [wpPlan, opsAt, pick]
  repeat (go_big_quiet_step (fail))
  refine wpQuiet_nil ?_
  refine NoPanic.normal ?_
  go_wp2
  go_ret2
  exact ⟨⟨v3, rfl, o3.lower (by have := k1.size; have := K2.size; omega)⟩, k1.trans K3⟩

end Go.Proofs.YthngaegfppbdmaaDoor
