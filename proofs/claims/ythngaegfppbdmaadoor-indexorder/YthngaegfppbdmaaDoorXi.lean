/-
  The sorted list with an element more, or less.
-/
import Derived.Test.YthngaegfppbdmaaDoorXg
set_option linter.all false
namespace Go.Proofs.YthngaegfppbdmaaDoor
open Go.RowKit Go.Sort Go.Shelf
attribute [local go_sem] Oper.semAt_some

def ins (l : List En) (x : En) : List En := l.take (fnd l x.key) ++ ([x] ++ l.drop (fnd l x.key))
def del (l : List En) (key : List B) : List En := l.take (fnd l key) ++ l.drop (fnd l key + 1)

theorem run_build3S (w : World) (a1 a2 a3 : Option Addr) (n1 n2 n3 c1 c2 c3 : Nat) : (Instr.buildSlice 122 3 #[(0, .slice a1 n1 c1), (1, .slice a2 n2 c2), (2, .slice a3 n3 c3)]).run Tryd.prog w = .ok (.slice (some ⟨w.heap.size, 0, none⟩) 3 3) (w.alloc (.cells #[.slice a1 n1 c1, .slice a2 n2 c2, .slice a3 n3 c3] 22)) := by kernel_rfl
theorem run_build2S (w : World) (a1 a2 : Option Addr) (n1 n2 c1 c2 : Nat) : (Instr.buildSlice 122 2 #[(0, .slice a1 n1 c1), (1, .slice a2 n2 c2)]).run Tryd.prog w = .ok (.slice (some ⟨w.heap.size, 0, none⟩) 2 2) (w.alloc (.cells #[.slice a1 n1 c1, .slice a2 n2 c2] 22)) := by kernel_rfl
theorem wpList_build3S {ops : Array Oper} {rest : List Oper} {o : Oper} {a : Act} {w : World} {Q : Exit → Act → World → Prop} (hgd : o.guard = none) (x y z : Operand) (ho : o.op = .buildSlice 122 3 #[(0, x), (1, y), (2, z)]) (u1 u2 u3 : Sv) (hx : a.eval x = u1.v) (hy : a.eval y = u2.v) (hz : a.eval z = u3.v)
    (h : ∀ g w', RoAt w' g 22 ([u1, u2, u3].map Sv.v).toArray → w.heap.size ≤ g → Keeps (fun _ => False) w w' → wpList Tryd.prog ops Q rest (a.put o.dst (.slice (some ⟨g, 0, none⟩) 3 3)) w') : wpList Tryd.prog ops Q (o :: rest) a w := by
  refine wpList_plain hgd fun K hK => ?_
  unfold Oper.wp execOp
  unfold Sv.v at hx hy hz
  simp only [ho, List.map_toArray, List.map_cons, List.map_nil, hx, hy, hz, run_build3S, Sem.run_bind, Result.andThen_ok, Sem.run_pure]
  exact hK _ _ (h w.heap.size _ ⟨heap_alloc_new w _⟩ (Nat.le_refl _) (keeps_alloc w _))
theorem wpList_build2S {ops : Array Oper} {rest : List Oper} {o : Oper} {a : Act} {w : World} {Q : Exit → Act → World → Prop} (hgd : o.guard = none) (x y : Operand) (ho : o.op = .buildSlice 122 2 #[(0, x), (1, y)]) (u1 u2 : Sv) (hx : a.eval x = u1.v) (hy : a.eval y = u2.v)
    (h : ∀ g w', RoAt w' g 22 ([u1, u2].map Sv.v).toArray → w.heap.size ≤ g → Keeps (fun _ => False) w w' → wpList Tryd.prog ops Q rest (a.put o.dst (.slice (some ⟨g, 0, none⟩) 2 2)) w') : wpList Tryd.prog ops Q (o :: rest) a w := by
  refine wpList_plain hgd fun K hK => ?_
  unfold Oper.wp execOp
  unfold Sv.v at hx hy
  simp only [ho, List.map_toArray, List.map_cons, List.map_nil, hx, hy, run_build2S, Sem.run_bind, Result.andThen_ok, Sem.run_pure]
  exact hK _ _ (h w.heap.size _ ⟨heap_alloc_new w _⟩ (Nat.le_refl _) (keeps_alloc w _))

theorem fnd_le (key : List B) : ∀ l : List En, fnd l key ≤ l.length
  | [] => Nat.le_refl _
  | e :: l => by
    have := fnd_le key l
    unfold fnd
    split
    · simp; omega
    · omega
theorem find_at {l : List En} {key : List B} {k : Nat} {v : Bool} (hr : rises l = true) (hk : fnd l key = k) (ht : ths l key = v) (w : World) (a : Option Addr) (n c : Nat) (hl : SlE w a n c l) (hn : n ≤ 4611686018427387903) (lk : key.length = 32) :
    Calls Tryd.prog 58 #[bk a n c, .agg (brow key)] w fun e w' => e = .returned (.tuple #[.int .i64 (k : Nat), .bool v]) ∧ Keeps (fun _ => False) w w' := by
  rw [← hk, ← ht]; exact find58 w a n c l hl hn hr key lk

set_option maxHeartbeats 4000000 in
theorem with59_there (w : World) (a : Option Addr) (n c : Nat) (l : List En) (hl : SlE w a n c l) (hn : n ≤ 1000) (hr : rises l = true) (x : En) (lk : x.key.length = 32) (ht : ths l x.key = true) :
    Calls Tryd.prog 59 #[bk a n c, .agg x.cells.toArray] w fun e w' => e = .returned (.tuple #[.slice none 0 0, .bool false]) ∧ Keeps (fun _ => False) w w' := by
  obtain ⟨k, hk⟩ : ∃ k, fnd l x.key = k := ⟨_, rfl⟩
  have Hf : Hid (∀ w, SlE w a n c l → Calls Tryd.prog 58 #[bk a n c, .agg (brow x.key)] w fun e w' => e = .returned (.tuple #[.int .i64 (k : Nat), .bool true]) ∧ Keeps (fun _ => False) w w') := fun w h => find_at hr hk ht w a n c h (by omega) lk
  clear hr hk ht
  unfold bk at *
  go_enter Tryd.func59, Tryd.ntmps59
  go_wp2_with (first
    | (refine wpList_boxR rfl 95 _ rfl _ rfl ?_; intro g2 w1 b1 z1 k1)
    | (refine wpList_box46 rfl _ rfl x lk rfl ?_; intro g3 w2 b2 z2 k2; have d1 := b1.keep k2; have K2 := k1.trans k2))
  have hl2 := hl.keep K2
  have c1 : ∀ d os, (grow (redrawn w2 d) os).cell? ⟨g2, 1, none⟩ = some (.func (.func 70) #[] #[]) := fun d os => (d1.cls ⟨⟨d, os⟩, rfl⟩).cell 1
  refine wp_region_quiet_below (by kernel_rfl) (by kernel_rfl) ?_
  repeat (first
    | go_big_quiet_step (fail)
    | (go_big_quiet_want; refine quiet_loadR 95 _ rfl g2 rfl #[.slice a n c, .func (.func 70) #[] #[], .func (.func 62) #[] #[]] rowTy95 (fun w' hp => d1.cls hp) ?_; simp only [Act.put, List.setIfInBounds_toArray, List.set_cons_zero, List.set_cons_succ]; go_big_quiet_on)
    | (go_big_quiet_want; refine quiet_load46 _ rfl g3 0 rfl x (fun w' hp => b2.cls hp) ?_; simp only [Act.put, List.setIfInBounds_toArray, List.set_cons_zero, List.set_cons_succ]; go_big_quiet_on)
    | (go_big_quiet_want; go_big_quiet_op; apply Exists.intro; refine ⟨fun _ => call_cls (key70 _ x lk) ⟨_, rfl⟩, ?_⟩; go_big_quiet_on)
    | (go_big_quiet_want; go_big_quiet_op; apply Exists.intro; refine ⟨fun _ => call_cls (Hf.out _ (hl2.keep (keeps_cls ⟨_, rfl⟩))) ⟨_, rfl⟩, ?_⟩; go_big_quiet_on))
  refine wpQuiet_nil ?_
  intro w5 hw5
  go_wp2
  go_ret2
  exact ⟨rfl, K2.trans (keeps_cls hw5)⟩

theorem SlE.pre {w : World} {a : Option Addr} {n c : Nat} {l : List En} (h : SlE w a n c l) {k : Nat} (hk : k ≤ n) : SlE w a k c (l.take k) :=
  ⟨by rw [List.length_take, h.len]; omega, by have := h.cap; omega, fun e he => h.keyed e (List.mem_of_mem_take he), fun j x hx => by
    have hs : ecs l = ecs (l.take k) ++ ecs (l.drop k) := by
      unfold ecs
      rw [← List.flatMap_append, List.take_append_drop]
    have hj := (List.getElem?_eq_some_iff.1 hx).1
    exact h.at_ j x (by rw [hs, List.getElem?_append_left hj]; exact hx)⟩
theorem SlE.suf {w : World} {b o n c : Nat} {l : List En} (h : SlE w (some ⟨b, o, none⟩) n c l) {k : Nat} (hk : k ≤ n) : SlE w (some ⟨b, o + k * 35, none⟩) (n - k) (c - k) (l.drop k) :=
  ⟨by rw [List.length_drop, h.len], by have := h.cap; omega, fun e he => h.keyed e (List.mem_of_mem_drop he), fun j x hx => by
    have hs : ecs l = ecs (l.take k) ++ ecs (l.drop k) := by
      unfold ecs
      rw [← List.flatMap_append, List.take_append_drop]
    have hl : (ecs (l.take k)).length = k * 35 := by
      have := ecs_len (l := l.take k) (fun e he => h.keyed e (List.mem_of_mem_take he))
      rw [this, List.length_take, h.len, Nat.min_eq_left hk]
    obtain ⟨b', o', e', hc⟩ := h.at_ (k * 35 + j) x (by rw [hs, List.getElem?_append_right (by omega), hl, Nat.add_sub_cancel_left]; exact hx)
    cases e'
    exact ⟨b, o + k * 35, rfl, by rw [Nat.add_assoc]; exact hc⟩⟩

theorem SlE.void (w : World) (a : Option Addr) (c : Nat) : SlE w a 0 c [] := ⟨rfl, Nat.zero_le _, (fun e he => by cases he), fun j x hx => by simp [ecs] at hx⟩
theorem SlE.sufI {w : World} {A : Addr} {n c : Nat} {l : List En} (h : SlE w (some A) n c l) {k : Nat} (hk : k ≤ n) : SlE w (if c = k then some A else some (A.add (k * 35))) (n - k) (c - k) (l.drop k) := by
  have hl := h.len
  have hc := h.cap
  by_cases e : n = k
  · subst e
    rw [List.drop_of_length_le (by omega), Nat.sub_self]
    exact SlE.void _ _ _
  · rw [if_neg (by omega)]
    obtain ⟨b, o, e', _⟩ := h.ent (i := 0) (by omega)
    cases e'
    rw [Addr_add]
    exact h.suf hk
theorem OwnE.lower {w : World} {base base' : Nat} {v : Value} {l : List En} (h : OwnE w base v l) (hb : base' ≤ base) : OwnE w base' v l :=
  ⟨⟨h.owns.1, h.owns.2.imp id (fun ⟨g, cap, cur, h1, h2, h3⟩ => ⟨g, cap, cur, h1, by omega, h3⟩)⟩, h.keyed⟩
theorem Sv.Ok.keep {w w' : World} {x : Sv} (h : x.Ok w) (hk : Keeps (fun _ => False) w w') : x.Ok w' := ⟨h.sl.keep hk, h.nil⟩

set_option maxHeartbeats 4000000 in
theorem with59_new (w : World) (a : Option Addr) (n c : Nat) (l : List En) (hl : SlE w a n c l) (hnc : a = none → c = 0) (hn : n ≤ 1000) (hr : rises l = true) (x : En) (lk : x.key.length = 32) (ht : ths l x.key = false) :
    Calls Tryd.prog 59 #[bk a n c, .agg x.cells.toArray] w fun e w' => (∃ v, e = .returned (.tuple #[v, .bool true]) ∧ OwnE w' w.heap.size v (ins l x)) ∧ Keeps (fun _ => False) w w' := by
  obtain ⟨k, hk⟩ : ∃ k, fnd l x.key = k := ⟨_, rfl⟩
  have Hf : Hid (∀ w, SlE w a n c l → Calls Tryd.prog 58 #[bk a n c, .agg (brow x.key)] w fun e w' => e = .returned (.tuple #[.int .i64 (k : Nat), .bool false]) ∧ Keeps (fun _ => False) w w') := fun w h => find_at hr hk ht w a n c h (by omega) lk
  have HK : Hid (fnd l x.key = k) := hk
  clear hr hk ht
  unfold bk at *
  go_enter Tryd.func59, Tryd.ntmps59
  go_wp2_with (first
    | (refine wpList_boxR rfl 95 _ rfl _ rfl ?_; intro g2 w1 b1 z1 k1)
    | (refine wpList_box46 rfl _ rfl x lk rfl ?_; intro g3 w2 b2 z2 k2; have d1 := b1.keep k2; have K2 := k1.trans k2))
  have hl2 := hl.keep K2
  have c1 : ∀ d os, (grow (redrawn w2 d) os).cell? ⟨g2, 1, none⟩ = some (.func (.func 70) #[] #[]) := fun d os => (d1.cls ⟨⟨d, os⟩, rfl⟩).cell 1
  refine wp_region_quiet_below (by kernel_rfl) (by kernel_rfl) ?_
  repeat (first
    | go_big_quiet_step (fail)
    | (go_big_quiet_want; refine quiet_loadR 95 _ rfl g2 rfl #[.slice a n c, .func (.func 70) #[] #[], .func (.func 62) #[] #[]] rowTy95 (fun w' hp => d1.cls hp) ?_; simp only [Act.put, List.setIfInBounds_toArray, List.set_cons_zero, List.set_cons_succ]; go_big_quiet_on)
    | (go_big_quiet_want; refine quiet_load46 _ rfl g3 0 rfl x (fun w' hp => b2.cls hp) ?_; simp only [Act.put, List.setIfInBounds_toArray, List.set_cons_zero, List.set_cons_succ]; go_big_quiet_on)
    | (go_big_quiet_want; go_big_quiet_op; apply Exists.intro; refine ⟨fun _ => call_cls (key70 _ x lk) ⟨_, rfl⟩, ?_⟩; go_big_quiet_on)
    | (go_big_quiet_want; go_big_quiet_op; apply Exists.intro; refine ⟨fun _ => call_cls (Hf.out _ (hl2.keep (keeps_cls ⟨_, rfl⟩))) ⟨_, rfl⟩, ?_⟩; go_big_quiet_on))
  refine wpQuiet_nil ?_
  intro w5 hw5
  have d5 := d1.cls hw5
  have b5 := b2.cls hw5
  have K5 := K2.trans (keeps_cls hw5)
  go_wp2_with fail
  have kd : Keeps (fun _ => False) w5 w5.drew := (Keeps.refl _ _).drew
  have c0 : ∀ d os, (grow (redrawn w5 d) os).cell? ⟨g2, 0, none⟩ = some (.slice a n c) := fun d os => (d5.cls ⟨⟨d, os⟩, rfl⟩).cell 0
  have hkn : k ≤ n := by have := fnd_le x.key l; rw [HK.out, hl.len] at this; exact this
  have hcap := hl.cap
  have E5 : EnAt w5 g3 0 x := b5
  cases a with
  | none =>
    obtain rfl : c = 0 := hnc rfl
    obtain rfl : n = 0 := by omega
    obtain rfl : k = 0 := by omega
    refine region_plan (S := fun w' => ∃ p : Regrown, w' = grow (redrawn w5 p.d) p.os) [([0, 1, 2, 3, 4, 6, 7, 8, 9], 5), ([], 10), ([], 11)] [12, 13] (by kernel_rfl) (by kernel_rfl) (by kernel_rfl) (by kernel_rfl) (cls_keeps kd) ?_
    simp only [wpPlan, opsAt, pick]
    repeat (first
      | go_big_quiet_step (fail)
      | (go_big_quiet_want; refine quiet_load46 _ rfl g3 0 rfl x (fun w' hp => E5.cls hp) ?_; simp only [Act.put, List.setIfInBounds_toArray, List.set_cons_zero, List.set_cons_succ]; go_big_quiet_on))
    refine wpQuiet_nil ?_
    have hz : l = [] := List.eq_nil_of_length_eq_zero hl.len
    have o1 : Sv.Ok w5 ⟨none, 0, 0, l.take 0⟩ := ⟨by rw [List.take_zero]; exact SlE.void _ _ _, fun _ => rfl⟩
    have o3 : Sv.Ok w5 ⟨none, 0, 0, l.drop 0⟩ := ⟨by rw [hz]; exact SlE.void _ _ _, fun _ => rfl⟩
    have HS : Hid ((cat [(⟨none, 0, 0, l.take 0⟩ : Sv), ⟨some ⟨g3, 0, none⟩, 1, 1, [x]⟩, ⟨none, 0, 0, l.drop 0⟩]).length ≤ 100000) := by show _ ≤ _; rw [hz]; simp [cat]
    clear hz
    go_wp2_with (refine wpList_build1E rfl _ rfl x rfl lk ?_; intro g6 w6 r6 z6 k6)
    have K6 := kd.trans k6
    refine ⟨cls_keeps K6, ?_⟩
    simp only [wpPlan, opsAt, pick]
    refine wpQuiet_nil ?_
    go_wp2_with (refine wpList_build3S rfl _ _ _ rfl ⟨none, 0, 0, l.take 0⟩ ⟨some ⟨g6, 0, none⟩, 1, 1, [x]⟩ ⟨none, 0, 0, l.drop 0⟩ rfl rfl rfl ?_; intro g8 w8 r8 z8 k8)
    have K8 := K6.trans k8
    have O1 := o1.keep K8
    have O3 := o3.keep K8
    have O2 : Sv.Ok w8 ⟨some ⟨g6, 0, none⟩, 1, 1, [x]⟩ := ⟨(SlE.just r6.at_ (Nat.le_refl _)).keep k8, fun h => by cases h⟩
    refine ⟨cls_keeps K8, ?_⟩
    simp only [wpPlan, opsAt, pick]
    refine wpQuiet_nil ?_
    go_wp2_with (go_at_call 73; refine (concat73 _ g8 3 [⟨none, 0, 0, l.take 0⟩, ⟨some ⟨g6, 0, none⟩, 1, 1, [x]⟩, ⟨none, 0, 0, l.drop 0⟩] r8 rfl (fun y hy => by
      simp only [List.mem_cons, List.not_mem_nil, or_false] at hy
      rcases hy with rfl | rfl | rfl
      · exact O1
      · exact O2
      · exact O3) (by have := HS.out; simpa [cat] using this) (by omega)).mono ?_; rintro e w9 ⟨v9, rfl, o9, k9⟩)
    have K9 := K8.trans k9
    have o9' : OwnE w9 w.heap.size v9 (ins l x) := by
      have hc : cat [⟨none, 0, 0, l.take 0⟩, ⟨some ⟨g6, 0, none⟩, 1, 1, [x]⟩, ⟨none, 0, 0, l.drop 0⟩] = ins l x := by
        unfold ins
        rw [HK.out]
        simp [cat]
      rw [← hc]
      exact o9.lower (by have := K5.size; have := K8.size; omega)
    refine ⟨cls_keeps K9, ?_⟩
    simp only [wpPlan, opsAt, pick]
    repeat (go_big_quiet_step (fail))
    refine wpQuiet_nil ?_
    refine NoPanic.normal ?_
    go_wp2
    go_ret2
    exact ⟨⟨v9, rfl, o9'⟩, K5.trans K9⟩
  | some ad =>
    obtain ⟨b, o, q⟩ := ad
    have hk0 : (0 : Int) ≤ (k : Int) := by omega
    have hkc : (k : Int) ≤ (c : Int) := by omega
    have hkn' : (k : Int) ≤ (n : Int) := by omega
    have hnc' : (n : Int) ≤ (c : Int) := by omega
    refine region_plan (S := fun w' => ∃ p : Regrown, w' = grow (redrawn w5 p.d) p.os) [([0, 1, 2, 3, 4, 6, 7, 8, 9], 5), ([], 10), ([], 11)] [12, 13] (by kernel_rfl) (by kernel_rfl) (by kernel_rfl) (by kernel_rfl) (cls_keeps kd) ?_
    simp only [wpPlan, opsAt, pick]
    repeat (first
      | go_big_quiet_step (fail)
      | (go_big_quiet_want; refine quiet_load46 _ rfl g3 0 rfl x (fun w' hp => E5.cls hp) ?_; simp only [Act.put, List.setIfInBounds_toArray, List.set_cons_zero, List.set_cons_succ]; go_big_quiet_on))
    refine wpQuiet_nil ?_
    have hA := (hl.keep K5).sufI hkn
    have o1 : Sv.Ok w5 ⟨some ⟨b, o, q⟩, k, c, l.take k⟩ := ⟨(hl.keep K5).pre hkn, fun h => by cases h⟩
    have HS : Hid ((l.take k ++ ([x] ++ l.drop k)).length ≤ 100000) := by show _ ≤ _; rw [List.length_append, List.length_append, List.length_take, List.length_drop, hl.len]; simp; omega
    have hA2 : (if c = k then some (⟨b, o, q⟩ : Addr) else some ((⟨b, o, q⟩ : Addr).add (k * 35))) = none → c - k = 0 := fun h => by split at h <;> cases h
    generalize (if c = k then some (⟨b, o, q⟩ : Addr) else some ((⟨b, o, q⟩ : Addr).add (k * 35))) = a3 at *
    have o3 : Sv.Ok w5 ⟨a3, n - k, c - k, l.drop k⟩ := ⟨hA, hA2⟩
    go_wp2_with (refine wpList_build1E rfl _ rfl x rfl lk ?_; intro g6 w6 r6 z6 k6)
    have K6 := kd.trans k6
    refine ⟨cls_keeps K6, ?_⟩
    simp only [wpPlan, opsAt, pick]
    refine wpQuiet_nil ?_
    go_wp2_with (refine wpList_build3S rfl _ _ _ rfl ⟨some ⟨b, o, q⟩, k, c, l.take k⟩ ⟨some ⟨g6, 0, none⟩, 1, 1, [x]⟩ ⟨a3, n - k, c - k, l.drop k⟩ rfl rfl rfl ?_; intro g8 w8 r8 z8 k8)
    have K8 := K6.trans k8
    have O1 := o1.keep K8
    have O3 := o3.keep K8
    have O2 : Sv.Ok w8 ⟨some ⟨g6, 0, none⟩, 1, 1, [x]⟩ := ⟨(SlE.just r6.at_ (Nat.le_refl _)).keep k8, fun h => by cases h⟩
    refine ⟨cls_keeps K8, ?_⟩
    simp only [wpPlan, opsAt, pick]
    refine wpQuiet_nil ?_
    go_wp2_with (go_at_call 73; refine (concat73 _ g8 3 [⟨some ⟨b, o, q⟩, k, c, l.take k⟩, ⟨some ⟨g6, 0, none⟩, 1, 1, [x]⟩, ⟨a3, n - k, c - k, l.drop k⟩] r8 rfl (fun y hy => by
      simp only [List.mem_cons, List.not_mem_nil, or_false] at hy
      rcases hy with rfl | rfl | rfl
      · exact O1
      · exact O2
      · exact O3) (by have := HS.out; simpa [cat] using this) (by omega)).mono ?_; rintro e w9 ⟨v9, rfl, o9, k9⟩)
    have K9 := K8.trans k9
    have o9' : OwnE w9 w.heap.size v9 (ins l x) := by
      have hc : cat [⟨some ⟨b, o, q⟩, k, c, l.take k⟩, ⟨some ⟨g6, 0, none⟩, 1, 1, [x]⟩, ⟨a3, n - k, c - k, l.drop k⟩] = ins l x := by
        unfold ins
        rw [HK.out]
        simp [cat]
      rw [← hc]
      exact o9.lower (by have := K5.size; have := K8.size; omega)
    refine ⟨cls_keeps K9, ?_⟩
    simp only [wpPlan, opsAt, pick]
    repeat (go_big_quiet_step (fail))
    refine wpQuiet_nil ?_
    refine NoPanic.normal ?_
    go_wp2
    go_ret2
    exact ⟨⟨v9, rfl, o9'⟩, K5.trans K9⟩

theorem wpList_loadR {ops : Array Oper} {rest : List Oper} {o : Oper} {a : Act} {w : World} {Q : Exit → Act → World → Prop} (hw : Region.wanted o (yielded ops a.tmps) = true) (t : TypeId) (x : Operand) (ho : o.op = .load t x) (g : Nat) (hx : a.eval x = .pointer (some ⟨g, 0, none⟩)) (cs : Array Value) (hs : RowTy t cs.size) (hb : RoAt w g t cs)
    (h : wpList Tryd.prog ops Q rest (a.put o.dst (.agg cs)) w) : wpList Tryd.prog ops Q (o :: rest) a w := by
  unfold wpList
  rw [if_pos hw]
  left
  unfold Oper.wp execOp
  simp only [ho, hx, Instr.loadAt, Instr.sureAddr, Sem.run_bind, Sem.run_pure, Result.andThen_ok, run_loadR hb hs]
  exact h
set_option maxHeartbeats 4000000 in
theorem without60_none (w : World) (a : Option Addr) (n c : Nat) (l : List En) (hl : SlE w a n c l) (hn : n ≤ 1000) (hr : rises l = true) (key : List B) (lk : key.length = 32) (ht : ths l key = false) :
    Calls Tryd.prog 60 #[bk a n c, .agg (brow key)] w fun e w' => e = .returned (.tuple #[.slice none 0 0, .bool false]) ∧ Keeps (fun _ => False) w w' := by
  obtain ⟨k, hk⟩ : ∃ k, fnd l key = k := ⟨_, rfl⟩
  have Hf : Hid (∀ w, SlE w a n c l → Calls Tryd.prog 58 #[bk a n c, .agg (brow key)] w fun e w' => e = .returned (.tuple #[.int .i64 (k : Nat), .bool false]) ∧ Keeps (fun _ => False) w w') := fun w h => find_at hr hk ht w a n c h (by omega) lk
  clear hr hk ht
  unfold bk at *
  go_enter Tryd.func60, Tryd.ntmps60
  go_wp2_with (first
    | (refine wpList_boxR rfl 95 _ rfl _ rfl ?_; intro g2 w1 b1 z1 k1)
    | (refine wpList_boxR rfl 52 _ rfl _ rfl ?_; intro g3 w2 b2 z2 k2; have d1 := b1.keep k2; have K2 := k1.trans k2)
    | (refine wpList_loadR rfl 95 _ rfl g2 rfl #[.slice a n c, .func (.func 70) #[] #[], .func (.func 62) #[] #[]] rowTy95 d1 ?_)
    | (refine wpList_loadR rfl 52 _ rfl g3 rfl (brow key) (by rw [size_brow, lk]; exact rowTy52) b2 ?_)
    | (go_at_call 58; refine (Hf.out _ (hl.keep K2)).mono ?_; rintro e w5 ⟨rfl, k5⟩; have K5 := K2.trans k5; have d5 := d1.keep k5))
  go_ret2
  exact ⟨rfl, K5⟩


end Go.Proofs.YthngaegfppbdmaaDoor
