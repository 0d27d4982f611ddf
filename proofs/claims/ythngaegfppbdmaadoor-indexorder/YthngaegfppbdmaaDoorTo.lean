/-
  LeafOrder: the walk.
-/
import Derived.Test.YthngaegfppbdmaaDoorPm
set_option linter.all false
namespace Go.Proofs.YthngaegfppbdmaaDoor
open Go.RowKit Go.Sort

/-- append of n entries to one's own. -/
theorem wpList_appSE {ops : Array Oper} {rest : List Oper} {o : Oper} {a : Act} {w : World} {Q : Exit → Act → World → Prop} (hgd : o.guard = none) (s x : Operand) (ho : o.op = .call { callee := .builtin .append, args := #[s, x], argTypes := #[22, 22] })
    (base : Nat) (v : Value) (l : List En) (hs : a.eval s = v) (hown : OwnE w base v l) (b of m c : Nat) (l1 : List En) (hx : a.eval x = .slice (some ⟨b, of, none⟩) m c) (hl : SlE w (some ⟨b, of, none⟩) m c l1) (hlen : l.length + m ≤ 100000) (hbase : base ≤ w.heap.size)
    (h : ∀ v' w', OwnE w' base v' (l ++ l1) → Keeps (fun k => v.ownBlock = some k) w w' → wpList Tryd.prog ops Q rest (a.put o.dst v') w') : wpList Tryd.prog ops Q (o :: rest) a w := by
  obtain ⟨i, hi, hz, hsz, hby⟩ := info46'
  have hlen1 := hl.len
  refine wpList_append_own _ hgd s x 22 ho base 54 i (.agg (e0 0 0 0).cells.toArray) 35 56 Tryd.underlying22 hi hz hsz hby (by show (e0 0 0 0).cells.toArray.size = 35; rw [List.size_toArray, En.cells_len (zb_len _)]) (by omega) v l.length _ hs hown.owns ⟨b, of, none⟩ m c (ecs l1) hx (by rw [ecs_len hl.keyed, hlen1]) (fun j u hu => ?_) (fun u hu => by
    unfold ecs at hu
    obtain ⟨e, _, he⟩ := List.mem_flatMap.1 hu
    have := cells_one e
    rw [Array.all_eq_true_iff_forall_mem] at this
    exact this u (by simpa using he)) (by unfold maxLen; omega) (by omega) hbase ?_
  · rw [Addr_add]
    obtain ⟨b', o', e', hc⟩ := hl.at_ j u hu
    cases e'; exact hc
  · intro v' w' ho' hg _
    refine h v' w' ⟨?_, ?_⟩ ⟨hg.os, hg.tape, hg.output, hg.size, fun k hk hb => hg.block k hk fun e => hb e.symm⟩
    · have : ecs (l ++ l1) = ecs l ++ ecs l1 := by simp [ecs]
      rw [this, List.length_append, hlen1]; exact ho'
    · intro x hx'
      rcases List.mem_append.1 hx' with h1 | h1
      · exact hown.keyed x h1
      · exact hl.keyed x h1
theorem run_build0E (w : World) : (Instr.buildSlice 22 0 #[]).run Tryd.prog w = .ok (.slice (some ⟨w.heap.size, 0, none⟩) 0 0) (w.alloc (.cells #[] 54)) := by
  obtain ⟨i0, hi0, hz0, hz1, hz2⟩ := info46'
  unfold Instr.buildSlice
  have hsize : (sizeOf 54).run Tryd.prog w = .ok 35 w := by simp [sizeOf, typeInfo, hi0, hz1]
  simp only [Sem.run_bind, run_underlying Tryd.underlying22, hsize, Result.andThen_ok]
  simp [newRow, Instr.fill]
  have e : ∀ f : Nat → Value, Array.map f (Array.range 0) = #[] := fun f => Array.eq_empty_of_size_eq_zero (by simp)
  rw [e]
theorem wpList_build0E {ops : Array Oper} {rest : List Oper} {o : Oper} {a : Act} {w : World} {Q : Exit → Act → World → Prop} (hgd : o.guard = none) (ho : o.op = .buildSlice 22 0 #[])
    (h : ∀ g w', OwnE w' w.heap.size (.slice (some ⟨g, 0, none⟩) 0 0) [] → w.heap.size ≤ g → Keeps (fun _ => False) w w' → wpList Tryd.prog ops Q rest (a.put o.dst (.slice (some ⟨g, 0, none⟩) 0 0)) w') : wpList Tryd.prog ops Q (o :: rest) a w := by
  refine wpList_plain hgd fun K hK => ?_
  unfold Oper.wp execOp
  simp only [ho, List.map_toArray, List.map_nil, run_build0E, Sem.run_bind, Result.andThen_ok, Sem.run_pure]
  refine hK _ _ (h w.heap.size _ ⟨⟨by simp [ecs], .inr ⟨w.heap.size, 0, #[], rfl, Nat.le_refl _, heap_alloc_new w _, Nat.le_refl _, by unfold maxLen; omega, by simp, by simp [ecs]⟩⟩, fun e he => by cases he⟩ (Nat.le_refl _) (keeps_alloc w _))

theorem wpList_build2Eg {ops : Array Oper} {rest : List Oper} {o : Oper} {a : Act} {w : World} {Q : Exit → Act → World → Prop} (hw : Region.wanted o (yielded ops a.tmps) = true) (x y : Operand) (ho : o.op = .buildSlice 22 2 #[(0, x), (1, y)]) (e d : En) (hx : a.eval x = .agg e.cells.toArray) (hy : a.eval y = .agg d.cells.toArray) (he : e.key.length = 32) (hd : d.key.length = 32)
    (h : ∀ g w', Er2 w' g e d → w.heap.size ≤ g → Keeps (fun _ => False) w w' → wpList Tryd.prog ops Q rest (a.put o.dst (.slice (some ⟨g, 0, none⟩) 2 2)) w') : wpList Tryd.prog ops Q (o :: rest) a w := by
  unfold wpList
  rw [if_pos hw]
  left
  unfold Oper.wp execOp
  simp only [ho, hx, hy, List.map_toArray, List.map_cons, List.map_nil, run_build2E w e d he hd, Sem.run_bind, Result.andThen_ok, Sem.run_pure]
  exact h w.heap.size _ ⟨heap_alloc_new w _, he, hd⟩ (Nat.le_refl _) (keeps_alloc w _)

theorem SlE.tail1 {w : World} {b o n c : Nat} {l : List En} (h : SlE w (some ⟨b, o, none⟩) n c l) (h1 : 1 ≤ n) : SlE w (some ⟨b, o + 35, none⟩) (n - 1) (c - 1) (l.drop 1) :=
  ⟨by rw [List.length_drop, h.len], by have := h.cap; omega, (fun e he => h.keyed e (List.mem_of_mem_drop he)), fun j x hx => by
    have hd : ecs (l.drop 1) = (ecs l).drop 35 := by
      have := flatMap_drop (f := En.cells) (k := 35) (l := l) (fun e he => En.cells_len (h.keyed e he)) 1
      rw [Nat.mul_one] at this
      unfold ecs
      exact this.symm
    rw [hd, List.getElem?_drop] at hx
    obtain ⟨b', o', e', hc⟩ := h.at_ _ x hx
    cases e'
    exact ⟨b, o + 35, rfl, by rw [Nat.add_assoc]; exact hc⟩⟩
theorem SlE.head1 {w : World} {a : Option Addr} {n c : Nat} {l : List En} (h : SlE w a n c l) (h1 : 1 ≤ n) : SlE w a 1 c (l.take 1) :=
  ⟨by rw [List.length_take, h.len]; omega, by have := h.cap; omega, (fun e he => h.keyed e (List.mem_of_mem_take he)), fun j x hx => by
    have hl := h.len
    have ht : ecs (l.take 1) = (ecs l).take 35 := by
      cases l with
      | nil => simp at hl; omega
      | cons e l =>
        have := En.cells_len (h.keyed e (by simp))
        simp [ecs, List.take_append, this]
    rw [ht, List.getElem?_take] at hx
    split at hx
    · exact h.at_ j x hx
    · cases hx⟩

theorem order_no (w : World) (hT : Tabs w) (a : Option Addr) (n c : Nat) (l : List En) (hl : SlE w a n c l) (hn : n ≤ 9223372036854775807) (h : gd l = false ∨ n < 2) :
    Calls Tryd.prog 7 #[.slice a n c] w fun e w' => e = .returned (.bool true) ∧ Keeps (fun _ => False) w w' := by
  cases hg : gd l with
  | false =>
    clear h
    go_enter Tryd.func7, Tryd.ntmps7
    go_wp2_with (first
      | (go_at_call 24; refine (good_at hg _ a n c hl hn).mono ?_; rintro e w1 ⟨rfl, k1⟩)
      | (go_at_call 14; refine (wakes14 _ (hT.keeps k1 (fun h => h) (fun h => h))).mono ?_; rintro e w2 ⟨rfl, k2⟩))
    go_ret
    exact ⟨rfl, k1.trans k2⟩
  | true =>
    have h2 : (n : Int) < 2 := by rcases h with h | h; rw [hg] at h; cases h; omega
    clear h
    go_enter Tryd.func7, Tryd.ntmps7
    go_wp2_with (first
      | (go_at_call 24; refine (good_at hg _ a n c hl hn).mono ?_; rintro e w1 ⟨rfl, k1⟩)
      | (go_at_call 14; refine (wakes14 _ (hT.keeps k1 (fun h => h) (fun h => h))).mono ?_; rintro e w2 ⟨rfl, k2⟩))
    go_ret
    exact ⟨rfl, k1.trans k2⟩

set_option maxRecDepth 100000 in
set_option maxHeartbeats 8000000 in
theorem order_ok (w : World) (hT : Tabs w) (a : Option Addr) (n c : Nat) (l : List En) (hl : SlE w a n c l) (hg : gd l = true) (hn2 : 2 ≤ n) :
    Calls Tryd.prog 7 #[.slice a n c] w fun e w' => e = .returned (.bool true) ∧ Keeps (fun _ => False) w w' := by
  have hn3 := (gd_len hg).2
  have hlen := hl.len
  rw [hlen] at hn3
  obtain ⟨b, o, rfl, hE0⟩ := hl.ent (i := 0) (by omega)
  have lb : b < w.heap.size := slb_lt hE0.slb (by omega) rfl
  have hk0 := hE0.len
  have hrev : gd l.reverse = false := gd_back hg (by omega)
  have HE : Hid (encR l.reverse = (zb 128, 11)) := by show _ = _; unfold encR; rw [hrev]; rfl
  have HE2 : Hid (encR (l ++ l) = (zb 128, 11)) := by show _ = _; unfold encR; rw [gd_long (by rw [List.length_append]; omega)]; rfl
  have HT1 : Hid (gd (l.drop 1) = true) := gd_tail hg (by omega)
  have HH1 : Hid (gd (l.take 1) = true) := gd_head hg
  have Hrev : Hid (gd l.reverse = false) := hrev
  have Hlen : Hid (l.length = n) := hlen
  have h2 : ¬ (n : Int) < 2 := by omega
  have hn3' : (n : Int) ≤ 3 := by omega
  have hcap := hl.cap
  have hc2 : (2 : Int) ≤ (c : Int) := by omega
  clear hrev hlen
  generalize hx0 : l.getD 0 default = x0 at *
  go_enter Tryd.func7, Tryd.ntmps7
  go_wp2_with (go_at_call 24; refine (good_at hg _ _ n c hl (by omega)).mono ?_; rintro e w1 ⟨rfl, k1⟩)
  clear hg
  go_loopw [3, 4] (fun v t wr => ∃ j : Nat, j ≤ n ∧ t = .int .i64 ((n : Int) - 1 - (j : Int)) ∧ OwnE wr w1.heap.size v (l.reverse.take j) ∧ w1.heap.size ≤ wr.heap.size ∧ Keeps (fun _ => False) w wr) (fun _ t _ => (intOf t + 1).toNat)
  case atStart => exact ⟨0, by omega, by simp, by simpa using OwnE.nil _ _, Nat.le_refl _, k1⟩
  case round =>
    obtain ⟨j, hj, rfl, O, zr, KW⟩ := hrel
    by_cases hlt : j < n
    · obtain ⟨i, hi⟩ : ∃ i : Nat, (n : Int) - 1 - (j : Int) = (i : Int) := ⟨n - 1 - j, by omega⟩
      have hin : i < n := by omega
      have hin' : (i : Int) < (n : Int) := by omega
      have hi0 : (0 : Int) ≤ (i : Int) := by omega
      obtain ⟨b', o', e', hE⟩ := (hl.keep KW).ent (i := i) hin
      cases e'
      have hke := hE.len
      have HN : Hid (l.reverse.take (j + 1) = l.reverse.take j ++ [l.getD i default]) := by
        show _ = _
        have : l.reverse[j]? = some (l.getD i default) := by
          rw [List.getElem?_reverse (by rw [Hlen.out]; exact hlt), Hlen.out, show n - 1 - j = i by omega, List.getD_eq_getElem?_getD, List.getElem?_eq_getElem (by rw [Hlen.out]; exact hin)]; rfl
        exact take_snocL this
      have hF : (l.reverse.take j).length ≤ 3 := by rw [List.length_take, List.length_reverse, Hlen.out]; omega
      generalize l.getD i default = e at *
      generalize l.reverse.take j = F at *
      go_wp2_with (first
        | (refine wpList_load46 rfl _ rfl b (o + i * 35) rfl e hE ?_)
        | (refine wpList_build1E rfl _ rfl e rfl hke ?_; intro g8 w6 r6 z8 k6; have O6 := O.kept k6 (fun _ _ h => h); have z6 := k6.size)
        | (refine wpList_appE rfl _ _ rfl w1.heap.size _ F rfl O6 g8 rfl e r6 (by omega) (by omega) ?_; intro v7 w7 o7 k7; have z7 := k7.size))
      have K7 : Keeps (fun _ => False) w w7 := (KW.trans k6).trans' k7 (fun i e => .inr (by have := (O6.from e).1; have := k1.size; omega))
      exact ⟨⟨j + 1, by omega, by go_num, by rw [HN.out]; exact o7, by omega, K7⟩, by simp [intOf]; omega⟩
    · obtain rfl : j = n := by omega
      have ht : (j : Int) - 1 - (j : Int) = -1 := by omega
      rw [List.take_of_length_le (by rw [List.length_reverse, Hlen.out]; omega)] at O
      obtain ⟨a4, c4, rfl, s4, _⟩ := O.slice
      rw [List.length_reverse] at s4
      have E0 := hE0.keep KW
      have hlw := hl.keep KW
      have hT1 := hlw.tail1 (by omega)
      have hH1 := hlw.head1 (by omega)
      have hTw := hT.keeps KW (fun h => h) (fun h => h)
      have kd : Keeps (fun _ => False) wr wr.drew := (Keeps.refl _ _).drew
      have hts := hT.size
      rw [ht]
      clear O ht hE0
      go_wp2_with fail
      refine region_plan (S := fun w' => ∃ p : Regrown, w' = grow (redrawn wr p.d) p.os) [([0], 1), ([2, 3, 4, 5, 6, 7, 8], 9), ([], 10), ([11, 12, 13, 14], 15), ([16, 17, 18, 19, 20], 21)] [22, 23] (by kernel_rfl) (by kernel_rfl) (by kernel_rfl) (by kernel_rfl) (cls_keeps kd) ?_
      simp only [wpPlan, opsAt, pick]
      repeat (go_big_quiet_step (fail))
      refine wpQuiet_nil ?_
      go_wp2_with (go_at_call 23; refine (good23_at Hrev.out _ _ _ _ (s4.keep kd)).mono ?_; rintro e w2 ⟨rfl, k2⟩)
      have K2 := kd.trans k2
      refine ⟨cls_keeps K2, ?_⟩
      simp only [wpPlan, opsAt, pick]
      repeat (first
        | (go_big_quiet_want; refine quiet_load46 _ rfl b o rfl x0 (fun w' hp => E0.cls hp) ?_; simp only [Act.put, List.setIfInBounds_toArray, List.set_cons_zero, List.set_cons_succ]; go_big_quiet_on)
        | (go_big_quiet_want; refine quiet_load46 _ rfl b (o + 0 * 35) rfl x0 (fun w' hp => by have := E0.cls hp; simpa using this) ?_; simp only [Act.put, List.setIfInBounds_toArray, List.set_cons_zero, List.set_cons_succ]; go_big_quiet_on)
        | go_big_quiet_step (fail))
      refine wpQuiet_nil ?_
      go_wp2_with (refine wpList_build2Eg rfl _ _ rfl x0 x0 rfl rfl hk0 hk0 ?_; intro gB w3 b3 z3 k3)
      have K3 := K2.trans k3
      refine ⟨cls_keeps K3, ?_⟩
      simp only [wpPlan, opsAt, pick]
      refine wpQuiet_nil ?_
      go_wp2_with (go_at_call 23; refine (good23_at (gd_twice x0) _ _ _ _ b3.sl).mono ?_; rintro e w4 ⟨rfl, k4⟩)
      have K4 := K3.trans k4
      refine ⟨cls_keeps K4, ?_⟩
      simp only [wpPlan, opsAt, pick]
      repeat (go_big_quiet_step (fail))
      refine wpQuiet_nil ?_
      go_wp2_with (go_at_call 23; refine (good23_at HT1.out _ _ _ _ (hT1.keep K4)).mono ?_; rintro e w5 ⟨rfl, k5⟩)
      have K5 := K4.trans k5
      refine ⟨cls_keeps K5, ?_⟩
      simp only [wpPlan, opsAt, pick]
      repeat (go_big_quiet_step (fail))
      refine wpQuiet_nil ?_
      go_wp2_with (go_at_call 23; refine (good23_at HH1.out _ _ _ _ (hH1.keep K5)).mono ?_; rintro e w6 ⟨rfl, k6⟩)
      have K6 := K5.trans k6
      refine ⟨cls_keeps K6, ?_⟩
      simp only [wpPlan, opsAt, pick]
      repeat (go_big_quiet_step (fail))
      refine wpQuiet_nil ?_
      refine NoPanic.normal ?_
      have s6 := s4.keep K6
      have Q6 := KW.trans K6
      clear s4 K2 K3 K4 K5 b3 hT1 hH1 kd k2 k3 k4 k5 k6 E0
      go_wp2_with (first
        | (go_at_call 15; have := Q11; refine (encP_at HE2.out _ (hT.keeps Q11 (fun h => h) (fun h => h)) _ _ _ s11).mono ?_; rintro e w12 ⟨rfl, k12⟩; have Q12 := Q11.trans k12)
        | (go_at_call 15; refine (encP_at HE.out _ (hT.keeps Q6 (fun h => h) (fun h => h)) _ _ _ s6).mono ?_; rintro e w7 ⟨rfl, k7⟩; have Q7 := Q6.trans k7)
        | (refine wpList_alloc26 rfl rfl ?_; have := Q12; intro g13 w13 b13 z13 k13; have Q13 := Q12.trans k13)
        | (refine wpList_alloc26 rfl rfl ?_; intro g8 w8 b8 z8 k8; have Q8 := Q7.trans k8)
        | (refine wpList_store26 rfl _ _ rfl g13 rfl (zb 128) rfl (zb_len _) _ b13 ?_; intro w14 b14 k14; have Q14 : Keeps (fun _ => False) w w14 := Q13.trans' k14 (fun i e => .inr (by have := Q12.size; omega)))
        | (refine wpList_store26 rfl _ _ rfl g8 rfl (zb 128) rfl (zb_len _) _ b8 ?_; intro w9 b9 k9; have Q9 : Keeps (fun _ => False) w w9 := Q8.trans' k9 (fun i e => .inr (by have := Q7.size; omega)))
        | (refine wpList_build0E rfl rfl ?_; intro gA wA oA zA kA; have QA := Q9.trans kA)
        | (refine wpList_appSE rfl _ _ rfl w9.heap.size _ l rfl oB b o j c l rfl (hl.keep QB) (by rw [Hlen.out]; omega) (by have := kA.size; have := kB.size; omega) ?_; intro v11 w11 o11 k11; have Q11 : Keeps (fun _ => False) w w11 := QB.trans' k11 (fun i e => .inr (by have := (oB.from e).1; have := Q9.size; omega)); obtain ⟨a11, c11, rfl, s11, _⟩ := o11.slice; rw [List.length_append] at s11)
        | (refine wpList_appSE rfl _ _ rfl w9.heap.size _ [] rfl oA b o j c l rfl (hl.keep QA) (by simp; omega) (by have := kA.size; omega) ?_; intro vB wB oB kB; rw [List.nil_append] at oB; have QB : Keeps (fun _ => False) w wB := QA.trans' kB (fun i e => .inr (by have := (oA.from e).1; have := Q9.size; omega)))
        | (go_at_call 14; refine (wakes14 _ (hT.keeps Q14 (fun h => h) (fun h => h))).mono ?_; rintro e w15 ⟨rfl, k15⟩))
      go_ret
      exact ⟨rfl, Q14.trans k15⟩

theorem orderL (w : World) (hT : Tabs w) (a : Option Addr) (n c : Nat) (l : List En) (hl : SlE w a n c l) (hn : n ≤ 9223372036854775807) :
    Calls Tryd.prog 7 #[.slice a n c] w fun e w' => e = .returned (.bool true) ∧ Keeps (fun _ => False) w w' := by
  by_cases h : gd l = false ∨ n < 2
  · exact order_no w hT a n c l hl hn h
  · exact order_ok w hT a n c l hl (by simpa using fun e => h (.inl e)) (by omega)

end Go.Proofs.YthngaegfppbdmaaDoor
