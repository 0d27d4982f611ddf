/-
  slices.Chunk over entries: the iterator.
-/
import Derived.Test.YthngaegfppbdmaaDoorXp
import Derived.Test.YthngaegfppbdmaaDoorXi
set_option linter.all false
namespace Go.Proofs.YthngaegfppbdmaaDoor
open Go.RowKit Go.Sort Go.Shelf
attribute [local go_sem] Oper.semAt_some

theorem elem22 : Tryd.prog.underlying 22 = some (.slice (Tryd.prog.elem 22)) := by kernel_rfl
theorem sizeOf54 (w : World) : (sizeOf (Tryd.prog.elem 22)).run Tryd.prog w = .ok 35 w := by
  have h : Tryd.prog.elem 22 = 54 := by kernel_rfl
  obtain ⟨i, hi, _, hs, _⟩ := info46'
  rw [h]; simp [sizeOf, typeInfo, hi, hs]
theorem run_slice3E (w : World) (b o n c i m : Nat) (h0 : 0 < m) (h : i + m ≤ c) (I H : Int) (hI : I = (i : Int)) (hH : H = ((i + m : Nat) : Int)) : (Instr.sliceAt 22 (.slice (some ⟨b, o, none⟩) n c) (some (.int .i64 I)) (some (.int .i64 H)) (some (.int .i64 H))).run Tryd.prog w = .ok (.slice (some ⟨b, o + i * 35, none⟩) m m) w := by
  subst hI hH
  rw [run_sliceAt_slice w 22 _ _ _ _ elem22, run_slice_lhm w 22 _ _ _ elem22 .i64 .i64 .i64 (i : Int) ((i + m : Nat) : Int) ((i + m : Nat) : Int) (by omega) (by omega) (Int.le_refl _) (by omega), sizeOf54]
  simp only [Result.andThen_ok, sliced, Int.toNat_natCast]
  rw [if_neg (by omega)]
  simp [Addr_add]
theorem wpList_slice3E {ops : Array Oper} {rest : List Oper} {o : Oper} {a : Act} {w : World} {Q : Exit → Act → World → Prop} (hgd : o.guard = none) (x lo hi mx : Operand) (ho : o.op = .slice 22 x (some lo) (some hi) (some mx)) (b of n c i m : Nat) (hx : a.eval x = .slice (some ⟨b, of, none⟩) n c) (I H : Int)
    (hlo : a.eval lo = .int .i64 I) (hhi : a.eval hi = .int .i64 H) (hmx : a.eval mx = .int .i64 H) (hI : I = (i : Int)) (hH : H = ((i + m : Nat) : Int)) (h0 : 0 < m) (hm : i + m ≤ c)
    (h : wpList Tryd.prog ops Q rest (a.put o.dst (.slice (some ⟨b, of + i * 35, none⟩) m m)) w) : wpList Tryd.prog ops Q (o :: rest) a w := by
  refine wpList_plain hgd fun K hK => ?_
  unfold Oper.wp execOp
  simp only [ho, hx, hlo, hhi, hmx, Option.map_some, run_slice3E w b of n c i m h0 hm I H hI hH, Sem.run_bind, Result.andThen_ok, Sem.run_pure]
  exact hK _ _ h
theorem wpList_min {ops : Array Oper} {rest : List Oper} {o : Oper} {a : Act} {w : World} {Q : Exit → Act → World → Prop} (hgd : o.guard = none) (x y : Operand) (ho : o.op = .call { callee := .builtin .min, args := #[x, y], argTypes := #[3, 3] }) (p q m : Int) (hx : a.eval x = .int .i64 p) (hy : a.eval y = .int .i64 q) (hm : (if q < p then q else p) = m)
    (h : wpList Tryd.prog ops Q rest (a.put o.dst (.int .i64 m)) w) : wpList Tryd.prog ops Q (o :: rest) a w := by
  refine wpList_plain hgd fun K hK => ?_
  have hr : (execOp a.eval o).run Tryd.prog w = .ok (.value (.int .i64 m)) w := by
    subst hm
    generalize a.eval = ρ at hx hy ⊢
    simp [execOp, ho, hx, hy, go_sem, Builtin.min_, Builtin.min2]
  unfold Oper.wp
  rw [hr]
  exact hK _ _ h

theorem chunk54 (w : World) (a : Option Addr) (n c : Nat) :
    Calls Tryd.prog 54 #[.slice a n c, .int .i64 3] w fun e w' => ∃ gs gn, e = .returned (.func (.func 69) #[] #[.pointer (some ⟨gs, 0, none⟩), .pointer (some ⟨gn, 0, none⟩)]) ∧ w'.heap[gs]? = some (.cells #[.slice a n c] 22 (0, 0)) ∧ w'.heap[gn]? = some (.cells #[.int .i64 3] 3 (0, 0)) ∧ w.heap.size ≤ gs ∧ w.heap.size ≤ gn ∧ gs ≠ gn ∧ Keeps (fun _ => False) w w' := by
  go_enter Tryd.func54, Tryd.ntmps54
  go_wp2
  go_ret
  exact ⟨_, _, rfl, heap_alloc2_old w _ _, heap_alloc2_new w _ _, Nat.le_refl _, by omega, by omega, (keeps_alloc w _).trans (keeps_alloc _ _)⟩

/-- The chunks, as they are handed on. -/
def chs (b o : Nat) (l : List En) : List Sv := (List.range (nck l)).map fun i => ⟨some ⟨b, o + 3 * i * 35, none⟩, min 3 (l.length - 3 * i), min 3 (l.length - 3 * i), ck l i⟩
def encC (x : Sv) : Array Value := #[x.v]
theorem chs_len (b o : Nat) (l : List En) : (chs b o l).length = nck l := by simp [chs]
theorem chs_at (b o : Nat) (l : List En) {i : Nat} (h : i < nck l) : (chs b o l)[i]? = some ⟨some ⟨b, o + 3 * i * 35, none⟩, min 3 (l.length - 3 * i), min 3 (l.length - 3 * i), ck l i⟩ := by simp [chs, h]

/-- What the iterator has at hand. -/
structure ItC (b o n c gs gn : Nat) (J : List Sv → World → Prop) (W : World) (pre : List Sv) (wr : World) : Prop where
  j : J pre wr
  s : wr.heap[gs]? = some (.cells #[.slice (some ⟨b, o, none⟩) n c] 22 (0, 0))
  num : wr.heap[gn]? = some (.cells #[.int .i64 3] 3 (0, 0))
  size : W.heap.size ≤ wr.heap.size
theorem ItC.keep {b o n c gs gn : Nat} {J : List Sv → World → Prop} {W wr w' : World} {pre : List Sv} (hJ : OwnFrom W.heap.size J) (h : ItC b o n c gs gn J W pre wr) (kp : Keeps (fun _ => False) wr w') : ItC b o n c gs gn J W pre w' :=
  ⟨hJ pre wr w' none h.j (grown_of_keeps kp) (fun r e => by cases e), kp.row h.s (fun h => h), kp.row h.num (fun h => h), Nat.le_trans h.size kp.size⟩

set_option maxRecDepth 100000 in
set_option maxHeartbeats 2000000 in
theorem ch69 (S : Nat → Prop) (w : World) (b o n c gs gn : Nat) (l : List En) (hn : l.length = n) (hnc : n ≤ c) (hn6 : n ≤ 1000000) (hgs : w.heap[gs]? = some (.cells #[.slice (some ⟨b, o, none⟩) n c] 22 (0, 0))) (hgn : w.heap[gn]? = some (.cells #[.int .i64 3] 3 (0, 0))) (hS1 : ¬ S gs) (hS2 : ¬ S gn) :
    SeqO Tryd.prog 69 #[.pointer (some ⟨gs, 0, none⟩), .pointer (some ⟨gn, 0, none⟩)] encC (KpX S) (chs b o l) w := by
  intro ly ny J Jx W hW hJ hJx hY h0
  have hwW : Keeps (fun _ => False) w W := ⟨hW.os, hW.tape, hW.output, hW.size, fun k hk _ => hW.block k hk⟩
  have hI : ItC b o n c gs gn J W [] W := ⟨h0, hwW.row hgs (fun h => h), hwW.row hgn (fun h => h), Nat.le_refl _⟩
  have HJ : Hid (OwnFrom W.heap.size J) := hJ
  have Hn : Hid (l.length = n) := hn
  clear hgs hgn hwW h0 hJ hJx hn
  refine callsIn_of_wp Tryd.func69 rfl trivial ?_ rfl
  simp only [Tryd.ntmps69, List.size_toArray, List.length_cons, List.length_nil, Nat.reduceAdd, Nat.reduceSub, Array.replicate_succ, Array.replicate_zero, List.push_toArray, List.append_toArray, List.nil_append, List.cons_append]
  gi_wp2
  gi_loopw [4] (fun t wr => ∃ i A : Nat, i ≤ nck l ∧ 3 * i = A ∧ t = .int .i64 (A : Int) ∧ ItC b o n c gs gn J W ((chs b o l).take i) wr) (fun t _ => n + 3 - (intOf t).toNat)
  case atStart => exact ⟨0, 0, by omega, rfl, rfl, hI⟩
  case round =>
    clear hI
    obtain ⟨i, A, hi, hA, rfl, hR⟩ := hrel
    have cs : wr.cell? ⟨gs, 0, none⟩ = some (.slice (some ⟨b, o, none⟩) n c) := by simp [World.cell?, hR.s]
    by_cases hlt : i < nck l
    · have hAn : A < n := by have := Hn.out; unfold nck at hlt; omega
      have hlt' : (A : Int) < (n : Int) := by omega
      have hA0 : (0 : Int) ≤ (A : Int) := by omega
      have hAc : (A : Int) ≤ (c : Int) := by omega
      have hAn' : (A : Int) ≤ (n : Int) := by omega
      have hnc' : (n : Int) ≤ (c : Int) := by omega
      obtain ⟨m, hm⟩ : ∃ m, min 3 (n - A) = m := ⟨_, rfl⟩
      have hm0 : 0 < m := by omega
      have hm3 : m ≤ 3 := by omega
      have hmn : A + m ≤ n := by omega
      have hat := chs_at b o l hlt
      rw [Hn.out, hA, hm] at hat
      have HX : Hid (chs b o l = (chs b o l).take i ++ ⟨some ⟨b, o + A * 35, none⟩, m, m, ck l i⟩ :: (chs b o l).drop (i + 1)) := split_at hat
      have HN : Hid ((chs b o l).take (i + 1) = (chs b o l).take i ++ [⟨some ⟨b, o + A * 35, none⟩, m, m, ck l i⟩]) := take_snocL hat
      have hY1 : Hid (∀ w1, J ((chs b o l).take i) w1 → _) := fun w1 hj1 => hY _ _ _ w1 HX.out hj1
      clear hY hat
      have HM : Hid (min 3 (n - A) = m) := hm
      clear hm
      gi_wp2
      have c1 : ∀ d os, (grow (redrawn wr d) os).cell? ⟨gs, 0, none⟩ = some (.slice (some ⟨b, o, none⟩) n c) := fun d os => by
        have := (keeps_cls (w := wr) ⟨⟨d, os⟩, rfl⟩).row hR.s (fun h => h)
        simp [World.cell?, this]
      have c2 : ∀ d os, (grow (redrawn wr d) os).cell? ⟨gn, 0, none⟩ = some (.int .i64 3) := fun d os => by
        have := (keeps_cls (w := wr) ⟨⟨d, os⟩, rfl⟩).row hR.num (fun h => h)
        simp [World.cell?, this]
      have kd : Keeps (fun _ => False) wr wr.drew := (Keeps.refl _ _).drew
      refine region_plan_in (S := fun w' => ∃ p : Regrown, w' = grow (redrawn wr p.d) p.os) [([0, 1, 2, 3], 4), ([], 5)] [6] (sem_wide _) (by kernel_rfl) (by kernel_rfl) (by kernel_rfl) (by kernel_rfl) (cls_keeps kd) ?_
      simp only [wpPlanIn, opsAt, pick]
      repeat (go_big_quiet_step (fail))
      refine wpQuiet_nil ?_
      gi_wp2
      refine ⟨cls_keeps kd, ?_⟩
      simp only [wpPlanIn, opsAt, pick]
      refine wpQuiet_nil ?_
      gi_wp2_with (refine in_wide (fun _ h => by cases h) ?_; refine wpList_min rfl _ _ rfl 3 _ (m : Int) rfl rfl (by have := HM.out; split <;> omega) ?_; refine OnlyN.go ?_)
      refine ⟨cls_keeps kd, ?_⟩
      simp only [wpPlanIn, opsAt, pick]
      repeat (go_big_quiet_step (fail))
      refine wpQuiet_nil ?_
      refine NoPanic.normal ?_
      have R4 := hR.keep HJ.out kd
      have c3 : wr.drew.cell? ⟨gs, 0, none⟩ = some (.slice (some ⟨b, o, none⟩) n c) := by simp [World.cell?, R4.s]
      have Hc : Hid (encC ⟨some ⟨b, o + A * 35, none⟩, m, m, ck l i⟩ = #[.slice (some ⟨b, o + A * 35, none⟩) m m]) := rfl
      obtain ⟨fn, tmps, assign, body, hy, hRd⟩ := hY1.out _ R4.j
      rw [Hc.out] at hy
      clear c1 c2 cs
      gi_wp2_with (refine in_wide (fun _ h => by cases h) ?_; refine wpList_slice3E rfl _ _ _ _ rfl b o n c A m rfl _ _ rfl rfl rfl rfl (by omega) hm0 (by omega) ?_; refine OnlyN.go ?_)
      refine ⟨fun h => by (cases h), hRd.mono ?_⟩
      rintro ed W3 ⟨hkf3, (⟨rfl, hJ3, hk3⟩ | ⟨rfl, hJx3⟩)⟩
      · have hS3 := hk3.2 gs _ _ _ R4.s hS1
        have hN3 := hk3.2 gn _ _ _ R4.num hS2
        have hs3 : W.heap.size ≤ W3.heap.size := by have := hk3.1; have := R4.size; omega
        have c4 : W3.cell? ⟨gn, 0, none⟩ = some (.int .i64 3) := by simp [World.cell?, hN3]
        gi_wp2
        exact ⟨⟨i + 1, A + 3, by omega, by omega, by go_num, by rw [HN.out]; exact ⟨hJ3, hS3, hN3, hs3⟩⟩, by simp [intOf]; omega⟩
      · gi_wp2
        refine bodyPost_ret (results_none rfl _ _ _) rfl ?_
        exact ⟨⟨_, rfl⟩, .inr ⟨_, _, _, HX.out, hJx3⟩⟩
    · obtain rfl : i = nck l := by omega
      have hlt' : ¬ (A : Int) < (n : Int) := by have := Hn.out; unfold nck at hA; omega
      have hT : (chs b o l).take (nck l) = chs b o l := List.take_of_length_le (by rw [chs_len]; omega)
      rw [hT] at hR
      clear hT
      gi_wp2
      go_end0
      exact ⟨⟨_, rfl⟩, .inl hR.j⟩

end Go.Proofs.YthngaegfppbdmaaDoor
