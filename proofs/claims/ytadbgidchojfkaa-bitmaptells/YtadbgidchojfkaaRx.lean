/-
  The runs, one behind the other.
-/
import Derived.Test.YtadbgidchojfkaaOc
set_option linter.all false
namespace Go.Proofs.Ytadbgidchojfkaa
open Go.RowKit Go.Sort Go.Shelf

theorem grown_of_keeps {w w' : World} (h : Keeps (fun _ => False) w w') : w.grownBy w' none := ⟨h.os, h.tape, h.output, h.size, fun k hk _ => h.block k hk (fun h => h)⟩
def encR (x : Nat × Nat) : Array Value := #[.int .i64 (x.1 : Int), .int .i64 (x.2 : Int)]

theorem wpListIn_load23 {F : Fence} {m : Nat} {ops : Array Oper} {rest : List Oper} {o : Oper} {a : Act} {w : World} {Q : Exit → Act → World → Prop} (hw : Region.wanted o (yielded ops a.tmps) = true) (x : Operand) (ho : o.op = .load 23 x) (g : Nat) (hx : a.eval x = .pointer (some ⟨g, 0, none⟩)) (L : List B) (hb : BmAt w g L)
    (h : wpListIn F m Try.prog ops Q rest (a.put o.dst (.agg (brow L))) w) : wpListIn F m Try.prog ops Q (o :: rest) a w := by
  unfold wpListIn
  rw [if_pos hw]
  refine ⟨fun f hf => by simp [Oper.about, ho] at hf, ?_⟩
  rw [semAt_load _ _ _ 23 x ho]
  unfold execOp
  simp only [ho, hx, Instr.loadAt, Instr.sureAddr, Sem.run_bind, Sem.run_pure, Result.andThen_ok, run_load23 hb]
  exact h

/-- What the iterator has at hand. -/
structure RxIn (L : List B) (k bk bm : Nat) (J : List (Nat × Nat) → World → Prop) (W : World) (pre : List (Nat × Nat)) (wr : World) : Prop where
  j : J pre wr
  n : wr.heap[bk]? = some (.cells #[.int .i64 (k : Int)] 3 (0, 0))
  m : BmAt wr bm L
  size : W.heap.size ≤ wr.heap.size
theorem RxIn.keep {L : List B} {k bk bm : Nat} {J : List (Nat × Nat) → World → Prop} {W wr w' : World} {pre : List (Nat × Nat)} (hJ : OwnFrom W.heap.size J) (h : RxIn L k bk bm J W pre wr) (kp : Keeps (fun _ => False) wr w') : RxIn L k bk bm J W pre w' :=
  ⟨hJ pre wr w' none h.j (grown_of_keeps kp) (fun r e => by cases e), kp.row h.n (fun h => h), h.m.keep kp, Nat.le_trans h.size kp.size⟩

set_option maxRecDepth 100000 in
set_option maxHeartbeats 1000000 in
theorem runs20 (S : Nat → Prop) (w : World) (bk bm : Nat) (L : List B) (k : Nat) (hk : k ≤ 128) (hbk : w.heap[bk]? = some (.cells #[.int .i64 (k : Int)] 3 (0, 0))) (hbm : BmAt w bm L) (hS1 : ¬ S bk) (hS2 : ¬ S bm) :
    SeqO Try.prog 20 #[.pointer (some ⟨bk, 0, none⟩), .pointer (some ⟨bm, 0, none⟩)] encR (KpX S) (runsL L k 0) w := by
  intro ly ny J Jx W hW hJ hJx hY h0
  have hwW : Keeps (fun _ => False) w W := ⟨hW.os, hW.tape, hW.output, hW.size, fun k hk _ => hW.block k hk⟩
  have hI : RxIn L k bk bm J W [] W := ⟨h0, hwW.row hbk (fun h => h), hbm.keep hwW, Nat.le_refl _⟩
  have HJ : Hid (OwnFrom W.heap.size J) := hJ
  clear hbk hbm hwW h0 hJ hJx
  refine callsIn_of_wp Try.func20 rfl trivial ?_ rfl
  simp only [Try.ntmps20, List.size_toArray, List.length_cons, List.length_nil, Nat.reduceAdd, Nat.reduceSub, Array.replicate_succ, Array.replicate_zero, List.push_toArray, List.append_toArray, List.nil_append, List.cons_append]
  gi_wp2
  gi_loopw [4] (fun t wr => ∃ (pre : List (Nat × Nat)) (f : Nat), f ≤ k + 1 ∧ t = .int .i64 (f : Int) ∧ runsL L k 0 = pre ++ runsL L k f ∧ RxIn L k bk bm J W pre wr) (fun t _ => k + 1 - (intOf t).toNat)
  case atStart => exact ⟨[], 0, by omega, rfl, rfl, hI⟩
  case round =>
    clear hI
    obtain ⟨pre, f, hf, rfl, hx, hR⟩ := hrel
    have hcn : wr.cell? ⟨bk, 0, none⟩ = some (.int .i64 (k : Int)) := by simp [World.cell?, hR.n]
    by_cases hlt : f < k
    · have hlt' : (f : Int) < (k : Int) := by omega
      gi_wp2
      clear hcn
      gi_loopw [5] (fun t wq => ∃ e : Nat, f ≤ e ∧ e ≤ k ∧ t = .int .i64 (e : Int) ∧ runEnd L k f = runEnd L k e ∧ RxIn L k bk bm J W pre wq) (fun t _ => k - (intOf t).toNat)
      case atStart => exact ⟨f, by omega, by omega, rfl, rfl, hR⟩
      case round =>
        clear hR
        obtain ⟨e, he1, he2, rfl, hre, hR⟩ := hrel
        have hcn : wr.cell? ⟨bk, 0, none⟩ = some (.int .i64 (k : Int)) := by simp [World.cell?, hR.n]
        have bm1 := hR.m
        by_cases hek : e < k
        · have hek' : (e : Int) < (k : Int) := by omega
          have hcall := has_nat (L := L) (show e < 128 by omega)
          cases hbit : bit L e with
          | false =>
            rw [hbit] at hcall
            have hre' : Hid (runEnd L k f = runEnd L k (e + 1)) := by show _ = _; rw [hre, runEnd_step hek hbit]
            clear hY hre
            gi_wp2_with (first | (refine wpListIn_load23 rfl _ rfl bm rfl L bm1 ?_) | (refine ⟨trivial, (fun h => by cases h), ?_⟩; gi_at_call 11; refine (callsIn_wide.2 (has11 _ L bm1.len _)).mono ?_; rintro ed w3 ⟨rfl, k3⟩; rw [hcall]; have hRR := hR.keep HJ.out k3; clear hR))
            exact ⟨⟨e + 1, by omega, by omega, rfl, hre'.out, hRR⟩, by simp [intOf]; omega⟩
          | true =>
            rw [hbit] at hcall
            have hend : runEnd L k f = e := by rw [hre, runEnd_stop (fun h => by rw [hbit] at h; cases h.2)]
            by_cases hfe : f < e
            · have hfe' : (f : Int) < (e : Int) := by omega
              have Hx : Hid (runsL L k 0 = pre ++ (f, e - f) :: runsL L k (e + 1)) := by
                have := runsL_some (L := L) hlt (by rw [hend]; exact hfe)
                rw [hend] at this
                show _ = _
                rw [hx, this]
              have He : Hid (encR (f, e - f) = #[.int .i64 (f : Int), .int .i64 ((e : Int) - (f : Int))]) := by
                show _ = _
                simp only [encR]; rw [Int.ofNat_sub (by omega)]
              have hY1 : Hid (∀ w1, J pre w1 → _) := fun w1 hj1 => hY pre (f, e - f) (runsL L k (e + 1)) w1 Hx.out hj1
              clear hY hx hre hend
              gi_wp2_with (first | (refine wpListIn_load23 rfl _ rfl bm rfl L bm1 ?_) | (refine ⟨trivial, (fun h => by cases h), ?_⟩; gi_at_call 11; refine (callsIn_wide.2 (has11 _ L bm1.len _)).mono ?_; rintro ed w3 ⟨rfl, k3⟩; rw [hcall]; have hRR := hR.keep HJ.out k3; obtain ⟨fn, tmps, assign, body, hy, hRd⟩ := hY1.out w3 hRR.j; rw [He.out] at hy; clear hR))
              refine ⟨fun h => by (cases h), hRd.mono ?_⟩
              rintro ed W3 ⟨hkf3, (⟨rfl, hJ3, hk3⟩ | ⟨rfl, hJx3⟩)⟩
              · have hN3 := hk3.2 bk _ _ _ hRR.n hS1
                have hM3 : BmAt W3 bm L := ⟨hk3.2 bm _ _ _ hRR.m.row hS2, hRR.m.len⟩
                have hs3 : W.heap.size ≤ W3.heap.size := by have := hk3.1; have := hRR.size; omega
                gi_wp2
                exact ⟨⟨pre ++ [(f, e - f)], e + 1, by omega, rfl, by rw [Hx.out]; simp, ⟨hJ3, hN3, hM3, hs3⟩⟩, by simp [intOf]; omega⟩
              · gi_wp2
                refine bodyPost_ret (results_none rfl _ _ _) rfl ?_
                exact ⟨⟨_, rfl⟩, .inr ⟨pre, (f, e - f), runsL L k (e + 1), Hx.out, hJx3⟩⟩
            · obtain rfl : e = f := by omega
              have hfe' : ¬ (e : Int) < (e : Int) := by omega
              have Hx : Hid (runsL L k 0 = pre ++ runsL L k (e + 1)) := by
                have := runsL_none (L := L) hlt (by rw [hend]; exact hfe)
                rw [hend] at this
                show _ = _
                rw [hx, this]
              clear hY hx hre hend
              gi_wp2_with (first | (refine wpListIn_load23 rfl _ rfl bm rfl L bm1 ?_) | (refine ⟨trivial, (fun h => by cases h), ?_⟩; gi_at_call 11; refine (callsIn_wide.2 (has11 _ L bm1.len _)).mono ?_; rintro ed w3 ⟨rfl, k3⟩; rw [hcall]; have hRR := hR.keep HJ.out k3; clear hR))
              rename_i Kn hKn x1 h1 w1 q1
              refine ⟨(fun _ h => by cases h), hKn _ _ ?_⟩
              gi_wp2
              exact ⟨⟨pre, e + 1, by omega, rfl, Hx.out, hRR⟩, by simp [intOf]; omega⟩
        · have hek' : ¬ (e : Int) < (k : Int) := by omega
          have hend : runEnd L k f = e := by rw [hre, runEnd_stop (fun h => hek h.1)]
          by_cases hfe : f < e
          · have hfe' : (f : Int) < (e : Int) := by omega
            have Hx : Hid (runsL L k 0 = pre ++ (f, e - f) :: runsL L k (e + 1)) := by
              have := runsL_some (L := L) hlt (by rw [hend]; exact hfe)
              rw [hend] at this
              show _ = _
              rw [hx, this]
            have He : Hid (encR (f, e - f) = #[.int .i64 (f : Int), .int .i64 ((e : Int) - (f : Int))]) := by
              show _ = _
              simp only [encR]; rw [Int.ofNat_sub (by omega)]
            have hY1 : Hid (∀ w1, J pre w1 → _) := fun w1 hj1 => hY pre (f, e - f) (runsL L k (e + 1)) w1 Hx.out hj1
            clear hY hx hre hend
            have hRR := hR
            obtain ⟨fn, tmps, assign, body, hy, hRd⟩ := hY1.out wr hRR.j; rw [He.out] at hy
            gi_wp2_with (refine ⟨trivial, ?_⟩)
            refine ⟨fun h => by (cases h), hRd.mono ?_⟩
            rintro ed W3 ⟨hkf3, (⟨rfl, hJ3, hk3⟩ | ⟨rfl, hJx3⟩)⟩
            · have hN3 := hk3.2 bk _ _ _ hRR.n hS1
              have hM3 : BmAt W3 bm L := ⟨hk3.2 bm _ _ _ hRR.m.row hS2, hRR.m.len⟩
              have hs3 : W.heap.size ≤ W3.heap.size := by have := hk3.1; have := hRR.size; omega
              gi_wp2
              exact ⟨⟨pre ++ [(f, e - f)], e + 1, by omega, rfl, by rw [Hx.out]; simp, ⟨hJ3, hN3, hM3, hs3⟩⟩, by simp [intOf]; omega⟩
            · gi_wp2
              refine bodyPost_ret (results_none rfl _ _ _) rfl ?_
              exact ⟨⟨_, rfl⟩, .inr ⟨pre, (f, e - f), runsL L k (e + 1), Hx.out, hJx3⟩⟩
          · omega
    · have hlt' : ¬ (f : Int) < (k : Int) := by omega
      rw [runsL_done hlt, List.append_nil] at hx
      have Hx : Hid (runsL L k 0 = pre) := hx
      clear hx
      gi_wp2
      go_end0
      refine ⟨⟨_, rfl⟩, .inl ?_⟩
      rw [Hx.out]
      exact hR.j

end Go.Proofs.Ytadbgidchojfkaa
