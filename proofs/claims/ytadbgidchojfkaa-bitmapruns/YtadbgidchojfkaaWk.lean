/-
  wakes.
-/
import Derived.Test.YtadbgidchojfkaaRz
set_option linter.all false
namespace Go.Proofs.Ytadbgidchojfkaa
open Go.RowKit Go.Sort

theorem call_cls {f : FuncId} {args : Array Value} {w0 w1 : World} {v : Value} (h : Calls Try.prog f args w1 fun e w' => e = .returned v ∧ Keeps (fun _ => False) w1 w') (hw : ∃ p : Regrown, w1 = grow (redrawn w0 p.d) p.os) :
    Calls Try.prog f args w1 fun e w'' => e = .returned v ∧ ∃ p : Regrown, w'' = grow (redrawn w0 p.d) p.os :=
  h.mono fun e w2 ⟨he, hk⟩ => ⟨he, cls_keeps ((keeps_cls hw).trans hk)⟩

theorem eq_at {x y : List B} {v : Bool} (h : decide (x = y) = v) (hx : x.length = 16) (hy : y.length = 16) : ∀ w, (Op.equalIn 10000 23 (.agg (brow x)) (.agg (brow y))).run Try.prog w = .ok v w := fun w => by
  rw [← h]; exact eq23 hx hy w
theorem run_at {L : List B} {k n : Int} {r : Int × Int} (h : runR L k n = r) (w : World) (hL : L.length = 16) (hn : -9223372036854775808 ≤ n ∧ n ≤ 9223372036854775807) :
    Calls Try.prog 9 #[.agg (brow L), .int .i64 k, .int .i64 n] w fun e w' => e = .returned (.tuple #[.int .i64 r.1, .int .i64 r.2]) ∧ Keeps (fun _ => False) w w' := by
  rw [← h]; exact run9 w L hL k n hn
theorem with_at {L : List B} {f n : Int} {M : List B} {e0 : Int} (h : wth L f n = (M, e0)) (w : World) (hL : L.length = 16) (hf : -9223372036854775808 ≤ f ∧ f ≤ 9223372036854775807) (hn : -9223372036854775808 ≤ n ∧ n ≤ 9223372036854775807) :
    Calls Try.prog 7 #[.agg (brow L), .int .i64 f, .int .i64 n] w fun e w' => e = .returned (.tuple #[.agg (brow M), .int .i64 e0]) ∧ Keeps (fun _ => False) w w' := by
  have := with7 w L hL f n hf hn
  rw [h] at this; exact this
theorem has_at {L : List B} {b : Int} {v : Bool} (h : has L b = v) (w : World) (hL : L.length = 16) :
    Calls Try.prog 11 #[.agg (brow L), .int .i64 b] w fun e w' => e = .returned (.bool v) ∧ Keeps (fun _ => False) w w' := by
  rw [← h]; exact has11 w L hL b
theorem count_at {L : List B} {k : Int} {c : Nat} (h : cnt L (min k.toNat 128) = c) (w : World) (hL : L.length = 16) (hk : -9223372036854775808 ≤ k ∧ k ≤ 9223372036854775807) :
    Calls Try.prog 15 #[.agg (brow L), .int .i64 k] w fun e w' => e = .returned (.int .i64 (c : Int)) ∧ Keeps (fun _ => False) w w' := by
  rw [← h]; exact count15 w L hL k hk
theorem or_at {x y z : List B} (h : orL x y = z) (w : World) (hx : x.length = 16) (hy : y.length = 16) :
    Calls Try.prog 13 #[.agg (brow x), .agg (brow y)] w fun e w' => e = .returned (.agg (brow z)) ∧ Keeps (fun _ => False) w w' := by
  rw [← h]; exact or13 w x y hx hy

/-- The two bitmaps of wakes. -/
def mA : List B := 11#8 :: zb 15
def mB : List B := 59#8 :: zb 15
theorem mA_len : mA.length = 16 := by decide
theorem mB_len : mB.length = 16 := by decide
theorem run_A16 : runR mA 16 2 = (4, 0) := runR_some (k := 16) (n := 2) (f := 4) (by decide) (by decide) (by decide) (fnd_of_some (by decide) (by decide +kernel) (by decide +kernel))
theorem run_A5 : runR mA 5 2 = (0, 14) := runR_none (k := 5) (n := 2) (by decide) (by decide) (by decide) (fnd_of_none (by decide) (fun g hg => by
  have : ∀ g, g < 4 → ¬ IsFree mA 5 2 g := by decide +kernel
  exact this g (by omega)))
theorem with_A4 : wth mA 4 2 = (mB, 0) := by decide +kernel
theorem with_A3 : wth mA 3 2 = (zb 16, 11) := by decide +kernel
theorem has_A3 : has mA 3 = true := by decide +kernel
theorem has_A2 : has mA 2 = false := by decide +kernel
theorem has_A128 : has mA 128 = true := by decide +kernel
theorem cnt_A3 : cnt mA (min (3 : Int).toNat 128) = 2 := by decide +kernel
theorem or_AB : orL mA mB = mB := by decide +kernel
theorem buildA (w : World) : (Instr.build 23 #[(0, .int .u8 11)]).run Try.prog w = .ok (.agg (brow mA)) w := by kernel_rfl
theorem wpList_buildA {ops : Array Oper} {rest : List Oper} {o : Oper} {a : Act} {w : World} {Q : Exit → Act → World → Prop} {A : List B} (hA : ∀ w, (Instr.build 23 #[(0, .int .u8 11)]).run Try.prog w = .ok (.agg (brow A)) w) (hgd : o.guard = none) (ho : o.op = .build 23 #[(0, .const (.int .u8 11))])
    (h : wpList Try.prog ops Q rest (a.put o.dst (.agg (brow A))) w) : wpList Try.prog ops Q (o :: rest) a w := by
  refine wpList_plain hgd fun K hK => ?_
  unfold Oper.wp execOp
  simp only [ho, List.map_toArray, List.map_cons, List.map_nil, Act.eval, hA, Sem.run_bind, Result.andThen_ok, Sem.run_pure]
  exact hK _ _ h

set_option maxRecDepth 100000 in
set_option maxHeartbeats 1000000 in
theorem wakes17 (w : World) : Calls Try.prog 17 #[] w fun e w' => e = .returned (.bool true) ∧ Keeps (fun _ => False) w w' := by
  have lA := mA_len
  have lB := mB_len
  have HA : Hid (nb (mA.getD 0 0) = 11) := by show _ = _; decide +kernel
  have HB : Hid (nb (mB.getD 0 0) = 59) := by show _ = _; decide +kernel
  have R1 : Hid (runR mA 16 2 = (4, 0)) := run_A16
  have R2 : Hid (runR mA 5 2 = (0, 14)) := run_A5
  have T1 : Hid (wth mA 4 2 = (mB, 0)) := with_A4
  have T2 : Hid (wth mA 3 2 = (zb 16, 11)) := with_A3
  have A3 : Hid (has mA 3 = true) := has_A3
  have A2 : Hid (has mA 2 = false) := has_A2
  have A128 : Hid (has mA 128 = true) := has_A128
  have C3 : Hid (cnt mA (min (3 : Int).toNat 128) = 2) := cnt_A3
  have OR : Hid (orL mA mB = mB) := or_AB
  have bA : Hid (∀ w, (Instr.build 23 #[(0, .int .u8 11)]).run Try.prog w = .ok (.agg (brow mA)) w) := buildA
  generalize mA = A at *
  generalize mB = B at *
  go_enter Try.func17, Try.ntmps17
  go_wp2_with (first
    | (refine wpList_alloc23 rfl rfl ?_; have := K8; intro g8 w9 b9 z9 k9; have B69 := B68.keep k9; have K9 := K8.trans k9; have B19 := B18.keep k9; have h18 : g1 ≠ g8 := (by have := B18.lt; omega); have h68 : g6 ≠ g8 := (by have := B68.lt; omega))
    | (refine wpList_buildA bA.out rfl rfl ?_)
    | (refine wpList_alloc23 rfl rfl ?_; have := K5; intro g6 w6 b6 z6 k6; have B16 := B15.keep k6; have K6 := K5.trans k6; have h16 : g1 ≠ g6 := (by have := B15.lt; omega))
    | (refine wpList_alloc23 rfl rfl ?_; intro g1 w1 b1 z1 k1)
    | (go_at_call 7; have := K7; refine (with_at T2.out _ lA (by omega) (by omega)).mono ?_; rintro e w8 ⟨rfl, k8⟩; have K8 := K7.trans k8; have B18 := B17.keep k8; have B68 := b7.keep k8)
    | (go_at_call 7; refine (with_at T1.out _ lA (by omega) (by omega)).mono ?_; rintro e w5 ⟨rfl, k5⟩; have B15 := B14.keep k5; have K5 := K4.trans k5)
    | (go_at_call 9; have := K3; refine (run_at R2.out _ lA (by omega)).mono ?_; rintro e w4 ⟨rfl, k4⟩; have B14 := B13.keep k4; have K4 := K3.trans k4)
    | (go_at_call 9; refine (run_at R1.out _ lA (by omega)).mono ?_; rintro e w3 ⟨rfl, k3⟩; have B13 := b2.keep k3; have K3 := K2.trans k3)
    | (refine wpList_load23 rfl _ rfl g1 rfl A (by assumption) ?_)
    | (refine wpList_store23 rfl _ _ rfl g1 rfl A rfl lA _ b1 ?_; intro w2 b2 k2; have K2 : Keeps (fun _ => False) w w2 := k1.trans' k2 (fun i e => .inr (by omega)))
    | (refine wpList_store23 rfl _ _ rfl g6 rfl B rfl lB _ b6 ?_; intro w7 b7 k7; have B17 := B16.keeps k7 h16; have K7 : Keeps (fun _ => False) w w7 := K6.trans' k7 (fun i e => .inr (by have := K5.size; omega)))
    | (refine wpList_store23 rfl _ _ rfl g8 rfl (zb 16) rfl (zb_len _) _ b9 ?_; intro wA bX kA; have B1 := B19.keeps kA h18; have B6 := B69.keeps kA h68; have KA : Keeps (fun _ => False) w wA := K9.trans' kA (fun i e => .inr (by have := K8.size; omega))))
  have cB : ∀ d os, (grow (redrawn wA d) os).cell? ⟨g6, 0, none⟩ = some (.int .u8 59) := fun d os => by
    rw [(B6.cls ⟨⟨d, os⟩, rfl⟩).cell (by omega), HB.out]
  have heq := eq_at (decide_eq_true (rfl : B = B)) lB lB
  clear b1 k1 b2 k2 K2 k3 B13 K3 k4 B14 K4 k5 B15 K5 b6 z6 k6 B16 K6 h16 b7 k7 B17 K7 k8 K8 B18 B68 b9 z9 k9 B69 K9 B19 h18 h68 bX kA R1 R2 T1 T2 HA HB bA z1
  refine wp_region_quiet_below (by kernel_rfl) (by kernel_rfl) ?_
  iterate 49 (first
    | (go_big_quiet_want; refine quiet_load23 _ rfl g1 rfl A (fun w' hp => B1.cls hp) ?_; simp only [Act.put, List.setIfInBounds_toArray, List.set_cons_zero, List.set_cons_succ]; go_big_quiet_on)
    | (go_big_quiet_want; refine quiet_load23 _ rfl g6 rfl B (fun w' hp => B6.cls hp) ?_; simp only [Act.put, List.setIfInBounds_toArray, List.set_cons_zero, List.set_cons_succ]; go_big_quiet_on)
    | go_big_quiet_step (fail)
    | (have := Q4; go_big_quiet_want; go_big_quiet_op; apply Exists.intro; refine ⟨fun _ => call_cls (or_at OR.out _ lA lB) ⟨_, rfl⟩, ?_⟩; go_big_quiet_on)
    | (have := Q3; go_big_quiet_want; go_big_quiet_op; apply Exists.intro; refine ⟨fun _ => call_cls (count_at C3.out _ lA (by omega)) ⟨_, rfl⟩, ?_⟩; go_big_quiet_on; have Q4 : Hid True := trivial)
    | (have := Q2; go_big_quiet_want; go_big_quiet_op; apply Exists.intro; refine ⟨fun _ => call_cls (has_at A128.out _ lA) ⟨_, rfl⟩, ?_⟩; go_big_quiet_on; have Q3 : Hid True := trivial)
    | (have := Q1; go_big_quiet_want; go_big_quiet_op; apply Exists.intro; refine ⟨fun _ => call_cls (has_at A2.out _ lA) ⟨_, rfl⟩, ?_⟩; go_big_quiet_on; have Q2 : Hid True := trivial)
    | (go_big_quiet_want; go_big_quiet_op; apply Exists.intro; refine ⟨fun _ => call_cls (has_at A3.out _ lA) ⟨_, rfl⟩, ?_⟩; go_big_quiet_on; have Q1 : Hid True := trivial))
  refine wpQuiet_nil ?_
  intro w2' hw2
  go_wp2
  go_ret
  exact ⟨rfl, KA.trans (keeps_cls hw2)⟩

theorem wakes_cls {w0 w1 : World} (hw : ∃ p : Regrown, w1 = grow (redrawn w0 p.d) p.os) : Calls Try.prog 17 #[] w1 fun e w'' => e = .returned (.bool true) ∧ ∃ p : Regrown, w'' = grow (redrawn w0 p.d) p.os := call_cls (wakes17 w1) hw

end Go.Proofs.Ytadbgidchojfkaa
