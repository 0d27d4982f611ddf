/-
  BitmapTells: the walk.
-/
import Derived.Test.YtadbgidchojfkaaWk
set_option linter.all false
namespace Go.Proofs.Ytadbgidchojfkaa
open Go.RowKit Go.Sort

theorem with8_at {L : List B} {f n : Int} {M : List B} {e0 : Int} (h : wth L f n = (M, e0)) (w : World) (hL : L.length = 16) (hf : -9223372036854775808 ≤ f ∧ f ≤ 9223372036854775807) (hn : -9223372036854775808 ≤ n ∧ n ≤ 9223372036854775807) :
    Calls Try.prog 8 #[.agg (brow L), .int .i64 f, .int .i64 n] w fun e w' => e = .returned (.tuple #[.agg (brow M), .int .i64 e0]) ∧ Keeps (fun _ => False) w w' := by
  have := with8 w L hL f n hf hn
  rw [h] at this; exact this
theorem run10_at {L : List B} {k n : Int} {r1 r2 : Int} (h : runR L k n = (r1, r2)) (w : World) (hL : L.length = 16) (hn : -9223372036854775808 ≤ n ∧ n ≤ 9223372036854775807) :
    Calls Try.prog 10 #[.agg (brow L), .int .i64 k, .int .i64 n] w fun e w' => e = .returned (.tuple #[.int .i64 r1, .int .i64 r2]) ∧ Keeps (fun _ => False) w w' := by
  have := run10 w L hL k n hn
  rw [h] at this; exact this
theorem run9_at {L : List B} {k n : Int} {r1 r2 : Int} (h : runR L k n = (r1, r2)) (w : World) (hL : L.length = 16) (hn : -9223372036854775808 ≤ n ∧ n ≤ 9223372036854775807) :
    Calls Try.prog 9 #[.agg (brow L), .int .i64 k, .int .i64 n] w fun e w' => e = .returned (.tuple #[.int .i64 r1, .int .i64 r2]) ∧ Keeps (fun _ => False) w w' := by
  have := run9 w L hL k n hn
  rw [h] at this; exact this
theorem has12_at {L : List B} {b : Int} {v : Bool} (h : has L b = v) (w : World) (hL : L.length = 16) :
    Calls Try.prog 12 #[.agg (brow L), .int .i64 b] w fun e w' => e = .returned (.bool v) ∧ Keeps (fun _ => False) w w' := by
  rw [← h]; exact has12 w L hL b
theorem count16_at {L : List B} {k : Int} {c : Nat} (h : cnt L (min k.toNat 128) = c) (w : World) (hL : L.length = 16) (hk : -9223372036854775808 ≤ k ∧ k ≤ 9223372036854775807) :
    Calls Try.prog 16 #[.agg (brow L), .int .i64 k] w fun e w' => e = .returned (.int .i64 (c : Int)) ∧ Keeps (fun _ => False) w w' := by
  rw [← h]; exact count16 w L hL k hk
theorem or14_at {x y z : List B} (h : orL x y = z) (w : World) (hx : x.length = 16) (hy : y.length = 16) :
    Calls Try.prog 14 #[.agg (brow x), .agg (brow y)] w fun e w' => e = .returned (.agg (brow z)) ∧ Keeps (fun _ => False) w w' := by
  rw [← h]; exact or14 w x y hx hy

/-- Two bitmaps in one block. -/
structure TwAt (w : World) (g : Nat) (x y : List B) : Prop where
  row : w.heap[g]? = some (.cells (brow (x ++ y)) 24 (0, 0))
  lx : x.length = 16
  ly : y.length = 16
theorem TwAt.keep {a w : World} {g : Nat} {x y : List B} (h : TwAt a g x y) (hk : Keeps (fun _ => False) a w) : TwAt w g x y := ⟨hk.row h.row (fun h => h), h.lx, h.ly⟩
theorem TwAt.keeps {S : Nat → Prop} {a w : World} {g : Nat} {x y : List B} (h : TwAt a g x y) (hk : Keeps S a w) (hs : ¬ S g) : TwAt w g x y := ⟨hk.row h.row hs, h.lx, h.ly⟩
theorem TwAt.cls {a w : World} {g : Nat} {x y : List B} (h : TwAt a g x y) (hk : ∃ p : Regrown, w = grow (redrawn a p.d) p.os) : TwAt w g x y := h.keep (keeps_cls hk)
theorem TwAt.lt {w : World} {g : Nat} {x y : List B} (h : TwAt w g x y) : g < w.heap.size := lt_of_row h.row
theorem TwAt.fst {w : World} {g : Nat} {x y : List B} (h : TwAt w g x y) : w.rangeAt g 0 (brow x).toList := fun j v hv => by
  have hj : j < x.length := by
    have := (List.getElem?_eq_some_iff.1 hv).1
    simpa [brow] using this
  rw [cell_of_row w _ _ _ _ _ h.row, brow_get, Nat.zero_add, List.getElem?_append_left hj]
  simpa [brow] using hv
theorem TwAt.snd {w : World} {g : Nat} {x y : List B} (h : TwAt w g x y) : w.rangeAt g 16 (brow y).toList := fun j v hv => by
  have hl := h.lx
  rw [cell_of_row w _ _ _ _ _ h.row, brow_get, List.getElem?_append_right (by omega), show 16 + j - x.length = j by omega]
  simpa [brow] using hv
theorem run_loadR {w : World} {g o : Nat} {L : List B} (h : w.rangeAt g o (brow L).toList) (hL : L.length = 16) : (loadVar 23 ⟨g, o, none⟩).run Try.prog w = .ok (.agg (brow L)) w := by
  have hr := run_loadVar_mid (P := Try.prog) w g o 23 (brow L).toList _ h Try.underlying23 rfl (by rw [Array.length_toList, size_brow, hL]; exact size23)
  rwa [Array.toArray_toList] at hr
theorem wpList_loadR {ops : Array Oper} {rest : List Oper} {o : Oper} {a : Act} {w : World} {Q : Exit → Act → World → Prop} (hw : Region.wanted o (yielded ops a.tmps) = true) (x : Operand) (ho : o.op = .load 23 x) (g of : Nat) (hx : a.eval x = .pointer (some ⟨g, of, none⟩)) (L : List B) (hL : L.length = 16) (hb : w.rangeAt g of (brow L).toList)
    (h : wpList Try.prog ops Q rest (a.put o.dst (.agg (brow L))) w) : wpList Try.prog ops Q (o :: rest) a w := by
  unfold wpList
  rw [if_pos hw]
  left
  unfold Oper.wp execOp
  simp only [ho, hx, Instr.loadAt, Instr.sureAddr, Sem.run_bind, Sem.run_pure, Result.andThen_ok, run_loadR hb hL]
  exact h
theorem quiet_loadR {o : Oper} {a : Act} {C : World → Prop} {K : Act → Prop} (x : Operand) (ho : o.op = .load 23 x) (g of : Nat) (hx : a.eval x = .pointer (some ⟨g, of, none⟩)) (L : List B) (hL : L.length = 16) (hb : ∀ w, C w → w.rangeAt g of (brow L).toList) (hk : K (a.put o.dst (.agg (brow L)))) : o.quiet Try.prog a C K := by
  refine ⟨.agg (brow L), fun w hw => ?_, hk⟩
  unfold Oper.quietAt execOp
  simp only [ho, hx, Instr.loadAt, Instr.sureAddr, Sem.run_bind, Sem.run_pure, Result.andThen_ok, run_loadR (hb w hw) hL]
  exact ⟨rfl, rfl⟩
theorem wpList_box24 {ops : Array Oper} {rest : List Oper} {o : Oper} {a : Act} {w : World} {Q : Exit → Act → World → Prop} (hgd : o.guard = none) (v : Operand) (ho : o.op = .box 24 v) (x y : List B) (lx : x.length = 16) (ly : y.length = 16) (hx : a.eval v = .agg (brow (x ++ y)))
    (h : ∀ g w', TwAt w' g x y → w.heap.size ≤ g → Keeps (fun _ => False) w w' → wpList Try.prog ops Q rest (a.put o.dst (.pointer (some ⟨g, 0, none⟩))) w') : wpList Try.prog ops Q (o :: rest) a w := by
  refine wpList_plain hgd fun K hK => ?_
  unfold Oper.wp execOp
  simp only [ho, hx, newVar, newRow, Sem.run_bind, Result.andThen_ok, Sem.run_pure]
  exact hK _ _ (h w.heap.size _ ⟨heap_alloc_new w _, lx, ly⟩ (Nat.le_refl _) (keeps_alloc w _))

set_option maxRecDepth 100000 in
set_option maxHeartbeats 2000000 in
theorem tells3 (w : World) (x y : List B) (lx : x.length = 16) (ly : y.length = 16) (f n : Int) (hf : -9223372036854775808 ≤ f ∧ f ≤ 9223372036854775807) (hn : -9223372036854775808 ≤ n ∧ n ≤ 9223372036854775807) :
    Calls Try.prog 3 #[.agg (brow (x ++ y)), .int .i64 f, .int .i64 n] w fun e w' => e = .returned (.bool true) ∧ Keeps (fun _ => False) w w' := by
  obtain ⟨M, e0, hM⟩ : ∃ M e0, wth x f n = (M, e0) := ⟨_, _, rfl⟩
  obtain ⟨r1, r2, hr⟩ : ∃ r1 r2, runR x f n = (r1, r2) := ⟨_, _, rfl⟩
  obtain ⟨v, hv⟩ : ∃ v, has x f = v := ⟨_, rfl⟩
  obtain ⟨z, hz⟩ : ∃ z, orL x y = z := ⟨_, rfl⟩
  obtain ⟨c, hc⟩ : ∃ c, cnt x (min f.toNat 128) = c := ⟨_, rfl⟩
  have lM : M.length = 16 := by have := wth_len lx f n; rwa [hM] at this
  have lz : z.length = 16 := by rw [← hz]; exact orL_len lx ly
  have HM : Hid (wth x f n = (M, e0)) := hM
  have Hr : Hid (runR x f n = (r1, r2)) := hr
  have Hv : Hid (has x f = v) := hv
  have Hz : Hid (orL x y = z) := hz
  have Hc : Hid (cnt x (min f.toNat 128) = c) := hc
  have Hf : Hid (-9223372036854775808 ≤ f ∧ f ≤ 9223372036854775807) := hf
  have Hn : Hid (-9223372036854775808 ≤ n ∧ n ≤ 9223372036854775807) := hn
  clear hM hr hv hz hc hf hn
  go_enter Try.func3, Try.ntmps3
  go_wp2_with (first
    | (refine wpList_box24 rfl _ rfl x y lx ly rfl ?_; intro g3 w1 t1 z1 k1)
    | (go_at_call 7; refine (with_at HM.out _ lx Hf.out Hn.out).mono ?_; rintro e w2 ⟨rfl, k2⟩; have t2 := t1.keep k2; have K2 := k1.trans k2)
    | (refine wpList_alloc23 rfl rfl ?_; have := K5; intro g9 w6 b6 z6 k6; have t6 := t5.keep k6; have B6 := B5.keep k6; have K6 := K5.trans k6; have h39 : g3 ≠ g9 := (by have := t5.lt; omega); have h79 : g7 ≠ g9 := (by have := B5.lt; omega))
    | (refine wpList_alloc23 rfl rfl ?_; intro g7 w3 b3 z3 k3; have t3 := t2.keep k3; have K3 := K2.trans k3; have h37 : g3 ≠ g7 := (by have := t2.lt; omega))
    | (refine wpList_store23 rfl _ _ rfl g7 rfl M rfl lM _ b3 ?_; intro w4 b4 k4; have t4 := t3.keeps k4 h37; have K4 : Keeps (fun _ => False) w w4 := K3.trans' k4 (fun i e => .inr (by have := K2.size; omega)))
    | (go_at_call 8; refine (with8_at HM.out _ lx Hf.out Hn.out).mono ?_; rintro e w5 ⟨rfl, k5⟩; have t5 := t4.keep k5; have B5 := b4.keep k5; have K5 := K4.trans k5)
    | (refine wpList_store23 rfl _ _ rfl g9 rfl M rfl lM _ b6 ?_; intro w7 b7 k7; have t7 := t6.keeps k7 h39; have B7 := B6.keeps k7 h79; have K7 : Keeps (fun _ => False) w w7 := K6.trans' k7 (fun i e => .inr (by have := K5.size; omega)))
    | (go_at_call 9; refine (run9_at Hr.out _ lx Hn.out).mono ?_; rintro e w8 ⟨rfl, k8⟩; have t8 := t7.keep k8; have B8 := B7.keep k8; have C8 := b7.keep k8; have K8 := K7.trans k8)
    | (go_at_call 10; refine (run10_at Hr.out _ lx Hn.out).mono ?_; rintro e w9 ⟨rfl, k9⟩; have t9 := t8.keep k9; have B9 := B8.keep k9; have C9 := C8.keep k9; have K9 := K8.trans k9)
    | (refine wpList_loadR rfl _ rfl g3 0 rfl x lx (TwAt.fst (y := y) (by assumption)) ?_))
  have heq := eq_at (decide_eq_true (rfl : M = M)) lM lM
  have heq2 := eq_at (decide_eq_true (rfl : z = z)) lz lz
  clear k1 z1 t1 k2 t2 K2 b3 z3 k3 t3 K3 h37 b4 k4 t4 K4 k5 t5 B5 K5 b6 z6 k6 t6 B6 K6 h39 h79 b7 k7 t7 B7 K7 k8 t8 B8 C8 K8 k9 HM Hr
  refine wp_region_quiet_below (by kernel_rfl) (by kernel_rfl) ?_
  iterate 57 (first
    | (go_big_quiet_want; refine quiet_loadR _ rfl g3 0 rfl x lx (fun w' hp => (t9.cls hp).fst) ?_; simp only [Act.put, List.setIfInBounds_toArray, List.set_cons_zero, List.set_cons_succ]; go_big_quiet_on)
    | (go_big_quiet_want; refine quiet_loadR _ rfl g3 16 rfl y ly (fun w' hp => (t9.cls hp).snd) ?_; simp only [Act.put, List.setIfInBounds_toArray, List.set_cons_zero, List.set_cons_succ]; go_big_quiet_on)
    | (go_big_quiet_want; refine quiet_load23 _ rfl g7 rfl M (fun w' hp => B9.cls hp) ?_; simp only [Act.put, List.setIfInBounds_toArray, List.set_cons_zero, List.set_cons_succ]; go_big_quiet_on)
    | (go_big_quiet_want; refine quiet_load23 _ rfl g9 rfl M (fun w' hp => C9.cls hp) ?_; simp only [Act.put, List.setIfInBounds_toArray, List.set_cons_zero, List.set_cons_succ]; go_big_quiet_on)
    | go_big_quiet_step (fail)
    | (have := Q6; go_big_quiet_want; go_big_quiet_op; apply Exists.intro; refine ⟨fun _ => wakes_cls ⟨_, rfl⟩, ?_⟩; go_big_quiet_on)
    | (have := Q5; go_big_quiet_want; go_big_quiet_op; apply Exists.intro; refine ⟨fun _ => call_cls (count16_at Hc.out _ lx Hf.out) ⟨_, rfl⟩, ?_⟩; go_big_quiet_on; have Q6 : Hid True := trivial)
    | (have := Q4; go_big_quiet_want; go_big_quiet_op; apply Exists.intro; refine ⟨fun _ => call_cls (count_at Hc.out _ lx Hf.out) ⟨_, rfl⟩, ?_⟩; go_big_quiet_on; have Q5 : Hid True := trivial)
    | (have := Q3; go_big_quiet_want; go_big_quiet_op; apply Exists.intro; refine ⟨fun _ => call_cls (or14_at Hz.out _ lx ly) ⟨_, rfl⟩, ?_⟩; go_big_quiet_on; have Q4 : Hid True := trivial)
    | (have := Q2; go_big_quiet_want; go_big_quiet_op; apply Exists.intro; refine ⟨fun _ => call_cls (or_at Hz.out _ lx ly) ⟨_, rfl⟩, ?_⟩; go_big_quiet_on; have Q3 : Hid True := trivial)
    | (have := Q1; go_big_quiet_want; go_big_quiet_op; apply Exists.intro; refine ⟨fun _ => call_cls (has12_at Hv.out _ lx) ⟨_, rfl⟩, ?_⟩; go_big_quiet_on; have Q2 : Hid True := trivial)
    | (go_big_quiet_want; go_big_quiet_op; apply Exists.intro; refine ⟨fun _ => call_cls (has_at Hv.out _ lx) ⟨_, rfl⟩, ?_⟩; go_big_quiet_on; have Q1 : Hid True := trivial))
  refine wpQuiet_nil ?_
  intro w2' hw2
  go_wp2
  go_ret
  exact ⟨rfl, K9.trans (keeps_cls hw2)⟩

end Go.Proofs.Ytadbgidchojfkaa
