/-
  Superblocks in plain mathematics and in memory; goodUsed, home, Good of the program.
-/
import Derived.Test.YtdgnjpdjohibeaaDoorQA
import Derived.Test.YtdgnjpdjohibeaaDoorXr
set_option linter.all false
set_option maxRecDepth 100000
namespace Go.Proofs.YtdgnjpdjohibeaaDoor
open Go.RowKit Go.Sort Go.Shelf

/-- A superblock. -/
structure Su where
  gen : Nat
  blocks : Int
  root : Int
  log : List B
  used : List B
/-- Its numbers are such as their types allow. -/
structure Su.Ok (s : Su) : Prop where
  gen : s.gen < 4294967296
  blocks : -9223372036854775808 ≤ s.blocks ∧ s.blocks ≤ 9223372036854775807
  root : -9223372036854775808 ≤ s.root ∧ s.root ≤ 9223372036854775807
  log : s.log.length = 32
  used : s.used.length = 16
def Su.cells (s : Su) : Array Value := (.int .u32 (s.gen : Int) :: .int .i64 s.blocks :: .int .i64 s.root :: ((brow s.log).toList ++ (brow s.used).toList)).toArray
theorem Su.Ok.size {s : Su} (h : s.Ok) : s.cells.size = 51 := by simp [Su.cells, size_brow, h.log, h.used]
theorem Su.one (s : Su) : s.cells.all (·.oneCell') = true := by
  have h1 := brow_one s.log
  have h2 := brow_one s.used
  rw [Array.all_eq_true_iff_forall_mem] at *
  intro v hv
  simp only [Su.cells, List.mem_toArray, List.mem_cons, List.mem_append, Array.mem_toList_iff] at hv
  rcases hv with rfl | rfl | rfl | hv | hv
  · rfl
  · rfl
  · rfl
  · exact h1 v hv
  · exact h2 v hv
theorem rowTy28 : RowTy 28 51 := ⟨⟨_, Tryd.underlying28, rfl⟩, by kernel_rfl⟩
theorem Su.Ok.ty {s : Su} (h : s.Ok) : RowTy 28 s.cells.size := by rw [h.size]; exact rowTy28
/-- The superblock of zeros. -/
def su0 : Su := ⟨0, 0, 0, zb 32, zb 16⟩
theorem su0_ok : su0.Ok := ⟨by decide, by decide, by decide, by simp [su0, zb], by simp [su0, zb]⟩
theorem zero28 (w : World) : (zeroValue 28).run Tryd.prog w = .ok (.agg su0.cells) w := by kernel_rfl

abbrev SuAt (w : World) (g : Nat) (s : Su) : Prop := RoAt w g 28 s.cells
theorem SuAt.parts {w : World} {g : Nat} {s : Su} (h : SuAt w g s) :
    w.cell? ⟨g, 0, none⟩ = some (.int .u32 (s.gen : Int)) ∧ w.cell? ⟨g, 1, none⟩ = some (.int .i64 s.blocks) ∧ w.cell? ⟨g, 2, none⟩ = some (.int .i64 s.root) :=
  ⟨h.cell 0, h.cell 1, h.cell 2⟩
theorem SuAt.log {w : World} {g : Nat} {s : Su} (h : SuAt w g s) (ho : s.Ok) : w.rangeAt g 3 (brow s.log).toList := fun j v hv => by
  rw [h.cell (3 + j)]
  have hj : j < 32 := by have := (List.getElem?_eq_some_iff.1 hv).1; simpa [size_brow, ho.log] using this
  simp only [Su.cells, List.getElem?_toArray, show 3 + j = j + 1 + 1 + 1 by omega, List.getElem?_cons_succ]
  rw [List.getElem?_append_left (by simp [size_brow, ho.log]; exact hj)]
  exact hv
theorem SuAt.used {w : World} {g : Nat} {s : Su} (h : SuAt w g s) (ho : s.Ok) : w.rangeAt g 35 (brow s.used).toList := fun j v hv => by
  rw [h.cell (35 + j)]
  simp only [Su.cells, List.getElem?_toArray, show 35 + j = (32 + j) + 1 + 1 + 1 by omega, List.getElem?_cons_succ]
  rw [List.getElem?_append_right (by simp [size_brow, ho.log])]
  simpa [size_brow, ho.log] using hv

/-- A row of bytes that lies in the midst of a block is loaded. -/
theorem run_loadM {w : World} {t : TypeId} {b o : Nat} {L : List B} (hr : w.rangeAt b o (brow L).toList) (hs : RowTy t L.length) : (loadVar t ⟨b, o, none⟩).run Tryd.prog w = .ok (.agg (brow L)) w := by
  obtain ⟨u, hu, hq⟩ := hs.under
  have := run_loadVar_mid (P := Tryd.prog) w b o t (brow L).toList u hr hu (by cases u <;> first | rfl | cases hq) (by rw [Array.length_toList, size_brow]; exact hs.size)
  rwa [Array.toArray_toList] at this
theorem wpList_loadM {ops : Array Oper} {rest : List Oper} {o : Oper} {a : Act} {w : World} {Q : Exit → Act → World → Prop} (hw : Region.wanted o (yielded ops a.tmps) = true) (t : TypeId) (x : Operand) (ho : o.op = .load t x) (b of : Nat) (hx : a.eval x = .pointer (some ⟨b, of, none⟩)) (L : List B) (hr : w.rangeAt b of (brow L).toList) (hs : RowTy t L.length)
    (h : wpList Tryd.prog ops Q rest (a.put o.dst (.agg (brow L))) w) : wpList Tryd.prog ops Q (o :: rest) a w := by
  unfold wpList
  rw [if_pos hw]
  left
  unfold Oper.wp execOp
  simp only [ho, hx, Instr.loadAt, Instr.sureAddr, Sem.run_bind, Sem.run_pure, Result.andThen_ok, run_loadM hr hs]
  exact h
theorem wpList_loadS {ops : Array Oper} {rest : List Oper} {o : Oper} {a : Act} {w : World} {Q : Exit → Act → World → Prop} (hw : Region.wanted o (yielded ops a.tmps) = true) (x : Operand) (ho : o.op = .load 28 x) (g : Nat) (hx : a.eval x = .pointer (some ⟨g, 0, none⟩)) (s : Su) (hs : s.Ok) (hb : SuAt w g s)
    (h : wpList Tryd.prog ops Q rest (a.put o.dst (.agg s.cells)) w) : wpList Tryd.prog ops Q (o :: rest) a w := by
  unfold wpList
  rw [if_pos hw]
  left
  unfold Oper.wp execOp
  simp only [ho, hx, Instr.loadAt, Instr.sureAddr, Sem.run_bind, Sem.run_pure, Result.andThen_ok, run_loadR hb hs.ty]
  exact h
theorem quiet_loadS {o : Oper} {a : Act} {C : World → Prop} {K : Act → Prop} (x : Operand) (ho : o.op = .load 28 x) (g : Nat) (hx : a.eval x = .pointer (some ⟨g, 0, none⟩)) (s : Su) (hs : s.Ok) (hb : ∀ w, C w → SuAt w g s) (hk : K (a.put o.dst (.agg s.cells))) : o.quiet Tryd.prog a C K := by
  refine ⟨.agg s.cells, fun w hw => ?_, hk⟩
  unfold Oper.quietAt execOp
  simp only [ho, hx, Instr.loadAt, Instr.sureAddr, Sem.run_bind, Sem.run_pure, Result.andThen_ok, run_loadR (hb w hw) hs.ty]
  exact ⟨rfl, rfl⟩

theorem count_at {L : List B} {k : Int} {c : Nat} (h : cnt L (min k.toNat 128) = c) (w : World) (hL : L.length = 16) (hk : -9223372036854775808 ≤ k ∧ k ≤ 9223372036854775807) :
    Calls Tryd.prog 52 #[.agg (brow L), .int .i64 k] w fun e w' => e = .returned (.int .i64 (c : Int)) ∧ Keeps (fun _ => False) w w' := by
  rw [← h]; exact count15 w L hL k hk

/-- May a superblock of so many blocks use these? -/
def gu (L : List B) (k : Int) : Bool := decide (cnt L 2 = 2) && decide (cnt L 128 = cnt L (min k.toNat 128))

theorem goodUsed36 (w : World) (L : List B) (hL : L.length = 16) (k : Int) (hk : -9223372036854775808 ≤ k ∧ k ≤ 9223372036854775807) {v : Bool} (hv : gu L k = v) :
    Calls Tryd.prog 36 #[.agg (brow L), .int .i64 k] w fun e w' => e = .returned (.bool v) ∧ Keeps (fun _ => False) w w' := by
  obtain ⟨c2, h2⟩ : ∃ c, cnt L 2 = c := ⟨_, rfl⟩
  obtain ⟨c8, h8⟩ : ∃ c, cnt L 128 = c := ⟨_, rfl⟩
  obtain ⟨ck, h9⟩ : ∃ c, cnt L (min k.toNat 128) = c := ⟨_, rfl⟩
  have C2 : Hid (cnt L (min (2 : Int).toNat 128) = c2) := h2
  have C8 : Hid (cnt L (min (128 : Int).toNat 128) = c8) := h8
  have C9 : Hid (cnt L (min k.toNat 128) = ck) := h9
  unfold gu at hv
  rw [h2, h8, h9] at hv
  clear h2 h8 h9
  go_enter Tryd.func36, Tryd.ntmps36
  go_wp2_with (first
    | (refine wpList_box23 rfl _ rfl L hL rfl ?_; intro g2 w1 b1 z1 k1))
  by_cases hq : c2 = 2
  · subst hq
    have hv2 : Hid (decide (c8 = ck) = v) := by show _ = _; rw [← hv]; simp
    by_cases he : c8 = ck
    · subst he
      refine wp_region_quiet_below (by kernel_rfl) (by kernel_rfl) ?_
      iterate 12 (first
        | go_big_quiet_skip
        | (go_big_quiet_want; refine quiet_load23 _ rfl g2 rfl L (fun w' hp => b1.cls hp) ?_; simp only [Act.put, List.setIfInBounds_toArray, List.set_cons_zero, List.set_cons_succ]; go_big_quiet_on)
        | go_big_quiet_step (fail)
        | (have := Q2; go_big_quiet_want; go_big_quiet_op; apply Exists.intro; refine ⟨fun _ => call_cls (count_at C9.out _ hL hk) ⟨_, rfl⟩, ?_⟩; go_big_quiet_on)
        | (have := Q1; go_big_quiet_want; go_big_quiet_op; apply Exists.intro; refine ⟨fun _ => call_cls (count_at C8.out _ hL (by omega)) ⟨_, rfl⟩, ?_⟩; go_big_quiet_on; have Q2 : Hid True := trivial)
        | (go_big_quiet_want; go_big_quiet_op; apply Exists.intro; refine ⟨fun _ => call_cls (count_at C2.out _ hL (by omega)) ⟨_, rfl⟩, ?_⟩; go_big_quiet_on; have Q1 : Hid True := trivial))
      refine wpQuiet_nil ?_
      intro w2 hw2
      go_wp2
      go_ret
      exact ⟨by rw [← hv2.out]; simp, k1.trans (keeps_cls hw2)⟩
    · have he' : ((c8 : Int) == (ck : Int)) = false := by simpa using (by omega : ¬ (c8 : Int) = (ck : Int))
      refine wp_region_quiet_below (by kernel_rfl) (by kernel_rfl) ?_
      iterate 12 (first
        | go_big_quiet_skip
        | (go_big_quiet_want; refine quiet_load23 _ rfl g2 rfl L (fun w' hp => b1.cls hp) ?_; simp only [Act.put, List.setIfInBounds_toArray, List.set_cons_zero, List.set_cons_succ]; go_big_quiet_on)
        | go_big_quiet_step (fail)
        | (have := Q2; go_big_quiet_want; go_big_quiet_op; apply Exists.intro; refine ⟨fun _ => call_cls (count_at C9.out _ hL hk) ⟨_, rfl⟩, ?_⟩; go_big_quiet_on)
        | (have := Q1; go_big_quiet_want; go_big_quiet_op; apply Exists.intro; refine ⟨fun _ => call_cls (count_at C8.out _ hL (by omega)) ⟨_, rfl⟩, ?_⟩; go_big_quiet_on; have Q2 : Hid True := trivial)
        | (go_big_quiet_want; go_big_quiet_op; apply Exists.intro; refine ⟨fun _ => call_cls (count_at C2.out _ hL (by omega)) ⟨_, rfl⟩, ?_⟩; go_big_quiet_on; have Q1 : Hid True := trivial))
      refine wpQuiet_nil ?_
      intro w2 hw2
      go_wp2
      go_ret
      exact ⟨by rw [← hv2.out]; simp [he], k1.trans (keeps_cls hw2)⟩
  · have hq' : ((c2 : Int) == 2) = false := by simpa using (by omega : ¬ (c2 : Int) = 2)
    have hv2 : Hid (v = false) := by show _ = _; rw [← hv]; simp [hq]
    refine wp_region_quiet_below (by kernel_rfl) (by kernel_rfl) ?_
    iterate 12 (first
      | go_big_quiet_skip
      | (go_big_quiet_want; refine quiet_load23 _ rfl g2 rfl L (fun w' hp => b1.cls hp) ?_; simp only [Act.put, List.setIfInBounds_toArray, List.set_cons_zero, List.set_cons_succ]; go_big_quiet_on)
      | go_big_quiet_step (fail)
      | (go_big_quiet_want; go_big_quiet_op; apply Exists.intro; refine ⟨fun _ => call_cls (count_at C2.out _ hL (by omega)) ⟨_, rfl⟩, ?_⟩; go_big_quiet_on))
    refine wpQuiet_nil ?_
    intro w2 hw2
    go_wp2
    go_ret
    exact ⟨by rw [hv2.out]; rfl, k1.trans (keeps_cls hw2)⟩

theorem home40 (w : World) (s : Su) (hs : s.Ok) {h : Nat} (hh : s.gen % 2 = h) :
    Calls Tryd.prog 40 #[.agg s.cells] w fun e w' => e = .returned (.int .i64 (h : Int)) ∧ Keeps (fun _ => False) w w' := by
  have hg := hs.gen
  go_enter Tryd.func40, Tryd.ntmps40
  go_wp2_with (first
    | (refine wpList_boxR rfl 28 _ rfl s.cells rfl ?_; intro g2 w1 b1 z1 k1; obtain ⟨p0, p1, p2⟩ := SuAt.parts b1))
  go_ret
  refine ⟨?_, k1⟩
  subst hh
  simp
end Go.Proofs.YtdgnjpdjohibeaaDoor
