/-
  Superblocks that are held against each other; what stands on a disk behind Write.
-/
import Derived.Test.YtdgnjpdjohibeaaDoorKk
set_option linter.all false
set_option maxRecDepth 100000
namespace Go.Proofs.YtdgnjpdjohibeaaDoor
open Go.RowKit Go.Sort Go.Shelf

instance suDec (x y : Su) : Decidable (x = y) := decidable_of_iff (x.gen = y.gen ∧ x.blocks = y.blocks ∧ x.root = y.root ∧ x.log = y.log ∧ x.used = y.used) (by cases x; cases y; simp)
theorem stood28 : Tryd.prog.stoodInHeld 28 = false := by kernel_rfl
theorem sizeOf_of {t : TypeId} {k : Nat} (h : (Tryd.prog.info? t).map (·.size) = some k) (w : World) : (sizeOf t).run Tryd.prog w = .ok k w := by
  obtain ⟨i, hi, hs⟩ := info_of h
  simp [sizeOf, typeInfo, hi, hs]
theorem partRow {t u : TypeId} {k : Nat} (hu : Tryd.prog.underlying t = some (.array k u)) (hz : (Tryd.prog.info? t).map (·.size) = some k) (A C D : List Value) (hC : C.length = k) (o : Nat) (ho : o = A.length) (w : World) : (Go.part t (A ++ (C ++ D)).toArray o).run Tryd.prog w = .ok (.agg C.toArray) w := by
  have hagg : (isAgg t).run Tryd.prog w = .ok true w := by
    unfold isAgg
    rw [Sem.run_bind, run_underlying hu w]
    rfl
  subst ho
  unfold Go.part
  rw [Sem.run_bind, hagg]
  simp [sizeOf_of hz, hC, Sem.run_bind]
theorem partNum {t : TypeId} {d : TypeDesc} (hu : Tryd.prog.underlying t = some d) (hd : (isAgg t).run Tryd.prog = fun w => .ok false w) (cs : Array Value) (o : Nat) (v : Value) (hv : cs[o]? = some v) (w : World) : (Go.part t cs o).run Tryd.prog w = .ok v w := by
  have hagg : (isAgg t).run Tryd.prog w = .ok false w := by rw [hd]
  unfold Go.part
  rw [Sem.run_bind, hagg]
  simp [hv]
theorem run_equalIn_i64 (d : Nat) (x y : Int) (w : World) : (Op.equalIn (d + 1) 3 (.int .i64 x) (.int .i64 y)).run Tryd.prog w = .ok (x == y) w := by
  simp [Op.equalIn, Sem.run_bind, run_underlying Tryd.underlying3]
theorem run_equalIn_u32 (d : Nat) (x y : Int) (w : World) : (Op.equalIn (d + 1) 22 (.int .u32 x) (.int .u32 y)).run Tryd.prog w = .ok (x == y) w := by
  simp [Op.equalIn, Sem.run_bind, run_underlying Tryd.underlying22]
theorem fl_done {P : Program} {w : World} {α β : Type} {a : α} {l : List α} {b r : β} {f : α → β → Sem (ForInStep β)} (h : (f a b).run P w = .ok (.done r) w) : (forIn (a :: l) b f : Sem β).run P w = .ok r w := by
  rw [List.forIn_cons, Sem.run_bind, h]; rfl
theorem fl_yield {P : Program} {w : World} {α β : Type} {a : α} {l : List α} {b r : β} {f : α → β → Sem (ForInStep β)} (h : (f a b).run P w = .ok (.yield r) w) : (forIn (a :: l) b f : Sem β).run P w = (forIn l r f : Sem β).run P w := by
  rw [List.forIn_cons, Sem.run_bind, h]; rfl
theorem fl_nil {P : Program} {w : World} {α β : Type} {b : β} {f : α → β → Sem (ForInStep β)} : (forIn ([] : List α) b f : Sem β).run P w = .ok b w := by
  rw [List.forIn_nil]; rfl
theorem isAgg3 : (isAgg 3).run Tryd.prog = fun w => .ok false w := by
  funext w; unfold isAgg; rw [Sem.run_bind, run_underlying Tryd.underlying3 w]; rfl
theorem isAgg22 : (isAgg 22).run Tryd.prog = fun w => .ok false w := by
  funext w; unfold isAgg; rw [Sem.run_bind, run_underlying Tryd.underlying22 w]; rfl
theorem Su.cells_log (s : Su) : s.cells = ([Value.int .u32 (s.gen : Int), Value.int .i64 s.blocks, Value.int .i64 s.root] ++ (s.log.map vb ++ s.used.map vb)).toArray := by simp [Su.cells, brow]
theorem Su.cells_used (s : Su) : s.cells = (([Value.int .u32 (s.gen : Int), Value.int .i64 s.blocks, Value.int .i64 s.root] ++ s.log.map vb) ++ (s.used.map vb ++ [])).toArray := by simp [Su.cells, brow]
theorem part_log (s : Su) (hs : s.Ok) (w : World) : (Go.part 24 s.cells 3).run Tryd.prog w = .ok (.agg (brow s.log)) w := by
  rw [s.cells_log]
  exact partRow Tryd.underlying24 (by kernel_rfl) _ _ _ (by simp [hs.log]) 3 rfl w
theorem part_used (s : Su) (hs : s.Ok) (w : World) : (Go.part 26 s.cells 35).run Tryd.prog w = .ok (.agg (brow s.used)) w := by
  rw [s.cells_used]
  exact partRow Tryd.underlying26 (by kernel_rfl) _ _ _ (by simp [hs.used]) 35 (by simp [hs.log]) w

set_option maxHeartbeats 1000000 in
theorem run_equalIn_su (d : Nat) {x y : Su} (hx : x.Ok) (hy : y.Ok) (w : World) : (Op.equalIn (d + 1 + 1 + 1) 28 (.agg x.cells) (.agg y.cells)).run Tryd.prog w = .ok (decide (x = y)) w := by
  have p1 : (Go.part 22 x.cells 0).run Tryd.prog w = _ := partNum Tryd.underlying22 isAgg22 _ 0 (.int .u32 (x.gen : Int)) rfl w
  have p2 : (Go.part 22 y.cells 0).run Tryd.prog w = _ := partNum Tryd.underlying22 isAgg22 _ 0 (.int .u32 (y.gen : Int)) rfl w
  have p3 : (Go.part 3 x.cells 1).run Tryd.prog w = _ := partNum Tryd.underlying3 isAgg3 _ 1 (.int .i64 x.blocks) rfl w
  have p4 : (Go.part 3 y.cells 1).run Tryd.prog w = _ := partNum Tryd.underlying3 isAgg3 _ 1 (.int .i64 y.blocks) rfl w
  have p5 : (Go.part 3 x.cells 2).run Tryd.prog w = _ := partNum Tryd.underlying3 isAgg3 _ 2 (.int .i64 x.root) rfl w
  have p6 : (Go.part 3 y.cells 2).run Tryd.prog w = _ := partNum Tryd.underlying3 isAgg3 _ 2 (.int .i64 y.root) rfl w
  have p7 := part_log x hx w
  have p8 := part_log y hy w
  have p9 := part_used x hx w
  have p10 := part_used y hy w
  have i1 : (Op.equalIn (d + 1 + 1) 22 (.int .u32 (x.gen : Int)) (.int .u32 (y.gen : Int))).run Tryd.prog w = .ok (decide (x.gen = y.gen)) w := by
    rw [run_equalIn_u32 (d + 1) x.gen y.gen w]
    congr 1
    by_cases e : x.gen = y.gen
    · rw [e]; simp
    · rw [decide_eq_false e]; simpa using (by omega : ¬ (x.gen : Int) = (y.gen : Int))
  have i2 : (Op.equalIn (d + 1 + 1) 3 (.int .i64 x.blocks) (.int .i64 y.blocks)).run Tryd.prog w = .ok (decide (x.blocks = y.blocks)) w := run_equalIn_i64 (d + 1) x.blocks y.blocks w
  have i3 : (Op.equalIn (d + 1 + 1) 3 (.int .i64 x.root) (.int .i64 y.root)).run Tryd.prog w = .ok (decide (x.root = y.root)) w := run_equalIn_i64 (d + 1) x.root y.root w
  have i4 : (Op.equalIn (d + 1 + 1) 24 (.agg (brow x.log)) (.agg (brow y.log))).run Tryd.prog w = .ok (decide (x.log = y.log)) w := run_equalIn_row d 24 32 Tryd.underlying24 x.log y.log hx.log hy.log w
  have i5 : (Op.equalIn (d + 1 + 1) 26 (.agg (brow x.used)) (.agg (brow y.used))).run Tryd.prog w = .ok (decide (x.used = y.used)) w := run_equalIn_row d 26 16 Tryd.underlying26 x.used y.used hx.used hy.used w
  have hxy : (x = y) ↔ (x.gen = y.gen ∧ x.blocks = y.blocks ∧ x.root = y.root ∧ x.log = y.log ∧ x.used = y.used) := by
    cases x; cases y; simp
  have hp : (program).run Tryd.prog w = .ok Tryd.prog w := rfl
  have hst := stood28
  rw [Op.equalIn]
  rw [Sem.run_bind, run_underlying Tryd.underlying28, Result.andThen_ok]
  generalize Op.equalIn (d + 1 + 1) = E at *
  generalize Go.part = P at *
  generalize x.cells = X at *
  generalize y.cells = Y at *
  dsimp only
  rw [Sem.run_bind, hp, Result.andThen_ok]
  generalize Tryd.prog.stoodInHeld 28 = sb at *
  subst hst
  generalize Tryd.prog = PP at *
  rw [if_neg (by decide), Sem.run_bind, List.forIn_toArray]
  by_cases e0 : x.gen = y.gen
  · rw [decide_eq_true e0] at i1
    rw [fl_yield (by dsimp only; rw [if_pos (by decide), Sem.run_bind, p1, Result.andThen_ok, Sem.run_bind, p2, Result.andThen_ok, Sem.run_bind, i1, Result.andThen_ok]; rfl)]
    by_cases e1 : x.blocks = y.blocks
    · rw [decide_eq_true e1] at i2
      rw [fl_yield (by dsimp only; rw [if_pos (by decide), Sem.run_bind, p3, Result.andThen_ok, Sem.run_bind, p4, Result.andThen_ok, Sem.run_bind, i2, Result.andThen_ok]; rfl)]
      by_cases e2 : x.root = y.root
      · rw [decide_eq_true e2] at i3
        rw [fl_yield (by dsimp only; rw [if_pos (by decide), Sem.run_bind, p5, Result.andThen_ok, Sem.run_bind, p6, Result.andThen_ok, Sem.run_bind, i3, Result.andThen_ok]; rfl)]
        by_cases e3 : x.log = y.log
        · rw [decide_eq_true e3] at i4
          rw [fl_yield (by dsimp only; rw [if_pos (by decide), Sem.run_bind, p7, Result.andThen_ok, Sem.run_bind, p8, Result.andThen_ok, Sem.run_bind, i4, Result.andThen_ok]; rfl)]
          by_cases e4 : x.used = y.used
          · rw [decide_eq_true e4] at i5
            rw [fl_yield (by dsimp only; rw [if_pos (by decide), Sem.run_bind, p9, Result.andThen_ok, Sem.run_bind, p10, Result.andThen_ok, Sem.run_bind, i5, Result.andThen_ok]; rfl)]
            rw [fl_nil, decide_eq_true (hxy.2 ⟨e0, e1, e2, e3, e4⟩)]
            rfl
          · rw [decide_eq_false e4] at i5
            rw [fl_done (by dsimp only; rw [if_pos (by decide), Sem.run_bind, p9, Result.andThen_ok, Sem.run_bind, p10, Result.andThen_ok, Sem.run_bind, i5, Result.andThen_ok]; rfl)]
            rw [decide_eq_false (fun h => e4 (hxy.1 h).2.2.2.2)]
            rfl
        · rw [decide_eq_false e3] at i4
          rw [fl_done (by dsimp only; rw [if_pos (by decide), Sem.run_bind, p7, Result.andThen_ok, Sem.run_bind, p8, Result.andThen_ok, Sem.run_bind, i4, Result.andThen_ok]; rfl)]
          rw [decide_eq_false (fun h => e3 (hxy.1 h).2.2.2.1)]
          rfl
      · rw [decide_eq_false e2] at i3
        rw [fl_done (by dsimp only; rw [if_pos (by decide), Sem.run_bind, p5, Result.andThen_ok, Sem.run_bind, p6, Result.andThen_ok, Sem.run_bind, i3, Result.andThen_ok]; rfl)]
        rw [decide_eq_false (fun h => e2 (hxy.1 h).2.2.1)]
        rfl
    · rw [decide_eq_false e1] at i2
      rw [fl_done (by dsimp only; rw [if_pos (by decide), Sem.run_bind, p3, Result.andThen_ok, Sem.run_bind, p4, Result.andThen_ok, Sem.run_bind, i2, Result.andThen_ok]; rfl)]
      rw [decide_eq_false (fun h => e1 (hxy.1 h).2.1)]
      rfl
  · rw [decide_eq_false e0] at i1
    rw [fl_done (by dsimp only; rw [if_pos (by decide), Sem.run_bind, p1, Result.andThen_ok, Sem.run_bind, p2, Result.andThen_ok, Sem.run_bind, i1, Result.andThen_ok]; rfl)]
    rw [decide_eq_false (fun h => e0 (hxy.1 h).1)]
    rfl
theorem eqS {x y : Su} (hx : x.Ok) (hy : y.Ok) {v : Bool} (h : decide (x = y) = v) : ∀ w, (Op.equalIn 10000 28 (.agg x.cells) (.agg y.cells)).run Tryd.prog w = .ok v w := fun w => by
  rw [← h]; exact run_equalIn_su 9997 hx hy w

end Go.Proofs.YtdgnjpdjohibeaaDoor
