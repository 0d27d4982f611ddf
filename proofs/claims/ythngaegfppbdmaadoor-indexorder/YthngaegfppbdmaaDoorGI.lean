/-
  Packed texts: Ke, Kf.
-/
import Derived.Test.YthngaegfppbdmaaDoorGH
set_option linter.all false
set_option maxRecDepth 100000
namespace Go.Proofs.YthngaegfppbdmaaDoor

/-! Ke: Entries and numbers that are held against each other. -/
section
open Go.RowKit Go.Sort

theorem stood46 : Tryd.prog.stoodInHeld 54 = false := by kernel_rfl
theorem size44' (w : World) : (sizeOf 52).run Tryd.prog w = .ok 32 w := by
  cases hq : Tryd.prog.info? 52 with
  | none => have := sizeKey; rw [hq] at this; cases this
  | some i =>
    have := sizeKey
    rw [hq] at this
    simp at this
    simp [sizeOf, typeInfo, hq, this]
theorem part44 (e : En) (h : e.key.length = 32) (w : World) : (Go.part 52 e.cells.toArray 0).run Tryd.prog w = .ok (.agg (brow e.key)) w := by
  have hagg : (isAgg 52).run Tryd.prog w = .ok true w := by
    unfold isAgg
    rw [Sem.run_bind, run_underlying Tryd.underlying52 w]
    rfl
  unfold Go.part
  rw [Sem.run_bind, hagg]
  simp [size44', En.cells, h, brow, Sem.run_bind]
theorem part3 (e : En) (h : e.key.length = 32) (j : Nat) (v : Int) (hv : [Value.int .i64 e.place, .int .i64 e.blocks, .int .i64 e.refs][j]? = some (.int .i64 v)) (w : World) : (Go.part 3 e.cells.toArray (32 + j)).run Tryd.prog w = .ok (.int .i64 v) w := by
  have hagg : (isAgg 3).run Tryd.prog w = .ok false w := by
    unfold isAgg
    rw [Sem.run_bind, run_underlying Tryd.underlying3 w]
    rfl
  unfold Go.part
  rw [Sem.run_bind, hagg]
  have := cells_num h j
  rw [hv] at this
  simp [this]
theorem run_equalIn_int (d : Nat) (x y : Int) (w : World) : (Op.equalIn (d + 1) 3 (.int .i64 x) (.int .i64 y)).run Tryd.prog w = .ok (x == y) w := by
  simp [Op.equalIn, Sem.run_bind, run_underlying Tryd.underlying3]

theorem fl_done {P : Program} {w : World} {α β : Type} {a : α} {l : List α} {b r : β} {f : α → β → Sem (ForInStep β)} (h : (f a b).run P w = .ok (.done r) w) : (forIn (a :: l) b f : Sem β).run P w = .ok r w := by
  rw [List.forIn_cons, Sem.run_bind, h]; rfl
theorem fl_yield {P : Program} {w : World} {α β : Type} {a : α} {l : List α} {b r : β} {f : α → β → Sem (ForInStep β)} (h : (f a b).run P w = .ok (.yield r) w) : (forIn (a :: l) b f : Sem β).run P w = (forIn l r f : Sem β).run P w := by
  rw [List.forIn_cons, Sem.run_bind, h]; rfl
theorem fl_nil {P : Program} {w : World} {α β : Type} {b : β} {f : α → β → Sem (ForInStep β)} : (forIn ([] : List α) b f : Sem β).run P w = .ok b w := by
  rw [List.forIn_nil]; rfl

set_option maxHeartbeats 1000000 in
theorem run_equalIn_en (d : Nat) {x y : En} (hx : x.key.length = 32) (hy : y.key.length = 32) (w : World) : (Op.equalIn (d + 1 + 1 + 1) 54 (.agg x.cells.toArray) (.agg y.cells.toArray)).run Tryd.prog w = .ok (decide (x = y)) w := by
  have hk : (Op.equalIn (d + 1 + 1) 52 (.agg (brow x.key)) (.agg (brow y.key))).run Tryd.prog w = .ok (decide (x.key = y.key)) w := run_equalIn_row d 52 32 Tryd.underlying52 x.key y.key hx hy w
  have p1 := part44 x hx w
  have p2 := part44 y hy w
  have q1 : (Go.part 3 x.cells.toArray 32).run Tryd.prog w = _ := part3 x hx 0 _ rfl w
  have q2 : (Go.part 3 y.cells.toArray 32).run Tryd.prog w = _ := part3 y hy 0 _ rfl w
  have q3 : (Go.part 3 x.cells.toArray 33).run Tryd.prog w = _ := part3 x hx 1 _ rfl w
  have q4 : (Go.part 3 y.cells.toArray 33).run Tryd.prog w = _ := part3 y hy 1 _ rfl w
  have q5 : (Go.part 3 x.cells.toArray 34).run Tryd.prog w = _ := part3 x hx 2 _ rfl w
  have q6 : (Go.part 3 y.cells.toArray 34).run Tryd.prog w = _ := part3 y hy 2 _ rfl w
  have i1 : (Op.equalIn (d + 1 + 1) 3 (.int .i64 x.place) (.int .i64 y.place)).run Tryd.prog w = _ := run_equalIn_int (d + 1) x.place y.place w
  have i2 : (Op.equalIn (d + 1 + 1) 3 (.int .i64 x.blocks) (.int .i64 y.blocks)).run Tryd.prog w = _ := run_equalIn_int (d + 1) x.blocks y.blocks w
  have i3 : (Op.equalIn (d + 1 + 1) 3 (.int .i64 x.refs) (.int .i64 y.refs)).run Tryd.prog w = _ := run_equalIn_int (d + 1) x.refs y.refs w
  have hxy : (x = y) ↔ (x.key = y.key ∧ x.place = y.place ∧ x.blocks = y.blocks ∧ x.refs = y.refs) := by
    cases x; cases y; simp
  have hp : (program).run Tryd.prog w = .ok Tryd.prog w := rfl
  have hst := stood46
  rw [Op.equalIn]
  rw [Sem.run_bind, run_underlying Tryd.underlying54, Result.andThen_ok]
  generalize Op.equalIn (d + 1 + 1) = E at *
  generalize Go.part = P at *
  generalize (x.cells.toArray) = X at *
  generalize (y.cells.toArray) = Y at *
  dsimp only
  rw [Sem.run_bind, hp, Result.andThen_ok]
  generalize Tryd.prog.stoodInHeld 54 = sb at *
  subst hst
  generalize Tryd.prog = PP at *
  rw [if_neg (by decide), Sem.run_bind, List.forIn_toArray]
  by_cases e1 : x.key = y.key
  · rw [decide_eq_true e1] at hk
    rw [fl_yield (by dsimp only; rw [if_pos (by decide), Sem.run_bind, p1, Result.andThen_ok, Sem.run_bind, p2, Result.andThen_ok, Sem.run_bind, hk, Result.andThen_ok]; rfl)]
    by_cases e2 : x.place = y.place
    · rw [beq_iff_eq.2 e2] at i1
      rw [fl_yield (by dsimp only; rw [if_pos (by decide), Sem.run_bind, q1, Result.andThen_ok, Sem.run_bind, q2, Result.andThen_ok, Sem.run_bind, i1, Result.andThen_ok]; rfl)]
      by_cases e3 : x.blocks = y.blocks
      · rw [beq_iff_eq.2 e3] at i2
        rw [fl_yield (by dsimp only; rw [if_pos (by decide), Sem.run_bind, q3, Result.andThen_ok, Sem.run_bind, q4, Result.andThen_ok, Sem.run_bind, i2, Result.andThen_ok]; rfl)]
        by_cases e4 : x.refs = y.refs
        · rw [beq_iff_eq.2 e4] at i3
          rw [fl_yield (by dsimp only; rw [if_pos (by decide), Sem.run_bind, q5, Result.andThen_ok, Sem.run_bind, q6, Result.andThen_ok, Sem.run_bind, i3, Result.andThen_ok]; rfl)]
          rw [fl_nil, decide_eq_true (hxy.2 ⟨e1, e2, e3, e4⟩)]
          rfl
        · rw [beq_eq_false_iff_ne.2 e4] at i3
          rw [fl_done (by dsimp only; rw [if_pos (by decide), Sem.run_bind, q5, Result.andThen_ok, Sem.run_bind, q6, Result.andThen_ok, Sem.run_bind, i3, Result.andThen_ok]; rfl)]
          rw [decide_eq_false (fun h => e4 (hxy.1 h).2.2.2)]
          rfl
      · rw [beq_eq_false_iff_ne.2 e3] at i2
        rw [fl_done (by dsimp only; rw [if_pos (by decide), Sem.run_bind, q3, Result.andThen_ok, Sem.run_bind, q4, Result.andThen_ok, Sem.run_bind, i2, Result.andThen_ok]; rfl)]
        rw [decide_eq_false (fun h => e3 (hxy.1 h).2.2.1)]
        rfl
    · rw [beq_eq_false_iff_ne.2 e2] at i1
      rw [fl_done (by dsimp only; rw [if_pos (by decide), Sem.run_bind, q1, Result.andThen_ok, Sem.run_bind, q2, Result.andThen_ok, Sem.run_bind, i1, Result.andThen_ok]; rfl)]
      rw [decide_eq_false (fun h => e2 (hxy.1 h).2.1)]
      rfl
  · rw [decide_eq_false e1] at hk
    rw [fl_done (by dsimp only; rw [if_pos (by decide), Sem.run_bind, p1, Result.andThen_ok, Sem.run_bind, p2, Result.andThen_ok, Sem.run_bind, hk, Result.andThen_ok]; rfl)]
    rw [decide_eq_false (fun h => e1 (hxy.1 h).1)]
    rfl

theorem eq46 {x y : En} (hx : x.key.length = 32) (hy : y.key.length = 32) (w : World) : (Op.equalIn 10000 54 (.agg x.cells.toArray) (.agg y.cells.toArray)).run Tryd.prog w = .ok (decide (x = y)) w :=
  run_equalIn_en 9997 hx hy w
end

/-! Kf: Lists of entries, of numbers, that are held against each other. -/
section
open Go.RowKit Go.Sort

theorem eq46_at {x y : En} {v : Bool} (h : decide (x = y) = v) (hx : x.key.length = 32) (hy : y.key.length = 32) : ∀ w, (Op.equalIn 10000 54 (.agg x.cells.toArray) (.agg y.cells.toArray)).run Tryd.prog w = .ok v w := fun w => by rw [← h]; exact eq46 hx hy w
theorem ext_getD {α : Type} {l m : List α} {d : α} (hl : l.length = m.length) (h : ∀ j, j < l.length → l.getD j d = m.getD j d) : l = m := by
  apply List.ext_getElem hl
  intro i h1 h2
  have := h i h1
  rw [List.getD_eq_getElem?_getD, List.getD_eq_getElem?_getD, List.getElem?_eq_getElem h1, List.getElem?_eq_getElem h2] at this
  exact this

set_option maxRecDepth 100000 in
set_option maxHeartbeats 2000000 in
theorem entries10 (w : World) (a1 a2 : Option Addr) (n1 c1 n2 c2 : Nat) (l m : List En) (h1 : SlE w a1 n1 c1 l) (h2 : SlE w a2 n2 c2 m) (hn : n1 ≤ 9223372036854775807) :
    Calls Tryd.prog 25 #[.slice a1 n1 c1, .slice a2 n2 c2] w fun e w' => e = .returned (.bool (decide (l = m))) ∧ Keeps (fun _ => False) w w' := by
  have e1 := h1.len
  have e2 := h2.len
  by_cases hnn : n1 = n2
  · subst hnn
    have E1 : Hid (l.length = n1) := e1
    have E2 : Hid (m.length = n1) := e2
    clear e1 e2
    go_enter Tryd.func25, Tryd.ntmps25
    go_wp2
    go_loopw [5] (fun t wr => ∃ i : Nat, i ≤ n1 ∧ t = .int .i64 (i : Int) ∧ (∀ j, j < i → l.getD j default = m.getD j default) ∧ Keeps (fun _ => False) w wr) (fun t _ => n1 - (intOf t).toNat)
    case atStart => exact ⟨0, by omega, rfl, fun j h => by omega, Keeps.refl _ _⟩
    case round =>
      obtain ⟨i, hi, rfl, hsame, hk⟩ := hrel
      have Hs : Hid (∀ j, j < i → l.getD j default = m.getD j default) := hsame
      clear hsame
      by_cases hlt : i < n1
      · have hlt' : (i : Int) < (n1 : Int) := by omega
        have hi0 : (0 : Int) ≤ (i : Int) := by omega
        obtain ⟨b1, o1, rfl, hE1⟩ := (h1.keep hk).ent hlt
        obtain ⟨b2, o2, rfl, hE2⟩ := (h2.keep hk).ent hlt
        obtain ⟨x, hx⟩ : ∃ x, l.getD i default = x := ⟨_, rfl⟩
        obtain ⟨y, hy⟩ : ∃ y, m.getD i default = y := ⟨_, rfl⟩
        have Hx : Hid (l.getD i default = x) := hx
        have Hy : Hid (m.getD i default = y) := hy
        rw [hx] at hE1
        rw [hy] at hE2
        have lx := hE1.len
        have ly := hE2.len
        clear hx hy
        by_cases he : x = y
        · have heq := eq46_at (decide_eq_true he) lx ly
          have He : Hid (x = y) := he
          clear he
          go_wp2_with fail
          refine wp_region_quiet_below (by kernel_rfl) (by kernel_rfl) ?_
          iterate 9 (first
            | (go_big_quiet_want; refine quiet_load46 _ rfl b1 (o1 + i * 35) rfl x (fun w' hp => hE1.cls hp) ?_; simp only [Act.put, List.setIfInBounds_toArray, List.set_cons_zero, List.set_cons_succ]; go_big_quiet_on)
            | (go_big_quiet_want; refine quiet_load46 _ rfl b2 (o2 + i * 35) rfl y (fun w' hp => hE2.cls hp) ?_; simp only [Act.put, List.setIfInBounds_toArray, List.set_cons_zero, List.set_cons_succ]; go_big_quiet_on)
            | go_big_quiet_step (fail))
          refine wpQuiet_nil ?_
          intro w2 hw2
          go_wp2
          refine ⟨⟨i + 1, by omega, rfl, fun j hj => ?_, hk.trans (keeps_cls hw2)⟩, by simp [intOf]; omega⟩
          rcases Nat.lt_or_ge j i with h | h
          · exact Hs.out j h
          · obtain rfl : j = i := by omega
            rw [Hx.out, Hy.out]; exact He.out
        · have heq := eq46_at (decide_eq_false he) lx ly
          have He : Hid (x ≠ y) := he
          clear he
          go_wp2_with fail
          refine wp_region_quiet_below (by kernel_rfl) (by kernel_rfl) ?_
          iterate 9 (first
            | (go_big_quiet_want; refine quiet_load46 _ rfl b1 (o1 + i * 35) rfl x (fun w' hp => hE1.cls hp) ?_; simp only [Act.put, List.setIfInBounds_toArray, List.set_cons_zero, List.set_cons_succ]; go_big_quiet_on)
            | (go_big_quiet_want; refine quiet_load46 _ rfl b2 (o2 + i * 35) rfl y (fun w' hp => hE2.cls hp) ?_; simp only [Act.put, List.setIfInBounds_toArray, List.set_cons_zero, List.set_cons_succ]; go_big_quiet_on)
            | go_big_quiet_step (fail))
          refine wpQuiet_nil ?_
          intro w2 hw2
          go_wp2
          go_ret
          refine ⟨?_, hk.trans (keeps_cls hw2)⟩
          rw [decide_eq_false (fun h => He.out (by rw [← Hx.out, ← Hy.out, h]))]; rfl
      · obtain rfl : i = n1 := by omega
        have hlt' : ¬ (i : Int) < (i : Int) := by omega
        go_wp2
        go_ret
        refine ⟨?_, hk⟩
        rw [decide_eq_true (ext_getD (d := default) (E1.out.trans E2.out.symm) (fun j hj => Hs.out j (by rw [E1.out] at hj; exact hj)))]; rfl
  · have hnn' : ¬ (n1 : Int) = (n2 : Int) := by omega
    have hne : Hid (¬ l = m) := fun h => hnn (by rw [← e1, ← e2, h])
    clear e1 e2
    go_enter Tryd.func25, Tryd.ntmps25
    go_wp2
    go_ret
    exact ⟨by rw [decide_eq_false hne.out]; rfl, Keeps.refl _ _⟩

set_option maxRecDepth 100000 in
set_option maxHeartbeats 2000000 in
theorem ints12 (w : World) (a1 a2 : Option Addr) (n1 c1 n2 c2 : Nat) (l m : List Int) (h1 : SlI w a1 n1 c1 l) (h2 : SlI w a2 n2 c2 m) (hn : n1 ≤ 9223372036854775807) :
    Calls Tryd.prog 26 #[.slice a1 n1 c1, .slice a2 n2 c2] w fun e w' => e = .returned (.bool (decide (l = m))) ∧ Keeps (fun _ => False) w w' := by
  have e1 := h1.len
  have e2 := h2.len
  by_cases hnn : n1 = n2
  · subst hnn
    have E1 : Hid (l.length = n1) := e1
    have E2 : Hid (m.length = n1) := e2
    clear e1 e2
    go_enter Tryd.func26, Tryd.ntmps26
    go_wp2
    go_loopw [5] (fun t wr => ∃ i : Nat, i ≤ n1 ∧ t = .int .i64 (i : Int) ∧ (∀ j, j < i → l.getD j 0 = m.getD j 0) ∧ Keeps (fun _ => False) w wr) (fun t _ => n1 - (intOf t).toNat)
    case atStart => exact ⟨0, by omega, rfl, fun j h => by omega, Keeps.refl _ _⟩
    case round =>
      obtain ⟨i, hi, rfl, hsame, hk⟩ := hrel
      have Hs : Hid (∀ j, j < i → l.getD j 0 = m.getD j 0) := hsame
      clear hsame
      by_cases hlt : i < n1
      · have hlt' : (i : Int) < (n1 : Int) := by omega
        have hi0 : (0 : Int) ≤ (i : Int) := by omega
        obtain ⟨b1, o1, rfl, _, hE1⟩ := h1.ent (by omega)
        obtain ⟨b2, o2, rfl, _, hE2⟩ := h2.ent (by omega)
        obtain ⟨x, hx⟩ : ∃ x, l.getD i 0 = x := ⟨_, rfl⟩
        obtain ⟨y, hy⟩ : ∃ y, m.getD i 0 = y := ⟨_, rfl⟩
        have Hx : Hid (l.getD i 0 = x) := hx
        have Hy : Hid (m.getD i 0 = y) := hy
        have cx : ∀ d os, (grow (redrawn wr d) os).cell? ⟨b1, o1 + i, none⟩ = some (.int .i64 x) := fun d os => by
          rw [← hx]; exact hE1 _ (hk.trans (keeps_cls ⟨⟨d, os⟩, rfl⟩)) i hlt
        have cy : ∀ d os, (grow (redrawn wr d) os).cell? ⟨b2, o2 + i, none⟩ = some (.int .i64 y) := fun d os => by
          rw [← hy]; exact hE2 _ (hk.trans (keeps_cls ⟨⟨d, os⟩, rfl⟩)) i hlt
        clear hx hy hE1 hE2
        by_cases he : x = y
        · subst he
          go_wp2_with fail
          refine wp_region_quiet_below (by kernel_rfl) (by kernel_rfl) ?_
          iterate 9 (go_big_quiet_step (fail))
          refine wpQuiet_nil ?_
          intro w2 hw2
          go_wp2
          refine ⟨⟨i + 1, by omega, rfl, fun j hj => ?_, hk.trans (keeps_cls hw2)⟩, by simp [intOf]; omega⟩
          rcases Nat.lt_or_ge j i with h | h
          · exact Hs.out j h
          · obtain rfl : j = i := by omega
            rw [Hx.out, Hy.out]
        · have hb : (x == y) = false := by simp [he]
          have hb2 : (x != y) = true := by simp [he]
          have He : Hid (x ≠ y) := he
          go_wp2_with fail
          refine wp_region_quiet_below (by kernel_rfl) (by kernel_rfl) ?_
          iterate 9 (go_big_quiet_step (fail))
          refine wpQuiet_nil ?_
          intro w2 hw2
          go_wp2
          go_ret
          refine ⟨?_, hk.trans (keeps_cls hw2)⟩
          rw [decide_eq_false (fun h => He.out (by rw [← Hx.out, ← Hy.out, h]))]; rfl
      · obtain rfl : i = n1 := by omega
        have hlt' : ¬ (i : Int) < (i : Int) := by omega
        go_wp2
        go_ret
        refine ⟨?_, hk⟩
        rw [decide_eq_true (ext_getD (d := 0) (E1.out.trans E2.out.symm) (fun j hj => Hs.out j (by rw [E1.out] at hj; exact hj)))]; rfl
  · have hnn' : ¬ (n1 : Int) = (n2 : Int) := by omega
    have hne : Hid (¬ l = m) := fun h => hnn (by rw [← e1, ← e2, h])
    clear e1 e2
    go_enter Tryd.func26, Tryd.ntmps26
    go_wp2
    go_ret
    exact ⟨by rw [decide_eq_false hne.out]; rfl, Keeps.refl _ _⟩
end

end Go.Proofs.YthngaegfppbdmaaDoor
