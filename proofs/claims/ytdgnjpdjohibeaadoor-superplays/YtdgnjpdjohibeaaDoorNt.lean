/-
  Superblocks that are put together of some of their fields; what stands on a disk where superblocks go by turns.
-/
import Derived.Test.YtdgnjpdjohibeaaDoorKx
set_option linter.all false
set_option maxRecDepth 100000
namespace Go.Proofs.YtdgnjpdjohibeaaDoor
open Go.RowKit Go.Sort Go.Shelf

theorem built28_0124 (s : Su) (hs : s.Ok) (hz3 : s.log = zb 32) : Tryd.prog.built 28 [(0, .int .u32 (s.gen : Int)), (1, .int .i64 s.blocks), (2, .int .i64 s.root), (4, .agg (brow s.used))] = some s.cells := by
  obtain ⟨i, hi, hz, hsz⟩ := info_zs info28
  obtain ⟨i22, hi22, hs22⟩ := info_of (t := 22) (k := 1) (by kernel_rfl)
  obtain ⟨i3, hi3, hs3⟩ := info_of (t := 3) (k := 1) (by kernel_rfl)
  obtain ⟨i24, hi24, hs24⟩ := info_of (t := 24) (k := 32) (by kernel_rfl)
  obtain ⟨i26, hi26, hs26⟩ := info_of (t := 26) (k := 16) (by kernel_rfl)
  unfold Program.built
  rw [hi, Tryd.underlying28]
  dsimp only
  rw [hz]
  have hpl : (List.mapM (fun f : Field => (Tryd.prog.info? f.type).map fun i => (f.offset, i.size)) [{ name := "Gen", type := 22, offset := 0, embedded := false, tag := "", pkgPath := "", byteOffset := 0 },
          { name := "Blocks", type := 3, offset := 1, embedded := false, tag := "", pkgPath := "", byteOffset := 8 },
          { name := "Root", type := 3, offset := 2, embedded := false, tag := "", pkgPath := "", byteOffset := 16 },
          { name := "Log", type := 24, offset := 3, embedded := false, tag := "", pkgPath := "", byteOffset := 24 },
          { name := "Used", type := 26, offset := 35, embedded := false, tag := "", pkgPath := "", byteOffset := 56 }]) = some [(0, 1), (1, 1), (2, 1), (3, 32), (35, 16)] := by
    simp [List.mapM_cons, hi22, hi3, hi24, hi26, hs22, hs3, hs24, hs26]
  rw [hpl]
  dsimp only
  have g32 : Z32.length = 32 := by simp [Z32, zb]
  have g16 : Z16.length = 16 := by simp [Z16, zb]
  have h32 : (s.log.map vb).length = 32 := by simp [hs.log]
  have h16 : (s.used.map vb).length = 16 := by simp [hs.used]
  have hc : (Value.agg su0.cells).cells = (([] : List Value) ++ ([.int .u32 0] : List Value) ++ (([.int .i64 0] : List Value) ++ (([.int .i64 0] : List Value) ++ ((Z32 : List Value) ++ (Z16 : List Value))))).toArray := rfl
  rw [hc]
  refine (fill_step (place := fun x => #[(0, 1), (1, 1), (2, 1), (3, 32), (35, 16)][x]?) (i := 0) (A := ([] : List Value)) (C := [.int .u32 0]) (D := (([.int .i64 0] : List Value) ++ (([.int .i64 0] : List Value) ++ ((Z32 : List Value) ++ (Z16 : List Value))))) (b := [.int .u32 (s.gen : Int)]) (v := .int .u32 (s.gen : Int)) rfl rfl rfl).trans ?_
  rw [show (([] : List Value) ++ ([.int .u32 (s.gen : Int)] : List Value) ++ (([.int .i64 0] : List Value) ++ (([.int .i64 0] : List Value) ++ ((Z32 : List Value) ++ (Z16 : List Value))))).toArray = (([.int .u32 (s.gen : Int)] : List Value) ++ ([.int .i64 0] : List Value) ++ (([.int .i64 0] : List Value) ++ ((Z32 : List Value) ++ (Z16 : List Value)))).toArray from congrArg List.toArray (by simp)]
  refine (fill_step (place := fun x => #[(0, 1), (1, 1), (2, 1), (3, 32), (35, 16)][x]?) (i := 1) (A := ([.int .u32 (s.gen : Int)] : List Value)) (C := [.int .i64 0]) (D := (([.int .i64 0] : List Value) ++ ((Z32 : List Value) ++ (Z16 : List Value)))) (b := [.int .i64 s.blocks]) (v := .int .i64 s.blocks) rfl rfl rfl).trans ?_
  rw [show (([.int .u32 (s.gen : Int)] : List Value) ++ ([.int .i64 s.blocks] : List Value) ++ (([.int .i64 0] : List Value) ++ ((Z32 : List Value) ++ (Z16 : List Value)))).toArray = ((([.int .u32 (s.gen : Int)] : List Value) ++ ([.int .i64 s.blocks] : List Value)) ++ ([.int .i64 0] : List Value) ++ ((Z32 : List Value) ++ (Z16 : List Value))).toArray from congrArg List.toArray (by simp)]
  refine (fill_step (place := fun x => #[(0, 1), (1, 1), (2, 1), (3, 32), (35, 16)][x]?) (i := 2) (A := (([.int .u32 (s.gen : Int)] : List Value) ++ ([.int .i64 s.blocks] : List Value))) (C := [.int .i64 0]) (D := ((Z32 : List Value) ++ (Z16 : List Value))) (b := [.int .i64 s.root]) (v := .int .i64 s.root) rfl rfl rfl).trans ?_
  rw [show ((([.int .u32 (s.gen : Int)] : List Value) ++ ([.int .i64 s.blocks] : List Value)) ++ ([.int .i64 s.root] : List Value) ++ ((Z32 : List Value) ++ (Z16 : List Value))).toArray = ((((([.int .u32 (s.gen : Int)] : List Value) ++ ([.int .i64 s.blocks] : List Value)) ++ ([.int .i64 s.root] : List Value)) ++ (Z32 : List Value)) ++ (Z16 : List Value) ++ ([] : List Value)).toArray from congrArg List.toArray (by simp)]
  refine (fill_step (place := fun x => #[(0, 1), (1, 1), (2, 1), (3, 32), (35, 16)][x]?) (i := 4) (A := (((([.int .u32 (s.gen : Int)] : List Value) ++ ([.int .i64 s.blocks] : List Value)) ++ ([.int .i64 s.root] : List Value)) ++ (Z32 : List Value))) (C := Z16) (D := ([] : List Value)) (b := s.used.map vb) (v := .agg (brow s.used)) (by simp [h32, h16, g32]) rfl (by rw [g16, h16])).trans ?_
  rw [Instr.fill]
  simp [Su.cells, brow, Z32, Z16, hz3]
theorem wpList_build28_0124 {ops : Array Oper} {rest : List Oper} {o : Oper} {a : Act} {w : World} {Q : Exit → Act → World → Prop} (hgd : o.guard = none) (p q r y : Operand) (ho : o.op = .build 28 #[(0, p), (1, q), (2, r), (4, y)]) (s : Su) (hs : s.Ok) (hz3 : s.log = zb 32) (hp : a.eval p = .int .u32 (s.gen : Int)) (hq : a.eval q = .int .i64 s.blocks) (hr : a.eval r = .int .i64 s.root) (hy : a.eval y = .agg (brow s.used))
    (h : wpList Tryd.prog ops Q rest (a.put o.dst (.agg s.cells)) w) : wpList Tryd.prog ops Q (o :: rest) a w := by
  refine wpList_plain hgd fun K hK => ?_
  unfold Oper.wp execOp
  simp only [ho, hp, hq, hr, hy, List.map_toArray, List.map_cons, List.map_nil, run_build w 28 _ _ (built28_0124 s hs hz3), Sem.run_bind, Result.andThen_ok, Sem.run_pure]
  exact hK _ _ h

theorem built28_014 (s : Su) (hs : s.Ok) (hz2 : s.root = 0) (hz3 : s.log = zb 32) : Tryd.prog.built 28 [(0, .int .u32 (s.gen : Int)), (1, .int .i64 s.blocks), (4, .agg (brow s.used))] = some s.cells := by
  obtain ⟨i, hi, hz, hsz⟩ := info_zs info28
  obtain ⟨i22, hi22, hs22⟩ := info_of (t := 22) (k := 1) (by kernel_rfl)
  obtain ⟨i3, hi3, hs3⟩ := info_of (t := 3) (k := 1) (by kernel_rfl)
  obtain ⟨i24, hi24, hs24⟩ := info_of (t := 24) (k := 32) (by kernel_rfl)
  obtain ⟨i26, hi26, hs26⟩ := info_of (t := 26) (k := 16) (by kernel_rfl)
  unfold Program.built
  rw [hi, Tryd.underlying28]
  dsimp only
  rw [hz]
  have hpl : (List.mapM (fun f : Field => (Tryd.prog.info? f.type).map fun i => (f.offset, i.size)) [{ name := "Gen", type := 22, offset := 0, embedded := false, tag := "", pkgPath := "", byteOffset := 0 },
          { name := "Blocks", type := 3, offset := 1, embedded := false, tag := "", pkgPath := "", byteOffset := 8 },
          { name := "Root", type := 3, offset := 2, embedded := false, tag := "", pkgPath := "", byteOffset := 16 },
          { name := "Log", type := 24, offset := 3, embedded := false, tag := "", pkgPath := "", byteOffset := 24 },
          { name := "Used", type := 26, offset := 35, embedded := false, tag := "", pkgPath := "", byteOffset := 56 }]) = some [(0, 1), (1, 1), (2, 1), (3, 32), (35, 16)] := by
    simp [List.mapM_cons, hi22, hi3, hi24, hi26, hs22, hs3, hs24, hs26]
  rw [hpl]
  dsimp only
  have g32 : Z32.length = 32 := by simp [Z32, zb]
  have g16 : Z16.length = 16 := by simp [Z16, zb]
  have h32 : (s.log.map vb).length = 32 := by simp [hs.log]
  have h16 : (s.used.map vb).length = 16 := by simp [hs.used]
  have hc : (Value.agg su0.cells).cells = (([] : List Value) ++ ([.int .u32 0] : List Value) ++ (([.int .i64 0] : List Value) ++ (([.int .i64 0] : List Value) ++ ((Z32 : List Value) ++ (Z16 : List Value))))).toArray := rfl
  rw [hc]
  refine (fill_step (place := fun x => #[(0, 1), (1, 1), (2, 1), (3, 32), (35, 16)][x]?) (i := 0) (A := ([] : List Value)) (C := [.int .u32 0]) (D := (([.int .i64 0] : List Value) ++ (([.int .i64 0] : List Value) ++ ((Z32 : List Value) ++ (Z16 : List Value))))) (b := [.int .u32 (s.gen : Int)]) (v := .int .u32 (s.gen : Int)) rfl rfl rfl).trans ?_
  rw [show (([] : List Value) ++ ([.int .u32 (s.gen : Int)] : List Value) ++ (([.int .i64 0] : List Value) ++ (([.int .i64 0] : List Value) ++ ((Z32 : List Value) ++ (Z16 : List Value))))).toArray = (([.int .u32 (s.gen : Int)] : List Value) ++ ([.int .i64 0] : List Value) ++ (([.int .i64 0] : List Value) ++ ((Z32 : List Value) ++ (Z16 : List Value)))).toArray from congrArg List.toArray (by simp)]
  refine (fill_step (place := fun x => #[(0, 1), (1, 1), (2, 1), (3, 32), (35, 16)][x]?) (i := 1) (A := ([.int .u32 (s.gen : Int)] : List Value)) (C := [.int .i64 0]) (D := (([.int .i64 0] : List Value) ++ ((Z32 : List Value) ++ (Z16 : List Value)))) (b := [.int .i64 s.blocks]) (v := .int .i64 s.blocks) rfl rfl rfl).trans ?_
  rw [show (([.int .u32 (s.gen : Int)] : List Value) ++ ([.int .i64 s.blocks] : List Value) ++ (([.int .i64 0] : List Value) ++ ((Z32 : List Value) ++ (Z16 : List Value)))).toArray = ((((([.int .u32 (s.gen : Int)] : List Value) ++ ([.int .i64 s.blocks] : List Value)) ++ ([.int .i64 0] : List Value)) ++ (Z32 : List Value)) ++ (Z16 : List Value) ++ ([] : List Value)).toArray from congrArg List.toArray (by simp)]
  refine (fill_step (place := fun x => #[(0, 1), (1, 1), (2, 1), (3, 32), (35, 16)][x]?) (i := 4) (A := (((([.int .u32 (s.gen : Int)] : List Value) ++ ([.int .i64 s.blocks] : List Value)) ++ ([.int .i64 0] : List Value)) ++ (Z32 : List Value))) (C := Z16) (D := ([] : List Value)) (b := s.used.map vb) (v := .agg (brow s.used)) (by simp [h32, h16, g32]) rfl (by rw [g16, h16])).trans ?_
  rw [Instr.fill]
  simp [Su.cells, brow, Z32, Z16, hz2, hz3]
theorem wpList_build28_014 {ops : Array Oper} {rest : List Oper} {o : Oper} {a : Act} {w : World} {Q : Exit → Act → World → Prop} (hgd : o.guard = none) (p q y : Operand) (ho : o.op = .build 28 #[(0, p), (1, q), (4, y)]) (s : Su) (hs : s.Ok) (hz2 : s.root = 0) (hz3 : s.log = zb 32) (hp : a.eval p = .int .u32 (s.gen : Int)) (hq : a.eval q = .int .i64 s.blocks) (hy : a.eval y = .agg (brow s.used))
    (h : wpList Tryd.prog ops Q rest (a.put o.dst (.agg s.cells)) w) : wpList Tryd.prog ops Q (o :: rest) a w := by
  refine wpList_plain hgd fun K hK => ?_
  unfold Oper.wp execOp
  simp only [ho, hp, hq, hy, List.map_toArray, List.map_cons, List.map_nil, run_build w 28 _ _ (built28_014 s hs hz2 hz3), Sem.run_bind, Result.andThen_ok, Sem.run_pure]
  exact hK _ _ h

theorem built28_012 (s : Su) (hs : s.Ok) (hz3 : s.log = zb 32) (hz4 : s.used = zb 16) : Tryd.prog.built 28 [(0, .int .u32 (s.gen : Int)), (1, .int .i64 s.blocks), (2, .int .i64 s.root)] = some s.cells := by
  obtain ⟨i, hi, hz, hsz⟩ := info_zs info28
  obtain ⟨i22, hi22, hs22⟩ := info_of (t := 22) (k := 1) (by kernel_rfl)
  obtain ⟨i3, hi3, hs3⟩ := info_of (t := 3) (k := 1) (by kernel_rfl)
  obtain ⟨i24, hi24, hs24⟩ := info_of (t := 24) (k := 32) (by kernel_rfl)
  obtain ⟨i26, hi26, hs26⟩ := info_of (t := 26) (k := 16) (by kernel_rfl)
  unfold Program.built
  rw [hi, Tryd.underlying28]
  dsimp only
  rw [hz]
  have hpl : (List.mapM (fun f : Field => (Tryd.prog.info? f.type).map fun i => (f.offset, i.size)) [{ name := "Gen", type := 22, offset := 0, embedded := false, tag := "", pkgPath := "", byteOffset := 0 },
          { name := "Blocks", type := 3, offset := 1, embedded := false, tag := "", pkgPath := "", byteOffset := 8 },
          { name := "Root", type := 3, offset := 2, embedded := false, tag := "", pkgPath := "", byteOffset := 16 },
          { name := "Log", type := 24, offset := 3, embedded := false, tag := "", pkgPath := "", byteOffset := 24 },
          { name := "Used", type := 26, offset := 35, embedded := false, tag := "", pkgPath := "", byteOffset := 56 }]) = some [(0, 1), (1, 1), (2, 1), (3, 32), (35, 16)] := by
    simp [List.mapM_cons, hi22, hi3, hi24, hi26, hs22, hs3, hs24, hs26]
  rw [hpl]
  dsimp only
  have g32 : Z32.length = 32 := by simp [Z32, zb]
  have g16 : Z16.length = 16 := by simp [Z16, zb]
  have h32 : (s.log.map vb).length = 32 := by simp [hs.log]
  have h16 : (s.used.map vb).length = 16 := by simp [hs.used]
  have hc : (Value.agg su0.cells).cells = (([] : List Value) ++ ([.int .u32 0] : List Value) ++ (([.int .i64 0] : List Value) ++ (([.int .i64 0] : List Value) ++ ((Z32 : List Value) ++ (Z16 : List Value))))).toArray := rfl
  rw [hc]
  refine (fill_step (place := fun x => #[(0, 1), (1, 1), (2, 1), (3, 32), (35, 16)][x]?) (i := 0) (A := ([] : List Value)) (C := [.int .u32 0]) (D := (([.int .i64 0] : List Value) ++ (([.int .i64 0] : List Value) ++ ((Z32 : List Value) ++ (Z16 : List Value))))) (b := [.int .u32 (s.gen : Int)]) (v := .int .u32 (s.gen : Int)) rfl rfl rfl).trans ?_
  rw [show (([] : List Value) ++ ([.int .u32 (s.gen : Int)] : List Value) ++ (([.int .i64 0] : List Value) ++ (([.int .i64 0] : List Value) ++ ((Z32 : List Value) ++ (Z16 : List Value))))).toArray = (([.int .u32 (s.gen : Int)] : List Value) ++ ([.int .i64 0] : List Value) ++ (([.int .i64 0] : List Value) ++ ((Z32 : List Value) ++ (Z16 : List Value)))).toArray from congrArg List.toArray (by simp)]
  refine (fill_step (place := fun x => #[(0, 1), (1, 1), (2, 1), (3, 32), (35, 16)][x]?) (i := 1) (A := ([.int .u32 (s.gen : Int)] : List Value)) (C := [.int .i64 0]) (D := (([.int .i64 0] : List Value) ++ ((Z32 : List Value) ++ (Z16 : List Value)))) (b := [.int .i64 s.blocks]) (v := .int .i64 s.blocks) rfl rfl rfl).trans ?_
  rw [show (([.int .u32 (s.gen : Int)] : List Value) ++ ([.int .i64 s.blocks] : List Value) ++ (([.int .i64 0] : List Value) ++ ((Z32 : List Value) ++ (Z16 : List Value)))).toArray = ((([.int .u32 (s.gen : Int)] : List Value) ++ ([.int .i64 s.blocks] : List Value)) ++ ([.int .i64 0] : List Value) ++ ((Z32 : List Value) ++ (Z16 : List Value))).toArray from congrArg List.toArray (by simp)]
  refine (fill_step (place := fun x => #[(0, 1), (1, 1), (2, 1), (3, 32), (35, 16)][x]?) (i := 2) (A := (([.int .u32 (s.gen : Int)] : List Value) ++ ([.int .i64 s.blocks] : List Value))) (C := [.int .i64 0]) (D := ((Z32 : List Value) ++ (Z16 : List Value))) (b := [.int .i64 s.root]) (v := .int .i64 s.root) rfl rfl rfl).trans ?_
  rw [Instr.fill]
  simp [Su.cells, brow, Z32, Z16, hz3, hz4]
theorem wpList_build28_012 {ops : Array Oper} {rest : List Oper} {o : Oper} {a : Act} {w : World} {Q : Exit → Act → World → Prop} (hgd : o.guard = none) (p q r : Operand) (ho : o.op = .build 28 #[(0, p), (1, q), (2, r)]) (s : Su) (hs : s.Ok) (hz3 : s.log = zb 32) (hz4 : s.used = zb 16) (hp : a.eval p = .int .u32 (s.gen : Int)) (hq : a.eval q = .int .i64 s.blocks) (hr : a.eval r = .int .i64 s.root)
    (h : wpList Tryd.prog ops Q rest (a.put o.dst (.agg s.cells)) w) : wpList Tryd.prog ops Q (o :: rest) a w := by
  refine wpList_plain hgd fun K hK => ?_
  unfold Oper.wp execOp
  simp only [ho, hp, hq, hr, List.map_toArray, List.map_cons, List.map_nil, run_build w 28 _ _ (built28_012 s hs hz3 hz4), Sem.run_bind, Result.andThen_ok, Sem.run_pure]
  exact hK _ _ h


/-- The one of the greatest generation, in its block, is the newest. -/
theorem newR_top {s : DS} (hd : s.dn = false) {u : Su} (hu : u.Ok) (hg : u.good = true) (hb : u.blocks = (s.n : Int)) (h : dsb s (u.gen % 2) = sblk u) (ho : ∀ v, cand s ((u.gen + 1) % 2) = some v → v.gen < u.gen) : newR s = (u, 0) := by
  have hc := cand_of h hu hg hb rfl
  rcases Nat.mod_two_eq_zero_or_one u.gen with e | e
  · rw [e] at hc
    rw [show (u.gen + 1) % 2 = 1 by omega] at ho
    cases h1 : cand s 1 with
    | none => exact newR_one hd (.inl ⟨hc, h1⟩)
    | some v =>
      rw [newR_both hd hc h1, if_neg (by have := ho v h1; omega)]
  · rw [e] at hc
    rw [show (u.gen + 1) % 2 = 0 by omega] at ho
    cases h0 : cand s 0 with
    | none => exact newR_one hd (.inr ⟨h0, hc⟩)
    | some v =>
      rw [newR_both hd h0 hc, if_pos (ho v h0)]
theorem decR_fill (b : B) : (decR (List.replicate 128 b)).2 ≠ 0 := by
  rcases decR_cases (List.replicate 128 b) with ⟨h1, h2, _⟩ | ⟨h1, _⟩
  · exfalso
    obtain ⟨_, _, h3, _, h5⟩ := good_bounds h2
    have e5 : (srd (List.replicate 128 b)).blocks = nb b := rfl
    have e6 : (srd (List.replicate 128 b)).root = nb b := rfl
    rw [e5] at h3 h5
    rw [e6] at h5
    omega
  · rw [h1]; decide
end Go.Proofs.YtdgnjpdjohibeaaDoor
