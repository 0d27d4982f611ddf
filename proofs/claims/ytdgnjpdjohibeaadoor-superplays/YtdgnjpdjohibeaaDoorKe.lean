/-
  read of the program.
-/
import Derived.Test.YtdgnjpdjohibeaaDoorKc
set_option linter.all false
set_option maxRecDepth 100000
namespace Go.Proofs.YtdgnjpdjohibeaaDoor
open Go.RowKit Go.Sort Go.Shelf

theorem fold_at (b A C D : List Value) (h : C.length = b.length) :
    b.toArray.zipIdx.foldl (fun (cs : Array Value) (y : Value × Nat) => cs.setIfInBounds (A.length + y.2) y.1) (A ++ C ++ D).toArray = (A ++ b ++ D).toArray := by
  suffices H : ∀ (b : List Value) (o : Nat) (E C : List Value), E.length = o → C.length = b.length →
      List.foldl (fun (cs : Array Value) (y : Value × Nat) => cs.setIfInBounds (A.length + y.2) y.1) (A ++ E ++ C ++ D).toArray (b.zipIdx o) = (A ++ E ++ b ++ D).toArray by
    have := H b 0 [] C rfl h
    simp at this
    rw [← Array.foldl_toList]
    simpa using this
  intro b
  induction b with
  | nil => intro o E C hE hC; simp [List.eq_nil_of_length_eq_zero hC]
  | cons v b ih =>
    intro o E C hE hC
    cases C with
    | nil => simp at hC
    | cons c C =>
      rw [List.zipIdx_cons, List.foldl_cons]
      dsimp only
      have e : ((A ++ E ++ c :: C ++ D).toArray.setIfInBounds (A.length + o) v) = ((A ++ (E ++ [v])) ++ C ++ D).toArray := by
        have hl : A.length + o = (A ++ E).length := by simp [hE]
        rw [hl, List.setIfInBounds_toArray, show A ++ E ++ c :: C ++ D = (A ++ E) ++ (c :: (C ++ D)) by simp, List.set_append_right _ _ (Nat.le_refl _), Nat.sub_self, List.set_cons_zero]
        simp
      rw [e]
      have := ih (o + 1) (E ++ [v]) C (by simp; omega) (by simpa using hC)
      rw [this]
      simp

theorem info28 : (Tryd.prog.info? 28).map (fun i => (i.zero, i.size)) = some (some (.agg su0.cells), 51) := by kernel_rfl
theorem info_of {t : TypeId} {k : Nat} (h : (Tryd.prog.info? t).map (·.size) = some k) : ∃ i, Tryd.prog.info? t = some i ∧ i.size = k := by
  cases hq : Tryd.prog.info? t with
  | none => rw [hq] at h; cases h
  | some i => rw [hq] at h; exact ⟨i, rfl, by simpa using h⟩
theorem info_zs {t : TypeId} {z : Option Value} {k : Nat} (h : (Tryd.prog.info? t).map (fun i => (i.zero, i.size)) = some (z, k)) : ∃ i, Tryd.prog.info? t = some i ∧ i.zero = z ∧ i.size = k := by
  cases hq : Tryd.prog.info? t with
  | none => rw [hq] at h; cases h
  | some i => rw [hq] at h; simp at h; exact ⟨i, rfl, h.1, h.2⟩

theorem fill_step {place : Nat → Option (Nat × Nat)} {A C D b : List Value} {i : Nat} {v : Value} {rest : List (Nat × Value)} (hp : place i = some (A.length, b.length)) (hv : v.cells = b.toArray) (hC : C.length = b.length) :
    Instr.fill place (A ++ C ++ D).toArray ((i, v) :: rest) = Instr.fill place (A ++ b ++ D).toArray rest := by
  rw [Instr.fill, hp]
  dsimp only
  rw [hv, if_neg (by simp [hC]), fold_at b A C D hC]
def Z32 : List Value := (zb 32).map vb
def Z16 : List Value := (zb 16).map vb

/-- The fields of a superblock as a list of cells, cut where they are. -/
theorem built28 (s : Su) (hs : s.Ok) : Tryd.prog.built 28 [(0, .int .u32 (s.gen : Int)), (1, .int .i64 s.blocks), (2, .int .i64 s.root), (3, .agg (brow s.log)), (4, .agg (brow s.used))] = some s.cells := by
  obtain ⟨i, hi, hz, hsz⟩ := info_zs info28
  obtain ⟨i22, hi22, hs22⟩ := info_of (t := 22) (k := 1) (by kernel_rfl)
  obtain ⟨i3, hi3, hs3⟩ := info_of (t := 3) (k := 1) (by kernel_rfl)
  obtain ⟨i24, hi24, hs24⟩ := info_of (t := 24) (k := 32) (by kernel_rfl)
  obtain ⟨i26, hi26, hs26⟩ := info_of (t := 26) (k := 16) (by kernel_rfl)
  unfold Program.built
  rw [hi, Tryd.underlying28]
  dsimp only
  rw [hz]
  have hpl : (List.mapM (fun f : Field => (Tryd.prog.info? f.type).map fun i => (f.offset, i.size)) [{ name := "Gen", type := 22, offset := 0, embedded := false, tag := "", pkgPath := "", byteOffset := 0 },
          { name := "Blocks", type := 3, offset := 1, embedded := false, tag := "", pkgPath := "", byteOffset := 8 },
          { name := "Root", type := 3, offset := 2, embedded := false, tag := "", pkgPath := "", byteOffset := 16 },
          { name := "Log", type := 24, offset := 3, embedded := false, tag := "", pkgPath := "", byteOffset := 24 },
          { name := "Used", type := 26, offset := 35, embedded := false, tag := "", pkgPath := "", byteOffset := 56 }]) = some [(0, 1), (1, 1), (2, 1), (3, 32), (35, 16)] := by
    simp [List.mapM_cons, hi22, hi3, hi24, hi26, hs22, hs3, hs24, hs26]
  rw [hpl]
  dsimp only
  have g32 : Z32.length = 32 := by simp [Z32, zb]
  have g16 : Z16.length = 16 := by simp [Z16, zb]
  have h32 : (s.log.map vb).length = 32 := by simp [hs.log]
  have h16 : (s.used.map vb).length = 16 := by simp [hs.used]
  have hc : (Value.agg su0.cells).cells = ([] ++ [Value.int .u32 0] ++ ([Value.int .i64 0, Value.int .i64 0] ++ (Z32 ++ Z16))).toArray := rfl
  rw [hc]
  refine (fill_step (place := fun x => #[(0, 1), (1, 1), (2, 1), (3, 32), (35, 16)][x]?) (i := 0) (A := []) (C := [.int .u32 0]) (D := [Value.int .i64 0, Value.int .i64 0] ++ (Z32 ++ Z16)) (b := [.int .u32 (s.gen : Int)]) (v := .int .u32 (s.gen : Int)) rfl rfl rfl).trans ?_
  refine (fill_step (place := fun x => #[(0, 1), (1, 1), (2, 1), (3, 32), (35, 16)][x]?) (i := 1) (A := [.int .u32 (s.gen : Int)]) (C := [.int .i64 0]) (D := [.int .i64 0] ++ (Z32 ++ Z16)) (b := [.int .i64 s.blocks]) (v := .int .i64 s.blocks) rfl rfl rfl).trans ?_
  refine (fill_step (place := fun x => #[(0, 1), (1, 1), (2, 1), (3, 32), (35, 16)][x]?) (i := 2) (A := [.int .u32 (s.gen : Int), .int .i64 s.blocks]) (C := [.int .i64 0]) (D := Z32 ++ Z16) (b := [.int .i64 s.root]) (v := .int .i64 s.root) rfl rfl rfl).trans ?_
  refine (fill_step (place := fun x => #[(0, 1), (1, 1), (2, 1), (3, 32), (35, 16)][x]?) (i := 3) (A := [.int .u32 (s.gen : Int), .int .i64 s.blocks, .int .i64 s.root]) (C := Z32) (D := Z16) (b := s.log.map vb) (v := .agg (brow s.log)) (by rw [h32]; rfl) rfl (by rw [g32, h32])).trans ?_
  have e : [Value.int .u32 (s.gen : Int), .int .i64 s.blocks, .int .i64 s.root] ++ s.log.map vb ++ Z16 = ([Value.int .u32 (s.gen : Int), .int .i64 s.blocks, .int .i64 s.root] ++ s.log.map vb) ++ Z16 ++ [] := by simp
  rw [e]
  refine (fill_step (place := fun x => #[(0, 1), (1, 1), (2, 1), (3, 32), (35, 16)][x]?) (i := 4) (A := [.int .u32 (s.gen : Int), .int .i64 s.blocks, .int .i64 s.root] ++ s.log.map vb) (C := Z16) (D := []) (b := s.used.map vb) (v := .agg (brow s.used)) (by rw [List.length_append, h32, h16]; rfl) rfl (by rw [g16, h16])).trans ?_
  rw [Instr.fill]
  simp [Su.cells, brow]
theorem run_build28 (s : Su) (hs : s.Ok) (w : World) : (Instr.build 28 #[(0, .int .u32 (s.gen : Int)), (1, .int .i64 s.blocks), (2, .int .i64 s.root), (3, .agg (brow s.log)), (4, .agg (brow s.used))]).run Tryd.prog w = .ok (.agg s.cells) w :=
  run_build w 28 _ _ (built28 s hs)
theorem run_build0 (w : World) : (Instr.build 28 #[]).run Tryd.prog w = .ok (.agg su0.cells) w := by
  refine run_build w 28 _ _ ?_
  obtain ⟨i, hi, hz, hsz⟩ := info_zs info28
  unfold Program.built
  rw [hi, Tryd.underlying28]
  dsimp only
  rw [hz]
  obtain ⟨i22, hi22, hs22⟩ := info_of (t := 22) (k := 1) (by kernel_rfl)
  obtain ⟨i3, hi3, hs3⟩ := info_of (t := 3) (k := 1) (by kernel_rfl)
  obtain ⟨i24, hi24, hs24⟩ := info_of (t := 24) (k := 32) (by kernel_rfl)
  obtain ⟨i26, hi26, hs26⟩ := info_of (t := 26) (k := 16) (by kernel_rfl)
  simp [List.mapM_cons, hi22, hi3, hi24, hi26, hs22, hs3, hs24, hs26]
  rw [Instr.fill]
  rfl
/-- A superblock that is put together, its numbers told as they come. -/
theorem quiet_build28 {o : Oper} {a : Act} {C : World → Prop} {K : Act → Prop} (p q r x y : Operand) (ho : o.op = .build 28 #[(0, p), (1, q), (2, r), (3, x), (4, y)]) (s : Su) (hs : s.Ok) (hp : a.eval p = .int .u32 (s.gen : Int)) (hq : a.eval q = .int .i64 s.blocks) (hr : a.eval r = .int .i64 s.root) (hx : a.eval x = .agg (brow s.log)) (hy : a.eval y = .agg (brow s.used)) (hk : K (a.put o.dst (.agg s.cells))) : o.quiet Tryd.prog a C K := by
  refine ⟨.agg s.cells, fun w hw => ?_, hk⟩
  unfold Oper.quietAt execOp
  simp only [ho, hp, hq, hr, hx, hy, List.map_toArray, List.map_cons, List.map_nil, run_build28 s hs, Sem.run_bind, Sem.run_pure, Result.andThen_ok]
  exact ⟨rfl, rfl⟩
theorem wpList_build28 {ops : Array Oper} {rest : List Oper} {o : Oper} {a : Act} {w : World} {Q : Exit → Act → World → Prop} (hgd : o.guard = none) (p q r x y : Operand) (ho : o.op = .build 28 #[(0, p), (1, q), (2, r), (3, x), (4, y)]) (s : Su) (hs : s.Ok) (hp : a.eval p = .int .u32 (s.gen : Int)) (hq : a.eval q = .int .i64 s.blocks) (hr : a.eval r = .int .i64 s.root) (hx : a.eval x = .agg (brow s.log)) (hy : a.eval y = .agg (brow s.used))
    (h : wpList Tryd.prog ops Q rest (a.put o.dst (.agg s.cells)) w) : wpList Tryd.prog ops Q (o :: rest) a w := by
  refine wpList_plain hgd fun K hK => ?_
  unfold Oper.wp execOp
  simp only [ho, hp, hq, hr, hx, hy, List.map_toArray, List.map_cons, List.map_nil, run_build28 s hs, Sem.run_bind, Result.andThen_ok, Sem.run_pure]
  exact hK _ _ h
theorem wpList_buildS0 {ops : Array Oper} {rest : List Oper} {o : Oper} {a : Act} {w : World} {Q : Exit → Act → World → Prop} (hgd : o.guard = none) (ho : o.op = .build 28 #[])
    (h : wpList Tryd.prog ops Q rest (a.put o.dst (.agg su0.cells)) w) : wpList Tryd.prog ops Q (o :: rest) a w := by
  refine wpList_plain hgd fun K hK => ?_
  unfold Oper.wp execOp
  simp only [ho, List.map_toArray, List.map_nil, run_build0, Sem.run_bind, Result.andThen_ok, Sem.run_pure]
  exact hK _ _ h
theorem wpList_allocS {ops : Array Oper} {rest : List Oper} {o : Oper} {a : Act} {w : World} {Q : Exit → Act → World → Prop} (hgd : o.guard = none) (ho : o.op = .alloc 28)
    (h : ∀ g w', SuAt w' g su0 → w.heap.size ≤ g → Keeps (fun _ => False) w w' → wpList Tryd.prog ops Q rest (a.put o.dst (.pointer (some ⟨g, 0, none⟩))) w') : wpList Tryd.prog ops Q (o :: rest) a w :=
  wpList_allocR hgd 28 ho su0.cells zero28 h
theorem wpList_storeS {ops : Array Oper} {rest : List Oper} {o : Oper} {a : Act} {w : World} {Q : Exit → Act → World → Prop} (hgd : o.guard = none) (x y : Operand) (ho : o.op = .store 28 x y) (g : Nat) (hx : a.eval x = .pointer (some ⟨g, 0, none⟩)) (s : Su) (hs : s.Ok) (hy : a.eval y = .agg s.cells)
    (old : Su) (hold : old.Ok) (hb : SuAt w g old) (h : ∀ w', SuAt w' g s → Keeps (· = g) w w' → wpList Tryd.prog ops Q rest (a.put o.dst undef) w') : wpList Tryd.prog ops Q (o :: rest) a w :=
  wpList_storeR hgd 28 x y ho g hx s.cells hy hs.ty s.one old.cells hb (by rw [hs.size, hold.size]) h
theorem BlAt.mid {w : World} {g : Nat} {L : List B} (h : BlAt w g L) (A m : Nat) (hA : A + m ≤ 128) : w.rangeAt g A (brow ((L.drop A).take m)).toList := fun j v hv => by
  have hl := h.len
  have hj : j < m := by
    have := (List.getElem?_eq_some_iff.1 hv).1
    rw [Array.length_toList, size_brow, List.length_take] at this; omega
  rw [h.cell (j := A + j) (by omega)]
  simp only [brow, List.getElem?_map, List.getElem?_take, hj, if_true, List.getElem?_drop] at hv
  rw [List.getElem?_eq_getElem (by omega)] at hv
  rw [getD_lt (by omega)]
  simp at hv
  rw [← hv]; rfl
set_option maxRecDepth 100000 in
theorem quiet_arr24 {o : Oper} {a : Act} {C : World → Prop} {K : Act → Prop} (x : Operand) (ho : o.op = .sliceToArrayPointer 24 x) (p : Option Addr) (c : Nat) (hx : a.eval x = .slice p 32 c) (hk : K (a.put o.dst (.pointer p))) : o.quiet Tryd.prog a C K := by
  refine ⟨.pointer p, fun w hw => ?_, hk⟩
  unfold Oper.quietAt execOp
  simp only [ho, hx, run_arrayAt 24 5 32 p 32 c Tryd.underlying24 (Nat.le_refl _), Sem.run_bind, Sem.run_pure, Result.andThen_ok]
  exact ⟨rfl, rfl⟩
set_option maxRecDepth 100000 in
theorem quiet_arr26 {o : Oper} {a : Act} {C : World → Prop} {K : Act → Prop} (x : Operand) (ho : o.op = .sliceToArrayPointer 26 x) (p : Option Addr) (c : Nat) (hx : a.eval x = .slice p 16 c) (hk : K (a.put o.dst (.pointer p))) : o.quiet Tryd.prog a C K := by
  refine ⟨.pointer p, fun w hw => ?_, hk⟩
  unfold Oper.quietAt execOp
  simp only [ho, hx, run_arrayAt 26 5 16 p 16 c Tryd.underlying26 (Nat.le_refl _), Sem.run_bind, Sem.run_pure, Result.andThen_ok]
  exact ⟨rfl, rfl⟩
theorem quiet_loadM {o : Oper} {a : Act} {C : World → Prop} {K : Act → Prop} (t : TypeId) (x : Operand) (ho : o.op = .load t x) (b of : Nat) (hx : a.eval x = .pointer (some ⟨b, of, none⟩)) (L : List B) (hr : ∀ w, C w → w.rangeAt b of (brow L).toList) (hs : RowTy t L.length) (hk : K (a.put o.dst (.agg (brow L)))) : o.quiet Tryd.prog a C K := by
  refine ⟨.agg (brow L), fun w hw => ?_, hk⟩
  unfold Oper.quietAt execOp
  simp only [ho, hx, Instr.loadAt, Instr.sureAddr, Sem.run_bind, Sem.run_pure, Result.andThen_ok, run_loadM (hr w hw) hs]
  exact ⟨rfl, rfl⟩
end Go.Proofs.YtdgnjpdjohibeaaDoor
