/-
  wakes of the leaf's laws.
-/
import Derived.Test.YthngaegfppbdmaaDoorPk
import Derived.Test.YthngaegfppbdmaaDoorGI
set_option linter.all false
namespace Go.Proofs.YthngaegfppbdmaaDoor
open Go.RowKit Go.Sort

theorem buildK1 (w : World) : (Instr.build 52 #[(0, .int .u8 1)]).run Tryd.prog w = .ok (.agg (brow (1#8 :: zb 31))) w := by kernel_rfl
theorem buildK2 (w : World) : (Instr.build 52 #[(0, .int .u8 2)]).run Tryd.prog w = .ok (.agg (brow (2#8 :: zb 31))) w := by kernel_rfl
theorem buildW0 (w : World) : (Instr.build 54 #[(0, .agg (brow (1#8 :: zb 31))), (1, .int .i64 9), (2, .int .i64 2), (3, .int .i64 258)]).run Tryd.prog w = .ok (.agg w0.cells.toArray) w := run_build54 _ (by decide) _ _ _ w
theorem built54c (K : List B) (hK : K.length = 32) (p b : Int) : Tryd.prog.built 54 [(0, .agg (brow K)), (1, .int .i64 p), (2, .int .i64 b)] = some (En.mk K p b 0).cells.toArray := by
  obtain ⟨i, hi, hz, hs, hb⟩ := info46'
  obtain ⟨i3, hi3, _, h3s, _⟩ := info3'
  have hk : ∃ i, Tryd.prog.info? 52 = some i ∧ i.size = 32 := by
    cases hq : Tryd.prog.info? 52 with
    | none => have := sizeKey; rw [hq] at this; cases this
    | some i => have := sizeKey; rw [hq] at this; exact ⟨i, rfl, by simpa using this⟩
  obtain ⟨ik, hik, hks⟩ := hk
  unfold Program.built
  rw [hi, Tryd.underlying54]
  dsimp only
  rw [hz]
  have hpl : (List.mapM (fun f : Field => (Tryd.prog.info? f.type).map fun i => (f.offset, i.size)) [{ name := "Key", type := 52, offset := 0, embedded := false, tag := "", pkgPath := "", byteOffset := 0 }, { name := "Place", type := 3, offset := 32, embedded := false, tag := "", pkgPath := "", byteOffset := 32 }, { name := "Blocks", type := 3, offset := 33, embedded := false, tag := "", pkgPath := "", byteOffset := 40 }, { name := "Refs", type := 3, offset := 34, embedded := false, tag := "", pkgPath := "", byteOffset := 48 }]) = some [(0, 32), (32, 1), (33, 1), (34, 1)] := by
    simp [List.mapM_cons, hik, hi3, hks, h3s]
  rw [hpl]
  dsimp only
  have hc : (Value.agg (e0 0 0 0).cells.toArray).cells = ((zb 32).map vb ++ [Value.int .i64 0, Value.int .i64 0, Value.int .i64 0]).toArray := rfl
  have hkc : (Value.agg (brow K)).cells = (K.map vb).toArray := rfl
  have hf := fold_pre (K.map vb) ((zb 32).map vb) [.int .i64 0, .int .i64 0, .int .i64 0] (by simp [hK, zb])
  rw [hc]
  unfold Instr.fill
  dsimp only
  rw [show ([((0 : Nat), (32 : Nat)), (32, 1), (33, 1), (34, 1)].toArray[(0 : Nat)]?) = some (0, 32) from rfl]
  dsimp only
  rw [hkc, if_neg (by simp [hK, zb]), hf]
  have h32 : (K.map vb).length = 32 := by simp [hK]
  unfold Instr.fill Instr.fill Instr.fill
  simp [Value.cells, En.cells, h32, hK]
theorem buildW1 (w : World) : (Instr.build 54 #[(0, .agg (brow (2#8 :: zb 31))), (1, .int .i64 5), (2, .int .i64 1)]).run Tryd.prog w = .ok (.agg w1.cells.toArray) w := run_build w 54 _ _ (built54c _ (by decide) _ _)

/-- Two entries in one block. -/
structure Er2 (w : World) (g : Nat) (e d : En) : Prop where
  row : w.heap[g]? = some (.cells (e.cells ++ d.cells).toArray 54 (0, 0))
  k1 : e.key.length = 32
  k2 : d.key.length = 32
theorem Er2.keep {a w : World} {g : Nat} {e d : En} (h : Er2 a g e d) (hk : Keeps (fun _ => False) a w) : Er2 w g e d := ⟨hk.row h.row (fun h => h), h.k1, h.k2⟩
theorem Er2.keeps {S : Nat → Prop} {a w : World} {g : Nat} {e d : En} (h : Er2 a g e d) (hk : Keeps S a w) (hs : ¬ S g) : Er2 w g e d := ⟨hk.row h.row hs, h.k1, h.k2⟩
theorem Er2.lt {w : World} {g : Nat} {e d : En} (h : Er2 w g e d) : g < w.heap.size := lt_of_row h.row
theorem Er2.first {w : World} {g : Nat} {e d : En} (h : Er2 w g e d) : EnAt w g 0 e := ⟨h.k1, fun j v hv => by
  have hj : j < e.cells.length := (List.getElem?_eq_some_iff.1 hv).1
  rw [cell_of_row w _ _ _ _ _ h.row, Nat.zero_add]
  simpa [List.getElem?_append_left hj] using hv⟩
theorem Er2.second {w : World} {g : Nat} {e d : En} (h : Er2 w g e d) : EnAt w g 35 d := ⟨h.k2, fun j v hv => by
  have hl := En.cells_len h.k1
  rw [cell_of_row w _ _ _ _ _ h.row]
  have : (e.cells ++ d.cells)[35 + j]? = d.cells[j]? := by rw [List.getElem?_append_right (by omega), hl]; congr 1; omega
  simpa [this] using hv⟩
theorem Er2.sl {w : World} {g : Nat} {e d : En} (h : Er2 w g e d) : SlE w (some ⟨g, 0, none⟩) 2 2 [e, d] :=
  ⟨rfl, Nat.le_refl _, (fun x hx => by simp at hx; rcases hx with rfl | rfl; exact h.k1; exact h.k2), fun j x hx => ⟨g, 0, rfl, by
    rw [cell_of_row w _ _ _ _ _ h.row, Nat.zero_add]
    simpa [ecs] using hx⟩⟩

theorem fold_mid (A b C D : List Value) (h : C.length = b.length) :
    b.toArray.zipIdx.foldl (fun (cs : Array Value) (y : Value × Nat) => cs.setIfInBounds (A.length + y.2) y.1) (A ++ C ++ D).toArray = (A ++ b ++ D).toArray := by
  suffices H : ∀ (b : List Value) (o : Nat) (A' C : List Value), A'.length = A.length + o → C.length = b.length →
      List.foldl (fun (cs : Array Value) (y : Value × Nat) => cs.setIfInBounds (A.length + y.2) y.1) (A' ++ C ++ D).toArray (b.zipIdx o) = (A' ++ b ++ D).toArray by
    have := H b 0 A C (by simp) h
    rw [← Array.foldl_toList]
    simpa using this
  intro b
  induction b with
  | nil => intro o A' C hA hC; simp [List.eq_nil_of_length_eq_zero hC]
  | cons v b ih =>
    intro o A' C hA hC
    cases C with
    | nil => simp at hC
    | cons c C =>
      rw [List.zipIdx_cons, List.foldl_cons]
      dsimp only
      have e : ((A' ++ c :: C ++ D).toArray.setIfInBounds (A.length + o) v) = ((A' ++ [v]) ++ C ++ D).toArray := by
        simp [← hA]
      rw [e, ih (o + 1) (A' ++ [v]) C (by simp; omega) (by simpa using hC)]
      simp

theorem run_build2E (w : World) (e d : En) (h : e.key.length = 32) (h2 : d.key.length = 32) : (Instr.buildSlice 22 2 #[(0, .agg e.cells.toArray), (1, .agg d.cells.toArray)]).run Tryd.prog w = .ok (.slice (some ⟨w.heap.size, 0, none⟩) 2 2) (w.alloc (.cells (e.cells ++ d.cells).toArray 54)) := by
  obtain ⟨i0, hi0, hz0, hz1, hz2⟩ := info46'
  have hb : (Value.agg e.cells.toArray).cells = e.cells.toArray := rfl
  have hb2 : (Value.agg d.cells.toArray).cells = d.cells.toArray := rfl
  have hl := En.cells_len h
  have hl2 := En.cells_len h2
  have hz : (Value.agg (e0 0 0 0).cells.toArray).cells = (e0 0 0 0).cells.toArray := rfl
  have hl0 : (e0 0 0 0).cells.length = 35 := En.cells_len (zb_len _)
  obtain ⟨Z, hZ⟩ : ∃ Z, ((Array.range (2 * 35)).map ((Value.agg (e0 0 0 0).cells.toArray).cells[· % (Value.agg (e0 0 0 0).cells.toArray).cells.size]!)) = Z := ⟨_, rfl⟩
  have hZs : Z.size = 70 := by rw [← hZ]; simp
  have hZ2 : Z = ([] ++ Z.toList.take 35 ++ Z.toList.drop 35).toArray := by simp
  have f1 := fold_mid [] e.cells (Z.toList.take 35) (Z.toList.drop 35) (by rw [List.length_take, Array.length_toList, hZs, hl]; rfl)
  have f2 := fold_mid e.cells d.cells (Z.toList.drop 35) [] (by rw [List.length_drop, Array.length_toList, hZs, hl2])
  have hfill : Instr.fill (fun i => some (i * 35, 35)) Z [(0, .agg e.cells.toArray), (1, .agg d.cells.toArray)] = some (e.cells ++ d.cells).toArray := by
    unfold Instr.fill Instr.fill Instr.fill
    simp only [Nat.zero_mul, Nat.one_mul, hb, hb2]
    rw [if_neg (by simp [hl, hZs])]
    have g1 : List.foldl (fun (cs : Array Value) (x : Value × Nat) => cs.setIfInBounds (0 + x.2) x.1) Z (e.cells.toArray.zipIdx.toList) = (e.cells ++ Z.toList.drop 35).toArray := by
      have := f1
      rw [← Array.foldl_toList] at this
      rw [← hZ2] at this
      simpa using this
    rw [← Array.foldl_toList, g1, if_neg (by simp [hl, hl2, hZs])]
    have g2 := f2
    rw [List.append_nil, List.append_nil, hl] at g2
    rw [g2]
  unfold Instr.buildSlice
  have hsize : (sizeOf 54).run Tryd.prog w = .ok 35 w := by simp [sizeOf, typeInfo, hi0, hz1]
  simp only [Sem.run_bind, run_underlying Tryd.underlying22, hsize, Result.andThen_ok]
  rw [if_neg (by decide), if_neg (by decide)]
  simp only [Sem.run_bind, zero46, Result.andThen_ok, Sem.run_pure, hZ, hfill]
  simp [newRow]
theorem wpList_build2E {ops : Array Oper} {rest : List Oper} {o : Oper} {a : Act} {w : World} {Q : Exit → Act → World → Prop} (hgd : o.guard = none) (x y : Operand) (ho : o.op = .buildSlice 22 2 #[(0, x), (1, y)]) (e d : En) (hx : a.eval x = .agg e.cells.toArray) (hy : a.eval y = .agg d.cells.toArray) (he : e.key.length = 32) (hd : d.key.length = 32)
    (h : ∀ g w', Er2 w' g e d → w.heap.size ≤ g → Keeps (fun _ => False) w w' → wpList Tryd.prog ops Q rest (a.put o.dst (.slice (some ⟨g, 0, none⟩) 2 2)) w') : wpList Tryd.prog ops Q (o :: rest) a w := by
  refine wpList_plain hgd fun K hK => ?_
  unfold Oper.wp execOp
  simp only [ho, hx, hy, List.map_toArray, List.map_cons, List.map_nil, run_build2E w e d he hd, Sem.run_bind, Result.andThen_ok, Sem.run_pure]
  exact hK _ _ (h w.heap.size _ ⟨heap_alloc_new w _, he, hd⟩ (Nat.le_refl _) (keeps_alloc w _))

end Go.Proofs.YthngaegfppbdmaaDoor
