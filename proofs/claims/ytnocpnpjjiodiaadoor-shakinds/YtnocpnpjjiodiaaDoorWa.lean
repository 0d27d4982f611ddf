/-
  wakes.
-/
import Derived.Test.YtnocpnpjjiodiaaDoorEq
import Derived.Test.YtnocpnpjjiodiaaDoorPl
import Derived.Deep.RegionHeld3
import Derived.Deep.DrawnRows

set_option linter.all false
namespace Go.Proofs.YtnocpnpjjiodiaaDoor
open Go.RowKit Go.Sort

def abc : List B := [97, 98, 99]
def dA : List B := sha abc
def dZ : List B := sha []
theorem dA_is : dA = [186, 120, 22, 191, 143, 1, 207, 234, 65, 65, 64, 222, 93, 174, 34, 35, 176, 3, 97, 163, 150, 23, 122, 156, 180, 16, 255, 97, 242, 0, 21, 173] := by decide +kernel
theorem dZ_is : dZ = [227, 176, 196, 66, 152, 252, 28, 20, 154, 251, 244, 200, 153, 111, 185, 36, 39, 174, 65, 228, 100, 155, 147, 76, 164, 149, 153, 27, 120, 82, 184, 85] := by decide +kernel
theorem dA_len : dA.length = 32 := sha_len _
theorem dZ_len : dZ.length = 32 := sha_len _
theorem less_AZ : decide (Lib.compareBytes (ub dA) (ub dZ) < 0) = true := by rw [dA_is, dZ_is]; decide +kernel
theorem less_ZA : decide (Lib.compareBytes (ub dZ) (ub dA) < 0) = false := by rw [dA_is, dZ_is]; decide +kernel
theorem buildSlice3 (w : World) : (Instr.buildSlice 22 3 #[(0, .int .u8 97), (1, .int .u8 98), (2, .int .u8 99)]).run Tryd.prog w = .ok (.slice (some ⟨w.heap.size, 0, none⟩) 3 3) (w.alloc (.cells (brow abc) 5)) := by kernel_rfl
theorem buildSlice2 (w : World) : (Instr.buildSlice 22 2 #[(0, .int .u8 98), (1, .int .u8 99)]).run Tryd.prog w = .ok (.slice (some ⟨w.heap.size, 0, none⟩) 2 2) (w.alloc (.cells (brow [98, 99]) 5)) := by kernel_rfl
theorem run_conv22 (w : World) (q n c : Nat) (cs : Array Value) (fr : Nat × Nat) (hg : w.heap[q]? = some (.cells cs 5 fr)) :
    (convert 22 22 (.slice (some ⟨q, 0, none⟩) n c)).run Tryd.prog w = .ok (.slice (some ⟨q, 0, none⟩) n c) (w.freeze ⟨q, cs.size, none⟩ 1) := by
  have hsh : w.shape? q = some (5, cs.size) := by simp [World.shape?, hg]
  simp [convert, run_underlying Tryd.underlying22, run_underlying Tryd.underlying5, markStringish, hsh, Result.andThen]
theorem freeze_keeps (w : World) (q m : Nat) : Keeps (· = q) w (w.freeze ⟨q, m, none⟩ 1) ∧ (w.freeze ⟨q, m, none⟩ 1).heap.size = w.heap.size := by
  refine ⟨⟨rfl, rfl, rfl, by simp [World.freeze], fun k hk hs => ?_⟩, by simp [World.freeze]⟩
  simp [World.freeze, Array.getElem?_modify, Ne.symm hs]
theorem freeze_row (w : World) (q m : Nat) (cs : Array Value) (t : TypeId) (hg : w.heap[q]? = some (.cells cs t (0, 0))) : ∃ fr, (w.freeze ⟨q, m, none⟩ 1).heap[q]? = some (.cells cs t fr) := by
  simp [World.freeze, Array.getElem?_modify, hg]

theorem wpList_conv22 {ops : Array Oper} {rest : List Oper} {o : Oper} {a : Act} {w : World} {Q : Exit → Act → World → Prop} (hgd : o.guard = none) (x : Operand) (ho : o.op = .convert 22 22 x) (q n c : Nat) (hx : a.eval x = .slice (some ⟨q, 0, none⟩) n c)
    (cs : Array Value) (hg : w.heap[q]? = some (.cells cs 5 (0, 0)))
    (h : ∀ w', (∃ fr, w'.heap[q]? = some (.cells cs 5 fr)) → Keeps (· = q) w w' → wpList Tryd.prog ops Q rest (a.put o.dst (.slice (some ⟨q, 0, none⟩) n c)) w') : wpList Tryd.prog ops Q (o :: rest) a w := by
  refine wpList_plain hgd fun K hK => ?_
  unfold Oper.wp execOp
  simp only [ho, hx, run_conv22 w q n c cs _ hg, Sem.run_bind, Result.andThen_ok, Sem.run_pure]
  exact hK _ _ (h _ (freeze_row w q _ cs 5 hg) (freeze_keeps w q _).1)

theorem keeps_new5 {w w1 : World} {o : Obj} (h : Keeps (· = w.heap.size) (w.alloc o) w1) : Keeps (fun _ => False) w w1 := ((Keeps.refl _ _).alloc _).trans' h (fun i e => .inr (by omega))
theorem slb_abc {w1 : World} {q : Nat} (g : ∃ fr, w1.heap[q]? = some (.cells (brow abc) 5 fr)) : SlB w1 (some ⟨q, 0, none⟩) 3 3 abc := by
  obtain ⟨fr, g⟩ := g; exact slb_box g
theorem Keeps.trans2 {S T : Nat → Prop} {a b c : World} (h : Keeps S a b) (k : Keeps T b c) : Keeps (fun i => S i ∨ T i) a c :=
  (h.mono (fun _ _ e => .inl e)).trans (k.mono (fun _ _ e => .inr e))

theorem sumA {A : List B} (hA : Hid (sha abc = A)) (w : World) (q : Nat) (hT : Tabs w) (hl : SlB w (some ⟨q, 0, none⟩) 3 3 abc) :
    Calls Tryd.prog 8 #[.slice (some ⟨q, 0, none⟩) 3 3] w fun e w' => e = .returned (.agg (brow A)) ∧ Keeps (fun _ => False) w w' := by
  rw [← hA.out]; exact sum8 w _ 3 3 abc hT hl (by omega)
theorem sumZ {Z : List B} (hZ : Hid (sha [] = Z)) (w : World) (hT : Tabs w) :
    Calls Tryd.prog 8 #[.slice none 0 0] w fun e w' => e = .returned (.agg (brow Z)) ∧ Keeps (fun _ => False) w w' := by
  rw [← hZ.out]; exact sum8 w _ 0 0 [] hT (SlB.nil _) (by omega)
theorem checkA {A C : List B} (hA : Hid (sha abc = A)) (hC : Hid (A.take 4 = C)) (w : World) (q : Nat) (hT : Tabs w) (hl : SlB w (some ⟨q, 0, none⟩) 3 3 abc) :
    Calls Tryd.prog 7 #[.slice (some ⟨q, 0, none⟩) 3 3] w fun e w' => e = .returned (.agg (brow C)) ∧ Keeps (fun _ => False) w w' := by
  rw [← hC.out, ← hA.out]; exact check7 w _ 3 3 abc hT hl (by omega)
theorem size27 : (Tryd.prog.info? 27).map (·.size) = some 4 := by kernel_rfl

theorem of_bc {A : List B} (hA : Hid (sha abc = A)) (w V : World) (hT : Tabs w) (hV : V = ((w.alloc (.cells (brow [98, 99]) 5)).drew).freeze ⟨w.heap.size, 2, none⟩ 1) :
    Keeps (fun _ => False) w V ∧ Calls Tryd.prog 10 #[.int .i64 97, .slice (some ⟨w.heap.size, 0, none⟩) 2 2] V fun e w' => e = .returned (.agg (brow A)) ∧ Keeps (fun _ => False) V w' := by
  have h1 : (w.alloc (.cells (brow [98, 99]) 5)).drew.heap[w.heap.size]? = some (.cells (brow [98, 99]) 5 (0, 0)) := heap_alloc_new w _
  obtain ⟨fr, g⟩ := freeze_row _ w.heap.size 2 _ _ h1
  have hk : Keeps (fun _ => False) w (((w.alloc (.cells (brow [98, 99]) 5)).drew).freeze ⟨w.heap.size, 2, none⟩ 1) := (((Keeps.refl _ _).alloc _).drew).trans' (freeze_keeps ((w.alloc (.cells (brow [98, 99]) 5)).drew) w.heap.size 2).1 (fun i e => .inr (by omega))
  rw [← hV] at g hk
  refine ⟨hk, ?_⟩
  rw [← hA.out]
  exact of10 V 97 _ 2 2 [98, 99] (hT.keeps hk (fun h => h) (fun h => h)) (slb_box g) (by omega)
theorem run_conv2 (w : World) : (convert 22 22 (.slice (some ⟨w.heap.size, 0, none⟩) 2 2)).run Tryd.prog (w.alloc (.cells #[.int .u8 98, .int .u8 99] 5)).drew = .ok (.slice (some ⟨w.heap.size, 0, none⟩) 2 2) ((w.alloc (.cells (brow [98, 99]) 5)).drew.freeze ⟨w.heap.size, 2, none⟩ 1) :=
  run_conv22 _ _ 2 2 _ _ (show (w.alloc (.cells #[.int .u8 98, .int .u8 99] 5)).drew.heap[w.heap.size]? = some (.cells #[.int .u8 98, .int .u8 99] 5 (0, 0)) from heap_alloc_new w _)

theorem range_row {w : World} {g : Nat} {l : List B} {t : TypeId} {fr : Nat × Nat} (h : w.heap[g]? = some (.cells (brow l) t fr)) : w.rangeAt g 0 (l.map vb) := fun j v hv => by
  rw [cell_of_row w _ _ _ _ _ h, Nat.zero_add]
  simpa [brow] using hv
theorem cell_row {w : World} {g : Nat} {l : List B} {t : TypeId} {fr : Nat × Nat} (h : w.heap[g]? = some (.cells (brow l) t fr)) (j : Nat) (x : B) (hx : l[j]? = some x) : w.cell? ⟨g, j, none⟩ = some (.int .u8 (nb x)) := by
  rw [cell_of_row w _ _ _ _ _ h, brow_get, hx]; rfl

/-- What the last statement of wakes reads. -/
structure WkS (w0 : World) (gA gZ gC : Nat) (LA LZ : List Value) (w' : World) : Prop where
  keeps : Keeps (fun _ => False) w0 w'
  all : w'.rangeAt gA 0 LA ∧ w'.rangeAt gZ 0 LZ ∧ w'.cell? ⟨gA, 0, none⟩ = some (.int .u8 186) ∧ w'.cell? ⟨gA, 1, none⟩ = some (.int .u8 120) ∧ w'.cell? ⟨gA, 2, none⟩ = some (.int .u8 22) ∧ w'.cell? ⟨gA, 3, none⟩ = some (.int .u8 191) ∧ w'.cell? ⟨gA, 31, none⟩ = some (.int .u8 173) ∧
    w'.cell? ⟨gZ, 0, none⟩ = some (.int .u8 227) ∧ w'.cell? ⟨gZ, 1, none⟩ = some (.int .u8 176) ∧ w'.cell? ⟨gZ, 31, none⟩ = some (.int .u8 85) ∧
    w'.cell? ⟨gC, 0, none⟩ = some (.int .u8 186) ∧ w'.cell? ⟨gC, 1, none⟩ = some (.int .u8 120) ∧ w'.cell? ⟨gC, 2, none⟩ = some (.int .u8 22) ∧ w'.cell? ⟨gC, 3, none⟩ = some (.int .u8 191)

theorem wkS {w0 : World} {gA gZ gC : Nat} {A Z C : List B} (hA : A = dA) (hZ : Z = dZ) (hC : C = dA.take 4) (gA' : w0.heap[gA]? = some (.cells (brow A) 24 (0, 0))) (gZ' : w0.heap[gZ]? = some (.cells (brow Z) 24 (0, 0))) (gC' : w0.heap[gC]? = some (.cells (brow C) 27 (0, 0))) (w' : World) (hk : Keeps (fun _ => False) w0 w') :
    WkS w0 gA gZ gC (A.map vb) (Z.map vb) w' := by
  have a := hk.row gA' (fun h => h)
  have z := hk.row gZ' (fun h => h)
  have c := hk.row gC' (fun h => h)
  refine ⟨hk, range_row a, range_row z, cell_row a 0 186 ?_, cell_row a 1 120 ?_, cell_row a 2 22 ?_, cell_row a 3 191 ?_, cell_row a 31 173 ?_, cell_row z 0 227 ?_, cell_row z 1 176 ?_, cell_row z 31 85 ?_, cell_row c 0 186 ?_, cell_row c 1 120 ?_, cell_row c 2 22 ?_, cell_row c 3 191 ?_⟩
  all_goals first | (rw [hA, dA_is]; rfl) | (rw [hZ, dZ_is]; rfl) | (rw [hC, dA_is]; rfl)

theorem eq27 (w : World) : (Op.equalIn 10000 27 (.agg #[.int .u8 186, .int .u8 120, .int .u8 22, .int .u8 191]) (.agg #[.int .u8 186, .int .u8 120, .int .u8 22, .int .u8 191])).run Tryd.prog w = .ok true w :=
  run_equalIn_row 9998 27 4 Tryd.underlying27 [186, 120, 22, 191] [186, 120, 22, 191] rfl rfl w

theorem lessAZ {A Z : List B} (hA : Hid (sha abc = A)) (hZ : Hid (sha [] = Z)) (w : World) : Calls Tryd.prog 14 #[.agg (A.map vb).toArray, .agg (Z.map vb).toArray] w fun e w' => e = .returned (.bool true) ∧ Keeps (fun _ => False) w w' := by
  have := less14 w A Z (by rw [← hA.out]; rfl) (by rw [← hZ.out]; rfl)
  rw [← hA.out, ← hZ.out] at *
  rw [show decide (Lib.compareBytes (ub (sha abc)) (ub (sha [])) < 0) = true from less_AZ] at this
  exact this
theorem lessZA {A Z : List B} (hA : Hid (sha abc = A)) (hZ : Hid (sha [] = Z)) (w : World) : Calls Tryd.prog 14 #[.agg (Z.map vb).toArray, .agg (A.map vb).toArray] w fun e w' => e = .returned (.bool false) ∧ Keeps (fun _ => False) w w' := by
  have := less14 w Z A (by rw [← hZ.out]; rfl) (by rw [← hA.out]; rfl)
  rw [← hA.out, ← hZ.out] at *
  rw [show decide (Lib.compareBytes (ub (sha [])) (ub (sha abc)) < 0) = false from less_ZA] at this
  exact this

theorem keeps_cls {w w' : World} (h : ∃ p : Regrown, w' = grow (redrawn w p.d) p.os) : Keeps (fun _ => False) w w' := by
  obtain ⟨p, rfl⟩ := h
  have b := below_regrown w p.d p.os
  exact ⟨b.os, b.tape, b.output, b.size, fun k hk _ => b.block k hk⟩
theorem cls_keeps {w w' : World} (h : Keeps (fun _ => False) w w') : ∃ p : Regrown, w' = grow (redrawn w p.d) p.os := regrown_of_below (h.below (Nat.le_refl _) (fun _ _ h => h))
theorem range4 {w : World} {g : Nat} {a b c d : Value} (h0 : w.cell? ⟨g, 0, none⟩ = some a) (h1 : w.cell? ⟨g, 1, none⟩ = some b) (h2 : w.cell? ⟨g, 2, none⟩ = some c) (h3 : w.cell? ⟨g, 3, none⟩ = some d) : w.rangeAt g 0 [a, b, c, d] := fun j v hv => by
  match j, hv with
  | 0, hv => simp at hv; rw [← hv]; exact h0
  | 1, hv => simp at hv; rw [← hv]; exact h1
  | 2, hv => simp at hv; rw [← hv]; exact h2
  | 3, hv => simp at hv; rw [← hv]; exact h3
  | j + 4, hv => simp at hv
/-- A whole row is read in a region that only reads. -/
theorem quiet_rows {o : Oper} {a : Act} {C : World → Prop} {K : Act → Prop} (ty : TypeId) (x : Operand) (ho : o.op = .load ty x) (g : Nat) (hx : a.eval x = .pointer (some ⟨g, 0, none⟩)) (cs : List Value) (hc : ∀ w, C w → w.rangeAt g 0 cs) {u : TypeDesc} (hu : Tryd.prog.underlying ty = some u) (hd : u.isRow = true)
    (hi : (Tryd.prog.info? ty).map (·.size) = some cs.length) (hk : K (a.put o.dst (.agg cs.toArray))) : o.quiet Tryd.prog a C K := by
  refine ⟨.agg cs.toArray, fun w hw => ?_, hk⟩
  have hr := run_loadVar_mid (P := Tryd.prog) w g 0 ty cs _ (hc w hw) hu hd hi
  unfold Oper.quietAt execOp
  simp only [ho, hx, Instr.loadAt, Instr.sureAddr, Sem.run_bind, Sem.run_pure, Result.andThen_ok, hr]
  exact ⟨rfl, rfl⟩
set_option maxRecDepth 100000 in
set_option maxHeartbeats 4000000 in
theorem wakes6 (w : World) (hT : Tabs w) (A Z C : List B) (hA : Hid (sha abc = A)) (hZ : Hid (sha [] = Z)) (hC : Hid (A.take 4 = C)) (lA : A.length = 32) (lZ : Z.length = 32) (lC : C.length = 4) :
    Calls Tryd.prog 6 #[] w fun e w' => e = .returned (.bool true) ∧ Keeps (fun _ => False) w w' := by
  have hz := zero24
  have hb3 := buildSlice3
  have hs3 : (Tryd.prog.info? 24).map (·.size) = some (brow A).size := by rw [size_brow, lA]; exact size24
  have hs4 : (brow (zb 32)).size = (brow A).size := by rw [size_brow, size_brow, lA, zb_len]
  have hone2 := brow_one A
  have hs5 : (Tryd.prog.info? 24).map (·.size) = some (brow Z).size := by rw [size_brow, lZ]; exact size24
  have hs6 : (brow (zb 32)).size = (brow Z).size := by rw [size_brow, size_brow, lZ, zb_len]
  have hone3 := brow_one Z
  have hs7 : (Tryd.prog.info? 27).map (·.size) = some (brow C).size := by rw [size_brow, lC]; exact size27
  have hs8 : (#[.int .u8 0, .int .u8 0, .int .u8 0, .int .u8 0] : Array Value).size = (brow C).size := by rw [size_brow, lC]; rfl
  have hone4 := brow_one C
  go_enter Tryd.func6, Tryd.ntmps6
  go_wp2_with (first | (go_at_call 7; refine (checkA hA hC _ w5.heap.size hT6 sl6).mono ?_; rintro e w7 ⟨rfl, hk7⟩; have hk57 := hk56.none hk7) | (go_at_call 8; refine (sumZ hZ _ hT2).mono ?_; rintro e w3 ⟨rfl, hk3⟩; have hk03 := hk02.none hk3) | (go_at_call 8; refine (sumA hA _ w.heap.size hT1 sl1).mono ?_; rintro e w2 ⟨rfl, hk2⟩; have hk02 := hk01.none hk2; have hT2 := hT.keeps hk02 (fun h => h) (fun h => h)) | (refine wpList_conv22 rfl _ rfl _ _ _ rfl (brow abc) (heap_alloc_new w5 _) ?_; intro w6 g6 hk6; have hk56 := keeps_new5 hk6; have sl6 := slb_abc g6; have hT6 := hT5.keeps hk56 (fun h => h) (fun h => h)) | (refine wpList_conv22 rfl _ rfl _ _ _ rfl (brow abc) (heap_alloc_new w _) ?_; intro w1 g1 hk1; have hk01 := keeps_new5 hk1; have sl1 := slb_abc g1; have hT1 := hT.keeps hk01 (fun h => h) (fun h => h)) | (refine wpList_store_row rfl rfl 24 _ _ rfl w3.heap.size rfl (brow A) rfl 24 (brow (zb 32)) (heap_alloc2_old w3 _ _) hs3 hs4 hone2 ?_; intro w4 g4 hk4 hz4) | (refine wpList_store_row rfl rfl 24 _ _ rfl (w3.heap.size + 1) rfl (brow Z) rfl 24 (brow (zb 32)) (hk4.row (heap_alloc2_new w3 _ _) (by omega)) hs5 hs6 hone3 ?_; intro w5 g5 hk5 hz5; have g45 := hk5.row g4 (by omega); have hk05 := ((hk03.alloc _).alloc _).trans' (hk4.trans2 hk5) (fun i e => .inr (by have := hk03.size; omega)); have hT5 := hT.keeps hk05 (fun h => h) (fun h => h); have hlt1 := lt_of_row g45; have hlt2 := lt_of_row g5; clear hz4 hz5) | (refine wpList_store_row rfl rfl 27 _ _ rfl w7.heap.size rfl (brow C) rfl 27 _ (heap_alloc_new w7 _) hs7 hs8 hone4 ?_; intro w8 g8 hk8 hz8; clear hz8))
  clear hs3 hs4 hs5 hs6 hs7 hs8 hone2 hone3 hone4 hb3 hz
  have hk78 : Keeps (fun _ => False) w5 w8 := (hk57.alloc _).trans' hk8 (fun i e => .inr (by have := hk57.size; omega))
  have gA := hk78.row g45 (fun h => h)
  have gZ := hk78.row g5 (fun h => h)
  have hTb := hT5.keeps hk78 (fun h => h) (fun h => h)
  have hk08 := hk05.trans hk78
  have HS0 := fun w' hk => wkS (hA.out.symm) (hZ.out.symm) (by rw [← hC.out, ← hA.out]; rfl) gA gZ g8 w' hk
  have HT : Hid (Tabs w8) := hTb
  have HK : Hid (Keeps (fun _ => False) w w8) := hk08
  clear gA gZ g8 hk78 hk08 hTb hk8 hk57 hk56 hk7 hk05 hk5 hk4 hk03 hk02 hk01 hk3 hk2 g45 g5 g4 hT6 hT5 hT2 hT1 hT sl6 sl1 g6 g1 hk6 hk1
  generalize hgA : w3.heap.size = bA at *
  generalize hgC : w7.heap.size = bC at *
  have heqA : ∀ w, (Op.equalIn 10000 24 (.agg (brow A)) (.agg (A.map vb).toArray)).run Tryd.prog w = .ok true w := fun w => by
    have := eq24 A A lA lA w
    rw [decide_eq_true rfl] at this
    exact this
  have heqC := eq27
  have hu := Tryd.underlying24
  have hi1 : (Tryd.prog.info? 24).map (·.size) = some (A.map vb).length := by rw [List.length_map, lA]; exact size24
  have hi2 : (Tryd.prog.info? 24).map (·.size) = some (Z.map vb).length := by rw [List.length_map, lZ]; exact size24
  obtain ⟨LA, hLA⟩ : ∃ LA, A.map vb = LA := ⟨_, rfl⟩
  obtain ⟨LZ, hLZ⟩ : ∃ LZ, Z.map vb = LZ := ⟨_, rfl⟩
  have hl1 := lessAZ hA hZ
  have hl2 := lessZA hA hZ
  rw [hLA, hLZ] at hl1 hl2
  rw [hLA] at heqA hi1
  rw [hLZ] at hi2
  rw [hLA, hLZ] at HS0
  have HS : Hid (∀ w', Keeps (fun _ => False) w8 w' → Keeps (fun _ => False) w8 w' ∧ w'.rangeAt bA 0 LA ∧ w'.rangeAt (bA + 1) 0 LZ ∧ w'.cell? ⟨bA, 0, none⟩ = some (.int .u8 186) ∧ w'.cell? ⟨bA, 1, none⟩ = some (.int .u8 120) ∧ w'.cell? ⟨bA, 2, none⟩ = some (.int .u8 22) ∧ w'.cell? ⟨bA, 3, none⟩ = some (.int .u8 191) ∧ w'.cell? ⟨bA, 31, none⟩ = some (.int .u8 173) ∧ w'.cell? ⟨bA + 1, 0, none⟩ = some (.int .u8 227) ∧ w'.cell? ⟨bA + 1, 1, none⟩ = some (.int .u8 176) ∧ w'.cell? ⟨bA + 1, 31, none⟩ = some (.int .u8 85) ∧ w'.cell? ⟨bC, 0, none⟩ = some (.int .u8 186) ∧ w'.cell? ⟨bC, 1, none⟩ = some (.int .u8 120) ∧ w'.cell? ⟨bC, 2, none⟩ = some (.int .u8 22) ∧ w'.cell? ⟨bC, 3, none⟩ = some (.int .u8 191)) := fun w' hk => ⟨hk, (HS0 w' hk).all⟩
  have Hl1 : Hid (∀ w, Calls Tryd.prog 14 #[.agg LA.toArray, .agg LZ.toArray] w fun e w' => e = .returned (.bool true) ∧ Keeps (fun _ => False) w w') := hl1
  have Hl2 : Hid (∀ w, Calls Tryd.prog 14 #[.agg LZ.toArray, .agg LA.toArray] w fun e w' => e = .returned (.bool false) ∧ Keeps (fun _ => False) w w') := hl2
  have hb2 := buildSlice2
  clear HS0 hl1 hl2 hLA hLZ lA lZ lC
  have HS1 : ∀ w', (∃ p : Regrown, w' = grow (redrawn w8 p.d) p.os) → Keeps (fun _ => False) w8 w' := fun w' hp => keeps_cls hp
  have c0 : ∀ d os, (grow (redrawn w8 d) os).cell? ⟨bA, 0, none⟩ = some (.int .u8 186) := fun d os => (HS.out _ (HS1 _ ⟨⟨d, os⟩, rfl⟩)).2.2.2.1
  have c1 : ∀ d os, (grow (redrawn w8 d) os).cell? ⟨bA, 1, none⟩ = some (.int .u8 120) := fun d os => (HS.out _ (HS1 _ ⟨⟨d, os⟩, rfl⟩)).2.2.2.2.1
  have c2 : ∀ d os, (grow (redrawn w8 d) os).cell? ⟨bA, 2, none⟩ = some (.int .u8 22) := fun d os => (HS.out _ (HS1 _ ⟨⟨d, os⟩, rfl⟩)).2.2.2.2.2.1
  have c3 : ∀ d os, (grow (redrawn w8 d) os).cell? ⟨bA, 3, none⟩ = some (.int .u8 191) := fun d os => (HS.out _ (HS1 _ ⟨⟨d, os⟩, rfl⟩)).2.2.2.2.2.2.1
  have c4 : ∀ d os, (grow (redrawn w8 d) os).cell? ⟨bA, 31, none⟩ = some (.int .u8 173) := fun d os => (HS.out _ (HS1 _ ⟨⟨d, os⟩, rfl⟩)).2.2.2.2.2.2.2.1
  have c5 : ∀ d os, (grow (redrawn w8 d) os).cell? ⟨bA + 1, 0, none⟩ = some (.int .u8 227) := fun d os => (HS.out _ (HS1 _ ⟨⟨d, os⟩, rfl⟩)).2.2.2.2.2.2.2.2.1
  have c6 : ∀ d os, (grow (redrawn w8 d) os).cell? ⟨bA + 1, 1, none⟩ = some (.int .u8 176) := fun d os => (HS.out _ (HS1 _ ⟨⟨d, os⟩, rfl⟩)).2.2.2.2.2.2.2.2.2.1
  have c7 : ∀ d os, (grow (redrawn w8 d) os).cell? ⟨bA + 1, 31, none⟩ = some (.int .u8 85) := fun d os => (HS.out _ (HS1 _ ⟨⟨d, os⟩, rfl⟩)).2.2.2.2.2.2.2.2.2.2.1
  have hrA : ∀ w', (∃ p : Regrown, w' = grow (redrawn w8 p.d) p.os) → w'.rangeAt bA 0 LA := fun w' hp => (HS.out _ (HS1 _ hp)).2.1
  have hrZ : ∀ w', (∃ p : Regrown, w' = grow (redrawn w8 p.d) p.os) → w'.rangeAt (bA + 1) 0 LZ := fun w' hp => (HS.out _ (HS1 _ hp)).2.2.1
  have hrC : ∀ w', (∃ p : Regrown, w' = grow (redrawn w8 p.d) p.os) → w'.rangeAt bC 0 [.int .u8 186, .int .u8 120, .int .u8 22, .int .u8 191] := fun w' hp => by
    obtain ⟨_, _, _, _, _, _, _, _, _, _, _, k0, k1, k2, k3⟩ := HS.out _ (HS1 _ hp)
    exact range4 k0 k1 k2 k3
  have HrA : Hid (∀ w', (∃ p : Regrown, w' = grow (redrawn w8 p.d) p.os) → w'.rangeAt bA 0 LA) := hrA
  have HrZ : Hid (∀ w', (∃ p : Regrown, w' = grow (redrawn w8 p.d) p.os) → w'.rangeAt (bA + 1) 0 LZ) := hrZ
  have HrC : Hid (∀ w', (∃ p : Regrown, w' = grow (redrawn w8 p.d) p.os) → w'.rangeAt bC 0 [.int .u8 186, .int .u8 120, .int .u8 22, .int .u8 191]) := hrC
  have Hi1 : Hid ((Tryd.prog.info? 24).map (·.size) = some LA.length) := hi1
  have Hi2 : Hid ((Tryd.prog.info? 24).map (·.size) = some LZ.length) := hi2
  clear hrA hrZ hrC HS HS1 hi1 hi2 hu
  refine region_plan (S := fun w' => ∃ p : Regrown, w' = grow (redrawn w8 p.d) p.os) [([0, 1, 2, 3, 4, 5, 6, 7, 8, 9, 10, 11, 12, 13, 14, 15, 16, 17, 18, 19, 20, 21, 22, 23, 24, 25, 26, 27, 28, 29, 30, 31, 32, 33, 34, 35, 36, 37, 38, 39, 40, 41, 42, 43, 47], 44), ([], 45), ([], 46), ([48, 49, 50, 51, 52], 53), ([54, 55, 56, 57], 58)] [59, 60, 61] (by kernel_rfl) (by kernel_rfl) (by kernel_rfl) (by kernel_rfl) (cls_keeps ((Keeps.refl _ _).drew)) ?_
  simp only [wpPlan, opsAt, pick]
  repeat (first | go_big_quiet_step (fail) | (go_big_quiet_want; refine quiet_rows _ _ rfl bA rfl LA HrA.out Tryd.underlying24 rfl Hi1.out ?_; simp only [Act.put, List.setIfInBounds_toArray, List.set_cons_zero, List.set_cons_succ]; go_big_quiet_on) | (go_big_quiet_want; refine quiet_rows _ _ rfl bC rfl _ HrC.out Tryd.underlying27 rfl size27 ?_; simp only [Act.put, List.setIfInBounds_toArray, List.set_cons_zero, List.set_cons_succ]; go_big_quiet_on))
  refine wpQuiet_nil ?_
  go_wp2
  refine ⟨cls_keeps (((Keeps.refl _ _).alloc _).drew), ?_⟩
  simp only [wpPlan, opsAt, pick]
  refine wpQuiet_nil ?_
  have hcv := run_conv2 w8
  go_wp2
  clear hcv hb2
  refine ⟨cls_keeps (of_bc hA w8 _ HT.out rfl).1, ?_⟩
  simp only [wpPlan, opsAt, pick]
  refine wpQuiet_nil ?_
  go_wp2_with (go_at_call 10; refine (of_bc hA w8 _ HT.out rfl).2.mono ?_; rintro e w9 ⟨rfl, hk9⟩)
  have hk89 := (of_bc hA w8 _ HT.out rfl).1.trans hk9
  refine ⟨cls_keeps hk89, ?_⟩
  simp only [wpPlan, opsAt, pick]
  repeat (first | go_big_quiet_step (fail) | (go_big_quiet_want; refine quiet_rows _ _ rfl bA rfl LA HrA.out Tryd.underlying24 rfl Hi1.out ?_; simp only [Act.put, List.setIfInBounds_toArray, List.set_cons_zero, List.set_cons_succ]; go_big_quiet_on) | (go_big_quiet_want; refine quiet_rows _ _ rfl (bA + 1) rfl LZ HrZ.out Tryd.underlying24 rfl Hi2.out ?_; simp only [Act.put, List.setIfInBounds_toArray, List.set_cons_zero, List.set_cons_succ]; go_big_quiet_on))
  refine wpQuiet_nil ?_
  go_wp2_with (go_at_call 14; refine (Hl1.out _).mono ?_; rintro e w10 ⟨rfl, hk10⟩)
  have hk810 := hk89.trans hk10
  refine ⟨cls_keeps hk810, ?_⟩
  simp only [wpPlan, opsAt, pick]
  repeat (first | go_big_quiet_step (fail) | (go_big_quiet_want; refine quiet_rows _ _ rfl bA rfl LA HrA.out Tryd.underlying24 rfl Hi1.out ?_; simp only [Act.put, List.setIfInBounds_toArray, List.set_cons_zero, List.set_cons_succ]; go_big_quiet_on) | (go_big_quiet_want; refine quiet_rows _ _ rfl (bA + 1) rfl LZ HrZ.out Tryd.underlying24 rfl Hi2.out ?_; simp only [Act.put, List.setIfInBounds_toArray, List.set_cons_zero, List.set_cons_succ]; go_big_quiet_on))
  refine wpQuiet_nil ?_
  go_wp2_with (go_at_call 14; refine (Hl2.out _).mono ?_; rintro e w11 ⟨rfl, hk11⟩)
  have hk811 := hk810.trans hk11
  refine ⟨cls_keeps hk811, ?_⟩
  simp only [wpPlan, opsAt, pick]
  repeat (first | go_big_quiet_step (fail) | (go_big_quiet_want; refine quiet_rows _ _ rfl bA rfl LA HrA.out Tryd.underlying24 rfl Hi1.out ?_; simp only [Act.put, List.setIfInBounds_toArray, List.set_cons_zero, List.set_cons_succ]; go_big_quiet_on) | (go_big_quiet_want; refine quiet_rows _ _ rfl (bA + 1) rfl LZ HrZ.out Tryd.underlying24 rfl Hi2.out ?_; simp only [Act.put, List.setIfInBounds_toArray, List.set_cons_zero, List.set_cons_succ]; go_big_quiet_on))
  refine wpQuiet_nil ?_
  refine NoPanic.normal ?_
  go_wp2
  go_ret
  exact ⟨rfl, HK.out.trans hk811⟩

end Go.Proofs.YtnocpnpjjiodiaaDoor
