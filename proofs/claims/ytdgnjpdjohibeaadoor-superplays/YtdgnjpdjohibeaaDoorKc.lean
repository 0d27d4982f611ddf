/-
  A superblock's text in plain mathematics; laws for what Encode and read want.
-/
import Derived.Test.YtdgnjpdjohibeaaDoorKb
import Derived.Test.YtdgnjpdjohibeaaDoorGF
import Derived.Test.YtdgnjpdjohibeaaDoorGJ
set_option linter.all false
set_option maxRecDepth 100000
namespace Go.Proofs.YtdgnjpdjohibeaaDoor
open Go.RowKit Go.Sort Go.Shelf

/-- What stands ahead of the check. -/
def stxt (s : Su) : List B := [kb 83, kb ((s.gen : Int) / 16777216), kb ((s.gen : Int) / 65536), kb ((s.gen : Int) / 256), kb (s.gen : Int)] ++ [kb s.blocks, kb s.root] ++ s.log ++ s.used
theorem stxt_len {s : Su} (h : s.Ok) : (stxt s).length = 55 := by simp [stxt, h.log, h.used]
/-- The block of a superblock. -/
def sblk (s : Su) : List B := blk5 (stxt s)
theorem sblk_len {s : Su} (h : s.Ok) : (sblk s).length = 128 := blk5_len (by rw [stxt_len h]; omega)
/-- What Encode tells. -/
def encR (s : Su) : List B × Int := if s.good then (sblk s, 0) else (zb 128, 11)
theorem encR_len {s : Su} (h : s.Ok) : (encR s).1.length = 128 := by unfold encR; split; exact sblk_len h; exact zb_len _
/-- The numbers in a block. -/
def srd (L : List B) : Su := ⟨(L.getD 1 0).toNat * 16777216 + (L.getD 2 0).toNat * 65536 + (L.getD 3 0).toNat * 256 + (L.getD 4 0).toNat, nb (L.getD 5 0), nb (L.getD 6 0), (L.drop 7).take 32, (L.drop 39).take 16⟩
theorem srd_ok {L : List B} (h : L.length = 128) : (srd L).Ok := by
  refine ⟨?_, ?_, ?_, ?_, ?_⟩
  · have h1 := (L.getD 1 0).isLt; have h2 := (L.getD 2 0).isLt; have h3 := (L.getD 3 0).isLt; have h4 := (L.getD 4 0).isLt
    show (L.getD 1 0).toNat * 16777216 + (L.getD 2 0).toNat * 65536 + (L.getD 3 0).toNat * 256 + (L.getD 4 0).toNat < 4294967296
    omega
  · have := nb_lt (L.getD 5 0); show _ ≤ nb (L.getD 5 0) ∧ nb (L.getD 5 0) ≤ _; omega
  · have := nb_lt (L.getD 6 0); show _ ≤ nb (L.getD 6 0) ∧ nb (L.getD 6 0) ≤ _; omega
  · simp [srd, h]
  · simp [srd, h]
/-- What Decode tells. -/
def decR (L : List B) : Su × Int := if (srd L).good ∧ sblk (srd L) = L then (srd L, 0) else (su0, 11)
theorem toNat_kb (k : Int) : ((kb k).toNat : Int) = k % 256 := nb_kb k
theorem sblk_form (s : Su) : sblk s = kb 83 :: kb ((s.gen : Int) / 16777216) :: kb ((s.gen : Int) / 65536) :: kb ((s.gen : Int) / 256) :: kb (s.gen : Int) :: kb s.blocks :: kb s.root :: (s.log ++ (s.used ++ ((sha (stxt s)).take 4 ++ zb (124 - (stxt s).length)))) := by
  unfold sblk blk5 stxt
  simp [List.append_assoc]
/-- The superblock of its block. -/
theorem srd_sblk {s : Su} (h : s.Ok) (hb : 0 ≤ s.blocks ∧ s.blocks < 256) (hr : 0 ≤ s.root ∧ s.root < 256) : srd (sblk s) = s := by
  have hg := h.gen
  have hl := h.log
  have hu := h.used
  have e := sblk_form s
  generalize (sha (stxt s)).take 4 ++ zb (124 - (stxt s).length) = T at e
  rw [e]
  obtain ⟨gen, blocks, root, log, used⟩ := s
  dsimp only at *
  unfold srd
  congr 1
  · have h1 := toNat_kb ((gen : Int) / 16777216); have h2 := toNat_kb ((gen : Int) / 65536); have h3 := toNat_kb ((gen : Int) / 256); have h4 := toNat_kb (gen : Int)
    simp only [List.getD_cons_succ, List.getD_cons_zero]
    omega
  · simp only [List.getD_cons_succ, List.getD_cons_zero, nb_kb]; omega
  · simp only [List.getD_cons_succ, List.getD_cons_zero, nb_kb]; omega
  · simp only [List.drop_succ_cons, List.drop_zero]
    rw [List.take_append_of_le_length (by omega), List.take_of_length_le (by omega)]
  · rw [show (39 : Nat) = 7 + 32 from rfl]
    simp only [List.drop_succ_cons]
    rw [List.drop_append_of_le_length (by omega), List.drop_of_length_le (by omega), List.nil_append, List.take_append_of_le_length (by omega), List.take_of_length_le (by omega)]
theorem good_bounds {s : Su} (h : s.good = true) : 1 ≤ s.gen ∧ s.gen ≤ 1073741823 ∧ 16 ≤ s.blocks ∧ s.blocks ≤ 128 ∧ (s.root = 0 ∨ 2 ≤ s.root ∧ s.root < s.blocks) := by
  unfold Su.good at h
  rw [Bool.and_eq_true, decide_eq_true_eq] at h
  exact h.1
theorem srd_good {s : Su} (h : s.Ok) (hg : s.good = true) : srd (sblk s) = s := by
  obtain ⟨_, _, h3, h4, h5⟩ := good_bounds hg
  exact srd_sblk h (by omega) (by omega)
theorem decR_sblk {s : Su} (h : s.Ok) (hg : s.good = true) : decR (sblk s) = (s, 0) := by
  unfold decR
  rw [srd_good h hg, if_pos ⟨hg, rfl⟩]
theorem decR_ok {L : List B} (hl : L.length = 128) : (decR L).1.Ok := by unfold decR; split; exact srd_ok hl; exact su0_ok
theorem decR_cases (L : List B) : (decR L = (srd L, 0) ∧ (srd L).good = true ∧ sblk (srd L) = L) ∨ (decR L = (su0, 11) ∧ ¬ ((srd L).good = true ∧ sblk (srd L) = L)) := by
  unfold decR
  split
  · rename_i h; exact .inl ⟨rfl, h.1, h.2⟩
  · rename_i h; exact .inr ⟨rfl, h⟩

/-- A block and a number are told. -/
def toldB (p : List B × Int) : Value := .tuple #[.agg (brow p.1), .int .i64 p.2]
/-- A superblock and a number are told. -/
def toldS (p : Su × Int) : Value := .tuple #[.agg p.1.cells, .int .i64 p.2]

/-- Four bytes in a block. -/
structure FoAt (w : World) (g : Nat) (C : List B) : Prop where
  row : w.heap[g]? = some (.cells (brow C) 76 (0, 0))
  len : C.length = 4
theorem FoAt.lt {w : World} {g : Nat} {C : List B} (h : FoAt w g C) : g < w.heap.size := lt_of_row h.row
theorem FoAt.keeps {S : Nat → Prop} {a w : World} {g : Nat} {C : List B} (h : FoAt a g C) (hk : Keeps S a w) (hs : ¬ S g) : FoAt w g C := ⟨hk.row h.row hs, h.len⟩
theorem FoAt.keep {a w : World} {g : Nat} {C : List B} (h : FoAt a g C) (hk : Keeps (fun _ => False) a w) : FoAt w g C := h.keeps hk (fun h => h)
theorem FoAt.slb {w : World} {g : Nat} {C : List B} (h : FoAt w g C) : SlB w (some ⟨g, 0, none⟩) 4 4 C := by
  have := slb_box h.row
  rwa [h.len] at this
theorem zero76 (w : World) : (zeroValue 76).run Tryd.prog w = .ok (.agg (brow (zb 4))) w := by kernel_rfl
theorem size76 : (Tryd.prog.info? 76).map (·.size) = some 4 := by kernel_rfl
theorem wpList_alloc4b {ops : Array Oper} {rest : List Oper} {o : Oper} {a : Act} {w : World} {Q : Exit → Act → World → Prop} (hgd : o.guard = none) (ho : o.op = .alloc 76)
    (h : ∀ g w', FoAt w' g (zb 4) → w.heap.size ≤ g → Keeps (fun _ => False) w w' → wpList Tryd.prog ops Q rest (a.put o.dst (.pointer (some ⟨g, 0, none⟩))) w') : wpList Tryd.prog ops Q (o :: rest) a w := by
  refine wpList_plain hgd fun K hK => ?_
  unfold Oper.wp execOp
  simp only [ho, Instr.alloc, zero76, newVar, newRow, Sem.run_bind, Result.andThen_ok, Sem.run_pure]
  exact hK _ _ (h w.heap.size _ ⟨heap_alloc_new w _, zb_len _⟩ (Nat.le_refl _) (keeps_alloc w _))
theorem wpList_store4b {ops : Array Oper} {rest : List Oper} {o : Oper} {a : Act} {w : World} {Q : Exit → Act → World → Prop} (hgd : o.guard = none) (x y : Operand) (ho : o.op = .store 76 x y) (g : Nat) (hx : a.eval x = .pointer (some ⟨g, 0, none⟩)) (L : List B) (hy : a.eval y = .agg (brow L)) (hL : L.length = 4)
    (L' : List B) (hb : FoAt w g L') (h : ∀ w', FoAt w' g L → Keeps (· = g) w w' → wpList Tryd.prog ops Q rest (a.put o.dst undef) w') : wpList Tryd.prog ops Q (o :: rest) a w := by
  refine wpList_plain hgd fun K hK => ?_
  unfold Oper.wp execOp
  simp only [ho, hx, hy, Instr.storeAt, Instr.sureAddr, Sem.run_bind, Sem.run_pure, Result.andThen_ok, run_storeVar_row w g 76 76 (brow L') (brow L) hb.row (by rw [size_brow, hL]; exact size76) (by rw [size_brow, size_brow, hL, hb.len]) (brow_one L)]
  exact hK _ _ (h _ ⟨setRow_heap w g _ _ _ _ hb.row, hL⟩ ((Keeps.refl (· = g) w).setRow (.inl rfl) _))

theorem splice_check {t C : List B} {n : Nat} (ht : t.length = n) (hn : n ≤ 124) (hC : C.length = 4) : splice ((first128 t).map vb) n (C.map vb) = (t ++ (C ++ zb (124 - n))).map vb := by
  have hf : first128 t = t ++ zb (128 - n) := by unfold first128; rw [List.take_of_length_le (by omega), ht]
  unfold splice
  rw [hf, ← List.map_take, ← List.map_drop, List.take_append_of_le_length (by omega), List.take_of_length_le (by omega), List.length_map, hC, List.drop_append, List.drop_of_length_le (by omega), List.nil_append, ht, show n + 4 - n = 4 by omega]
  have : (zb (128 - n)).drop 4 = zb (124 - n) := by simp only [zb, List.drop_replicate]; congr 1; omega
  rw [this]
  simp

theorem wpList_make_b {ops : Array Oper} {rest : List Oper} {o : Oper} {a : Act} {w : World} {Q : Exit → Act → World → Prop} (hgd : o.guard = none) (l c : Operand) (ho : o.op = .makeSlice 51 l c) (hl : a.eval l = .int .i64 0) (m : Nat) (C : Int) (hc : a.eval c = .int .i64 C) (hC : C = (m : Int)) (hm : m ≤ 1000000)
    (h : ∀ v' w', OwnB w' w.heap.size v' [] → Keeps (fun _ => False) w w' → wpList Tryd.prog ops Q rest (a.put o.dst v') w') : wpList Tryd.prog ops Q (o :: rest) a w := by
  obtain ⟨i, hi, hz, hsz, hby⟩ := info5
  refine wpList_make_own w hgd l c 51 ho w.heap.size 5 i (.int .u8 0) 1 Tryd.underlying51 hi hz hsz .i64 .i64 C m hl hc hC (by rw [hby]; omega) (by unfold maxLen; omega) (Nat.le_refl _) ?_
  intro w' ho' hg
  exact h _ w' ⟨ho'⟩ ((Keeps.refl _ _).grown hg (fun k e => by cases e))
theorem vb_mod (k : Int) : Value.int .u8 (k % 256) = vb (kb k) := by unfold vb; rw [nb_kb]
theorem buildSlice2 (x y : Int) (w : World) : (Instr.buildSlice 51 2 #[(0, .int .u8 x), (1, .int .u8 y)]).run Tryd.prog w = .ok (.slice (some ⟨w.heap.size, 0, none⟩) 2 2) (w.alloc (.cells #[.int .u8 x, .int .u8 y] 5)) := by kernel_rfl
theorem buildSlice5 (x y z u v : Int) (w : World) : (Instr.buildSlice 51 5 #[(0, .int .u8 x), (1, .int .u8 y), (2, .int .u8 z), (3, .int .u8 u), (4, .int .u8 v)]).run Tryd.prog w = .ok (.slice (some ⟨w.heap.size, 0, none⟩) 5 5) (w.alloc (.cells #[.int .u8 x, .int .u8 y, .int .u8 z, .int .u8 u, .int .u8 v] 5)) := by kernel_rfl
theorem wpList_build2 {ops : Array Oper} {rest : List Oper} {o : Oper} {a : Act} {w : World} {Q : Exit → Act → World → Prop} (hgd : o.guard = none) (x y : Operand) (ho : o.op = .buildSlice 51 2 #[(0, x), (1, y)]) (p q x' y' : Int) (hx : a.eval x = .int .u8 x') (hy : a.eval y = .int .u8 y') (hp : x' = p % 256) (hq : y' = q % 256)
    (h : ∀ g w', SlB w' (some ⟨g, 0, none⟩) 2 2 [kb p, kb q] → w.heap.size ≤ g → g < w'.heap.size → Keeps (fun _ => False) w w' → wpList Tryd.prog ops Q rest (a.put o.dst (.slice (some ⟨g, 0, none⟩) 2 2)) w') : wpList Tryd.prog ops Q (o :: rest) a w := by
  subst hp hq
  refine wpList_plain hgd fun K hK => ?_
  unfold Oper.wp execOp
  simp only [ho, hx, hy, List.map_toArray, List.map_cons, List.map_nil, buildSlice2, Sem.run_bind, Result.andThen_ok, Sem.run_pure]
  refine hK _ _ (h w.heap.size _ ?_ (Nat.le_refl _) (by simp) (keeps_alloc w _))
  have := slb_box (w := w.alloc (.cells #[.int .u8 (p % 256), .int .u8 (q % 256)] 5)) (g := w.heap.size) (x := [kb p, kb q]) (ty := 5) (fr := (0, 0)) (by rw [vb_mod, vb_mod]; exact heap_alloc_new w _)
  exact this
theorem wpList_build5 {ops : Array Oper} {rest : List Oper} {o : Oper} {a : Act} {w : World} {Q : Exit → Act → World → Prop} (hgd : o.guard = none) (x y z u v : Operand) (ho : o.op = .buildSlice 51 5 #[(0, x), (1, y), (2, z), (3, u), (4, v)]) (p q r s t x' y' z' u' v' : Int) (hx : a.eval x = .int .u8 x') (hy : a.eval y = .int .u8 y') (hz : a.eval z = .int .u8 z') (hu : a.eval u = .int .u8 u') (hv : a.eval v = .int .u8 v') (hp : x' = p % 256) (hq : y' = q % 256) (hr : z' = r % 256) (hs : u' = s % 256) (ht : v' = t % 256)
    (h : ∀ g w', SlB w' (some ⟨g, 0, none⟩) 5 5 [kb p, kb q, kb r, kb s, kb t] → w.heap.size ≤ g → g < w'.heap.size → Keeps (fun _ => False) w w' → wpList Tryd.prog ops Q rest (a.put o.dst (.slice (some ⟨g, 0, none⟩) 5 5)) w') : wpList Tryd.prog ops Q (o :: rest) a w := by
  subst hp hq hr hs ht
  refine wpList_plain hgd fun K hK => ?_
  unfold Oper.wp execOp
  simp only [ho, hx, hy, hz, hu, hv, List.map_toArray, List.map_cons, List.map_nil, buildSlice5, Sem.run_bind, Result.andThen_ok, Sem.run_pure]
  refine hK _ _ (h w.heap.size _ ?_ (Nat.le_refl _) (by simp) (keeps_alloc w _))
  have := slb_box (w := w.alloc (.cells #[.int .u8 (p % 256), .int .u8 (q % 256), .int .u8 (r % 256), .int .u8 (s % 256), .int .u8 (t % 256)] 5)) (g := w.heap.size) (x := [kb p, kb q, kb r, kb s, kb t]) (ty := 5) (fr := (0, 0)) (by rw [vb_mod, vb_mod, vb_mod, vb_mod, vb_mod]; exact heap_alloc_new w _)
  exact this
theorem SuAt.sllog {w : World} {g : Nat} {s : Su} (h : SuAt w g s) (ho : s.Ok) (c : Nat) (hc : 32 ≤ c) : SlB w (some ⟨g, 3, none⟩) 32 c s.log :=
  ⟨ho.log, hc, fun j x hx => ⟨g, 3, rfl, h.log ho j _ (by rw [Array.getElem?_toList, brow_get, hx]; rfl)⟩⟩
theorem SuAt.slused {w : World} {g : Nat} {s : Su} (h : SuAt w g s) (ho : s.Ok) (c : Nat) (hc : 16 ≤ c) : SlB w (some ⟨g, 35, none⟩) 16 c s.used :=
  ⟨ho.used, hc, fun j x hx => ⟨g, 35, rfl, h.used ho j _ (by rw [Array.getElem?_toList, brow_get, hx]; rfl)⟩⟩
end Go.Proofs.YtdgnjpdjohibeaaDoor
