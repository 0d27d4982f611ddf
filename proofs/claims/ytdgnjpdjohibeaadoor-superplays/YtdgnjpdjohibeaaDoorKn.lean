/-
  A field of a superblock that is stored; arrays that are built of one byte; new disks.
-/
import Derived.Test.YtdgnjpdjohibeaaDoorKm
set_option linter.all false
set_option maxRecDepth 100000
namespace Go.Proofs.YtdgnjpdjohibeaaDoor
open Go.RowKit Go.Sort Go.Shelf

theorem run_storeF (w : World) (g o : Nat) (t ty : TypeId) (cur new : Array Value) (v : Value) (hv : v.cells = new) (hg : w.heap[g]? = some (.cells cur t (0, 0))) (hi : (Tryd.prog.info? ty).map (·.size) = some new.size) (hfit : o + new.size ≤ cur.size) (h1 : AllOne new) :
    (storeVar ty ⟨g, o, none⟩ v).run Tryd.prog w = .ok () (w.setRow g (over cur o new)) := by
  have h := run_storeVar_over w g o t ty cur new hg hi hfit h1
  unfold storeVar at h ⊢
  rw [hv]
  exact h
/-- A value goes into a row, from o on. -/
theorem wpList_storeF {ops : Array Oper} {rest : List Oper} {o : Oper} {a : Act} {w : World} {Q : Exit → Act → World → Prop} (hgd : o.guard = none) (ty : TypeId) (x y : Operand) (ho : o.op = .store ty x y) (g of : Nat) (hx : a.eval x = .pointer (some ⟨g, of, none⟩)) (v : Value) (hy : a.eval y = v) (new : Array Value) (hv : v.cells = new)
    (hi : (Tryd.prog.info? ty).map (·.size) = some new.size) (h1 : AllOne new) (t : TypeId) (cur : Array Value) (hb : RoAt w g t cur) (hfit : of + new.size ≤ cur.size) (h : ∀ w', RoAt w' g t (over cur of new) → Keeps (· = g) w w' → wpList Tryd.prog ops Q rest (a.put o.dst undef) w') : wpList Tryd.prog ops Q (o :: rest) a w := by
  refine wpList_plain hgd fun K hK => ?_
  unfold Oper.wp execOp
  simp only [ho, hx, hy, Instr.storeAt, Instr.sureAddr, Sem.run_bind, Sem.run_pure, Result.andThen_ok, run_storeF w g of t ty cur new v hv hb.row hi hfit h1]
  exact hK _ _ (h _ ⟨setRow_heap w g _ _ _ _ hb.row⟩ ((Keeps.refl (· = g) w).setRow (.inl rfl) _))
theorem over_lists (A C D N : List Value) (h : N.length = C.length) : over (A ++ (C ++ D)).toArray A.length N.toArray = (A ++ (N ++ D)).toArray := by
  apply Array.ext_getElem?
  intro j
  rw [getElem?_over _ _ _ _ (by simp; omega)]
  simp only [List.getElem?_toArray, List.size_toArray]
  split
  · rename_i hj
    rw [List.getElem?_append_right (by omega), List.getElem?_append_left (by omega)]
  · rename_i hj
    by_cases h1 : j < A.length
    · rw [List.getElem?_append_left h1, List.getElem?_append_left h1]
    · rw [List.getElem?_append_right (by omega), List.getElem?_append_right (by omega), List.getElem?_append_right (by omega), List.getElem?_append_right (by omega), h]
theorem over_gen (s : Su) (n : Nat) : over s.cells 0 #[.int .u32 (n : Int)] = ({ s with gen := n } : Su).cells :=
  over_lists [] [.int .u32 (s.gen : Int)] _ [.int .u32 (n : Int)] rfl
theorem over_root (s : Su) (n : Int) : over s.cells 2 #[.int .i64 n] = ({ s with root := n } : Su).cells :=
  over_lists [.int .u32 (s.gen : Int), .int .i64 s.blocks] [.int .i64 s.root] _ [.int .i64 n] rfl
theorem over_log (s : Su) (L : List B) (hs : s.Ok) (hL : L.length = 32) : over s.cells 3 (brow L) = ({ s with log := L } : Su).cells := by
  have h := over_lists [.int .u32 (s.gen : Int), .int .i64 s.blocks, .int .i64 s.root] (s.log.map vb) (s.used.map vb) (L.map vb) (by simp [hs.log, hL])
  rw [s.cells_log, Su.cells_log]
  exact h
theorem over_used (s : Su) (L : List B) (hs : s.Ok) (hL : L.length = 16) : over s.cells 35 (brow L) = ({ s with used := L } : Su).cells := by
  have h := over_lists ([.int .u32 (s.gen : Int), .int .i64 s.blocks, .int .i64 s.root] ++ s.log.map vb) (s.used.map vb) [] (L.map vb) (by simp [hs.used, hL])
  rw [s.cells_used, Su.cells_used]
  have hl : ([Value.int .u32 (s.gen : Int), .int .i64 s.blocks, .int .i64 s.root] ++ s.log.map vb).length = 35 := by simp [hs.log]
  rw [hl] at h
  exact h
theorem over_ucell (s : Su) (hs : s.Ok) (k : Nat) (hk : k < 16) (b : B) : over s.cells (35 + k) #[.int .u8 (nb b)] = ({ s with used := s.used.set k b } : Su).cells := by
  have hl : ([Value.int .u32 (s.gen : Int), .int .i64 s.blocks, .int .i64 s.root] ++ s.log.map vb ++ (s.used.take k).map vb).length = 35 + k := by simp [hs.log, hs.used]; omega
  have hu : s.used = s.used.take k ++ ([s.used[k]'(by have := hs.used; omega)] ++ s.used.drop (k + 1)) := by
    rw [List.singleton_append, ← List.drop_eq_getElem_cons, List.take_append_drop]
  have h := over_lists ([Value.int .u32 (s.gen : Int), .int .i64 s.blocks, .int .i64 s.root] ++ s.log.map vb ++ (s.used.take k).map vb) ([s.used[k]'(by have := hs.used; omega)].map vb) ((s.used.drop (k + 1)).map vb) [.int .u8 (nb b)] rfl
  rw [hl] at h
  have e1 : s.cells = (([Value.int .u32 (s.gen : Int), .int .i64 s.blocks, .int .i64 s.root] ++ s.log.map vb ++ (s.used.take k).map vb) ++ ([s.used[k]'(by have := hs.used; omega)].map vb ++ (s.used.drop (k + 1)).map vb)).toArray := by
    have hm : s.used.map vb = (s.used.take k).map vb ++ ([s.used[k]'(by have := hs.used; omega)].map vb ++ (s.used.drop (k + 1)).map vb) := by rw [← List.map_append, ← List.map_append, ← hu]
    rw [s.cells_log, hm]
    simp only [List.append_assoc]
  have e2 : ({ s with used := s.used.set k b } : Su).cells = (([Value.int .u32 (s.gen : Int), .int .i64 s.blocks, .int .i64 s.root] ++ s.log.map vb ++ (s.used.take k).map vb) ++ ([Value.int .u8 (nb b)] ++ (s.used.drop (k + 1)).map vb)).toArray := by
    rw [Su.cells_log]
    show ([Value.int .u32 (s.gen : Int), .int .i64 s.blocks, .int .i64 s.root] ++ (s.log.map vb ++ (s.used.set k b).map vb)).toArray = _
    have hs' : s.used.set k b = s.used.take k ++ ([b] ++ s.used.drop (k + 1)) := by
      rw [List.set_eq_take_append_cons_drop, if_pos (by have := hs.used; omega)]; rfl
    rw [hs', List.map_append, List.map_append]
    simp only [List.append_assoc]
    rfl
  rw [e1, e2]
  exact h

theorem build24c (x : Int) (w : World) : (Instr.build 24 #[(0, .int .u8 x)]).run Tryd.prog w = .ok (.agg (.int .u8 x :: (zb 31).map vb).toArray) w := by kernel_rfl
theorem build26c (x : Int) (w : World) : (Instr.build 26 #[(0, .int .u8 x)]).run Tryd.prog w = .ok (.agg (.int .u8 x :: (zb 15).map vb).toArray) w := by kernel_rfl
theorem wpList_build24c {ops : Array Oper} {rest : List Oper} {o : Oper} {a : Act} {w : World} {Q : Exit → Act → World → Prop} (hgd : o.guard = none) (x : Operand) (ho : o.op = .build 24 #[(0, x)]) (b : B) (hx : a.eval x = .int .u8 (nb b)) (L : List B) (hL : L = b :: zb 31)
    (h : wpList Tryd.prog ops Q rest (a.put o.dst (.agg (brow L))) w) : wpList Tryd.prog ops Q (o :: rest) a w := by
  refine wpList_plain hgd fun K hK => ?_
  subst hL
  unfold Oper.wp execOp
  simp only [ho, hx, List.map_toArray, List.map_cons, List.map_nil, build24c, Sem.run_bind, Result.andThen_ok, Sem.run_pure]
  exact hK _ _ h
theorem wpList_build26c {ops : Array Oper} {rest : List Oper} {o : Oper} {a : Act} {w : World} {Q : Exit → Act → World → Prop} (hgd : o.guard = none) (x : Operand) (ho : o.op = .build 26 #[(0, x)]) (b : B) (hx : a.eval x = .int .u8 (nb b)) (L : List B) (hL : L = b :: zb 15)
    (h : wpList Tryd.prog ops Q rest (a.put o.dst (.agg (brow L))) w) : wpList Tryd.prog ops Q (o :: rest) a w := by
  refine wpList_plain hgd fun K hK => ?_
  subst hL
  unfold Oper.wp execOp
  simp only [ho, hx, List.map_toArray, List.map_cons, List.map_nil, build26c, Sem.run_bind, Result.andThen_ok, Sem.run_pure]
  exact hK _ _ h

theorem fill_brow (b : B) : fill (nb b) = brow (List.replicate 128 b) := by
  apply Array.ext'
  simp [fill, brow, vb]
theorem dsb_new {n i : Nat} (h : i < n) : dsb (DS.new n) i = zb 128 := by
  refine dsb_of ?_
  show blk (zeros n) i = _
  rw [blk_zeros n i h]
  exact fill_brow 0
end Go.Proofs.YtdgnjpdjohibeaaDoor
