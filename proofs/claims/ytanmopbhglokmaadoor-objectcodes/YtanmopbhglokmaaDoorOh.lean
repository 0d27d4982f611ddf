
/-
  Rows that are read, calls in the midst of a region.
-/
import Derived.Test.YtanmopbhglokmaaDoorAp
set_option linter.all false
namespace Go.Proofs.YtanmopbhglokmaaDoor
open Go.RowKit Go.Sort

/-- A whole row is read in a region that only reads. -/
theorem quiet_row_at {o : Oper} {a : Act} {C : World → Prop} {K : Act → Prop} (ty : TypeId) (x : Operand) (ho : o.op = .load ty x) (g off : Nat) (hx : a.eval x = .pointer (some ⟨g, off, none⟩)) (cs : Array Value) (hc : ∀ w, C w → w.rangeAt g off cs.toList) {u : TypeDesc} (hu : Tryd.prog.underlying ty = some u) (hd : u.isRow = true)
    (hi : (Tryd.prog.info? ty).map (·.size) = some cs.size) (hk : K (a.put o.dst (.agg cs))) : o.quiet Tryd.prog a C K := by
  refine ⟨.agg cs, fun w hw => ?_, hk⟩
  have hr := run_loadVar_mid (P := Tryd.prog) w g off ty cs.toList _ (hc w hw) hu hd (by rw [Array.length_toList]; exact hi)
  rw [Array.toArray_toList] at hr
  unfold Oper.quietAt execOp
  simp only [ho, hx, Instr.loadAt, Instr.sureAddr, Sem.run_bind, Sem.run_pure, Result.andThen_ok, hr]
  exact ⟨rfl, rfl⟩
/-- .. in a region that stands in its order, guarded or not. -/
theorem wpList_load_want {ops : Array Oper} {rest : List Oper} {o : Oper} {a : Act} {w : World} {Q : Exit → Act → World → Prop} (hw : Region.wanted o (yielded ops a.tmps) = true) (ty : TypeId) (x : Operand) (ho : o.op = .load ty x) (g off : Nat) (hx : a.eval x = .pointer (some ⟨g, off, none⟩)) (cs : Array Value) (hc : w.rangeAt g off cs.toList) {u : TypeDesc} (hu : Tryd.prog.underlying ty = some u) (hd : u.isRow = true)
    (hi : (Tryd.prog.info? ty).map (·.size) = some cs.size) (h : wpList Tryd.prog ops Q rest (a.put o.dst (.agg cs)) w) : wpList Tryd.prog ops Q (o :: rest) a w := by
  have hr := run_loadVar_mid (P := Tryd.prog) w g off ty cs.toList _ hc hu hd (by rw [Array.length_toList]; exact hi)
  rw [Array.toArray_toList] at hr
  unfold wpList
  rw [if_pos hw]
  left
  unfold Oper.wp execOp
  simp only [ho, hx, Instr.loadAt, Instr.sureAddr, Sem.run_bind, Sem.run_pure, Result.andThen_ok, hr]
  exact h

theorem range_mid {w : World} {g : Nat} {l : List B} {t : TypeId} {fr : Nat × Nat} (h : w.heap[g]? = some (.cells (brow l) t fr)) (o n : Nat) : w.rangeAt g o (brow ((l.drop o).take n)).toList := fun j v hv => by
  rw [cell_of_row w _ _ _ _ _ h, brow_get]
  simp [brow, List.getElem?_take, List.getElem?_drop] at hv
  obtain ⟨_, b, hb, rfl⟩ := hv
  rw [hb]; rfl

theorem bytes_cls {w0 w1 : World} {a1 a2 : Option Addr} {n1 c1 n2 c2 : Nat} {x : List B} (h1 : SlB w0 a1 n1 c1 x) (h2 : SlB w0 a2 n2 c2 x) (hw : ∃ p : Regrown, w1 = grow (redrawn w0 p.d) p.os) :
    Calls Tryd.prog 14 #[.slice a1 n1 c1, .slice a2 n2 c2] w1 fun e w'' => e = .returned (.bool true) ∧ ∃ p : Regrown, w'' = grow (redrawn w0 p.d) p.os := by
  have hk1 := keeps_cls hw
  refine (bytes12 w1 a1 a2 n1 c1 n2 c2 x x (h1.keeps hk1 (fun _ _ _ _ h => h)) (h2.keeps hk1 (fun _ _ _ _ h => h))).mono fun e w'' ⟨he, hw2⟩ => ⟨?_, hw2 ▸ hw⟩
  rw [he, decide_eq_true rfl]
theorem sum_at {L X : List B} (hX : Hid (sha L = X)) (w : World) (hT : Tabs w) (a : Option Addr) (n c : Nat) (hl : SlB w a n c L) (hn : n < 900000) :
    Calls Tryd.prog 24 #[.slice a n c] w fun e w' => e = .returned (.agg (brow X)) ∧ Keeps (fun _ => False) w w' := by
  rw [← hX.out]; exact sum8 w a n c L hT hl hn
theorem check_at {L X C : List B} (hX : Hid (sha L = X)) (hC : Hid (X.take 4 = C)) (w : World) (hT : Tabs w) (a : Option Addr) (n c : Nat) (hl : SlB w a n c L) (hn : n < 900000) :
    Calls Tryd.prog 17 #[.slice a n c] w fun e w' => e = .returned (.agg (brow C)) ∧ Keeps (fun _ => False) w w' := by
  rw [← hC.out, ← hX.out]; exact check7 w a n c L hT hl hn
theorem kb_add (k : Int) : kb (k + 256) = kb k := nb_inj (by rw [nb_kb, nb_kb]; omega)
theorem row_kb (k : Int) (hk : 0 ≤ k ∧ k < 256) : #[Value.int .u8 k] = brow [kb k] := by
  have : nb (kb k) = k := by rw [nb_kb]; omega
  simp [brow, vb, this]
theorem own_kb (w : World) (k : Int) (hk : 0 ≤ k ∧ k < 256) : OwnB (w.alloc (.cells #[.int .u8 k] 5)) w.heap.size (.slice (some ⟨w.heap.size, 0, none⟩) 1 1) [kb k] :=
  OwnB.row (t := 5) (l := [kb k]) (by rw [← row_kb k hk]; exact heap_alloc_new w _) (Nat.le_refl _) (by simp)

end Go.Proofs.YtanmopbhglokmaaDoor
