/-
  The awakening: Parse, Source, Good and Words of fixed texts.
-/
import Derived.Test.YtkcnnkakpkdhkaaDoorXo
set_option linter.all false
set_option maxRecDepth 100000
namespace Go.Proofs.YtkcnnkakpkdhkaaDoor
open Go.RowKit Go.Sort Go.Shelf
attribute [local go_sem] Oper.semAt_some

def wantP : List Pt := [(2, [[65]]), (1, [[98], [99], [100]]), (3, [[120]]), (4, []), (1, [[101]])]
def badP1 : List Pt := [(1, [[61], [97]])]
theorem z_parse1 : parseL [61, 32, 65, 10, 98, 32, 32, 99, 10, 100, 10, 45, 32, 120, 10, 10, 45, 45, 45, 10, 101] = (wantP, 0) := by decide
theorem z_parse2 : parseL [61, 32] = ([], 15) := by decide
theorem z_parse3 : parseL [97, 9, 98] = ([], 15) := by decide
theorem z_src : srcR wantP = ([61, 32, 65, 10, 10, 98, 32, 99, 32, 100, 10, 10, 45, 32, 120, 10, 10, 45, 45, 45, 10, 10, 101], 0) := by decide
theorem z_good : gdL wantP = true := by decide
theorem z_bad : gdL badP1 = false := by decide
theorem z_wds : wds [32, 97, 32, 32, 98] = [[97], [98]] := by decide
theorem z_len : ∀ p ∈ wantP, p.2.length ≤ 90000 ∧ ∀ x ∈ p.2, x.length ≤ 90000 := by decide
theorem z_lenb : ∀ p ∈ badP1, p.2.length ≤ 90000 ∧ ∀ x ∈ p.2, x.length ≤ 90000 := by decide


section
variable {ops : Array Oper} {rest : List Oper} {o : Oper} {a : Act} {w : World} {Q : Exit → Act → World → Prop}
theorem SlT.of_row {w : World} {g n : Nat} {l : List (List UInt8)} (h : w.heap[g]? = some (.cells (l.map encT).toArray 9 (0, 0))) (hn : l.length = n) : SlT w (some ⟨g, 0, none⟩) n n l := by
  refine ⟨hn, Nat.le_refl _, fun j v hv => ⟨g, 0, rfl, ?_⟩⟩
  rw [Nat.zero_add, cell_of_row w g j _ _ _ h]
  simp [hv, encT]
theorem buildT2 (x y : ByteArray) (w : World) : (Instr.buildSlice 37 2 #[(0, .string x), (1, .string y)]).run Tryd.prog w = .ok (.slice (some ⟨w.heap.size, 0, none⟩) 2 2) (w.alloc (.cells #[.string x, .string y] 9)) := by kernel_rfl
theorem buildT3 (x y z : ByteArray) (w : World) : (Instr.buildSlice 37 3 #[(0, .string x), (1, .string y), (2, .string z)]).run Tryd.prog w = .ok (.slice (some ⟨w.heap.size, 0, none⟩) 3 3) (w.alloc (.cells #[.string x, .string y, .string z] 9)) := by kernel_rfl
theorem wpList_b1T (hgd : o.guard = none) (x : Operand) (ho : o.op = .buildSlice 37 1 #[(0, x)]) (v : List UInt8) (hx : a.eval x = .string (bs v))
    (h : ∀ g w', SlT w' (some ⟨g, 0, none⟩) 1 1 [v] → w.heap.size ≤ g → Keeps (fun _ => False) w w' → wpList Tryd.prog ops Q rest (a.put o.dst (.slice (some ⟨g, 0, none⟩) 1 1)) w') : wpList Tryd.prog ops Q (o :: rest) a w := by
  refine wpList_plain hgd fun K hK => ?_
  unfold Oper.wp execOp
  simp only [ho, hx, List.map_toArray, List.map_cons, List.map_nil, buildT, Sem.run_bind, Result.andThen_ok, Sem.run_pure]
  exact hK _ _ (h w.heap.size _ (SlT.of_row (l := [v]) (heap_alloc_new w _) rfl) (Nat.le_refl _) (keeps_alloc w _))
theorem wpList_b2T (hgd : o.guard = none) (x y : Operand) (ho : o.op = .buildSlice 37 2 #[(0, x), (1, y)]) (v u : List UInt8) (hx : a.eval x = .string (bs v)) (hy : a.eval y = .string (bs u))
    (h : ∀ g w', SlT w' (some ⟨g, 0, none⟩) 2 2 [v, u] → w.heap.size ≤ g → Keeps (fun _ => False) w w' → wpList Tryd.prog ops Q rest (a.put o.dst (.slice (some ⟨g, 0, none⟩) 2 2)) w') : wpList Tryd.prog ops Q (o :: rest) a w := by
  refine wpList_plain hgd fun K hK => ?_
  unfold Oper.wp execOp
  simp only [ho, hx, hy, List.map_toArray, List.map_cons, List.map_nil, buildT2, Sem.run_bind, Result.andThen_ok, Sem.run_pure]
  exact hK _ _ (h w.heap.size _ (SlT.of_row (l := [v, u]) (heap_alloc_new w _) rfl) (Nat.le_refl _) (keeps_alloc w _))
theorem wpList_b3T (hgd : o.guard = none) (x y z : Operand) (ho : o.op = .buildSlice 37 3 #[(0, x), (1, y), (2, z)]) (v u t : List UInt8) (hx : a.eval x = .string (bs v)) (hy : a.eval y = .string (bs u)) (hz : a.eval z = .string (bs t))
    (h : ∀ g w', SlT w' (some ⟨g, 0, none⟩) 3 3 [v, u, t] → w.heap.size ≤ g → Keeps (fun _ => False) w w' → wpList Tryd.prog ops Q rest (a.put o.dst (.slice (some ⟨g, 0, none⟩) 3 3)) w') : wpList Tryd.prog ops Q (o :: rest) a w := by
  refine wpList_plain hgd fun K hK => ?_
  unfold Oper.wp execOp
  simp only [ho, hx, hy, hz, List.map_toArray, List.map_cons, List.map_nil, buildT3, Sem.run_bind, Result.andThen_ok, Sem.run_pure]
  exact hK _ _ (h w.heap.size _ (SlT.of_row (l := [v, u, t]) (heap_alloc_new w _) rfl) (Nat.le_refl _) (keeps_alloc w _))
theorem buildP5 (k1 k2 k3 k4 k5 : Int) (a1 a2 a3 a4 a5 : Option Addr) (n1 c1 n2 c2 n3 c3 n4 c4 n5 c5 : Nat) (w : World) : (Instr.buildSlice 22 5 #[(0, .agg #[.int .i64 k1, .slice a1 n1 c1]), (1, .agg #[.int .i64 k2, .slice a2 n2 c2]), (2, .agg #[.int .i64 k3, .slice a3 n3 c3]), (3, .agg #[.int .i64 k4, .slice a4 n4 c4]), (4, .agg #[.int .i64 k5, .slice a5 n5 c5])]).run Tryd.prog w
    = .ok (.slice (some ⟨w.heap.size, 0, none⟩) 5 5) (w.alloc (.cells #[.int .i64 k1, .slice a1 n1 c1, .int .i64 k2, .slice a2 n2 c2, .int .i64 k3, .slice a3 n3 c3, .int .i64 k4, .slice a4 n4 c4, .int .i64 k5, .slice a5 n5 c5] 41)) := by kernel_rfl
/-- A part whose words are in a slice. -/
structure PtV (w : World) (v : Value) (p : Pt) : Prop where
  out : ∃ a n c, v = .agg #[.int .i64 p.1, .slice a n c] ∧ SlT w a n c p.2 ∧ (a = none → c = 0)
theorem PtV.keep {w w' : World} {v : Value} {p : Pt} (h : PtV w v p) (k : Keeps (fun _ => False) w w') : PtV w' v p := by
  obtain ⟨a, n, c, e, s, z⟩ := h.out
  exact ⟨a, n, c, e, s.keep k, z⟩
theorem SlP.of_row {w : World} {g n : Nat} {l : List (Int × Value)} {P : List Pt} (h : w.heap[g]? = some (.cells (pcs l).toArray 41 (0, 0))) (hn : P.length = n) (hl : l.length = n)
    (hp : ∀ (j : Nat) (x : Int × Value) (p : Pt), l[j]? = some x → P[j]? = some p → PtV w (.agg #[.int .i64 x.1, x.2]) p) : SlP w (some ⟨g, 0, none⟩) n n P := by
  refine ⟨hn, Nat.le_refl _, fun j p hv => ?_⟩
  have hj : j < l.length := by have := (List.getElem?_eq_some_iff.1 hv).1; omega
  obtain ⟨x, hx⟩ : ∃ x, l[j]? = some x := ⟨_, List.getElem?_eq_getElem hj⟩
  obtain ⟨a, m, c, e, s, z⟩ := (hp j x p hx hv).out
  obtain ⟨c1, c2⟩ := pcs_at l j x hx
  have e1 : Value.int .i64 x.1 = .int .i64 p.1 ∧ x.2 = .slice a m c := by
    have := Value.agg.inj e
    simp at this
    exact ⟨by rw [this.1], this.2⟩
  refine ⟨g, 0, rfl, ?_, a, m, c, ?_, s, z⟩
  · rw [cell_of_row w g _ _ _ _ h, Nat.zero_add, Nat.mul_comm, ← e1.1]; simpa using c1
  · rw [cell_of_row w g _ _ _ _ h, Nat.zero_add, Nat.mul_comm, ← e1.2]; simpa using c2
theorem wpList_b5P (hgd : o.guard = none) (x1 x2 x3 x4 x5 : Operand) (ho : o.op = .buildSlice 22 5 #[(0, x1), (1, x2), (2, x3), (3, x4), (4, x5)]) (p1 p2 p3 p4 p5 : Pt)
    (h1 : PtV w (a.eval x1) p1) (h2 : PtV w (a.eval x2) p2) (h3 : PtV w (a.eval x3) p3) (h4 : PtV w (a.eval x4) p4) (h5 : PtV w (a.eval x5) p5)
    (h : ∀ g w', SlP w' (some ⟨g, 0, none⟩) 5 5 [p1, p2, p3, p4, p5] → w.heap.size ≤ g → Keeps (fun _ => False) w w' → wpList Tryd.prog ops Q rest (a.put o.dst (.slice (some ⟨g, 0, none⟩) 5 5)) w') : wpList Tryd.prog ops Q (o :: rest) a w := by
  obtain ⟨a1, n1, c1, e1, s1, z1⟩ := h1.out
  obtain ⟨a2, n2, c2, e2, s2, z2⟩ := h2.out
  obtain ⟨a3, n3, c3, e3, s3, z3⟩ := h3.out
  obtain ⟨a4, n4, c4, e4, s4, z4⟩ := h4.out
  obtain ⟨a5, n5, c5, e5, s5, z5⟩ := h5.out
  rw [e1] at h1
  rw [e2] at h2
  rw [e3] at h3
  rw [e4] at h4
  rw [e5] at h5
  refine wpList_plain hgd fun K hK => ?_
  unfold Oper.wp execOp
  simp only [ho, e1, e2, e3, e4, e5, List.map_toArray, List.map_cons, List.map_nil, buildP5, Sem.run_bind, Result.andThen_ok, Sem.run_pure]
  refine hK _ _ (h w.heap.size _ (SlP.of_row (l := [(p1.1, .slice a1 n1 c1), (p2.1, .slice a2 n2 c2), (p3.1, .slice a3 n3 c3), (p4.1, .slice a4 n4 c4), (p5.1, .slice a5 n5 c5)]) (heap_alloc_new w _) rfl rfl ?_) (Nat.le_refl _) (keeps_alloc w _))
  have k0 : Keeps (fun _ => False) w (w.alloc (.cells #[.int .i64 p1.1, .slice a1 n1 c1, .int .i64 p2.1, .slice a2 n2 c2, .int .i64 p3.1, .slice a3 n3 c3, .int .i64 p4.1, .slice a4 n4 c4, .int .i64 p5.1, .slice a5 n5 c5] 41)) := keeps_alloc w _
  intro j x p hx hp
  match j with
  | 0 => simp at hx hp; subst hx hp; exact h1.keep k0
  | 1 => simp at hx hp; subst hx hp; exact h2.keep k0
  | 2 => simp at hx hp; subst hx hp; exact h3.keep k0
  | 3 => simp at hx hp; subst hx hp; exact h4.keep k0
  | 4 => simp at hx hp; subst hx hp; exact h5.keep k0
  | j + 5 => simp at hx
theorem wpList_b1P (hgd : o.guard = none) (x1 : Operand) (ho : o.op = .buildSlice 22 1 #[(0, x1)]) (p1 : Pt) (h1 : PtV w (a.eval x1) p1)
    (h : ∀ g w', SlP w' (some ⟨g, 0, none⟩) 1 1 [p1] → w.heap.size ≤ g → Keeps (fun _ => False) w w' → wpList Tryd.prog ops Q rest (a.put o.dst (.slice (some ⟨g, 0, none⟩) 1 1)) w') : wpList Tryd.prog ops Q (o :: rest) a w := by
  obtain ⟨a1, n1, c1, e1, s1, z1⟩ := h1.out
  rw [e1] at h1
  refine wpList_plain hgd fun K hK => ?_
  unfold Oper.wp execOp
  simp only [ho, e1, List.map_toArray, List.map_cons, List.map_nil, buildP1, Sem.run_bind, Result.andThen_ok, Sem.run_pure]
  refine hK _ _ (h w.heap.size _ (SlP.of_row (l := [(p1.1, .slice a1 n1 c1)]) (heap_alloc_new w _) rfl rfl ?_) (Nat.le_refl _) (keeps_alloc w _))
  have k0 : Keeps (fun _ => False) w (w.alloc (.cells #[.int .i64 p1.1, .slice a1 n1 c1] 41)) := keeps_alloc w _
  intro j x p hx hp
  match j with
  | 0 => simp at hx hp; subst hx hp; exact h1.keep k0
  | j + 1 => simp at hx
end

/-! What is called of these. -/
theorem parse_sl (w : World) (hT : Lib.Utf8Tabs 0 1 w) (s : ByteArray) (P : List Pt) (e : Int) (h : parseL s.data.toList = (P, e)) (n : Nat) (hn : P.length = n) :
    Calls Tryd.prog 10 #[.string s] w fun z w' => ∃ a c, z = .returned (.tuple #[.slice a n c, .int .i64 e]) ∧ SlP w' a n c P ∧ (a = none → c = 0) ∧ Keeps (fun _ => False) w w' := by
  refine (pparse10 w hT s).mono ?_
  rintro z w' ⟨⟨v, rfl, l, h1, h2⟩, k⟩
  rw [h] at h2 ⊢
  obtain ⟨a, c, rfl, h3, h4, _⟩ := h1.sl h2
  rw [hn] at h3 ⊢
  exact ⟨a, c, rfl, h3, h4, k⟩
theorem words_sl (w : World) (s : ByteArray) (hs : s.size ≤ 90000) (W : List (List UInt8)) (h : wds s.data.toList = W) (n : Nat) (hn : W.length = n) :
    Calls Tryd.prog 19 #[.string s] w fun z w' => ∃ a c, z = .returned (.slice a n c) ∧ SlT w' a n c W ∧ (a = none → c = 0) ∧ Keeps (fun _ => False) w w' := by
  refine (pwords19 w s hs).mono ?_
  rintro z w' ⟨⟨v, rfl, h1⟩, k⟩
  rw [h] at h1
  obtain ⟨a, c, rfl, h3, h4, _⟩ := h1.slice2
  rw [hn] at h3 ⊢
  exact ⟨a, c, rfl, h3, h4, k⟩

end Go.Proofs.YtkcnnkakpkdhkaaDoor
