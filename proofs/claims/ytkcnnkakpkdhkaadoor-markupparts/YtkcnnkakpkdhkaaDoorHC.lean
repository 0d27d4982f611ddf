/-
  Packed texts: Xp, Xq, Ya, Yb.
-/
import Derived.Test.YtkcnnkakpkdhkaaDoorHB
set_option linter.all false
set_option maxRecDepth 100000
namespace Go.Proofs.YtkcnnkakpkdhkaaDoor

/-! Xp: The awakening: Parse, Source, Good and Words of fixed texts. -/
section
open Go.RowKit Go.Sort Go.Shelf
attribute [local go_sem] Oper.semAt_some

def wantP : List Pt := [(2, [[65]]), (1, [[98], [99], [100]]), (3, [[120]]), (4, []), (1, [[101]])]
def badP1 : List Pt := [(1, [[61], [97]])]
theorem z_parse1 : parseL [61, 32, 65, 10, 98, 32, 32, 99, 10, 100, 10, 45, 32, 120, 10, 10, 45, 45, 45, 10, 101] = (wantP, 0) := by decide
theorem z_parse2 : parseL [61, 32] = ([], 15) := by decide
theorem z_parse3 : parseL [97, 9, 98] = ([], 15) := by decide
theorem z_src : srcR wantP = ([61, 32, 65, 10, 10, 98, 32, 99, 32, 100, 10, 10, 45, 32, 120, 10, 10, 45, 45, 45, 10, 10, 101], 0) := by decide
theorem z_good : gdL wantP = true := by decide
theorem z_bad : gdL badP1 = false := by decide
theorem z_wds : wds [32, 97, 32, 32, 98] = [[97], [98]] := by decide
theorem z_len : ∀ p ∈ wantP, p.2.length ≤ 90000 ∧ ∀ x ∈ p.2, x.length ≤ 90000 := by decide
theorem z_lenb : ∀ p ∈ badP1, p.2.length ≤ 90000 ∧ ∀ x ∈ p.2, x.length ≤ 90000 := by decide


section
variable {ops : Array Oper} {rest : List Oper} {o : Oper} {a : Act} {w : World} {Q : Exit → Act → World → Prop}
theorem SlT.of_row {w : World} {g n : Nat} {l : List (List UInt8)} (h : w.heap[g]? = some (.cells (l.map encT).toArray 9 (0, 0))) (hn : l.length = n) : SlT w (some ⟨g, 0, none⟩) n n l := by
  refine ⟨hn, Nat.le_refl _, fun j v hv => ⟨g, 0, rfl, ?_⟩⟩
  rw [Nat.zero_add, cell_of_row w g j _ _ _ h]
  simp [hv, encT]
theorem buildT2 (x y : ByteArray) (w : World) : (Instr.buildSlice 37 2 #[(0, .string x), (1, .string y)]).run Tryd.prog w = .ok (.slice (some ⟨w.heap.size, 0, none⟩) 2 2) (w.alloc (.cells #[.string x, .string y] 9)) := by kernel_rfl
theorem buildT3 (x y z : ByteArray) (w : World) : (Instr.buildSlice 37 3 #[(0, .string x), (1, .string y), (2, .string z)]).run Tryd.prog w = .ok (.slice (some ⟨w.heap.size, 0, none⟩) 3 3) (w.alloc (.cells #[.string x, .string y, .string z] 9)) := by kernel_rfl
theorem wpList_b1T (hgd : o.guard = none) (x : Operand) (ho : o.op = .buildSlice 37 1 #[(0, x)]) (v : List UInt8) (hx : a.eval x = .string (bs v))
    (h : ∀ g w', SlT w' (some ⟨g, 0, none⟩) 1 1 [v] → w.heap.size ≤ g → Keeps (fun _ => False) w w' → wpList Tryd.prog ops Q rest (a.put o.dst (.slice (some ⟨g, 0, none⟩) 1 1)) w') : wpList Tryd.prog ops Q (o :: rest) a w := by
  refine wpList_plain hgd fun K hK => ?_
  unfold Oper.wp execOp
  simp only [ho, hx, List.map_toArray, List.map_cons, List.map_nil, buildT, Sem.run_bind, Result.andThen_ok, Sem.run_pure]
  exact hK _ _ (h w.heap.size _ (SlT.of_row (l := [v]) (heap_alloc_new w _) rfl) (Nat.le_refl _) (keeps_alloc w _))
theorem wpList_b2T (hgd : o.guard = none) (x y : Operand) (ho : o.op = .buildSlice 37 2 #[(0, x), (1, y)]) (v u : List UInt8) (hx : a.eval x = .string (bs v)) (hy : a.eval y = .string (bs u))
    (h : ∀ g w', SlT w' (some ⟨g, 0, none⟩) 2 2 [v, u] → w.heap.size ≤ g → Keeps (fun _ => False) w w' → wpList Tryd.prog ops Q rest (a.put o.dst (.slice (some ⟨g, 0, none⟩) 2 2)) w') : wpList Tryd.prog ops Q (o :: rest) a w := by
  refine wpList_plain hgd fun K hK => ?_
  unfold Oper.wp execOp
  simp only [ho, hx, hy, List.map_toArray, List.map_cons, List.map_nil, buildT2, Sem.run_bind, Result.andThen_ok, Sem.run_pure]
  exact hK _ _ (h w.heap.size _ (SlT.of_row (l := [v, u]) (heap_alloc_new w _) rfl) (Nat.le_refl _) (keeps_alloc w _))
theorem wpList_b3T (hgd : o.guard = none) (x y z : Operand) (ho : o.op = .buildSlice 37 3 #[(0, x), (1, y), (2, z)]) (v u t : List UInt8) (hx : a.eval x = .string (bs v)) (hy : a.eval y = .string (bs u)) (hz : a.eval z = .string (bs t))
    (h : ∀ g w', SlT w' (some ⟨g, 0, none⟩) 3 3 [v, u, t] → w.heap.size ≤ g → Keeps (fun _ => False) w w' → wpList Tryd.prog ops Q rest (a.put o.dst (.slice (some ⟨g, 0, none⟩) 3 3)) w') : wpList Tryd.prog ops Q (o :: rest) a w := by
  refine wpList_plain hgd fun K hK => ?_
  unfold Oper.wp execOp
  simp only [ho, hx, hy, hz, List.map_toArray, List.map_cons, List.map_nil, buildT3, Sem.run_bind, Result.andThen_ok, Sem.run_pure]
  exact hK _ _ (h w.heap.size _ (SlT.of_row (l := [v, u, t]) (heap_alloc_new w _) rfl) (Nat.le_refl _) (keeps_alloc w _))
theorem buildP5 (k1 k2 k3 k4 k5 : Int) (a1 a2 a3 a4 a5 : Option Addr) (n1 c1 n2 c2 n3 c3 n4 c4 n5 c5 : Nat) (w : World) : (Instr.buildSlice 22 5 #[(0, .agg #[.int .i64 k1, .slice a1 n1 c1]), (1, .agg #[.int .i64 k2, .slice a2 n2 c2]), (2, .agg #[.int .i64 k3, .slice a3 n3 c3]), (3, .agg #[.int .i64 k4, .slice a4 n4 c4]), (4, .agg #[.int .i64 k5, .slice a5 n5 c5])]).run Tryd.prog w
    = .ok (.slice (some ⟨w.heap.size, 0, none⟩) 5 5) (w.alloc (.cells #[.int .i64 k1, .slice a1 n1 c1, .int .i64 k2, .slice a2 n2 c2, .int .i64 k3, .slice a3 n3 c3, .int .i64 k4, .slice a4 n4 c4, .int .i64 k5, .slice a5 n5 c5] 41)) := by kernel_rfl
/-- A part whose words are in a slice. -/
structure PtV (w : World) (v : Value) (p : Pt) : Prop where
  out : ∃ a n c, v = .agg #[.int .i64 p.1, .slice a n c] ∧ SlT w a n c p.2 ∧ (a = none → c = 0)
theorem PtV.keep {w w' : World} {v : Value} {p : Pt} (h : PtV w v p) (k : Keeps (fun _ => False) w w') : PtV w' v p := by
  obtain ⟨a, n, c, e, s, z⟩ := h.out
  exact ⟨a, n, c, e, s.keep k, z⟩
theorem SlP.of_row {w : World} {g n : Nat} {l : List (Int × Value)} {P : List Pt} (h : w.heap[g]? = some (.cells (pcs l).toArray 41 (0, 0))) (hn : P.length = n) (hl : l.length = n)
    (hp : ∀ (j : Nat) (x : Int × Value) (p : Pt), l[j]? = some x → P[j]? = some p → PtV w (.agg #[.int .i64 x.1, x.2]) p) : SlP w (some ⟨g, 0, none⟩) n n P := by
  refine ⟨hn, Nat.le_refl _, fun j p hv => ?_⟩
  have hj : j < l.length := by have := (List.getElem?_eq_some_iff.1 hv).1; omega
  obtain ⟨x, hx⟩ : ∃ x, l[j]? = some x := ⟨_, List.getElem?_eq_getElem hj⟩
  obtain ⟨a, m, c, e, s, z⟩ := (hp j x p hx hv).out
  obtain ⟨c1, c2⟩ := pcs_at l j x hx
  have e1 : Value.int .i64 x.1 = .int .i64 p.1 ∧ x.2 = .slice a m c := by
    have := Value.agg.inj e
    simp at this
    exact ⟨by rw [this.1], this.2⟩
  refine ⟨g, 0, rfl, ?_, a, m, c, ?_, s, z⟩
  · rw [cell_of_row w g _ _ _ _ h, Nat.zero_add, Nat.mul_comm, ← e1.1]; simpa using c1
  · rw [cell_of_row w g _ _ _ _ h, Nat.zero_add, Nat.mul_comm, ← e1.2]; simpa using c2
theorem wpList_b5P (hgd : o.guard = none) (x1 x2 x3 x4 x5 : Operand) (ho : o.op = .buildSlice 22 5 #[(0, x1), (1, x2), (2, x3), (3, x4), (4, x5)]) (p1 p2 p3 p4 p5 : Pt)
    (h1 : PtV w (a.eval x1) p1) (h2 : PtV w (a.eval x2) p2) (h3 : PtV w (a.eval x3) p3) (h4 : PtV w (a.eval x4) p4) (h5 : PtV w (a.eval x5) p5)
    (h : ∀ g w', SlP w' (some ⟨g, 0, none⟩) 5 5 [p1, p2, p3, p4, p5] → w.heap.size ≤ g → Keeps (fun _ => False) w w' → wpList Tryd.prog ops Q rest (a.put o.dst (.slice (some ⟨g, 0, none⟩) 5 5)) w') : wpList Tryd.prog ops Q (o :: rest) a w := by
  obtain ⟨a1, n1, c1, e1, s1, z1⟩ := h1.out
  obtain ⟨a2, n2, c2, e2, s2, z2⟩ := h2.out
  obtain ⟨a3, n3, c3, e3, s3, z3⟩ := h3.out
  obtain ⟨a4, n4, c4, e4, s4, z4⟩ := h4.out
  obtain ⟨a5, n5, c5, e5, s5, z5⟩ := h5.out
  rw [e1] at h1
  rw [e2] at h2
  rw [e3] at h3
  rw [e4] at h4
  rw [e5] at h5
  refine wpList_plain hgd fun K hK => ?_
  unfold Oper.wp execOp
  simp only [ho, e1, e2, e3, e4, e5, List.map_toArray, List.map_cons, List.map_nil, buildP5, Sem.run_bind, Result.andThen_ok, Sem.run_pure]
  refine hK _ _ (h w.heap.size _ (SlP.of_row (l := [(p1.1, .slice a1 n1 c1), (p2.1, .slice a2 n2 c2), (p3.1, .slice a3 n3 c3), (p4.1, .slice a4 n4 c4), (p5.1, .slice a5 n5 c5)]) (heap_alloc_new w _) rfl rfl ?_) (Nat.le_refl _) (keeps_alloc w _))
  have k0 : Keeps (fun _ => False) w (w.alloc (.cells #[.int .i64 p1.1, .slice a1 n1 c1, .int .i64 p2.1, .slice a2 n2 c2, .int .i64 p3.1, .slice a3 n3 c3, .int .i64 p4.1, .slice a4 n4 c4, .int .i64 p5.1, .slice a5 n5 c5] 41)) := keeps_alloc w _
  intro j x p hx hp
  match j with
  | 0 => simp at hx hp; subst hx hp; exact h1.keep k0
  | 1 => simp at hx hp; subst hx hp; exact h2.keep k0
  | 2 => simp at hx hp; subst hx hp; exact h3.keep k0
  | 3 => simp at hx hp; subst hx hp; exact h4.keep k0
  | 4 => simp at hx hp; subst hx hp; exact h5.keep k0
  | j + 5 => simp at hx
theorem wpList_b1P (hgd : o.guard = none) (x1 : Operand) (ho : o.op = .buildSlice 22 1 #[(0, x1)]) (p1 : Pt) (h1 : PtV w (a.eval x1) p1)
    (h : ∀ g w', SlP w' (some ⟨g, 0, none⟩) 1 1 [p1] → w.heap.size ≤ g → Keeps (fun _ => False) w w' → wpList Tryd.prog ops Q rest (a.put o.dst (.slice (some ⟨g, 0, none⟩) 1 1)) w') : wpList Tryd.prog ops Q (o :: rest) a w := by
  obtain ⟨a1, n1, c1, e1, s1, z1⟩ := h1.out
  rw [e1] at h1
  refine wpList_plain hgd fun K hK => ?_
  unfold Oper.wp execOp
  simp only [ho, e1, List.map_toArray, List.map_cons, List.map_nil, buildP1, Sem.run_bind, Result.andThen_ok, Sem.run_pure]
  refine hK _ _ (h w.heap.size _ (SlP.of_row (l := [(p1.1, .slice a1 n1 c1)]) (heap_alloc_new w _) rfl rfl ?_) (Nat.le_refl _) (keeps_alloc w _))
  have k0 : Keeps (fun _ => False) w (w.alloc (.cells #[.int .i64 p1.1, .slice a1 n1 c1] 41)) := keeps_alloc w _
  intro j x p hx hp
  match j with
  | 0 => simp at hx hp; subst hx hp; exact h1.keep k0
  | j + 1 => simp at hx
end

/-! What is called of these. -/
theorem parse_sl (w : World) (hT : Lib.Utf8Tabs 0 1 w) (s : ByteArray) (P : List Pt) (e : Int) (h : parseL s.data.toList = (P, e)) (n : Nat) (hn : P.length = n) :
    Calls Tryd.prog 10 #[.string s] w fun z w' => ∃ a c, z = .returned (.tuple #[.slice a n c, .int .i64 e]) ∧ SlP w' a n c P ∧ (a = none → c = 0) ∧ Keeps (fun _ => False) w w' := by
  refine (pparse10 w hT s).mono ?_
  rintro z w' ⟨⟨v, rfl, l, h1, h2⟩, k⟩
  rw [h] at h2 ⊢
  obtain ⟨a, c, rfl, h3, h4, _⟩ := h1.sl h2
  rw [hn] at h3 ⊢
  exact ⟨a, c, rfl, h3, h4, k⟩
theorem words_sl (w : World) (s : ByteArray) (hs : s.size ≤ 90000) (W : List (List UInt8)) (h : wds s.data.toList = W) (n : Nat) (hn : W.length = n) :
    Calls Tryd.prog 19 #[.string s] w fun z w' => ∃ a c, z = .returned (.slice a n c) ∧ SlT w' a n c W ∧ (a = none → c = 0) ∧ Keeps (fun _ => False) w w' := by
  refine (pwords19 w s hs).mono ?_
  rintro z w' ⟨⟨v, rfl, h1⟩, k⟩
  rw [h] at h1
  obtain ⟨a, c, rfl, h3, h4, _⟩ := h1.slice2
  rw [hn] at h3 ⊢
  exact ⟨a, c, rfl, h3, h4, k⟩
end

/-! Xq: The awakening of the laws. -/
section
open Go.RowKit Go.Sort Go.Shelf
attribute [local go_sem] Oper.semAt_some

theorem z_t2 (W : World) : SlT (W.alloc (.cells #[.string ⟨#[97]⟩, .string ⟨#[98]⟩] 9)) (some ⟨W.heap.size, 0, none⟩) 2 2 [[97], [98]] ∧ Keeps (fun _ => False) W (W.alloc (.cells #[.string ⟨#[97]⟩, .string ⟨#[98]⟩] 9)) :=
  ⟨SlT.of_row (l := [[97], [98]]) (heap_alloc_new W _) rfl, keeps_alloc W _⟩
theorem z_two (W : World) : SlP ((W.alloc (.cells #[.string ⟨#[61]⟩, .string ⟨#[97]⟩] 9)).alloc (.cells #[.int .i64 1, .slice (some ⟨W.heap.size, 0, none⟩) 2 2] 41)) (some ⟨W.heap.size + 1, 0, none⟩) 1 1 badP1 ∧ Keeps (fun _ => False) W ((W.alloc (.cells #[.string ⟨#[61]⟩, .string ⟨#[97]⟩] 9)).alloc (.cells #[.int .i64 1, .slice (some ⟨W.heap.size, 0, none⟩) 2 2] 41)) := by
  have k2 : Keeps (fun _ => False) (W.alloc (.cells #[.string ⟨#[61]⟩, .string ⟨#[97]⟩] 9)) ((W.alloc (.cells #[.string ⟨#[61]⟩, .string ⟨#[97]⟩] 9)).alloc (.cells #[.int .i64 1, .slice (some ⟨W.heap.size, 0, none⟩) 2 2] 41)) := keeps_alloc _ _
  have s1 : SlT (W.alloc (.cells #[.string ⟨#[61]⟩, .string ⟨#[97]⟩] 9)) (some ⟨W.heap.size, 0, none⟩) 2 2 [[61], [97]] := SlT.of_row (l := [[61], [97]]) (heap_alloc_new W _) rfl
  refine ⟨SlP.of_row (l := [(1, .slice (some ⟨W.heap.size, 0, none⟩) 2 2)]) ?_ rfl rfl (fun j x p hx hp => ?_), (keeps_alloc W _).trans k2⟩
  · have := heap_alloc_new (W.alloc (.cells #[.string ⟨#[61]⟩, .string ⟨#[97]⟩] 9)) (.cells #[.int .i64 1, .slice (some ⟨W.heap.size, 0, none⟩) 2 2] 41)
    rw [show (W.alloc (.cells #[.string ⟨#[61]⟩, .string ⟨#[97]⟩] 9)).heap.size = W.heap.size + 1 by simp] at this
    exact this
  · match j with
    | 0 => simp [badP1] at hx hp; subst hx hp; exact ⟨_, _, _, rfl, s1.keep k2, (fun h => by cases h)⟩
    | j + 1 => simp at hx

set_option maxHeartbeats 8000000 in
theorem wakes9 (w : World) (hT : Lib.Utf8Tabs 0 1 w) : Calls Tryd.prog 9 #[] w fun e w' => e = .returned (.bool true) ∧ Keeps (fun _ => False) w w' := by
  obtain ⟨E1, hE1⟩ : ∃ E : ByteArray, E = ⟨#[61, 32, 65, 10, 98, 32, 32, 99, 10, 100, 10, 45, 32, 120, 10, 10, 45, 45, 45, 10, 101]⟩ := ⟨_, rfl⟩
  obtain ⟨E2, hE2⟩ : ∃ E : ByteArray, E = ⟨#[61, 32, 65, 10, 10, 98, 32, 99, 32, 100, 10, 10, 45, 32, 120, 10, 10, 45, 45, 45, 10, 10, 101]⟩ := ⟨_, rfl⟩
  obtain ⟨E3, hE3⟩ : ∃ E : ByteArray, E = ⟨#[61, 32]⟩ := ⟨_, rfl⟩
  obtain ⟨E4, hE4⟩ : ∃ E : ByteArray, E = ⟨#[97, 9, 98]⟩ := ⟨_, rfl⟩
  obtain ⟨E5, hE5⟩ : ∃ E : ByteArray, E = ⟨#[32, 97, 32, 32, 98]⟩ := ⟨_, rfl⟩
  have zp1 := fun W (hW : Lib.Utf8Tabs 0 1 W) => parse_sl W hW E1 wantP 0 (by rw [hE1]; exact z_parse1) 5 rfl
  have zp2 := fun W (hW : Lib.Utf8Tabs 0 1 W) g (h : SlP W (some ⟨g, 0, none⟩) 5 5 wantP) => psource13 W hW (some ⟨g, 0, none⟩) 5 5 wantP h (by omega) z_len
  rw [z_src] at zp2
  have e2 : bs ([61, 32, 65, 10, 10, 98, 32, 99, 32, 100, 10, 10, 45, 32, 120, 10, 10, 45, 45, 45, 10, 10, 101], (0 : Int)).1 = E2 := by rw [hE2]; rfl
  rw [e2] at zp2
  have zp3 := fun W (hW : Lib.Utf8Tabs 0 1 W) => parse_sl W hW E3 [] 15 (by rw [hE3]; exact z_parse2) 0 rfl
  have zp4 := fun W (hW : Lib.Utf8Tabs 0 1 W) => parse_sl W hW E4 [] 15 (by rw [hE4]; exact z_parse3) 0 rfl
  have zp5 := fun W a c g (h1 : SlP W a 5 c wantP) (h2 : SlP W (some ⟨g, 0, none⟩) 5 5 wantP) => parts15 W a (some ⟨g, 0, none⟩) 5 5 c 5 wantP wantP h1 h2 (by omega) (fun p hp => by have := (z_len p hp).1; omega)
  rw [decide_eq_true rfl] at zp5
  have zp6 := fun W (hW : Lib.Utf8Tabs 0 1 W) g (h : SlP W (some ⟨g, 0, none⟩) 5 5 wantP) => pgood16 W hW (some ⟨g, 0, none⟩) 5 5 wantP h (by omega) z_len
  rw [z_good] at zp6
  have zp7 := fun W (hW : Lib.Utf8Tabs 0 1 W) g (h : SlP W (some ⟨g, 0, none⟩) 1 1 badP1) => pgood16 W hW (some ⟨g, 0, none⟩) 1 1 badP1 h (by omega) z_lenb
  rw [z_bad] at zp7
  have zp8 := fun W => words_sl W E5 (by rw [hE5]; decide) [[97], [98]] (by rw [hE5]; exact z_wds) 2 rfl
  have zp9 := fun W a c g (h1 : SlT W a 2 c [[97], [98]]) (h2 : SlT W (some ⟨g, 0, none⟩) 2 2 [[97], [98]]) => texts18 W a (some ⟨g, 0, none⟩) 2 2 c 2 _ _ h1 h2 (by omega)
  rw [decide_eq_true rfl] at zp9
  have K0 : Hid (Keeps (fun _ => False) w w) := Keeps.refl _ _
  have y0 : Hid True := trivial
  clear e2
  go_enter Tryd.func9, Tryd.ntmps9
  rw [← hE1, ← hE2, ← hE3, ← hE4, ← hE5]
  clear hE1 hE2 hE3 hE4 hE5
  go_wp2_with (first
    | (have hh := y21; clear y21; go_at_call 18; refine (zp9 _ a21 c21 w21.heap.size (t21.keep (z_t2 w21).2) (z_t2 w21).1).mono ?_; rintro e w23 ⟨rfl, k23⟩; have K23 : Hid (Keeps (fun _ => False) w w23) := (K21.out.trans (z_t2 w21).2).trans k23)
    | (have hh := y20; clear y20; go_at_call 19; refine (zp8 w20).mono ?_; rintro e w21 ⟨a21, c21, rfl, t21, _, k21⟩; have K21 : Hid (Keeps (fun _ => False) w w21) := K20.out.trans k21; have y21 : Hid True := trivial)
    | (have hh := y16; clear y16; go_at_call 16; refine (zp7 _ (Tabs.keep hT (K16.out.trans (z_two w16).2)) (w16.heap.size + 1) (z_two w16).1).mono ?_; rintro e w20 ⟨rfl, k20⟩; have K20 : Hid (Keeps (fun _ => False) w w20) := (K16.out.trans (z_two w16).2).trans k20; have y20 : Hid True := trivial)
    | (have hh := y15; clear y15; go_at_call 16; refine (zp6 w15 (Tabs.keep hT K15.out) g11 ((s11.keep I14.out).keep k15)).mono ?_; rintro e w16 ⟨rfl, k16⟩; have K16 : Hid (Keeps (fun _ => False) w w16) := K15.out.trans k16; have y16 : Hid True := trivial)
    | (have hh := y14; clear y14; go_at_call 15; refine (zp5 w14 a1 c1 g11 (s1.keep J14.out) (s11.keep I14.out)).mono ?_; rintro e w15 ⟨rfl, k15⟩; have K15 : Hid (Keeps (fun _ => False) w w15) := K14.out.trans k15; have y15 : Hid True := trivial)
    | (have hh := y13; clear y13; go_at_call 10; refine (zp4 w13 (Tabs.keep hT K13.out)).mono ?_; rintro e w14 ⟨a14, c14, rfl, _, _, k14⟩; have K14 : Hid (Keeps (fun _ => False) w w14) := K13.out.trans k14; have J14 : Hid (Keeps (fun _ => False) w1 w14) := J13.out.trans k14; have I14 : Hid (Keeps (fun _ => False) w11 w14) := I13.out.trans k14; have y14 : Hid True := trivial)
    | (have hh := y12; clear y12; go_at_call 10; refine (zp3 w12 (Tabs.keep hT K12.out)).mono ?_; rintro e w13 ⟨a13, c13, rfl, _, _, k13⟩; have K13 : Hid (Keeps (fun _ => False) w w13) := K12.out.trans k13; have J13 : Hid (Keeps (fun _ => False) w1 w13) := J12.out.trans k13; have I13 : Hid (Keeps (fun _ => False) w11 w13) := I12.out.trans k13; have y13 : Hid True := trivial)
    | (have hh := y11; clear y11; go_at_call 13; refine (zp2 w11 (Tabs.keep hT K11.out) g11 s11).mono ?_; rintro e w12 ⟨rfl, k12⟩; have K12 : Hid (Keeps (fun _ => False) w w12) := K11.out.trans k12; have J12 : Hid (Keeps (fun _ => False) w1 w12) := J11.out.trans k12; have I12 : Hid (Keeps (fun _ => False) w11 w12) := I11.out.trans k12; have y12 : Hid True := trivial)
    | (have hh := y9; clear y9; refine wpList_b5P rfl _ _ _ _ _ rfl (2, [[65]]) (1, [[98], [99], [100]]) (3, [[120]]) (4, []) (1, [[101]]) ⟨_, _, _, rfl, ((t2.keep (k4.trans k6)).keep k9), (fun h => by cases h)⟩ ⟨_, _, _, rfl, (t4.keep (k6.trans k9)), (fun h => by cases h)⟩ ⟨_, _, _, rfl, (t6.keep k9), (fun h => by cases h)⟩ ⟨_, _, _, rfl, SlT.nil _, (fun _ => rfl)⟩ ⟨_, _, _, rfl, t9, (fun h => by cases h)⟩ ?_; intro g11 w11 s11 z11 k11; have K11 : Hid (Keeps (fun _ => False) w w11) := K9.out.trans k11; have J11 : Hid (Keeps (fun _ => False) w1 w11) := J9.out.trans k11; have I11 : Hid (Keeps (fun _ => False) w11 w11) := Keeps.refl _ _; have y11 : Hid True := trivial)
    | (have hh := y6; clear y6; refine wpList_b1T rfl _ rfl [101] rfl ?_; intro g9 w9 t9 z9 k9; have K9 : Hid (Keeps (fun _ => False) w w9) := K6.out.trans k9; have J9 : Hid (Keeps (fun _ => False) w1 w9) := J6.out.trans k9; have y9 : Hid True := trivial)
    | (have hh := y4; clear y4; refine wpList_b1T rfl _ rfl [120] rfl ?_; intro g6 w6 t6 z6 k6; have K6 : Hid (Keeps (fun _ => False) w w6) := K4.out.trans k6; have J6 : Hid (Keeps (fun _ => False) w1 w6) := J4.out.trans k6; have y6 : Hid True := trivial)
    | (have hh := y2; clear y2; refine wpList_b3T rfl _ _ _ rfl [98] [99] [100] rfl rfl rfl ?_; intro g4 w4 t4 z4 k4; have K4 : Hid (Keeps (fun _ => False) w w4) := K2.out.trans k4; have J4 : Hid (Keeps (fun _ => False) w1 w4) := J2.out.trans k4; have y4 : Hid True := trivial)
    | (have hh := y1; clear y1; refine wpList_b1T rfl _ rfl [65] rfl ?_; intro g2 w2 t2 z2 k2; have K2 : Hid (Keeps (fun _ => False) w w2) := K1.out.trans k2; have J2 : Hid (Keeps (fun _ => False) w1 w2) := J1.out.trans k2; have y2 : Hid True := trivial)
    | (have hh := y0; clear y0; go_at_call 10; refine (zp1 w (Tabs.keep hT K0.out)).mono ?_; rintro e w1 ⟨a1, c1, rfl, s1, _, k1⟩; have K1 : Hid (Keeps (fun _ => False) w w1) := K0.out.trans k1; have J1 : Hid (Keeps (fun _ => False) w1 w1) := Keeps.refl _ _; have y1 : Hid True := trivial))
  go_ret
  exact ⟨rfl, K23.out⟩
end

/-! Ya: Two sources with an empty line between: in plain mathematics. -/
section
open Go.RowKit Go.Sort Go.Shelf

theorem enc_low {v : Int} {b : UInt8} (h : isS v) (hb : b.toNat < 128) (hm : b ∈ Lib.encodeRune v) : Lib.encodeRune v = [b] := by
  have hm0 := hm
  unfold Lib.encodeRune at hm
  obtain ⟨x, hx, e⟩ := List.mem_map.1 hm
  have hby := Lib.encodeRuneZ_byte v x hx
  have e2 : x.toNat < 128 := by
    have := u8n hby.1 hby.2
    rw [← this, e]; exact hb
  obtain ⟨h0, h1, h2⟩ := h
  have hv : v ≤ 127 := by
    unfold Lib.encodeRuneZ at hx
    split at hx
    · omega
    · split at hx
      · simp at hx; omega
      · split at hx
        · simp at hx; omega
        · split at hx
          · simp at hx; omega
          · simp at hx; omega
  unfold Lib.encodeRune at hm0 ⊢
  rw [Lib.encodeRuneZ_one h0 hv] at hm0 ⊢
  simp at hm0 ⊢
  exact hm0.symm
theorem bad_app {r0 : List UInt8} (h0 : r0 ≠ []) (h : bad r0) {b : UInt8} (hb : b.toNat < 128) (r : List UInt8) : bad (r0 ++ b :: r) := by
  refine Classical.byContradiction fun hn => ?_
  have hne : r0 ++ b :: r ≠ [] := by simp
  obtain ⟨g1, g2, g3, g4⟩ := dN_good hne hn
  generalize hV : ((dN (r0 ++ b :: r)).1 : Int) = V at g1 g2
  generalize hK : (dN (r0 ++ b :: r)).2 = K at g2 g3 g4
  by_cases hl : K ≤ r0.length
  · rw [List.take_append_of_le_length hl] at g2
    have e : r0 = Lib.encodeRune V ++ r0.drop K := by rw [g2, List.take_append_drop]
    rw [e] at h
    exact enc_good g1 _ h
  · have hm : b ∈ Lib.encodeRune V := by
      rw [g2, List.mem_take_iff_getElem]
      exact ⟨r0.length, by simp; omega, by simp⟩
    have e := enc_low g1 hb hm
    have : K = 1 := by
      have := congrArg List.length g2
      rw [e, List.length_take] at this
      simp at this g4; omega
    have := List.length_pos_iff.2 h0
    omega
theorem vd_mid {b : UInt8} (hb : b.toNat < 128) (s r : List UInt8) : vd (s ++ b :: r) = (vd s && vd r) := by
  have hb1 : isS ((b.toNat : Nat) : Int) := ⟨by omega, by omega, by omega⟩
  have hbe : Lib.encodeRune ((b.toNat : Nat) : Int) = [b] := by
    unfold Lib.encodeRune
    rw [Lib.encodeRuneZ_one (by omega) (by omega)]
    simp
  have h1 : vd (b :: r) = vd r := by
    have := vd_encs (L := [((b.toNat : Nat) : Int)]) (by intro v hv; simp at hv; subst hv; exact hb1) r
    rw [show encs [((b.toNat : Nat) : Int)] = [b] by simp [encs, hbe]] at this
    exact this
  obtain ⟨L, r0, rfl, hL, h⟩ := split_at s
  rw [List.append_assoc, vd_encs hL, vd_encs hL]
  rcases h with rfl | ⟨h0, hbad⟩
  · rw [List.nil_append, h1]
    show vd r = (vd [] && vd r)
    rfl
  · have e1 : vd r0 = false := by unfold vd; rw [sgn_bad h0 hbad]; rfl
    have e2 : vd (r0 ++ b :: r) = false := by unfold vd; rw [sgn_bad (by simp) (bad_app h0 hbad hb r)]; rfl
    rw [e1, e2]; rfl
theorem sg_mid {b : UInt8} (hb : b.toNat < 128) {s r : List UInt8} (hs : vd s = true) (hr : vd r = true) : sg (s ++ b :: r) = sg s ++ ((b.toNat : Nat) : Int) :: sg r := by
  have hb1 : isS ((b.toNat : Nat) : Int) := ⟨by omega, by omega, by omega⟩
  have hbe : encs [((b.toNat : Nat) : Int)] = [b] := by
    simp only [encs, List.flatMap_cons, List.flatMap_nil, List.append_nil]
    unfold Lib.encodeRune
    rw [Lib.encodeRuneZ_one (by omega) (by omega)]
    simp
  have h1 := sg_encs (L := [((b.toNat : Nat) : Int)]) (by intro v hv; simp at hv; subst hv; exact hb1)
  rw [hbe] at h1
  have h2 : sg (b :: r) = ((b.toNat : Nat) : Int) :: sg r := by
    have := sg_app2 (l := [b]) (m := r) h1.1 hr
    rw [h1.2] at this
    exact this
  have h3 : vd (b :: r) = true := by
    have := vd_mid hb [] r
    rw [List.nil_append] at this
    rw [this, hr]; rfl
  rw [sg_app2 hs h3, h2]
theorem pln_mid (s r : List UInt8) : pln true (s ++ 10 :: r) = (pln true s && pln true r) := by
  unfold pln
  rw [vd_mid (b := 10) (by decide)]
  cases h1 : vd s with
  | false => simp
  | true =>
    cases h2 : vd r with
    | false => simp
    | true =>
      rw [sg_mid (b := 10) (by decide) h1 h2, List.all_append, List.all_cons]
      have : okS true (((10 : UInt8).toNat : Nat) : Int) = true := by decide
      rw [this]; simp
theorem cutL_cons (b x : UInt8) (r : List UInt8) : cutL b (x :: r) = if x = b then [] :: cutL b r else match cutL b r with
    | [] => [[x]]
    | h :: t => (x :: h) :: t := rfl
theorem cutL_mid (b : UInt8) : ∀ (s r : List UInt8), cutL b (s ++ b :: r) = cutL b s ++ cutL b r
  | [], r => by rw [List.nil_append, cutL_cons, if_pos rfl]; rfl
  | x :: s, r => by
    have ih := cutL_mid b s r
    rw [List.cons_append, cutL_cons, cutL_cons b x s]
    by_cases hx : x = b
    · rw [if_pos hx, if_pos hx, ih]; rfl
    · rw [if_neg hx, if_neg hx, ih]
      cases h : cutL b s with
      | nil => exact absurd h (cutL_ne b s)
      | cons p t => rfl
theorem addLast_app (P : List Pt) {Q : List Pt} (h : Q ≠ []) (ws : List (List UInt8)) : addLast (P ++ Q) ws = P ++ addLast Q ws := by
  unfold addLast
  obtain ⟨Q0, q, rfl⟩ : ∃ Q0 q, Q = Q0 ++ [q] := ⟨Q.dropLast, Q.getLast h, (List.dropLast_concat_getLast _).symm⟩
  rw [← List.append_assoc, List.dropLast_concat, List.dropLast_concat]
  simp
theorem stepP_app (P Q : List Pt) (o : Bool) (x : List UInt8) (h : o = true → Q ≠ []) : stepP (P ++ Q, o) x = (stepP (Q, o) x).map (fun st => (P ++ st.1, st.2)) := by
  unfold stepP
  simp only
  split
  · simp
  · split
    · split
      · rfl
      · simp
    · split
      · simp
      · cases o with
        | false => simp
        | true => simp [addLast_app P (h rfl)]
theorem stepP_ne {Q : List Pt} {o : Bool} {x : List UInt8} {st : List Pt × Bool} (h : stepP (Q, o) x = some st) : st.2 = true → st.1 ≠ [] := by
  unfold stepP at h
  intro ht
  split at h
  · cases h; simp
  · split at h
    · split at h
      · cases h
      · cases h; simp
    · split at h
      · cases h; cases ht
      · split at h
        · cases h; unfold addLast; simp
        · cases h; simp
theorem linesP_pre (P : List Pt) : ∀ (B : List (List UInt8)) (Q : List Pt) (o : Bool), (o = true → Q ≠ []) → linesP B (P ++ Q, o) = (linesP B (Q, o)).map (fun st => (P ++ st.1, st.2))
  | [], Q, o, _ => rfl
  | x :: B, Q, o, h => by
    rw [linesP_cons, linesP_cons, stepP_app P Q o x h]
    cases hs : stepP (Q, o) x with
    | none => rfl
    | some st =>
      obtain ⟨Q1, o1⟩ := st
      exact linesP_pre P B Q1 o1 (stepP_ne hs)
theorem stepP_empty (st : List Pt × Bool) : stepP st [] = some (st.1, false) := rfl

/-- Two sources with an empty line between. -/
theorem parse_two (s t : List UInt8) (h : s.length + t.length ≤ 238) :
    parseL (s ++ 10 :: 10 :: t) = if (parseL s).2 = 0 ∧ (parseL t).2 = 0 then ((parseL s).1 ++ (parseL t).1, 0) else ([], 15) := by
  unfold parseL
  rw [if_neg (show ¬ 240 < (s ++ 10 :: 10 :: t).length by simp; omega), if_neg (show ¬ 240 < s.length by omega), if_neg (show ¬ 240 < t.length by omega)]
  have e1 : pln true (10 :: t) = pln true t := by
    have := pln_mid [] t
    rw [List.nil_append] at this
    rw [this]; rfl
  rw [pln_mid, e1]
  cases h1 : pln true s with
  | false => simp
  | true =>
    cases h2 : pln true t with
    | false => simp
    | true =>
      simp only [Bool.and_self, Bool.true_eq_false, if_false]
      rw [cutL_mid]
      have e2 : cutL 10 (10 :: t) = [] :: cutL 10 t := by
        have := cutL_mid 10 [] t
        rw [List.nil_append] at this
        rw [this]; rfl
      rw [e2, linesP_app]
      cases h3 : linesP (cutL 10 s) ([], false) with
      | none => rfl
      | some st =>
        obtain ⟨P, o⟩ := st
        show resP (linesP ([] :: cutL 10 t) (P, o)) = _
        rw [linesP_cons, stepP_empty]
        show resP (linesP (cutL 10 t) (P, false)) = _
        have e3 := linesP_pre P (cutL 10 t) [] false (fun h => by cases h)
        rw [List.append_nil] at e3
        rw [e3]
        cases h4 : linesP (cutL 10 t) ([], false) with
        | none => rfl
        | some st2 => simp [resP]
theorem parse_err {s : List UInt8} (h : (parseL s).2 ≠ 0) : (parseL s).1 = [] := by
  unfold parseL at h ⊢
  split
  · rfl
  · split
    · rfl
    · rename_i h1 h2
      rw [if_neg h1, if_neg h2] at h
      cases h3 : linesP (cutL 10 s) ([], false) with
      | none => rfl
      | some st => rw [h3] at h; exact absurd rfl h

/-- Not too many, nor too long. -/
theorem linesP_len : ∀ (B : List (List UInt8)) (Q : List Pt) (o : Bool) (st : List Pt × Bool), linesP B (Q, o) = some st → st.1.length ≤ Q.length + B.length
  | [], Q, o, st, h => by cases h; simp
  | x :: B, Q, o, st, h => by
    rw [linesP_cons] at h
    cases hs : stepP (Q, o) x with
    | none => rw [hs] at h; cases h
    | some s1 =>
      rw [hs] at h
      obtain ⟨Q1, o1⟩ := s1
      have ih := linesP_len B Q1 o1 st h
      have : Q1.length ≤ Q.length + 1 := by
        unfold stepP at hs
        simp only at hs
        split at hs
        · cases hs; simp
        · split at hs
          · split at hs
            · cases hs
            · cases hs; simp
          · split at hs
            · cases hs; simp
            · split at hs
              · cases hs; unfold addLast; simp
              · cases hs; simp
      simp; omega
end

/-! Yb: The law MarkupParts. -/
section
open Go.RowKit Go.Sort Go.Shelf
attribute [local go_sem] Oper.semAt_some

section
variable {ops : Array Oper} {rest : List Oper} {o : Oper} {a : Act} {w : World} {Q : Exit → Act → World → Prop}
theorem run_build0P (w : World) : (Instr.buildSlice 22 0 #[]).run Tryd.prog w = .ok (.slice (some ⟨w.heap.size, 0, none⟩) 0 0) (w.alloc (.cells #[] 41)) := by kernel_rfl
theorem wpList_build0P (hgd : o.guard = none) (ho : o.op = .buildSlice 22 0 #[])
    (h : ∀ g w', OwnP w' w.heap.size (.slice (some ⟨g, 0, none⟩) 0 0) [] → w.heap.size ≤ g → Keeps (fun _ => False) w w' → wpList Tryd.prog ops Q rest (a.put o.dst (.slice (some ⟨g, 0, none⟩) 0 0)) w') : wpList Tryd.prog ops Q (o :: rest) a w := by
  refine wpList_plain hgd fun K hK => ?_
  unfold Oper.wp execOp
  simp only [ho, List.map_toArray, List.map_nil, run_build0P, Sem.run_bind, Result.andThen_ok, Sem.run_pure]
  refine hK _ _ (h w.heap.size _ ⟨⟨by simp [pcs], .inr ⟨w.heap.size, 0, #[], rfl, Nat.le_refl _, heap_alloc_new w _, Nat.le_refl _, by unfold maxLen; omega, by simp, by simp [pcs]⟩⟩⟩ (Nat.le_refl _) (keeps_alloc w _))
theorem wpList_appPs (hgd : o.guard = none) (s x : Operand) (ho : o.op = .call { callee := .builtin .append, args := #[s, x], argTypes := #[22, 22] })
    (base : Nat) (v : Value) (l0 : List (Int × Value)) (hs : a.eval s = v) (hown : OwnP w base v l0) (base2 : Nat) (v2 : Value) (l1 : List (Int × Value)) (hx : a.eval x = v2) (hl : OwnP w base2 v2 l1) (h1 : ∀ x ∈ l1, x.2.oneCell' = true) (hlen : l0.length + l1.length ≤ 100000) (hbase : base ≤ w.heap.size)
    (h : ∀ v' w', OwnP w' base v' (l0 ++ l1) → Keeps (fun k => v.ownBlock = some k) w w' → wpList Tryd.prog ops Q rest (a.put o.dst v') w') : wpList Tryd.prog ops Q (o :: rest) a w := by
  obtain ⟨i, hi, hz, hsz, hby⟩ := info41'
  obtain ⟨hl1, hl2⟩ := hl.owns
  rcases hl2 with ⟨rfl, h0⟩ | ⟨g, cap, cur, rfl, hb, hg, hn, hc, hs2, ht⟩
  · obtain rfl : l1 = [] := List.eq_nil_of_length_eq_zero h0
    refine wpList_append_own_none hgd s x 22 ho base 41 i 2 Tryd.underlying22 hi v l0.length _ hs hown.owns hx ?_
    exact h v w (by rw [List.append_nil]; exact hown) (Keeps.refl _ _)
  · refine wpList_append_own _ hgd s x 22 ho base 41 i (.agg #[.int .i64 0, .slice none 0 0]) 2 32 Tryd.underlying22 hi hz hsz hby rfl (by omega) v l0.length _ hs hown.owns ⟨g, 0, none⟩ l1.length cap (pcs l1) hx (by rw [pcs_len]) (fun j u hu => ?_) (fun u hu => ?_) (by unfold maxLen; omega) (by omega) hbase ?_
    · rw [Addr_add, cell_of_row w g _ _ _ _ hg, Nat.zero_add]
      have hj : j < (pcs l1).length := (List.getElem?_eq_some_iff.1 hu).1
      rw [pcs_len] at hj
      rw [← ht, List.getElem?_take, if_pos (by omega)] at hu
      simpa using hu
    · unfold pcs at hu
      rw [List.mem_flatMap] at hu
      obtain ⟨y, hy, hu⟩ := hu
      simp at hu
      rcases hu with rfl | rfl
      · rfl
      · exact h1 y hy
    · intro v' w' ho' hg' _
      refine h v' w' ⟨?_⟩ ⟨hg'.os, hg'.tape, hg'.output, hg'.size, fun k hk hb => hg'.block k hk fun e => hb e.symm⟩
      rw [pcs_app, List.length_append]; exact ho'
end
theorem AllW.app {w : World} {l m : List (Int × Value)} {P R : List Pt} (h1 : AllW w l P) (h2 : AllW w m R) : AllW w (l ++ m) (P ++ R) := by
  have hl := h1.len
  refine ⟨by simp [hl, h2.len], fun j x p hx hp => ?_⟩
  by_cases hj : j < l.length
  · rw [List.getElem?_append_left hj] at hx
    rw [List.getElem?_append_left (by omega)] at hp
    exact h1.at_ j x p hx hp
  · rw [List.getElem?_append_right (by omega)] at hx
    rw [List.getElem?_append_right (by omega), ← hl] at hp
    exact h2.at_ _ x p hx hp
theorem AllW.one {w : World} {l : List (Int × Value)} {P : List Pt} (h : AllW w l P) : ∀ x ∈ l, x.2.oneCell' = true := fun x hx => by
  obtain ⟨j, hj⟩ := List.getElem?_of_mem hx
  obtain ⟨p, hp⟩ : ∃ p, P[j]? = some p := ⟨_, List.getElem?_eq_getElem (by rw [← h.len]; exact (List.getElem?_eq_some_iff.1 hj).1)⟩
  obtain ⟨a, n, c, e, _⟩ := (h.at_ j x p hj hp).2.out
  rw [e]; rfl
theorem parseL_len (s : List UInt8) (hs : s.length ≤ 240) : (parseL s).1.length ≤ 241 := by
  unfold parseL
  split
  · simp
  · split
    · simp
    · have h1 := (cutL_len 10 s).1
      cases h : linesP (cutL 10 s) ([], false) with
      | none => simp [resP]
      | some st =>
        have := linesP_len _ _ _ _ h
        simp [resP] at this ⊢
        omega

theorem linesP_words : ∀ (B : List (List UInt8)) (Q : List Pt) (o : Bool) (st : List Pt × Bool) (M : Nat), linesP B (Q, o) = some st → (∀ x ∈ B, x.length ≤ M) → ∀ (K : Nat), (∀ p ∈ Q, p.2.length ≤ K) → ∀ p ∈ st.1, p.2.length ≤ K + B.length * (M + 1)
  | [], Q, o, st, M, h, _, K, hQ => by cases h; intro p hp; have := hQ p hp; simp; omega
  | x :: B, Q, o, st, M, h, hB, K, hQ => by
    rw [linesP_cons] at h
    cases hs : stepP (Q, o) x with
    | none => rw [hs] at h; cases h
    | some s1 =>
      rw [hs] at h
      obtain ⟨Q1, o1⟩ := s1
      have hx := hB x (by simp)
      have hw := wds_len x
      have hQ1 : ∀ p ∈ Q1, p.2.length ≤ K + (M + 1) := by
        unfold stepP at hs
        simp only at hs
        intro p hp
        split at hs
        · cases hs
          rcases List.mem_append.1 hp with hp | hp
          · have := hQ p hp; omega
          · obtain rfl : p = (4, []) := by simpa using hp
            simp
        · split at hs
          · split at hs
            · cases hs
            · cases hs
              rcases List.mem_append.1 hp with hp | hp
              · have := hQ p hp; omega
              · simp at hp; subst hp; simp; omega
          · split at hs
            · cases hs; have := hQ p hp; omega
            · split at hs
              · cases hs
                unfold addLast at hp
                rcases List.mem_append.1 hp with hp | hp
                · have := hQ p (List.dropLast_subset _ hp); omega
                · simp at hp; subst hp
                  simp only [List.length_append]
                  have h3 : (Q.getLast?.getD (0, [])).2.length ≤ K := by
                    cases hq : Q.getLast? with
                    | none => simp
                    | some q => exact hQ q (List.mem_of_getLast? hq)
                  simp only [List.getLastD_eq_getLast?] at *
                  omega
              · cases hs
                rcases List.mem_append.1 hp with hp | hp
                · have := hQ p hp; omega
                · simp at hp; subst hp; simp; omega
      have ih := linesP_words B Q1 o1 st M h (fun y hy => hB y (by simp [hy])) (K + (M + 1)) hQ1
      intro p hp
      have := ih p hp
      simp only [List.length_cons]
      rw [Nat.add_mul, Nat.one_mul]
      omega
theorem parseL_words (s : List UInt8) (hs : s.length ≤ 240) : ∀ p ∈ (parseL s).1, p.2.length ≤ 60000 := by
  unfold parseL
  split
  · simp
  · split
    · simp
    · have h1 := cutL_len 10 s
      cases h : linesP (cutL 10 s) ([], false) with
      | none => simp [resP]
      | some st =>
        intro p hp
        have h2 := linesP_words _ _ _ _ 240 h (fun x hx => by have := h1.2 x hx; omega) 0 (fun p hp => by cases hp) p hp
        have h3 : (cutL 10 s).length * (240 + 1) ≤ 241 * 241 := Nat.mul_le_mul (by omega) (by omega)
        omega

theorem parts_same (w : World) (a b : Option Addr) (n c d : Nat) (P : List Pt) (hl : SlP w a n c P) (hr : SlP w b n d P) (hn : n ≤ 100000) (hP : ∀ p ∈ P, p.2.length ≤ 100000) :
    Calls Tryd.prog 15 #[.slice a n c, .slice b n d] w fun e w' => e = .returned (.bool true) ∧ Keeps (fun _ => False) w w' := by
  have h := parts15 w a b n n c d P P hl hr hn hP
  have e : decide (P = P) = true := decide_eq_true rfl
  rw [e] at h
  exact h

set_option maxHeartbeats 8000000 in
theorem partsL (w : World) (hT : Lib.Utf8Tabs 0 1 w) (s : ByteArray) (hs : s.size ≤ 140737488355328) (t : ByteArray) (ht : t.size ≤ 140737488355328) :
    Calls Tryd.prog 5 #[.string s, .string t] w fun e w' => e = .returned (.bool true) ∧ Keeps (fun _ => False) w w' := by
  have hwk := Hid.mk' (fun W (hW : Keeps (fun _ => False) w W) => wakes9 W (Tabs.keep hT hW))
  by_cases hbig : 238 < s.size + t.size
  · have g1 : (238 : Int) < (s.size : Int) + (t.size : Int) := by omega
    clear hbig
    go_enter Tryd.func5, Tryd.ntmps5
    go_wp2_with (go_at_call 9; refine (hwk.out _ (Keeps.refl _ _)).mono ?_; rintro e w1 ⟨rfl, k1⟩)
    go_ret
    exact ⟨rfl, k1⟩
  · have g1 : ¬ (238 : Int) < (s.size : Int) + (t.size : Int) := by omega
    obtain ⟨E, hE⟩ : ∃ E : ByteArray, E = ⟨#[10, 10]⟩ := ⟨_, rfl⟩
    have hd : (s ++ E ++ t).data.toList = s.data.toList ++ 10 :: 10 :: t.data.toList := by
      rw [hE, ByteArray.data_append, ByteArray.data_append, Array.toList_append, Array.toList_append]
      simp
    have hEs : E.size = 2 := by rw [hE]; rfl
    have h2 := parse_two s.data.toList t.data.toList (by rw [sz_len, sz_len]; omega)
    rw [← hd] at h2
    have hp1 := Hid.mk' (fun W (hW : Keeps (fun _ => False) w W) => pparse10 W (Tabs.keep hT hW) s)
    have hp2 := Hid.mk' (fun W (hW : Keeps (fun _ => False) w W) => pparse10 W (Tabs.keep hT hW) t)
    have hp3 := Hid.mk' (fun W (hW : Keeps (fun _ => False) w W) => pparse10 W (Tabs.keep hT hW) (s ++ E ++ t))
    have hl1 := parseL_len s.data.toList (by rw [sz_len]; omega)
    have hl2 := parseL_len t.data.toList (by rw [sz_len]; omega)
    have hw3 := parseL_words (s ++ E ++ t).data.toList (by rw [hd]; simp [sz_len]; omega)
    have hl3 := parseL_len (s ++ E ++ t).data.toList (by rw [hd]; simp [sz_len]; omega)
    obtain ⟨P1, e1, h1⟩ : ∃ P e, parseL s.data.toList = (P, e) := ⟨_, _, rfl⟩
    obtain ⟨P2, e2, h2'⟩ : ∃ P e, parseL t.data.toList = (P, e) := ⟨_, _, rfl⟩
    rw [h1, h2'] at h2
    rw [h1] at hp1 hl1
    rw [h2'] at hp2 hl2
    have hbs : s.size + t.size + 2 ≤ 240 := by omega
    have hbt : s.size ≤ 240 := by omega
    have hbu : t.size ≤ 240 := by omega
    simp only at hl1 hl2 h2
    clear hd h1 h2' hbig
    by_cases hee : e1 = 0 ∧ e2 = 0
    · obtain ⟨rfl, rfl⟩ := hee
      rw [if_pos ⟨rfl, rfl⟩] at h2
      rw [h2] at hp3 hw3 hl3
      simp only at hw3 hl3
      obtain ⟨n3, hn3⟩ : ∃ n3, (P1 ++ P2).length = n3 := ⟨_, rfl⟩
      have HN3 := Hid.mk' hn3
      have hl3' : n3 ≤ 100000 := by omega
      clear hn3 hl3
      have HW3 := Hid.mk' hw3
      clear h2 hw3
      go_enter Tryd.func5, Tryd.ntmps5
      rw [← hE]
      clear hE
      go_wp2_with (first
        | (have hh := y8; clear y8; go_at_call 9; refine (hwk.out _ K7.out).mono ?_; rintro e w8 ⟨rfl, k8⟩)
        | (have hh := y7; clear y7; go_at_call 15; refine (parts_same _ a3 a6 _ c3 c6 _ s36 s6 hl3' (fun p hp => by have := HW3.out p hp; omega)).mono ?_; rintro e w7 ⟨rfl, k7⟩; have K7 : Hid (Keeps (fun _ => False) w w7) := K6.out.trans k7; have y8 : Hid True := trivial)
        | (have hh := y6; clear y6; refine unguard rfl ?_; refine wpList_appPs rfl _ _ rfl w3.heap.size _ _ rfl o5 _ _ l2 rfl (p2.keep k35) n2.one (by simp; have := m1.len; have := m2.len; omega) (by have := k35.size; omega) ?_; intro v6 w6 o6 k6'; have k36 : Keeps (fun _ => False) w3 w6 := k35.trans' k6' (fun k e => .inr (o5.from e).1); have K6 : Hid (Keeps (fun _ => False) w w6) := (K3.out).trans k36; obtain ⟨a6, c6, e6, s6, _, _⟩ := o6.sl ((n1.app n2).keep k36); rw [HN3.out] at e6 s6; obtain rfl : v6 = .slice a6 n3 c6 := e6; have s36 := s3.keep k36; have y7 : Hid True := trivial)
        | (have hh := y5; clear y5; refine unguard rfl ?_; refine wpList_appPs rfl _ _ rfl w3.heap.size _ _ rfl o4 _ _ l1 rfl (p1.keep k4) n1.one (by simp; have := m1.len; omega) (by have := k4.size; omega) ?_; intro v5 w5 o5 k5'; have k35 : Keeps (fun _ => False) w3 w5 := k4.trans' k5' (fun k e => .inr (o4.from e).1); have y6 : Hid True := trivial)
        | (have hh := y4; clear y4; refine unguard rfl ?_; refine wpList_build0P rfl rfl ?_; intro g4 w4 o4 z4 k4; have y5 : Hid True := trivial)
        | (have hh := y3; clear y3; go_at_call 10; refine (hp3.out _ (k1.trans k2)).mono ?_; rintro e w3 ⟨⟨v3, rfl, l3, o3, m3⟩, k3⟩; obtain ⟨a3, c3, e3, s3, _, _⟩ := o3.sl m3; rw [HN3.out] at e3 s3; obtain rfl : v3 = .slice a3 n3 c3 := e3; have K3 : Hid (Keeps (fun _ => False) w w3) := (k1.trans k2).trans k3; have p1 := (o1.keep k2).keep k3; have n1 := (m1.keep k2).keep k3; have p2 := o2.keep k3; have n2 := m2.keep k3; have y4 : Hid True := trivial)
        | (have hh := y2; clear y2; go_at_call 10; refine (hp2.out _ k1).mono ?_; rintro e w2 ⟨⟨v2, rfl, l2, o2, m2⟩, k2⟩; have y3 : Hid True := trivial)
        | (go_at_call 10; refine (hp1.out _ (Keeps.refl _ _)).mono ?_; rintro e w1 ⟨⟨v1, rfl, l1, o1, m1⟩, k1⟩; have y2 : Hid True := trivial))
      go_ret
      exact ⟨rfl, K7.out.trans k8⟩
    · rw [if_neg hee] at h2
      rw [h2] at hp3
      clear h2 hw3 hl3 hl1 hl2
      by_cases h0 : e1 = 0
      · subst h0
        have t2 : (e2 != (0 : Int)) = true := by simp; exact fun h => hee ⟨rfl, h⟩
        clear hee
        go_enter Tryd.func5, Tryd.ntmps5
        rw [← hE]
        clear hE
        go_wp2_with (first
          | (have hh := y4; clear y4; go_at_call 9; refine (hwk.out _ ((k1.trans k2).trans k3)).mono ?_; rintro e w4 ⟨rfl, k4⟩)
          | (have hh := y3; clear y3; go_at_call 10; refine (hp3.out _ (k1.trans k2)).mono ?_; rintro e w3 ⟨⟨v3, rfl, l3, o3, m3⟩, k3⟩; obtain ⟨a3, c3, e3, s3, _, _⟩ := o3.sl m3; obtain rfl : v3 = .slice a3 0 c3 := e3; have y4 : Hid True := trivial)
          | (have hh := y2; clear y2; go_at_call 10; refine (hp2.out _ k1).mono ?_; rintro e w2 ⟨⟨v2, rfl, l2, o2, m2⟩, k2⟩; have y3 : Hid True := trivial)
          | (go_at_call 10; refine (hp1.out _ (Keeps.refl _ _)).mono ?_; rintro e w1 ⟨⟨v1, rfl, l1, o1, m1⟩, k1⟩; have y2 : Hid True := trivial))
        go_ret
        exact ⟨rfl, ((k1.trans k2).trans k3).trans k4⟩
      · have t1 : (e1 != (0 : Int)) = true := by simp [h0]
        clear hee h0
        go_enter Tryd.func5, Tryd.ntmps5
        rw [← hE]
        clear hE
        go_wp2_with (first
          | (have hh := y4; clear y4; go_at_call 9; refine (hwk.out _ ((k1.trans k2).trans k3)).mono ?_; rintro e w4 ⟨rfl, k4⟩)
          | (have hh := y3; clear y3; go_at_call 10; refine (hp3.out _ (k1.trans k2)).mono ?_; rintro e w3 ⟨⟨v3, rfl, l3, o3, m3⟩, k3⟩; obtain ⟨a3, c3, e3, s3, _, _⟩ := o3.sl m3; obtain rfl : v3 = .slice a3 0 c3 := e3; have y4 : Hid True := trivial)
          | (have hh := y2; clear y2; go_at_call 10; refine (hp2.out _ k1).mono ?_; rintro e w2 ⟨⟨v2, rfl, l2, o2, m2⟩, k2⟩; have y3 : Hid True := trivial)
          | (go_at_call 10; refine (hp1.out _ (Keeps.refl _ _)).mono ?_; rintro e w1 ⟨⟨v1, rfl, l1, o1, m1⟩, k1⟩; have y2 : Hid True := trivial))
        go_ret
        exact ⟨rfl, ((k1.trans k2).trans k3).trans k4⟩
end

end Go.Proofs.YtkcnnkakpkdhkaaDoor
