
/-
  What the law asks of fixed texts.
-/
import Derived.Test.YtkcnnkakpkdhkaaDoorUe
set_option linter.all false
namespace Go.Proofs.YtkcnnkakpkdhkaaDoor
open Go.RowKit Go.Sort Go.Shelf
attribute [local go_sem] Oper.semAt_some

theorem wpList_bI4 {ops : Array Oper} {rest : List Oper} {o : Oper} {a : Act} {w : World} {Q : Exit → Act → World → Prop} (hgd : o.guard = none) (x0 x1 x2 x3 : Operand) (ho : o.op = .buildSlice 75 4 #[(0, x0), (1, x1), (2, x2), (3, x3)]) (p q r s : Int) (h0 : a.eval x0 = .int .i64 p) (h1 : a.eval x1 = .int .i64 q) (h2 : a.eval x2 = .int .i64 r) (h3 : a.eval x3 = .int .i64 s)
    (h : ∀ g w', SlI w' (some ⟨g, 0, none⟩) 4 4 [p, q, r, s] → w.heap.size ≤ g → Keeps (fun _ => False) w w' → wpList Tryd.prog ops Q rest (a.put o.dst (.slice (some ⟨g, 0, none⟩) 4 4)) w') : wpList Tryd.prog ops Q (o :: rest) a w := by
  refine wpList_plain hgd fun K hK => ?_
  unfold Oper.wp execOp
  simp only [ho, h0, h1, h2, h3, List.map_toArray, List.map_cons, List.map_nil, buildI4, Sem.run_bind, Result.andThen_ok, Sem.run_pure]
  exact hK _ _ (h w.heap.size _ (buildN [p, q, r, s] 4 rfl w _ _ (heap_alloc_new w _)) (Nat.le_refl _) (keeps_alloc w _))
theorem wpList_bI2 {ops : Array Oper} {rest : List Oper} {o : Oper} {a : Act} {w : World} {Q : Exit → Act → World → Prop} (hgd : o.guard = none) (x0 x1 : Operand) (ho : o.op = .buildSlice 75 2 #[(0, x0), (1, x1)]) (p q : Int) (h0 : a.eval x0 = .int .i64 p) (h1 : a.eval x1 = .int .i64 q)
    (h : ∀ g w', SlI w' (some ⟨g, 0, none⟩) 2 2 [p, q] → w.heap.size ≤ g → Keeps (fun _ => False) w w' → wpList Tryd.prog ops Q rest (a.put o.dst (.slice (some ⟨g, 0, none⟩) 2 2)) w') : wpList Tryd.prog ops Q (o :: rest) a w := by
  refine wpList_plain hgd fun K hK => ?_
  unfold Oper.wp execOp
  simp only [ho, h0, h1, List.map_toArray, List.map_cons, List.map_nil, buildI2, Sem.run_bind, Result.andThen_ok, Sem.run_pure]
  exact hK _ _ (h w.heap.size _ (buildN [p, q] 2 rfl w _ _ (heap_alloc_new w _)) (Nat.le_refl _) (keeps_alloc w _))
theorem wpList_bI1 {ops : Array Oper} {rest : List Oper} {o : Oper} {a : Act} {w : World} {Q : Exit → Act → World → Prop} (hgd : o.guard = none) (x0 : Operand) (ho : o.op = .buildSlice 75 1 #[(0, x0)]) (p : Int) (h0 : a.eval x0 = .int .i64 p)
    (h : ∀ g w', SlI w' (some ⟨g, 0, none⟩) 1 1 [p] → w.heap.size ≤ g → Keeps (fun _ => False) w w' → wpList Tryd.prog ops Q rest (a.put o.dst (.slice (some ⟨g, 0, none⟩) 1 1)) w') : wpList Tryd.prog ops Q (o :: rest) a w :=
  wpList_build1I hgd x0 ho p h0 fun g w' hc hz hk => h g w' ⟨rfl, Nat.le_refl _, fun j v hv => ⟨g, 0, rfl, by
    cases j with
    | zero => simp at hv; subst hv; exact hc
    | succ j => simp at hv⟩⟩ hz hk

set_option maxRecDepth 100000 in
theorem fx_s : sg (⟨#[97, 195, 169]⟩ : ByteArray).data.toList = [97, 233] := by decide
set_option maxRecDepth 100000 in
theorem fx_t : bs (txt [97, 233, 8364, 128512]).1 = ⟨#[97, 195, 169, 226, 130, 172, 240, 159, 152, 128]⟩ ∧ (txt [97, 233, 8364, 128512]).2 = 0 := ⟨by rfl, by rfl⟩
set_option maxRecDepth 100000 in
theorem fx_f : bs (txt [55296]).1 = ⟨#[]⟩ ∧ (txt [55296]).2 = 11 := ⟨by rfl, by rfl⟩
set_option maxRecDepth 100000 in
theorem fx_v0 : vd (⟨#[]⟩ : ByteArray).data.toList = true := by decide
set_option maxRecDepth 100000 in
theorem fx_v1 : vd (⟨#[192, 128]⟩ : ByteArray).data.toList = false := by decide
set_option maxRecDepth 100000 in
theorem fx_v2 : vd (⟨#[237, 160, 128]⟩ : ByteArray).data.toList = false := by decide
theorem fx_z : isL 90 = true ∧ isL 95 = false ∧ low 81 = 113 := by decide


theorem fz_s : (⟨#[97, 195, 169]⟩ : ByteArray).size ≤ 100000 := by show 3 ≤ 100000; omega
theorem fz_0 : (⟨#[]⟩ : ByteArray).size ≤ 9223372036854775807 := by show 0 ≤ 9223372036854775807; omega
theorem fz_1 : (⟨#[192, 128]⟩ : ByteArray).size ≤ 9223372036854775807 := by show 2 ≤ 9223372036854775807; omega
theorem fz_2 : (⟨#[237, 160, 128]⟩ : ByteArray).size ≤ 9223372036854775807 := by show 3 ≤ 9223372036854775807; omega
theorem fx_i : Hid (decide (([97, 233] : List Int) = [97, 233]) = true) := by show _ = _; decide
end Go.Proofs.YtkcnnkakpkdhkaaDoor
