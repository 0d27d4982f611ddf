/-
  Parts as lines; may parts be: the program's side.
-/
import Derived.Test.YtkcnnkakpkdhkaaDoorXg
set_option linter.all false
set_option maxRecDepth 100000
namespace Go.Proofs.YtkcnnkakpkdhkaaDoor
open Go.RowKit Go.Sort Go.Shelf
attribute [local go_sem] Oper.semAt_some

theorem wpList_box41 {ops : Array Oper} {rest : List Oper} {o : Oper} {a : Act} {w : World} {Q : Exit → Act → World → Prop} (hgd : o.guard = none) (x : Operand) (ho : o.op = .box 41 x) (k : Int) (ad : Option Addr) (n c : Nat) (hx : a.eval x = .agg #[.int .i64 k, .slice ad n c])
    (h : ∀ g w', PrAt w' g (k, .slice ad n c) → w.heap.size ≤ g → Keeps (fun _ => False) w w' → wpList Tryd.prog ops Q rest (a.put o.dst (.pointer (some ⟨g, 0, none⟩))) w') : wpList Tryd.prog ops Q (o :: rest) a w := by
  refine wpList_plain hgd fun K hK => ?_
  unfold Oper.wp execOp
  simp only [ho, hx, newVar, newRow, Sem.run_bind, Result.andThen_ok, Sem.run_pure]
  exact hK _ _ (h w.heap.size _ ⟨heap_alloc_new w _⟩ (Nat.le_refl _) (keeps_alloc w _))

theorem bs_app (x y : List UInt8) : bs x ++ bs y = bs (x ++ y) := by
  rw [← bs_self (bs x ++ bs y), ByteArray.data_append, Array.toList_append, bs_data, bs_data]
theorem join_len (M : Nat) (sep : List UInt8) : ∀ (ws : List (List UInt8)), (∀ x ∈ ws, x.length ≤ M) → (Lib.join ws sep).length ≤ ws.length * (M + sep.length)
  | [], _ => by rw [Lib.join_nil]; simp
  | [x], h => by rw [Lib.join_one]; have := h x (by simp); simp; omega
  | x :: y :: r, h => by
    rw [join_cons2]
    have h1 := join_len M sep (y :: r) (fun z hz => h z (by simp [hz]))
    have h2 := h x (by simp)
    simp only [List.length_append, List.length_cons] at h1 ⊢
    have e : (r.length + 1 + 1) * (M + sep.length) = (r.length + 1) * (M + sep.length) + (M + sep.length) := by rw [Nat.succ_mul]
    omega

theorem join44 (w : World) (a : Option Addr) (m c : Nat) (ws : List (List UInt8)) (h : SlT w a m c ws) (hm : m ≤ 90000) (hw : ∀ x ∈ ws, x.length ≤ 90000) (e : UInt8) :
    Calls Tryd.prog 44 #[.slice a m c, .string ⟨#[e]⟩] w fun z w' => z = .returned (.string (bs (Lib.join ws [e]))) ∧ Keeps (fun _ => False) w w' := by
  by_cases h0 : m = 0
  · subst h0
    obtain rfl : ws = [] := List.eq_nil_of_length_eq_zero h.len
    refine (Tryd.strings_Join_none a c ⟨#[e]⟩ w).mono ?_
    rintro z w' ⟨rfl, rfl⟩
    exact ⟨by rw [Lib.join_nil]; rfl, Keeps.refl _ _⟩
  · obtain ⟨b, o, rfl, hb, hc⟩ := h.ent (by omega)
    have hl := h.len
    have hM : (ws.map bs).map (·.data.toList) = ws := by
      rw [List.map_map]
      conv => rhs; rw [← List.map_id ws]
      refine List.map_congr_left (fun x _ => ?_)
      show (bs x).data.toList = x
      rw [bs_data]
    have hj := join_len 90000 [e] ws hw
    have hq := Tryd.strings_Join b o c (ws.map bs) ⟨#[e]⟩ w (fun j x hx => by
      rw [List.getElem?_map] at hx
      cases hq : ws[j]? with
      | none => rw [hq] at hx; cases hx
      | some y =>
        rw [hq] at hx
        cases hx
        obtain ⟨b', o', e', hc'⟩ := h.at_ j y hq
        cases e'
        exact hc') hb (by rw [List.length_map, hl]; omega) (by rw [List.length_map, hl]; exact h.cap) (by
      rw [hM]
      refine Nat.le_trans hj ?_
      rw [hl]
      refine Nat.le_trans (Nat.mul_le_mul_right _ hm) ?_
      show 90000 * (90000 + 1) ≤ _
      omega)
    rw [List.length_map, hl, hM] at hq
    refine hq.mono ?_
    rintro z w' ⟨rfl, hk⟩
    exact ⟨rfl, Keeps.ofBelow hk⟩

set_option maxHeartbeats 4000000 in
/-- A part's line. -/
theorem written30 (w : World) (k : Int) (a : Option Addr) (m c : Nat) (ws : List (List UInt8)) (h : SlT w a m c ws) (hm : m ≤ 90000) (hw : ∀ x ∈ ws, x.length ≤ 90000) :
    Calls Tryd.prog 30 #[.agg #[.int .i64 k, .slice a m c]] w fun z w' => z = .returned (.string (bs (lineP (k, ws)))) ∧ Keeps (fun _ => False) w w' := by
  obtain ⟨A, hA⟩ : ∃ A, bs (mk k) = A := ⟨_, rfl⟩
  obtain ⟨B, hB⟩ : ∃ B, bs (Lib.join ws [32]) = B := ⟨_, rfl⟩
  have HR : Hid (bs (lineP (k, ws)) = A ++ B) := by show _ = _; rw [← hA, ← hB, bs_app]; rfl
  have hj := fun W (hW : Keeps (fun _ => False) w W) => join44 W a m c ws (h.keep hW) hm hw 32
  have hk := fun W => mark41 W k
  rw [hA] at hk
  rw [hB] at hj
  obtain ⟨E, hE⟩ : ∃ E : ByteArray, E = ⟨#[32]⟩ := ⟨_, rfl⟩
  rw [← hE] at hj
  have hAB : A.size + B.size ≤ 9223372036854775807 := by
    have h1 := join_len 90000 [32] ws hw
    have h2 : ws.length * (90000 + [(32 : UInt8)].length) ≤ 90000 * 90001 := Nat.mul_le_mul (by rw [h.len]; exact hm) (by simp)
    have h3 : (mk k).length ≤ 3 := by unfold mk; repeat' split
                                      all_goals simp
    rw [← hA, ← hB, bs_size, bs_size]
    omega
  clear hA hB
  go_enter Tryd.func30, Tryd.ntmps30
  rw [← hE]
  clear hE
  go_wp2_with (refine wpList_box41 rfl _ rfl k a m c rfl ?_; intro g w1 r1 z1 k1)
  have c0 : ∀ dd os, (grow (redrawn w1 dd) os).cell? ⟨g, 0, none⟩ = some (.int .i64 k) := fun dd os => cell_keeps (keeps_cls ⟨⟨dd, os⟩, rfl⟩) (by rw [cell_of_row w1 g 0 _ _ _ r1.row]; rfl) (fun h => h)
  have c1 : ∀ dd os, (grow (redrawn w1 dd) os).cell? ⟨g, 1, none⟩ = some (.slice a m c) := fun dd os => cell_keeps (keeps_cls ⟨⟨dd, os⟩, rfl⟩) (by rw [cell_of_row w1 g 1 _ _ _ r1.row]; rfl) (fun h => h)
  refine region_plan (S := fun w' => ∃ q : Regrown, w' = grow (redrawn w1 q.d) q.os) [([0, 1, 3, 4], 2), ([], 5), ([], 6)] [7] (by kernel_rfl) (by kernel_rfl) (by kernel_rfl) (by kernel_rfl) (cls_keeps ((Keeps.refl _ _).drew)) ?_
  have kd : Keeps (fun _ => False) w1 w1.drew := (Keeps.refl _ _).drew
  simp only [wpPlan, opsAt, pick]
  repeat (go_big_quiet_step (fail))
  refine wpQuiet_nil ?_
  go_wp2_with (go_at_call 41; refine (hk _).mono ?_; rintro e w' ⟨rfl, rfl⟩)
  refine ⟨cls_keeps kd, ?_⟩
  simp only [wpPlan, opsAt, pick]
  repeat (go_big_quiet_step (fail))
  refine wpQuiet_nil ?_
  go_wp2_with (go_at_call 44; refine (hj _ (k1.trans kd)).mono ?_; rintro e w3 ⟨rfl, k3⟩)
  have K3 := kd.trans k3
  refine ⟨cls_keeps K3, ?_⟩
  simp only [wpPlan, opsAt, pick]
  repeat (go_big_quiet_step (fail))
  refine wpQuiet_nil ?_
  go_wp2
  refine ⟨cls_keeps K3, ?_⟩
  simp only [wpPlan, opsAt, pick]
  repeat (go_big_quiet_step (fail))
  refine wpQuiet_nil ?_
  refine NoPanic.normal ?_
  go_wp2
  go_ret
  exact ⟨by rw [HR.out]; rfl, k1.trans K3⟩

end Go.Proofs.YtkcnnkakpkdhkaaDoor
