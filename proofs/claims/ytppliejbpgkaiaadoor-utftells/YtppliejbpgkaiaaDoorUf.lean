/-
  What the law asks of fixed texts.
-/
import Derived.Test.YtppliejbpgkaiaaDoorUe
set_option linter.all false
namespace Go.Proofs.YtppliejbpgkaiaaDoor
open Go.RowKit Go.Sort Go.Shelf
attribute [local go_sem] Oper.semAt_some

theorem wpList_bI4 {ops : Array Oper} {rest : List Oper} {o : Oper} {a : Act} {w : World} {Q : Exit → Act → World → Prop} (hgd : o.guard = none) (x0 x1 x2 x3 : Operand) (ho : o.op = .buildSlice 22 4 #[(0, x0), (1, x1), (2, x2), (3, x3)]) (p q r s : Int) (h0 : a.eval x0 = .int .i64 p) (h1 : a.eval x1 = .int .i64 q) (h2 : a.eval x2 = .int .i64 r) (h3 : a.eval x3 = .int .i64 s)
    (h : ∀ g w', SlI w' (some ⟨g, 0, none⟩) 4 4 [p, q, r, s] → w.heap.size ≤ g → Keeps (fun _ => False) w w' → wpList Tryd.prog ops Q rest (a.put o.dst (.slice (some ⟨g, 0, none⟩) 4 4)) w') : wpList Tryd.prog ops Q (o :: rest) a w := by
  refine wpList_plain hgd fun K hK => ?_
  unfold Oper.wp execOp
  simp only [ho, h0, h1, h2, h3, List.map_toArray, List.map_cons, List.map_nil, buildI4, Sem.run_bind, Result.andThen_ok, Sem.run_pure]
  exact hK _ _ (h w.heap.size _ (buildN [p, q, r, s] 4 rfl w _ _ (heap_alloc_new w _)) (Nat.le_refl _) (keeps_alloc w _))
theorem wpList_bI2 {ops : Array Oper} {rest : List Oper} {o : Oper} {a : Act} {w : World} {Q : Exit → Act → World → Prop} (hgd : o.guard = none) (x0 x1 : Operand) (ho : o.op = .buildSlice 22 2 #[(0, x0), (1, x1)]) (p q : Int) (h0 : a.eval x0 = .int .i64 p) (h1 : a.eval x1 = .int .i64 q)
    (h : ∀ g w', SlI w' (some ⟨g, 0, none⟩) 2 2 [p, q] → w.heap.size ≤ g → Keeps (fun _ => False) w w' → wpList Tryd.prog ops Q rest (a.put o.dst (.slice (some ⟨g, 0, none⟩) 2 2)) w') : wpList Tryd.prog ops Q (o :: rest) a w := by
  refine wpList_plain hgd fun K hK => ?_
  unfold Oper.wp execOp
  simp only [ho, h0, h1, List.map_toArray, List.map_cons, List.map_nil, buildI2, Sem.run_bind, Result.andThen_ok, Sem.run_pure]
  exact hK _ _ (h w.heap.size _ (buildN [p, q] 2 rfl w _ _ (heap_alloc_new w _)) (Nat.le_refl _) (keeps_alloc w _))
theorem wpList_bI1 {ops : Array Oper} {rest : List Oper} {o : Oper} {a : Act} {w : World} {Q : Exit → Act → World → Prop} (hgd : o.guard = none) (x0 : Operand) (ho : o.op = .buildSlice 22 1 #[(0, x0)]) (p : Int) (h0 : a.eval x0 = .int .i64 p)
    (h : ∀ g w', SlI w' (some ⟨g, 0, none⟩) 1 1 [p] → w.heap.size ≤ g → Keeps (fun _ => False) w w' → wpList Tryd.prog ops Q rest (a.put o.dst (.slice (some ⟨g, 0, none⟩) 1 1)) w') : wpList Tryd.prog ops Q (o :: rest) a w :=
  wpList_build1I hgd x0 ho p h0 fun g w' hc hz hk => h g w' ⟨rfl, Nat.le_refl _, fun j v hv => ⟨g, 0, rfl, by
    cases j with
    | zero => simp at hv; subst hv; exact hc
    | succ j => simp at hv⟩⟩ hz hk

theorem text_at {l : List Int} {X : ByteArray} {V : Int} (h : bs (txt l).1 = X ∧ (txt l).2 = V) (w : World) (a : Option Addr) (n c : Nat) (hl : SlI w a n c l) (hn : n ≤ 100000) :
    Calls Tryd.prog 9 #[.slice a n c] w fun e w' => e = .returned (.tuple #[.string X, .int .i64 V]) ∧ Keeps (fun _ => False) w w' := by
  rw [← h.1, ← h.2]; exact text9 w a n c l hl hn
theorem valid_at {s : ByteArray} {v : Bool} (h : vd s.data.toList = v) (w : World) (hT : Lib.Utf8Tabs 0 1 w) (hs : s.size ≤ 9223372036854775807) :
    Calls Tryd.prog 11 #[.string s] w fun e w' => e = .returned (.bool v) ∧ Keeps (fun _ => False) w w' := by
  rw [← h]; exact valid11 w hT s hs
theorem signs_at {s : ByteArray} {l : List Int} (h : sg s.data.toList = l) (w : World) (hT : Lib.Utf8Tabs 0 1 w) (hs : s.size ≤ 100000) :
    Calls Tryd.prog 13 #[.string s] w fun e w' => (∃ a c, e = .returned (.slice a l.length c) ∧ SlI w' a l.length c l ∧ (∀ b o, a = some ⟨b, o, none⟩ → w.heap.size ≤ b)) ∧ Keeps (fun _ => False) w w' := by
  refine (signs13 w hT s hs).mono ?_
  rintro e w' ⟨⟨v, rfl, o⟩, k⟩
  rw [h] at o
  obtain ⟨a, c, rfl, hs, hb⟩ := o.slice
  exact ⟨⟨a, c, rfl, hs, hb⟩, k⟩

set_option maxRecDepth 100000 in
theorem fx_s : sg (⟨#[97, 195, 169]⟩ : ByteArray).data.toList = [97, 233] := by decide
set_option maxRecDepth 100000 in
theorem fx_t : bs (txt [97, 233, 8364, 128512]).1 = ⟨#[97, 195, 169, 226, 130, 172, 240, 159, 152, 128]⟩ ∧ (txt [97, 233, 8364, 128512]).2 = 0 := ⟨by rfl, by rfl⟩
set_option maxRecDepth 100000 in
theorem fx_f : bs (txt [55296]).1 = ⟨#[]⟩ ∧ (txt [55296]).2 = 11 := ⟨by rfl, by rfl⟩
set_option maxRecDepth 100000 in
theorem fx_v0 : vd (⟨#[]⟩ : ByteArray).data.toList = true := by decide
set_option maxRecDepth 100000 in
theorem fx_v1 : vd (⟨#[192, 128]⟩ : ByteArray).data.toList = false := by decide
set_option maxRecDepth 100000 in
theorem fx_v2 : vd (⟨#[237, 160, 128]⟩ : ByteArray).data.toList = false := by decide
theorem fx_z : isL 90 = true ∧ isL 95 = false ∧ low 81 = 113 := by decide


theorem fz_s : (⟨#[97, 195, 169]⟩ : ByteArray).size ≤ 100000 := by show 3 ≤ 100000; omega
theorem fz_0 : (⟨#[]⟩ : ByteArray).size ≤ 9223372036854775807 := by show 0 ≤ 9223372036854775807; omega
theorem fz_1 : (⟨#[192, 128]⟩ : ByteArray).size ≤ 9223372036854775807 := by show 2 ≤ 9223372036854775807; omega
theorem fz_2 : (⟨#[237, 160, 128]⟩ : ByteArray).size ≤ 9223372036854775807 := by show 3 ≤ 9223372036854775807; omega
theorem valid_0 (w : World) (hT : Lib.Utf8Tabs 0 1 w) : Calls Tryd.prog 11 #[.string ⟨#[]⟩] w fun e w' => e = .returned (.bool true) ∧ Keeps (fun _ => False) w w' := by
  have h := valid11 w hT ⟨#[]⟩ fz_0
  rw [fx_v0] at h
  exact h
theorem valid_1 (w : World) (hT : Lib.Utf8Tabs 0 1 w) : Calls Tryd.prog 11 #[.string ⟨#[192, 128]⟩] w fun e w' => e = .returned (.bool false) ∧ Keeps (fun _ => False) w w' := by
  have h := valid11 w hT ⟨#[192, 128]⟩ fz_1
  rw [fx_v1] at h
  exact h
theorem valid_2 (w : World) (hT : Lib.Utf8Tabs 0 1 w) : Calls Tryd.prog 11 #[.string ⟨#[237, 160, 128]⟩] w fun e w' => e = .returned (.bool false) ∧ Keeps (fun _ => False) w w' := by
  have h := valid11 w hT ⟨#[237, 160, 128]⟩ fz_2
  rw [fx_v2] at h
  exact h
theorem fx_i : Hid (decide (([97, 233] : List Int) = [97, 233]) = true) := by show _ = _; decide
theorem text_t (w : World) (a : Option Addr) (hl : SlI w a 4 4 [97, 233, 8364, 128512]) :
    Calls Tryd.prog 9 #[.slice a 4 4] w fun e w' => e = .returned (.tuple #[.string ⟨#[97, 195, 169, 226, 130, 172, 240, 159, 152, 128]⟩, .int .i64 0]) ∧ Keeps (fun _ => False) w w' := by
  have h := text9 w a 4 4 _ hl (by omega)
  rw [fx_t.1, fx_t.2] at h
  exact h
theorem text_f (w : World) (a : Option Addr) (hl : SlI w a 1 1 [55296]) :
    Calls Tryd.prog 9 #[.slice a 1 1] w fun e w' => e = .returned (.tuple #[.string ⟨#[]⟩, .int .i64 11]) ∧ Keeps (fun _ => False) w w' := by
  have h := text9 w a 1 1 _ hl (by omega)
  rw [fx_f.1, fx_f.2] at h
  exact h

set_option maxRecDepth 100000 in
set_option maxHeartbeats 400000 in
theorem wakes7 (w : World) (hT : Lib.Utf8Tabs 0 1 w) : Calls Tryd.prog 7 #[] w fun e w' => e = .returned (.bool true) ∧ Keeps (fun _ => False) w w' := by
  have hz := fun W => letter16 W 90
  have hu := fun W => letter16 W 95
  have hq := fun W => lower14 W 81 (by omega)
  rw [fx_z.1] at hz
  rw [fx_z.2.1] at hu
  rw [fx_z.2.2] at hq
  go_enter Tryd.func7, Tryd.ntmps7
  go_wp2_with (first
    | (go_at_call 13; refine (signs_at (s := ⟨#[97, 195, 169]⟩) (l := [97, 233]) fx_s _ hT fz_s).mono ?_; rintro e w1 ⟨⟨a1, c1, rfl, s1, hb1⟩, k1⟩)
    | (refine wpList_bI4 rfl _ _ _ _ rfl 97 233 8364 128512 rfl rfl rfl rfl ?_; intro g2 w2 s2 z2 k2; have K2 := k1.trans k2; have s1' := s1.keep k2))
  go_at_call 9
  refine (text_t _ _ s2).mono ?_
  rintro e w3 ⟨rfl, k3⟩
  have K3 := K2.trans k3
  have s3 := s1'.keep k3
  go_wp2_with (refine wpList_bI1 rfl _ rfl 55296 rfl ?_; intro g4 w4 s4 z4 k4; have K4 := K3.trans k4; have s5 := s3.keep k4)
  go_at_call 9
  refine (text_f _ _ s4).mono ?_
  rintro e w5 ⟨rfl, k5⟩
  have K5 := K4.trans k5
  have s6 := s5.keep k5
  go_wp2_with (refine wpList_bI2 rfl _ _ rfl 97 233 rfl rfl ?_; intro g6 w6 s7 z6 k6; have K6 := K5.trans k6; have s8 := s6.keep k6)
  go_wp2_with (go_at_call 12; refine (ints_at fx_i _ _ _ 2 _ 2 2 s8 s7 (by omega)).mono ?_; rintro e w7 ⟨rfl, k7⟩; have K7 := K6.trans k7)
  go_at_call 11
  refine (valid_0 _ (Tabs.keep hT K7)).mono ?_
  rintro e w8 ⟨rfl, k8⟩
  have K8 := K7.trans k8
  go_wp2_with fail
  go_at_call 11
  refine (valid_1 _ (Tabs.keep hT K8)).mono ?_
  rintro e w9 ⟨rfl, k9⟩
  have K9 := K8.trans k9
  go_wp2_with fail
  go_at_call 11
  refine (valid_2 _ (Tabs.keep hT K9)).mono ?_
  rintro e w10 ⟨rfl, k10⟩
  have K10 := K9.trans k10
  go_wp2_with fail
  go_at_call 16
  refine (hz _).mono ?_
  rintro e w' ⟨rfl, rfl⟩
  go_wp2_with fail
  go_at_call 16
  refine (hu _).mono ?_
  rintro e w' ⟨rfl, rfl⟩
  go_wp2_with fail
  go_at_call 14
  refine (hq _).mono ?_
  rintro e w' ⟨rfl, rfl⟩
  go_wp2_with fail
  go_ret
  exact ⟨rfl, K10⟩

end Go.Proofs.YtppliejbpgkaiaaDoor
