/-
  SuperNone: the walk.
-/
import Derived.Test.YtdgnjpdjohibeaaDoorKx
set_option linter.all false
set_option maxRecDepth 100000
namespace Go.Proofs.YtdgnjpdjohibeaaDoor
open Go.RowKit Go.Sort Go.Shelf

theorem newestN_at (w : World) : Calls Tryd.prog 27 #[.pointer none] w fun e w' => e = .returned (.tuple #[.agg su0.cells, .int .i64 1]) ∧ Keeps (fun _ => False) w w' := newest_nil w
set_option maxHeartbeats 4000000 in
theorem noneL (w : World) (hT : Tabs w) (s : Su) (hs : s.Ok) :
    Calls Tryd.prog 6 #[.agg s.cells] w fun e w' => e = .returned (.bool true) ∧ Keeps (fun _ => False) w w' := by
  have q0 := eqS su0_ok su0_ok (v := true) (decide_eq_true rfl)
  have T0 : Hid True := trivial
  have h0 : su0.Ok := su0_ok
  have N0 : Hid (∀ w, Calls Tryd.prog 27 #[.pointer none] w fun e w' => e = .returned (.tuple #[.agg su0.cells, .int .i64 1]) ∧ Keeps (fun _ => False) w w') := newestN_at
  have B0 : Hid (∀ {ops : Array Oper} {rest : List Oper} {o : Oper} {a : Act} {w : World} {Q : Exit → Act → World → Prop}, o.guard = none → o.op = .build 28 #[] → wpList Tryd.prog ops Q rest (a.put o.dst (.agg su0.cells)) w → wpList Tryd.prog ops Q (o :: rest) a w) := fun a b c => wpList_buildS0 a b c
  have A0 : Hid (∀ {ops : Array Oper} {rest : List Oper} {o : Oper} {a : Act} {w : World} {Q : Exit → Act → World → Prop}, o.guard = none → o.op = .alloc 28 → (∀ g w', SuAt w' g su0 → w.heap.size ≤ g → Keeps (fun _ => False) w w' → wpList Tryd.prog ops Q rest (a.put o.dst (.pointer (some ⟨g, 0, none⟩))) w') → wpList Tryd.prog ops Q (o :: rest) a w) := fun a b c => wpList_allocS a b c
  generalize su0 = z at *
  go_enter Tryd.func6, Tryd.ntmps6
  go_wp2_with (first
    | (have := T0; refine boxS_at (.tmp 0) rfl rfl s rfl ?_; intro g1 w1 b1 z1 k1; clear T0; have T1 : Hid True := trivial)
    | (have := T1; go_at_call 27; refine (N0.out _).mono ?_; rintro e w2 ⟨rfl, k2⟩; have b2 := RoAt.keep b1 k2; have K2 := k1.trans k2; clear T1; have T2 : Hid True := trivial)
    | (have := T2; refine A0.out rfl rfl ?_; intro g3 w3 c3 z3 k3; have b3 := RoAt.keep b2 k3; have K3 := K2.trans k3; have z3' : w.heap.size ≤ g3 := (by have := K2.size; omega); have n13 : g1 ≠ g3 := (by have := RoAt.lt b2; omega); clear T2; have T3 : Hid True := trivial)
    | (have := T3; refine wpList_storeS rfl _ _ rfl g3 rfl z h0 rfl z h0 c3 ?_; intro w4 c4 k4; have b4 := RoAt.keeps b3 k4 n13; have K4 : Keeps (fun _ => False) w w4 := K3.trans' k4 (fun i e => .inr (by omega)); clear T3; have T4 : Hid True := trivial)
    | (have := T4; refine wpList_loadS rfl (.tmp 3) rfl g3 rfl z h0 c4 ?_; clear T4; have T5 : Hid True := trivial)
    | (have := T5; refine B0.out rfl rfl ?_; clear T5; have T6 : Hid True := trivial)
    | (have := T6; refine wpList_loadS rfl (.tmp 1) rfl g1 rfl s hs b4 ?_; clear T6; have T7 : Hid True := trivial)
    | (have := T7; go_at_call 20; refine (writeP_nil _ s hs).mono ?_; rintro e w5 ⟨rfl, k5⟩; have K5 := K4.trans k5; clear T7; have T8 : Hid True := trivial)
    | (have := T8; go_at_call 16; refine (wakes16 _ (hT.keeps K5 (fun h => h) (fun h => h))).mono ?_; rintro e w6 ⟨rfl, k6⟩; have K6 := K5.trans k6; clear T8))
  go_ret
  exact ⟨rfl, K6⟩
end Go.Proofs.YtdgnjpdjohibeaaDoor
