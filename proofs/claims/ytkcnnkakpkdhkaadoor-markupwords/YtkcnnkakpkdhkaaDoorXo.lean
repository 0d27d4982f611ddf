/-
  The program's Parse.
-/
import Derived.Test.YtkcnnkakpkdhkaaDoorXn
set_option linter.all false
set_option maxRecDepth 100000
namespace Go.Proofs.YtkcnnkakpkdhkaaDoor
open Go.RowKit Go.Sort Go.Shelf
attribute [local go_sem] Oper.semAt_some

theorem load_set_other {w : World} {g k : Nat} {t : TypeId} {v : Value} (h : Ce w g t v) (hk : k ≠ g) (u : Value) : (w.setCell ⟨k, 0, none⟩ u).cell? ⟨g, 0, none⟩ = some v ∧ (w.setCell ⟨k, 0, none⟩ u).frozen? ⟨g, 0, none⟩ = false := ⟨(h.set_other hk u).cell, (h.set_other hk u).live⟩

set_option maxHeartbeats 4000000 in
theorem pparse_large (w : World) (s : ByteArray) (hs : 240 < s.size) :
    Calls Tryd.prog 10 #[.string s] w fun e w' => e = .returned (.tuple #[.slice none 0 0, .int .i64 16]) ∧ Keeps (fun _ => False) w w' := by
  have g1 : (240 : Int) < (s.size : Int) := by omega
  refine (callsIn_wide (n := 9)).1 ?_
  refine callsIn_of_wp_marks Tryd.func10 rfl trivial ?_ rfl
  simp only [Tryd.ntmps10, List.size_toArray, List.length_cons, List.length_nil, Nat.reduceAdd, Nat.reduceSub, Array.replicate_succ, Array.replicate_zero, List.push_toArray, List.append_toArray, List.nil_append, List.cons_append]
  gi_wp2_with (first
    | (have hh := y1; clear y1; refine wpListIn_allocC 25 (.int .i64 0) zeroE25 rfl rfl rfl ?_; intro ge w2 c2 z2 k2; have cr := c1.keep k2; have qr := cr.cell; have fr := cr.live; have hne : gr ≠ ge := (by have := c1.lt; omega); have qe := (fun u => (load_set_other c2 hne u).1); have fe := (fun u => (load_set_other c2 hne u).2))
    | (refine wpListIn_allocC 22 (.slice none 0 0) zeroP22 rfl rfl rfl ?_; intro gr w1 c1 z1 k1; have y1 : Hid True := trivial))
  have kk : Keeps (fun _ => False) w ((w2.setCell ⟨gr, 0, none⟩ (.slice none 0 0)).setCell ⟨ge, 0, none⟩ (.int .i64 16)) := ((k1.trans k2).setCell (p := ⟨gr, 0, none⟩) (.inr z1) _).setCell (p := ⟨ge, 0, none⟩) (.inr (by have := k1.size; show w.heap.size ≤ ge; omega)) _
  exact ⟨_, results_cc rfl Tryd.isAgg22 Tryd.isAgg25 _ _ gr ge _ _ rfl rfl ((cr.set _).set_other (Ne.symm hne) _) ((c2.set_other hne _).set _), rfl, kk⟩

set_option maxHeartbeats 4000000 in
theorem pparse_bad (w : World) (hT : Lib.Utf8Tabs 0 1 w) (s : ByteArray) (hs : s.size ≤ 240) (hp : pln true s.data.toList = false) :
    Calls Tryd.prog 10 #[.string s] w fun e w' => e = .returned (.tuple #[.slice none 0 0, .int .i64 15]) ∧ Keeps (fun _ => False) w w' := by
  have g1 : ¬ (240 : Int) < (s.size : Int) := by omega
  have hval := fun W (hW : Lib.Utf8Tabs 0 1 W) => valid11 W hW s (by omega)
  cases hv : vd s.data.toList with
  | false =>
    rw [hv] at hval
    clear hp hv
    refine (callsIn_wide (n := 9)).1 ?_
    refine callsIn_of_wp_marks Tryd.func10 rfl trivial ?_ rfl
    simp only [Tryd.ntmps10, List.size_toArray, List.length_cons, List.length_nil, Nat.reduceAdd, Nat.reduceSub, Array.replicate_succ, Array.replicate_zero, List.push_toArray, List.append_toArray, List.nil_append, List.cons_append]
    gi_wp2_with (first
      | (have hh := y2; clear y2; refine ⟨trivial, ?_⟩; gi_at_call 22; refine (callsIn_wide.2 (hval _ (Tabs.keep (Tabs.keep hT k1) k2))).mono ?_; rintro e w3 ⟨rfl, k3⟩; have c3 := c2.keep k3; have cr := (c1.keep k2).keep k3; have qr := cr.cell; have fr := cr.live; have hne : gr ≠ ge := (by have := c1.lt; omega); have qe := (fun u => (load_set_other c3 hne u).1); have fe := (fun u => (load_set_other c3 hne u).2))
      | (have hh := y1; clear y1; refine wpListIn_allocC 25 (.int .i64 0) zeroE25 rfl rfl rfl ?_; intro ge w2 c2 z2 k2; have y2 : Hid True := trivial)
      | (refine wpListIn_allocC 22 (.slice none 0 0) zeroP22 rfl rfl rfl ?_; intro gr w1 c1 z1 k1; have y1 : Hid True := trivial))
    refine ⟨trivial, ?_⟩
    gi_wp2
    have kk : Keeps (fun _ => False) w ((w3.setCell ⟨gr, 0, none⟩ (.slice none 0 0)).setCell ⟨ge, 0, none⟩ (.int .i64 15)) := (((k1.trans k2).trans k3).setCell (p := ⟨gr, 0, none⟩) (.inr z1) _).setCell (p := ⟨ge, 0, none⟩) (.inr (by have := k1.size; show w.heap.size ≤ ge; omega)) _
    exact ⟨_, results_cc rfl Tryd.isAgg22 Tryd.isAgg25 _ _ gr ge _ _ rfl rfl ((cr.set _).set_other (Ne.symm hne) _) ((c3.set_other hne _).set _), rfl, kk⟩
  | true =>
    have hstr := fun W => contains_strg W s hv
    rw [hp] at hstr
    rw [hv] at hval
    clear hp hv
    refine (callsIn_wide (n := 9)).1 ?_
    refine callsIn_of_wp_marks Tryd.func10 rfl trivial ?_ rfl
    simp only [Tryd.ntmps10, List.size_toArray, List.length_cons, List.length_nil, Nat.reduceAdd, Nat.reduceSub, Array.replicate_succ, Array.replicate_zero, List.push_toArray, List.append_toArray, List.nil_append, List.cons_append]
    gi_wp2_with (first
      | (have hh := y3; clear y3; refine ⟨trivial, ?_⟩; gi_at_call 23; refine (callsIn_wide.2 (hstr _)).mono ?_; rintro e w4 ⟨rfl, k4⟩; have c4 := (c2.keep k3).keep k4; have cr := ((c1.keep k2).keep k3).keep k4; have qr := cr.cell; have fr := cr.live; have hne : gr ≠ ge := (by have := c1.lt; omega); have qe := (fun u => (load_set_other c4 hne u).1); have fe := (fun u => (load_set_other c4 hne u).2))
      | (have hh := y2; clear y2; refine ⟨trivial, ?_⟩; gi_at_call 22; refine (callsIn_wide.2 (hval _ (Tabs.keep (Tabs.keep hT k1) k2))).mono ?_; rintro e w3 ⟨rfl, k3⟩; have y3 : Hid True := trivial)
      | (have hh := y1; clear y1; refine wpListIn_allocC 25 (.int .i64 0) zeroE25 rfl rfl rfl ?_; intro ge w2 c2 z2 k2; have y2 : Hid True := trivial)
      | (refine wpListIn_allocC 22 (.slice none 0 0) zeroP22 rfl rfl rfl ?_; intro gr w1 c1 z1 k1; have y1 : Hid True := trivial))
    have kk : Keeps (fun _ => False) w ((w4.setCell ⟨gr, 0, none⟩ (.slice none 0 0)).setCell ⟨ge, 0, none⟩ (.int .i64 15)) := ((((k1.trans k2).trans k3).trans k4).setCell (p := ⟨gr, 0, none⟩) (.inr z1) _).setCell (p := ⟨ge, 0, none⟩) (.inr (by have := k1.size; show w.heap.size ≤ ge; omega)) _
    exact ⟨_, results_cc rfl Tryd.isAgg22 Tryd.isAgg25 _ _ gr ge _ _ rfl rfl ((cr.set _).set_other (Ne.symm hne) _) ((c4.set_other hne _).set _), rfl, kk⟩

/-- The program's Parse. -/
theorem pparse10 (w : World) (hT : Lib.Utf8Tabs 0 1 w) (s : ByteArray) :
    Calls Tryd.prog 10 #[.string s] w fun e w' => (∃ v, e = .returned (.tuple #[v, .int .i64 (parseL s.data.toList).2]) ∧ ∃ l, OwnP w' w.heap.size v l ∧ AllW w' l (parseL s.data.toList).1) ∧ Keeps (fun _ => False) w w' := by
  by_cases h1 : s.size ≤ 240
  · cases hp : pln true s.data.toList with
    | true => exact pparse_core w hT s h1 hp
    | false =>
      have hR : parseL s.data.toList = ([], 15) := by unfold parseL; rw [if_neg (by rw [sz_len]; omega), if_pos hp]
      rw [hR]
      refine (pparse_bad w hT s h1 hp).mono ?_
      rintro e w' ⟨rfl, k⟩
      exact ⟨⟨_, rfl, [], OwnP.nil _ _, AllW.nil _⟩, k⟩
  · have hR : parseL s.data.toList = ([], 16) := by unfold parseL; rw [if_pos (by rw [sz_len]; omega)]
    rw [hR]
    refine (pparse_large w s (by omega)).mono ?_
    rintro e w' ⟨rfl, k⟩
    exact ⟨⟨_, rfl, [], OwnP.nil _ _, AllW.nil _⟩, k⟩

end Go.Proofs.YtkcnnkakpkdhkaaDoor
