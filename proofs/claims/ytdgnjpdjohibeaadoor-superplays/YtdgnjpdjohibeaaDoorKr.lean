/-
  read of the program: the walk.
-/
import Derived.Test.YtdgnjpdjohibeaaDoorKe
import Derived.Test.YtdgnjpdjohibeaaDoorXm
set_option linter.all false
set_option maxRecDepth 100000
namespace Go.Proofs.YtdgnjpdjohibeaaDoor
open Go.RowKit Go.Sort Go.Shelf

theorem or_u32 (a b k : Nat) (hb : b < 2 ^ k) (h : 2 ^ k * a + b < 4294967296) : bits .or .u32 ((2 ^ k * a : Nat) : Int) (b : Int) = ((2 ^ k * a + b : Nat) : Int) := by
  show IntKind.u32.wrap ((BitVec.ofInt 32 ((2 ^ k * a : Nat) : Int) ||| BitVec.ofInt 32 (b : Int)).toNat : Int) = _
  rw [BitVec.ofInt_natCast, BitVec.ofInt_natCast, BitVec.toNat_or, BitVec.toNat_ofNat, BitVec.toNat_ofNat, Nat.mod_eq_of_lt (by omega), Nat.mod_eq_of_lt (by omega), ← Nat.two_pow_add_eq_or_of_lt hb]
  rw [IntKind.wrap_u32']
  omega
theorem or_gen (y1 y2 y3 y4 : B) : bits .or .u32 (bits .or .u32 (bits .or .u32 (nb y1 * 16777216) (nb y2 * 65536)) (nb y3 * 256)) (nb y4) = ((y1.toNat * 16777216 + y2.toNat * 65536 + y3.toNat * 256 + y4.toNat : Nat) : Int) := by
  have h1 := y1.isLt
  have h2 := y2.isLt
  have h3 := y3.isLt
  have h4 := y4.isLt
  unfold nb
  rw [show (y1.toNat : Int) * 16777216 = ((2 ^ 24 * y1.toNat : Nat) : Int) by omega, show (y2.toNat : Int) * 65536 = ((y2.toNat * 65536 : Nat) : Int) by omega, or_u32 _ _ 24 (by omega) (by omega)]
  rw [show ((2 ^ 24 * y1.toNat + y2.toNat * 65536 : Nat) : Int) = ((2 ^ 16 * (256 * y1.toNat + y2.toNat) : Nat) : Int) by omega, show (y3.toNat : Int) * 256 = ((y3.toNat * 256 : Nat) : Int) by omega, or_u32 _ _ 16 (by omega) (by omega)]
  rw [show ((2 ^ 16 * (256 * y1.toNat + y2.toNat) + y3.toNat * 256 : Nat) : Int) = ((2 ^ 8 * (65536 * y1.toNat + 256 * y2.toNat + y3.toNat) : Nat) : Int) by omega, or_u32 _ _ 8 (by omega) (by omega)]
  omega

set_option maxHeartbeats 4000000 in
theorem read35 (w : World) (L : List B) (hL : L.length = 128) {s : Su} (hS : Hid (srd L = s)) :
    Calls Tryd.prog 35 #[.agg (brow L)] w fun e w' => e = .returned (.agg s.cells) ∧ Keeps (fun _ => False) w w' := by
  have hs : s.Ok := by rw [← hS.out]; exact srd_ok hL
  go_enter Tryd.func35, Tryd.ntmps35
  have T0 : Hid True := trivial
  go_wp2_with (first
    | (have := T0; refine wpList_box26 rfl _ rfl L hL rfl ?_; intro g1 w1 b1 z1 k1; clear T0; have T1 : Hid True := trivial)
    | (have := T1; refine wpList_allocS rfl rfl ?_; intro g2 w2 c2 z2 k2; have b2 := b1.keep k2; clear T1))
  have cl : ∀ j, j < 128 → ∀ d os, (grow (redrawn w1 d) os).cell? ⟨g1, j, none⟩ = some (.int .u8 (nb (L.getD j 0))) := fun j hj d os => (b1.cls ⟨⟨d, os⟩, rfl⟩).cell hj
  have c1 := cl 1 (by omega)
  have c2' := cl 2 (by omega)
  have c3 := cl 3 (by omega)
  have c4 := cl 4 (by omega)
  have c5 := cl 5 (by omega)
  have c6 := cl 6 (by omega)
  have m1 : ∀ w', (∃ p : Regrown, w' = grow (redrawn w1 p.d) p.os) → w'.rangeAt g1 7 (brow ((L.drop 7).take 32)).toList := fun w' h => (b1.cls h).mid 7 32 (by omega)
  have m2 : ∀ w', (∃ p : Regrown, w' = grow (redrawn w1 p.d) p.os) → w'.rangeAt g1 39 (brow ((L.drop 39).take 16)).toList := fun w' h => (b1.cls h).mid 39 16 (by omega)
  have e0 : (L.drop 7).take 32 = s.log := by rw [← hS.out]; rfl
  have e1 : (L.drop 39).take 16 = s.used := by rw [← hS.out]; rfl
  have e5 : nb (L.getD 5 0) = s.blocks := by rw [← hS.out]; rfl
  have e6 : nb (L.getD 6 0) = s.root := by rw [← hS.out]; rfl
  have eg : ((L.getD 1 0).toNat * 16777216 + (L.getD 2 0).toNat * 65536 + (L.getD 3 0).toNat * 256 + (L.getD 4 0).toNat) = s.gen := by rw [← hS.out]; rfl
  have K2 := k1.trans k2
  rw [e5] at c5
  rw [e6] at c6
  rw [e0] at m1
  rw [e1] at m2
  generalize L.getD 1 0 = y1 at *
  generalize L.getD 2 0 = y2 at *
  generalize L.getD 3 0 = y3 at *
  generalize L.getD 4 0 = y4 at *
  have lg := hs.log
  have lu := hs.used
  have t24 : Hid (RowTy 24 s.log.length) := by show RowTy _ _; rw [lg]; exact rowTy24
  have t26 : Hid (RowTy 26 s.used.length) := by show RowTy _ _; rw [lu]; exact rowTy26
  have hn1 := nb_lt y1
  have hn2 := nb_lt y2
  have hn3 := nb_lt y3
  have hn4 := nb_lt y4
  have hbl := hs.blocks
  have hrt := hs.root
  have HG : Hid (bits .or .u32 (bits .or .u32 (bits .or .u32 (nb y1 * 16777216) (nb y2 * 65536)) (nb y3 * 256)) (nb y4) = (s.gen : Int)) := by show _ = _; rw [or_gen, eg]
  clear cl e0 e1 e5 e6 eg lg lu b1
  refine region_planX (S := fun w' => ∃ p : Regrown, w' = grow (redrawn w1 p.d) p.os) [((0 :: 1 :: 2 :: 3 :: 4 :: 5 :: 6 :: 7 :: 8 :: 9 :: 10 :: 11 :: 12 :: 13 :: 14 :: 15 :: 16 :: 17 :: 18 :: 19 :: 20 :: 21 :: 22 :: 23 :: 24 :: 25 :: 26 :: 27 :: 28 :: 29 :: 30 :: 31 :: 32 :: 33 :: 34 :: []), 35)] [] (by kernel_rfl) (by kernel_rfl) (by kernel_rfl) (by kernel_rfl) (cls_keeps (k2.drew)) ?_
  simp only [wpPlan, opsAt, pick]
  repeat (first
    | (go_big_quiet_want; refine quiet_arr24 _ rfl _ _ rfl ?_; simp only [Act.put, List.setIfInBounds_toArray, List.set_cons_zero, List.set_cons_succ]; go_big_quiet_on)
    | (go_big_quiet_want; refine quiet_arr26 _ rfl _ _ rfl ?_; simp only [Act.put, List.setIfInBounds_toArray, List.set_cons_zero, List.set_cons_succ]; go_big_quiet_on)
    | (go_big_quiet_want; refine quiet_loadM 24 _ rfl g1 7 rfl s.log m1 t24.out ?_; simp only [Act.put, List.setIfInBounds_toArray, List.set_cons_zero, List.set_cons_succ]; go_big_quiet_on)
    | (go_big_quiet_want; refine quiet_loadM 26 _ rfl g1 39 rfl s.used m2 t26.out ?_; simp only [Act.put, List.setIfInBounds_toArray, List.set_cons_zero, List.set_cons_succ]; go_big_quiet_on)
    | (go_big_quiet_want; refine quiet_build28 _ _ _ _ _ rfl s hs (congrArg (Value.int .u32) HG.out) rfl rfl rfl rfl ?_; simp only [Act.put, List.setIfInBounds_toArray, List.set_cons_zero, List.set_cons_succ]; go_big_quiet_on)
    | go_big_quiet_step (fail))
  refine wpQuiet_nil ?_
  have kd : Keeps (fun _ => False) w2 w2.drew := (Keeps.refl _ _).drew
  go_wp2_with (refine wpList_storeS rfl _ _ rfl g2 rfl s hs rfl su0 su0_ok (RoAt.keep c2 kd) ?_; intro w3 r3 k3)
  have K3 : Keeps (fun _ => False) w w3 := (K2.trans kd).trans' k3 (fun i e => .inr (by have := k1.size; omega))
  refine ⟨cls_keeps ((k2.trans kd).trans' k3 (fun i e => .inr (by omega))), ?_⟩
  simp only [wpPlan, opsAt, pick]
  refine wpQuiet_nil ?_
  refine NoPanic.normal ?_
  go_wp2
  refine bodyPost_ret (v := .agg s.cells) (results_ro rfl _ _ g2 s.cells rfl r3 hs.ty) rfl ⟨rfl, K3⟩
end Go.Proofs.YtdgnjpdjohibeaaDoor
