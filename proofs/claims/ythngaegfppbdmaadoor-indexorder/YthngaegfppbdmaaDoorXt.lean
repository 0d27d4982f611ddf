/-
  Pack of the program's index.
-/
import Derived.Test.YthngaegfppbdmaaDoorXs
import Derived.Test.YthngaegfppbdmaaDoorPm
set_option linter.all false
namespace Go.Proofs.YthngaegfppbdmaaDoor
open Go.RowKit Go.Sort Go.Shelf
attribute [local go_sem] Oper.semAt_some

theorem good34_at {l : List En} {v : Bool} (h : ix l = v) (w : World) (a : Option Addr) (n c : Nat) (hl : SlE w a n c l) (hn : n ≤ 9223372036854775806) :
    Calls Tryd.prog 34 #[.slice a n c] w fun e w' => e = .returned (.bool v) ∧ Keeps (fun _ => False) w w' := by
  rw [← h]; exact good34 w a n c l hl hn
theorem size_of {n s : Int} (h : Hid (sz n = s)) (w : World) (h0 : -9223372036854775808 ≤ n) (hn : n ≤ 9223372036854775807) : Calls Tryd.prog 37 #[.int .i64 n] w fun e w' => e = .returned (.int .i64 s) ∧ Keeps (fun _ => False) w w' := by
  rw [← h.out]; exact (size37 w n h0 hn).mono fun e w' ⟨h1, h2⟩ => ⟨h1, by rw [h2]; exact Keeps.refl _ _⟩
theorem SlI.pre {w : World} {a : Option Addr} {n c : Nat} {l : List Int} (h : SlI w a n c l) {k : Nat} (hk : k ≤ n) : SlI w a k c (l.take k) :=
  ⟨by rw [List.length_take, h.len]; omega, by have := h.cap; omega, fun j x hx => by
    rw [List.getElem?_take] at hx
    split at hx
    · exact h.at_ j x hx
    · cases hx⟩
theorem sz_nn (n : Nat) : 0 ≤ sz (n : Int) := by
  unfold sz
  split
  · omega
  · have := Int.tdiv_nonneg (a := (n : Int) - 1) (b := 3) (by omega) (by omega)
    omega

/-- What Pack told, in memory. -/
def PkTold (X : List B) (m : Nat) (v : Int) (e : Ending) (w : World) : Prop := ∃ a c, e = .returned (.tuple #[.slice a m c, .int .i64 v]) ∧ SlB w a (m * 128) (c * 128) X
theorem PkTold.nil (v : Int) (w : World) : PkTold [] 0 v (.returned (.tuple #[.slice none 0 0, .int .i64 v])) w := ⟨none, 0, rfl, SlB.nil w⟩

set_option maxRecDepth 100000 in
set_option maxHeartbeats 2000000 in
theorem pack_no (w : World) (a : Option Addr) (n c : Nat) (l : List En) (hl : SlE w a n c l) (hn : n ≤ 9223372036854775806) (a2 : Option Addr) (n2 c2 : Nat) (hi : ix l = false) :
    Calls Tryd.prog 30 #[.slice a n c, .slice a2 n2 c2] w fun e w' => PkTold [] 0 11 e w' ∧ Keeps (fun _ => False) w w' := by
  go_enter Tryd.func30, Tryd.ntmps30
  go_wp2_with (first
    | (refine wpList_alloc57 rfl rfl ?_; intro g4 w1 v1 z1 k1)
    | (refine wpList_alloc27 rfl rfl ?_; intro g5 w2 u2 z2 k2; have v2 := v1.keep k2; have K2 := k1.trans k2)
    | (go_at_call 34; refine (good34_at hi _ a n c (hl.keep K2) hn).mono ?_; rintro e w3 ⟨rfl, k3⟩; have v3 := v2.keep k3; have u3 := u2.keep k3; have K3 := K2.trans k3)
    | (refine wpList_store57 rfl _ _ rfl g4 rfl _ rfl ⟨_, _, _, rfl⟩ _ v3 ?_; intro w4 v4 k4; have u4 := u3.keeps k4 (by have := v1.lt; omega))
    | (refine wpList_store27 rfl _ _ rfl g5 rfl 11 rfl _ u4 ?_; intro w5 u5 k5; have v5 := v4.keeps k5 (by have := v1.lt; omega)))
  refine bodyPost_ret (v := .tuple #[.slice none 0 0, .int .i64 11]) (results_ke rfl _ _ g4 g5 _ _ rfl rfl v5 u5) rfl ⟨PkTold.nil _ _, ?_⟩
  exact (K3.trans' k4 (fun i e => .inr (by omega))).trans' k5 (fun i e => .inr (by have := k1.size; omega))

set_option maxRecDepth 100000 in
set_option maxHeartbeats 2000000 in
theorem pack_arg (w : World) (a : Option Addr) (n c : Nat) (l : List En) (hl : SlE w a n c l) (hn : n ≤ 9223372036854775806) (a2 : Option Addr) (n2 c2 : Nat) (hi : ix l = true) (hs : ¬ (n2 : Int) = sz (n : Int)) :
    Calls Tryd.prog 30 #[.slice a n c, .slice a2 n2 c2] w fun e w' => PkTold [] 0 1 e w' ∧ Keeps (fun _ => False) w w' := by
  obtain ⟨s, hs'⟩ : ∃ s, sz (n : Int) = s := ⟨_, rfl⟩
  have HS : Hid (sz (n : Int) = s) := hs'
  rw [hs'] at hs
  clear hs'
  go_enter Tryd.func30, Tryd.ntmps30
  go_wp2_with (first
    | (refine wpList_alloc57 rfl rfl ?_; intro g4 w1 v1 z1 k1)
    | (refine wpList_alloc27 rfl rfl ?_; intro g5 w2 u2 z2 k2; have v2 := v1.keep k2; have K2 := k1.trans k2)
    | (go_at_call 34; refine (good34_at hi _ a n c (hl.keep K2) hn).mono ?_; rintro e w3a ⟨rfl, k3a⟩)
    | (go_at_call 37; refine (size_of HS _ (by omega) (by omega)).mono ?_; rintro e w3 ⟨rfl, k3b⟩; have k3 := k3a.trans k3b; have v3 := v2.keep k3; have u3 := u2.keep k3; have K3 := K2.trans k3)
    | (refine wpList_store57 rfl _ _ rfl g4 rfl _ rfl ⟨_, _, _, rfl⟩ _ v3 ?_; intro w4 v4 k4; have u4 := u3.keeps k4 (by have := v1.lt; omega))
    | (refine wpList_store27 rfl _ _ rfl g5 rfl 1 rfl _ u4 ?_; intro w5 u5 k5; have v5 := v4.keeps k5 (by have := v1.lt; omega)))
  refine bodyPost_ret (v := .tuple #[.slice none 0 0, .int .i64 1]) (results_ke rfl _ _ g4 g5 _ _ rfl rfl v5 u5) rfl ⟨PkTold.nil _ _, ?_⟩
  exact (K3.trans' k4 (fun i e => .inr (by omega))).trans' k5 (fun i e => .inr (by have := k1.size; omega))

set_option maxRecDepth 100000 in
set_option maxHeartbeats 2000000 in
theorem pack_nil (w : World) (a : Option Addr) (c : Nat) (l : List En) (hl : SlE w a 0 c l) (a2 : Option Addr) (c2 : Nat) (hi : ix l = true) :
    Calls Tryd.prog 30 #[.slice a 0 c, .slice a2 0 c2] w fun e w' => PkTold [] 0 0 e w' ∧ Keeps (fun _ => False) w w' := by
  have HS : Hid (sz ((0 : Nat) : Int) = 0) := rfl
  go_enter Tryd.func30, Tryd.ntmps30
  go_wp2_with (first
    | (refine wpList_alloc57 rfl rfl ?_; intro g4 w1 v1 z1 k1)
    | (refine wpList_alloc27 rfl rfl ?_; intro g5 w2 u2 z2 k2; have v2 := v1.keep k2; have K2 := k1.trans k2)
    | (go_at_call 34; refine (good34_at hi _ a 0 c (hl.keep K2) (by omega)).mono ?_; rintro e w3a ⟨rfl, k3a⟩)
    | (go_at_call 37; refine (size_of HS _ (by omega) (by omega)).mono ?_; rintro e w3 ⟨rfl, k3b⟩; have k3 := k3a.trans k3b; have v3 := v2.keep k3; have u3 := u2.keep k3; have K3 := K2.trans k3)
    | (refine wpList_store57 rfl _ _ rfl g4 rfl _ rfl ⟨_, _, _, rfl⟩ _ v3 ?_; intro w4 v4 k4; have u4 := u3.keeps k4 (by have := v1.lt; omega))
    | (refine wpList_store27 rfl _ _ rfl g5 rfl 0 rfl _ u4 ?_; intro w5 u5 k5; have v5 := v4.keeps k5 (by have := v1.lt; omega)))
  refine bodyPost_ret (v := .tuple #[.slice none 0 0, .int .i64 0]) (results_ke rfl _ _ g4 g5 _ _ rfl rfl v5 u5) rfl ⟨PkTold.nil _ _, ?_⟩
  exact (K3.trans' k4 (fun i e => .inr (by omega))).trans' k5 (fun i e => .inr (by have := k1.size; omega))

end Go.Proofs.YthngaegfppbdmaaDoor
