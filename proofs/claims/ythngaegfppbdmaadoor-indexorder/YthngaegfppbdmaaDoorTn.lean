/-
  LeafTurns: the walk.
-/
import Derived.Test.YthngaegfppbdmaaDoorPm
set_option linter.all false
namespace Go.Proofs.YthngaegfppbdmaaDoor
open Go.RowKit Go.Sort

theorem one_shl (k : Nat) (hk : k < 8) : (2 : Int) ^ k % 256 = nb (1#8 <<< k) := by
  have : ∀ k : Fin 8, (2 : Int) ^ k.val % 256 = ((1#8 <<< k.val : BitVec 8).toNat : Int) := by decide +kernel
  exact this ⟨k, hk⟩
theorem xor_bytes (x y : B) : bits .xor .u8 (nb x) (nb y) = nb (x ^^^ y) := by
  have e1 : ∀ x : B, BitVec.ofInt 8 (nb x) = x := fun x => by unfold nb; rw [BitVec.ofInt_natCast]; simp
  show IntKind.u8.wrap ((BitVec.ofInt 8 (nb x) ^^^ BitVec.ofInt 8 (nb y)).toNat : Int) = _
  rw [e1, e1]
  generalize x ^^^ y = z
  have := nb_lt z
  unfold nb at *
  simp [IntKind.wrap, IntKind.bits, IntKind.signed]
  omega
theorem xor_bit (x : B) (k : Nat) (hk : k < 8) : bits .xor .u8 (nb x) ((2 : Int) ^ k % 256) = nb (x ^^^ (1#8 <<< k)) := by rw [one_shl k hk, xor_bytes]

theorem turns_long (w : World) (hT : Tabs w) (a : Option Addr) (n c : Nat) (p0 q0 : Int) (h : 20 < n) :
    Calls Tryd.prog 6 #[.slice a n c, .int .u8 p0, .int .u8 q0] w fun e w' => e = .returned (.bool true) ∧ Keeps (fun _ => False) w w' := by
  have h' : (20 : Int) < (n : Int) := by omega
  go_enter Tryd.func6, Tryd.ntmps6
  go_wp2_with (go_at_call 14; refine (wakes14 _ hT).mono ?_; rintro e w1 ⟨rfl, k1⟩)
  go_ret
  exact ⟨rfl, k1⟩
theorem turns_no (w : World) (hT : Tabs w) (a : Option Addr) (n c : Nat) (l : List En) (hl : SlE w a n c l) (p0 q0 : Int) (h : n ≤ 20) (hg : gd l = false) :
    Calls Tryd.prog 6 #[.slice a n c, .int .u8 p0, .int .u8 q0] w fun e w' => e = .returned (.bool true) ∧ Keeps (fun _ => False) w w' := by
  have h' : ¬ (20 : Int) < (n : Int) := by omega
  have HE : Hid (encR l = (zb 128, 11)) := by show _ = _; unfold encR; rw [hg]; rfl
  go_enter Tryd.func6, Tryd.ntmps6
  go_wp2_with (first
    | (go_at_call 15; refine (encP_at HE.out _ hT a n c hl).mono ?_; rintro e w1 ⟨rfl, k1⟩)
    | (refine wpList_alloc26 rfl rfl ?_; intro g7 w2 b2 z2 k2; have K2 := k1.trans k2)
    | (refine wpList_store26 rfl _ _ rfl g7 rfl (zb 128) rfl (zb_len _) _ b2 ?_; intro w3 b3 k3; have K3 : Keeps (fun _ => False) w w3 := K2.trans' k3 (fun i e => .inr (by have := k1.size; omega)))
    | (go_at_call 14; refine (wakes14 _ (hT.keeps K3 (fun h => h) (fun h => h))).mono ?_; rintro e w4 ⟨rfl, k4⟩))
  go_ret
  exact ⟨rfl, K3.trans k4⟩

set_option maxRecDepth 100000 in
set_option maxHeartbeats 2000000 in
theorem turns_ok (w : World) (hT : Tabs w) (a : Option Addr) (n c : Nat) (l : List En) (hl : SlE w a n c l) (p0 q0 : Int) (hp0 : 0 ≤ p0 ∧ p0 < 256) (hq0 : 0 ≤ q0 ∧ q0 < 256) (hg : gd l = true) :
    Calls Tryd.prog 6 #[.slice a n c, .int .u8 p0, .int .u8 q0] w fun e w' => e = .returned (.bool true) ∧ Keeps (fun _ => False) w w' := by
  have hn3 := (gd_len hg).2
  rw [hl.len] at hn3
  have h' : ¬ (20 : Int) < (n : Int) := by omega
  obtain ⟨p, hp⟩ : ∃ p : Nat, p0 % 128 = (p : Int) := ⟨(p0 % 128).toNat, by omega⟩
  obtain ⟨k, hk⟩ : ∃ k : Nat, q0 % 8 = (k : Int) := ⟨(q0 % 8).toNat, by omega⟩
  have hp1 : p < 128 := by omega
  have hk1 : k < 8 := by omega
  have hp1' : (p : Int) < 128 := by omega
  have hp2 : (0 : Int) ≤ (p : Int) := by omega
  have hk1' : (k : Int) < 8 := by omega
  have hk2 : (0 : Int) ≤ (k : Int) := by omega
  obtain ⟨L, hL⟩ : ∃ L, lf l = L := ⟨_, rfl⟩
  have lL : L.length = 128 := by rw [← hL]; exact lf_len hl.keyed (by rw [hl.len]; omega)
  have HE : Hid (encR l = (L, 0)) := by show _ = _; unfold encR; rw [hg, ← hL]; rfl
  have hx := xor_bit (L.getD p 0) k hk1
  obtain ⟨M, hM⟩ : ∃ M, L.set p (L.getD p 0 ^^^ (1#8 <<< k)) = M := ⟨_, rfl⟩
  have HM : Hid (L.set p (L.getD p 0 ^^^ (1#8 <<< k)) = M) := hM
  have lM : M.length = 128 := by rw [← hM, List.length_set, lL]
  have hne : M ≠ L := by rw [← hM]; exact turned_ne (by omega) hk1
  have hd1 : 0 ≤ p0 := hp0.1
  have hd2 : p0 < 256 := hp0.2
  have hd3 : 0 ≤ q0 := hq0.1
  have hd4 : q0 < 256 := hq0.2
  generalize hy : L.getD p 0 = y at *
  have ny := nb_lt y
  cases hi : isLf M with
  | false =>
    have HI : Hid (isLf M = false) := hi
    clear hi hM hL hne
    go_enter Tryd.func6, Tryd.ntmps6
    go_wp2_with (first
      | (go_at_call 15; refine (encP_at HE.out _ hT a n c hl).mono ?_; rintro e w1 ⟨rfl, k1⟩)
      | (refine wpList_alloc26 rfl rfl ?_; intro g7 w2 b2 z2 k2; have K2 := k1.trans k2)
      | (refine wpList_store26 rfl _ _ rfl g7 rfl L rfl lL _ b2 ?_; intro w3 b3 k3; have z7 : w.heap.size ≤ g7 := (by have := k1.size; omega); have K3 : Keeps (fun _ => False) w w3 := K2.trans' k3 (fun i e => .inr (by omega)); have c3 := b3.cell (j := p) (by omega); have f3 := b3.live p; rw [hy] at c3; have b4 := b3.set p (y ^^^ (1#8 <<< k)); rw [HM.out] at b4; have K4 : Keeps (fun _ => False) w (w3.setCell ⟨g7, p, none⟩ (.int .u8 (nb (y ^^^ (1#8 <<< k))))) := K3.setCell (.inr z7) _)
      | (refine wpList_load26 rfl _ rfl g7 rfl M b4 ?_)
      | (go_at_call 17; refine (decP_not HI.out _ (hT.keeps K4 (fun h => h) (fun h => h)) lM).mono ?_; rintro e w5 ⟨rfl, k5⟩; have K5 := K4.trans k5)
      | (go_at_call 14; refine (wakes14 _ (hT.keeps K5 (fun h => h) (fun h => h))).mono ?_; rintro e w6 ⟨rfl, k6⟩))
    go_ret
    exact ⟨rfl, K5.trans k6⟩
  | true =>
    have HI : Hid (isLf M = true) := hi
    obtain ⟨m, hm⟩ : ∃ m, ents M = m := ⟨_, rfl⟩
    have Hm : Hid (ents M = m) := hm
    obtain ⟨g1, g2⟩ := isLf_iff.1 hi
    rw [hm] at g1 g2
    have HE2 : Hid (encR m = (M, 0)) := by show _ = _; unfold encR; rw [g1, g2]; rfl
    have HD : Hid (decide (m = l) = false) := decide_eq_false (fun e => by rw [e, hL] at g2; exact hne g2.symm)
    have hml : m.length ≤ 3 := (gd_len g1).2
    have heq := eq26 lM lM
    rw [decide_eq_true rfl] at heq
    clear hi hM hL hne hm g1 g2
    go_enter Tryd.func6, Tryd.ntmps6
    go_wp2_with (first
      | (go_at_call 15; have := K5; refine (encP_at HE2.out _ (hT.keeps K5 (fun h => h) (fun h => h)) _ _ _ s5).mono ?_; rintro e w6 ⟨rfl, k6⟩; have b6 := b5.keep k6; have s6 := s5.keep k6; have K6 := K5.trans k6)
      | (go_at_call 15; refine (encP_at HE.out _ hT a n c hl).mono ?_; rintro e w1 ⟨rfl, k1⟩)
      | (refine wpList_alloc26 rfl rfl ?_; have := K6; intro g11 w7 d7 z7' k7; have b7 := b6.keep k7; have s7 := s6.keep k7; have K7 := K6.trans k7; have h711 : g7 ≠ g11 := (by have := b6.lt; omega); have z11 : w5.heap.size ≤ g11 := (by have := k6.size; omega))
      | (refine wpList_alloc26 rfl rfl ?_; intro g7 w2 b2 z2 k2; have K2 := k1.trans k2)
      | (refine wpList_store26 rfl _ _ rfl g11 rfl M rfl lM _ d7 ?_; intro w8 d8 k8; have b8 := b7.keeps k8 h711; have K8 : Keeps (fun _ => False) w w8 := K7.trans' k8 (fun i e => .inr (by have := K5.size; omega)); have s8 := s7.keeps k8 (fun h0 b o e h => by have := Hs.out h0 b o e; omega); have hl8 := hl.keep K8)
      | (refine wpList_store26 rfl _ _ rfl g7 rfl L rfl lL _ b2 ?_; intro w3 b3 k3; have z7 : w.heap.size ≤ g7 := (by have := k1.size; omega); have K3 : Keeps (fun _ => False) w w3 := K2.trans' k3 (fun i e => .inr (by omega)); have c3 := b3.cell (j := p) (by omega); have f3 := b3.live p; rw [hy] at c3; have b4 := b3.set p (y ^^^ (1#8 <<< k)); rw [HM.out] at b4; have K4 : Keeps (fun _ => False) w (w3.setCell ⟨g7, p, none⟩ (.int .u8 (nb (y ^^^ (1#8 <<< k))))) := K3.setCell (.inr z7) _)
      | (refine wpList_load26 rfl _ rfl g11 rfl M d8 ?_)
      | (refine wpList_load26 rfl _ rfl g7 rfl M b8 ?_)
      | (refine wpList_load26 rfl _ rfl g7 rfl M b4 ?_)
      | (go_at_call 17; refine (decP_is HI.out Hm.out _ (hT.keeps K4 (fun h => h) (fun h => h)) lM).mono ?_; rintro e w5 ⟨⟨a5, c5, rfl, s5⟩, k5⟩; have b5 := b4.keep k5; have K5 := K4.trans k5; have Hs : Hid (0 < m.length → ∀ b o, a5 = some ⟨b, o, none⟩ → b < w5.heap.size) := (fun h0 b o e => by obtain ⟨b', o', e', hE⟩ := s5.ent (i := 0) h0; rw [e] at e'; cases e'; exact slb_lt hE.slb (by omega) rfl))
      | (go_at_call 25; refine (entries_at HD _ _ _ _ _ _ _ s8 hl8 (by omega)).mono ?_; rintro e w9 ⟨rfl, k9⟩; have K9 := K8.trans k9)
      | (go_at_call 14; refine (wakes14 _ (hT.keeps K9 (fun h => h) (fun h => h))).mono ?_; rintro e w10 ⟨rfl, k10⟩))
    go_ret
    exact ⟨rfl, K9.trans k10⟩

theorem turnsL (w : World) (hT : Tabs w) (a : Option Addr) (n c : Nat) (l : List En) (hl : SlE w a n c l) (hn : n ≤ 9223372036854775807) (p0 : Int) (hp0 : 0 ≤ p0 ∧ p0 < 256) (q0 : Int) (hq0 : 0 ≤ q0 ∧ q0 < 256) :
    Calls Tryd.prog 6 #[.slice a n c, .int .u8 p0, .int .u8 q0] w fun e w' => e = .returned (.bool true) ∧ Keeps (fun _ => False) w w' := by
  by_cases h : 20 < n
  · exact turns_long w hT a n c p0 q0 h
  · cases hg : gd l with
    | false => exact turns_no w hT a n c l hl p0 q0 (by omega) hg
    | true => exact turns_ok w hT a n c l hl p0 q0 hp0 hq0 hg

end Go.Proofs.YthngaegfppbdmaaDoor
