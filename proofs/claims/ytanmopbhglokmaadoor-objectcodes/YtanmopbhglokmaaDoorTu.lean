/-
  ObjectTurns: the walk.
-/
import Derived.Test.YtanmopbhglokmaaDoorTk
set_option linter.all false
namespace Go.Proofs.YtanmopbhglokmaaDoor
open Go.RowKit Go.Sort

theorem Hid_refl (L : List B) : Hid (decide (L = L) = true) := decide_eq_true rfl
theorem frame_of_obj (w : World) (hT : Tabs w) {L : List B} (ho : IsObj L) (a : Option Addr) (c : Nat) (h : SlB w a (lnOf L) c (bodyOf L)) (hnc : a = none → c = 0) :
    Calls Tryd.prog 9 #[.int .i64 (kindOf L), .slice a (lnOf L) c] w fun e w' => ∃ a' m' c', e = .returned (.tuple #[.slice a' m' c', .int .i64 0]) ∧ m' ≤ 9 ∧ SlB w' a' (m' * 128) (c' * 128) L ∧ Keeps (fun _ => False) w w' := by
  refine (frame_ok w hT a (lnOf L) c ⟨ho.k1, ho.k6⟩ ho.ln h hnc (show fr (kindOf L) (bodyOf L) = L from ho.eq.symm)).mono ?_
  rintro e w' ⟨a', c', rfl, s, k⟩
  exact ⟨a', _, c', rfl, by have := ho.ln; omega, s, k⟩

set_option maxRecDepth 100000 in
set_option maxHeartbeats 1000000 in
theorem turns5_ok (w : World) (hT : Tabs w) (kd : Int) (hkd : 0 ≤ kd ∧ kd < 256) (a : Option Addr) (n c : Nat) (l : List B) (hl : SlB w a n c l) (hnc : a = none → c = 0) (x y : Int) (hx : 0 ≤ x ∧ x < 65536) (hy : 0 ≤ y ∧ y < 65536) (hn : n ≤ 1000) :
    Calls Tryd.prog 5 #[.int .u8 kd, .slice a n c, .agg #[.int .u16 x, .int .u16 y]] w fun e w' => e = .returned (.bool true) ∧ Keeps (fun _ => False) w w' := by
  have hka := keeps_alloc w (.cells #[.int .u16 x, .int .u16 y] 45)
  have hn' : ¬ (1000 : Int) < (n : Int) := by omega
  obtain ⟨m, hm⟩ : ∃ m, (n + 134) / 128 = m := ⟨_, rfl⟩
  have hm1 : 1 ≤ m := by omega
  have hm9 : m ≤ 9 := by omega
  have hm1' : ¬ (m : Int) = 0 := by omega
  have hk0 : 1 ≤ 1 + kd % 6 ∧ 1 + kd % 6 ≤ 6 := by omega
  obtain ⟨L, hL⟩ : ∃ L, fr (1 + kd % 6) l = L := ⟨_, rfl⟩
  have HF : Hid (∀ w', Keeps (fun _ => False) w w' → Calls Tryd.prog 9 #[.int .i64 (1 + kd % 6), .slice a n c] w' fun e w'' => ∃ a' c', e = .returned (.tuple #[.slice a' m c', .int .i64 0]) ∧ SlB w'' a' (m * 128) (c' * 128) L ∧ Keeps (fun _ => False) w' w'') := fun w' hk => by
    rw [← hm]; exact frame_ok w' (hT.keeps hk (fun h => h) (fun h => h)) a n c hk0 hn (hl.keeps hk (fun _ _ _ _ h => h)) hnc hL
  obtain ⟨p, hp⟩ : ∃ p : Nat, x % ((m : Int) * 128) = (p : Int) := ⟨(x % ((m : Int) * 128)).toNat, by have := Int.emod_nonneg x (b := (m : Int) * 128) (by omega); omega⟩
  have hpm : p < m * 128 := by have := Int.emod_lt_of_pos x (b := (m : Int) * 128) (by omega); omega
  obtain ⟨q, hq⟩ : ∃ q, p / 128 = q := ⟨_, rfl⟩
  obtain ⟨r, hr⟩ : ∃ r, p % 128 = r := ⟨_, rfl⟩
  have hq' : (p : Int) / 128 = (q : Int) := by omega
  have hr' : (p : Int) % 128 = (r : Int) := by omega
  have hqm : q < m := by omega
  have hr8 : r < 128 := by omega
  have Hp : Hid (p = q * 128 + r) := by show _ = _; omega
  have hq0 : (0 : Int) ≤ (q : Int) := by omega
  have hq1 : (q : Int) < (m : Int) := by omega
  have hr0 : (0 : Int) ≤ (r : Int) := by omega
  have hr1 : (r : Int) < 128 := by omega
  have hy1 : (1 + y % 255) % 256 = 1 + y % 255 := by omega
  obtain ⟨yb, hyb⟩ : ∃ yb, kb (1 + y % 255) = yb := ⟨_, rfl⟩
  have hyn : nb yb = 1 + y % 255 := by rw [← hyb, nb_kb]; omega
  have Hyn : Hid (nb yb = 1 + y % 255) := hyn
  have cx : (w.alloc (.cells #[.int .u16 x, .int .u16 y] 45)).cell? ⟨w.heap.size, 0, none⟩ = some (.int .u16 x) := cell_of_row _ _ 0 _ _ _ (heap_alloc_new w _)
  have cy : (w.alloc (.cells #[.int .u16 x, .int .u16 y] 45)).cell? ⟨w.heap.size, 1, none⟩ = some (.int .u16 y) := cell_of_row _ _ 1 _ _ _ (heap_alloc_new w _)
  clear hm hq hr hyb hyn hL hn hm1
  go_enter Tryd.func5, Tryd.ntmps5
  go_wp2_with (first
    | (go_at_call 9; refine (HF.out _ hka).mono ?_; rintro e w1 ⟨a1, c1, rfl, s1, k1⟩; have K1 := hka.trans k1; obtain ⟨b1, o1, rfl, _⟩ := s1.bytes (m * 128) (by omega) (Nat.le_refl _); have cx1 := cell_keeps k1 cx (fun h => h); have cy1 := cell_keeps k1 cy (fun h => h))
    | (refine wpList_build0K rfl rfl ?_; intro w2 O2 k2; have K2 := K1.trans k2)
    | (refine wpList_appK rfl _ _ rfl w1.heap.size _ 0 [] rfl O2 b1 o1 m c1 L rfl (s1.keeps k2 (fun _ _ _ _ h => h)) (by omega) (by have := k2.size; omega) ?_; intro v3 w3 O3 k3; rw [Nat.zero_add, List.nil_append] at O3; have K3 : Keeps (fun _ => False) w w3 := K2.trans' k3 (fun i e => .inr (by have := K1.size; omega)); obtain ⟨g3, c3, rfl, hg3, _⟩ := O3.pos (by omega)))
  have lL : L.length = m * 128 := O3.len
  obtain ⟨z0, hz0⟩ : ∃ z0, L[p]? = some z0 := ⟨_, List.getElem?_eq_getElem (by rw [lL]; exact hpm)⟩
  have hc0 := O3.sl.cell rfl p z0 hz0
  rw [Nat.zero_add, Hp.out] at hc0
  have hcd : w3.drew.cell? ⟨g3, q * 128 + r, none⟩ = some (.int .u8 (nb z0)) := hc0
  obtain ⟨O4, hf3⟩ := O3.set p hpm (z0 ^^^ yb)
  rw [Hp.out] at O4 hf3
  have hfd : w3.drew.frozen? ⟨g3, q * 128 + r, none⟩ = false := hf3
  have hxor := xor_bytes z0 yb
  rw [Hyn.out] at hxor
  obtain ⟨z1, hz1⟩ : ∃ z1, z0 ^^^ yb = z1 := ⟨_, rfl⟩
  rw [hz1] at hxor O4
  obtain ⟨L4, hL4⟩ : ∃ L4, L.set (q * 128 + r) z1 = L4 := ⟨_, rfl⟩
  rw [hL4] at O4
  have bz0 := nb_lt z0
  have bz1 := nb_lt z1
  have HS4 : Hid (SlB (w3.setCell ⟨g3, q * 128 + r, none⟩ (.int .u8 (nb z1))).drew (some ⟨g3, 0, none⟩) (m * 128) (c3 * 128) L4) := O4.sl.keeps (S := fun _ => False) ((Keeps.refl _ _).drew) (fun _ _ _ _ h => h)
  have HK4 : Hid (Keeps (fun _ => False) w (w3.setCell ⟨g3, q * 128 + r, none⟩ (.int .u8 (nb z1))).drew) := (K3.setCell (p := ⟨g3, q * 128 + r, none⟩) (.inr (by have := K1.size; dsimp only; omega)) _).drew
  clear hz0 hc0 hf3 hz1 hL4 O4 O3 O2 K3 lL s1
  refine region_tail 12 (by kernel_rfl) (by kernel_rfl) ?_
  simp only [List.take_succ_cons, List.take_zero]
  iterate 12 (go_big_quiet_step (fail))
  refine wpQuiet_nil ?_
  simp only [List.drop_succ_cons, List.drop_zero]
  go_wp2_with (first
    | (go_at_call 13; refine (blocks_at (Hid_refl L4) w6 _ _ _ _ _ _ s6 (HS4.out.keeps (k5.trans k6) (fun _ _ _ _ h => h)) (by omega)).mono ?_; rintro e w7 ⟨rfl, k7⟩; have K7 := K6.trans k7)
    | (go_at_call 9; refine (frame_of_obj w5 (hT.keeps K5 (fun h => h) (fun h => h)) ho a5 c5 s5 hnc5).mono ?_; rintro e w6 ⟨a6, m6, c6, rfl, hm6, s6, k6⟩; have K6 := K5.trans k6)
    | (go_at_call 8; have hmark := K7; refine (wakes8 _ (hT.keeps K7 (fun h => h) (fun h => h))).mono ?_; rintro e w8 ⟨rfl, k8⟩; have K8 := K7.trans k8)
    | (go_at_call 8; refine (wakes8 _ (hT.keeps K5 (fun h => h) (fun h => h))).mono ?_; rintro e w8 ⟨rfl, k8⟩; have K8 := K5.trans k8)
    | (go_at_call 11; refine (body11 _ (hT.keeps HK4.out (fun h => h) (fun h => h)) _ m c3 L4 HS4.out).mono ?_; rintro e w5 ⟨told, k5⟩; have K5 := HK4.out.trans k5; rcases told.out with ⟨ho, a5, c5, rfl, s5, hnc5⟩ | ⟨hno, rfl⟩))
  all_goals
    go_ret
    exact ⟨rfl, K8⟩

theorem turns5 (w : World) (hT : Tabs w) (kd : Int) (hkd : 0 ≤ kd ∧ kd < 256) (a : Option Addr) (n c : Nat) (l : List B) (hl : SlB w a n c l) (hnc : a = none → c = 0) (x y : Int) (hx : 0 ≤ x ∧ x < 65536) (hy : 0 ≤ y ∧ y < 65536) :
    Calls Tryd.prog 5 #[.int .u8 kd, .slice a n c, .agg #[.int .u16 x, .int .u16 y]] w fun e w' => e = .returned (.bool true) ∧ Keeps (fun _ => False) w w' := by
  by_cases hn : n ≤ 1000
  · exact turns5_ok w hT kd hkd a n c l hl hnc x y hx hy hn
  · have hn' : (1000 : Int) < (n : Int) := by omega
    have hka := keeps_alloc w (.cells #[.int .u16 x, .int .u16 y] 45)
    go_enter Tryd.func5, Tryd.ntmps5
    go_wp2_with (go_at_call 8; refine (wakes8 _ (hT.keeps hka (fun h => h) (fun h => h))).mono ?_; rintro e w1 ⟨rfl, hk1⟩)
    go_ret
    exact ⟨rfl, hka.trans hk1⟩

end Go.Proofs.YtanmopbhglokmaaDoor
