/-
  The law of texts and signs, back and forth.
-/
import Derived.Test.YtppliejbpgkaiaaDoorUk
set_option linter.all false
namespace Go.Proofs.YtppliejbpgkaiaaDoor
open Go.RowKit Go.Sort Go.Shelf
attribute [local go_sem] Oper.semAt_some

theorem SlI.past {w1 w2 w3 : World} {a : Option Addr} {n c base : Nat} {l l0 : List Int} {v : Value} (h : SlI w1 a n c l) (h2 : SlI w2 a n c l) (k : Keeps (fun k => v.ownBlock = some k) w2 w3) (o : OwnI w2 base v l0) (hb : w1.heap.size ≤ base) : SlI w3 a n c l :=
  h2.keeps k (fun h0 b o' e hS => by
    obtain ⟨b', o2, e', lt, _⟩ := h.ent h0
    cases e.symm.trans e'
    have := (OwnI.from o hS).1
    omega)
theorem keeps_past {w w2 w3 : World} {base : Nat} {l0 : List Int} {v : Value} (K : Keeps (fun _ => False) w w2) (k : Keeps (fun k => v.ownBlock = some k) w2 w3) (o : OwnI w2 base v l0) (hb : w.heap.size ≤ base) : Keeps (fun _ => False) w w3 :=
  K.trans' k (fun i e => .inr (by have := (OwnI.from o e).1; omega))


set_option maxRecDepth 100000 in
set_option maxHeartbeats 2000000 in
theorem back_111 (w : World) (hT : Lib.Utf8Tabs 0 1 w) (s u : ByteArray) (hs : s.size ≤ 1000) (hu : u.size ≤ 1000) (a3 : Option Addr) (n3 c3 : Nat) (l : List Int) (hl : SlI w a3 n3 c3 l) (hn : n3 ≤ 500)
    (h1 : vd s.data.toList = true) (h2 : vd u.data.toList = true) (h3 : allS l) :
    Calls Tryd.prog 4 #[.string s, .string u, .slice a3 n3 c3] w fun e w' => e = .returned (.bool true) ∧ Keeps (fun _ => False) w w' := by
  obtain ⟨A, hA⟩ : ∃ A, sg s.data.toList = A := ⟨_, rfl⟩
  obtain ⟨D, hD⟩ : ∃ D, sg u.data.toList = D := ⟨_, rfl⟩
  obtain ⟨nA, hnA⟩ : ∃ nA, A.length = nA := ⟨_, rfl⟩
  obtain ⟨nD, hnD⟩ : ∃ nD, D.length = nD := ⟨_, rfl⟩
  have bA : nA ≤ 1000 := by have := sg_len s.data.toList; rw [hA, hnA, sz_len] at this; omega
  have bD : nD ≤ 1000 := by have := sg_len u.data.toList; rw [hD, hnD, sz_len] at this; omega
  have C13s := signs_own hA
  have C13u := signs_own hD
  rw [hnA] at C13s
  rw [hnD] at C13u
  have C11s : ∀ W, Lib.Utf8Tabs 0 1 W → Calls Tryd.prog 11 #[.string s] W fun e w' => e = .returned (.bool true) ∧ Keeps (fun _ => False) W w' := fun W h => by
    rw [← h1]; exact valid11 W h s (by omega)
  obtain ⟨f1, f2⟩ := vd_split h1
  rw [hA] at f1 f2
  have C9A : ∀ W a c, SlI W a nA c A → Calls Tryd.prog 9 #[.slice a nA c] W fun e w' => e = .returned (.tuple #[.string s, .int .i64 0]) ∧ Keeps (fun _ => False) W w' := fun W a c h => by
    have := text9 W a nA c A h (by omega)
    rw [show txt A = (s.data.toList, 0) by unfold txt; rw [if_pos f2, ← f1], bs_of] at this
    exact this
  have C11su : ∀ W, Lib.Utf8Tabs 0 1 W → Calls Tryd.prog 11 #[.string (s ++ u)] W fun e w' => e = .returned (.bool true) ∧ Keeps (fun _ => False) W w' := fun W h => by
    have := valid11 W h (s ++ u) (by rw [app_sz]; omega)
    rw [app_data, sg_app h1, h2] at this
    exact this
  have C11u : ∀ W, Lib.Utf8Tabs 0 1 W → Calls Tryd.prog 11 #[.string u] W fun e w' => e = .returned (.bool true) ∧ Keeps (fun _ => False) W w' := fun W h => by
    rw [← h2]; exact valid11 W h u (by omega)
  obtain ⟨nE, hnE⟩ : ∃ nE, (A ++ D).length = nE := ⟨_, rfl⟩
  have bE : nE ≤ 2000 := by rw [List.length_append] at hnE; omega
  have C13su := signs_own (s := s ++ u) (l := A ++ D) (by rw [app_data, sg_app2 h1 h2, hA, hD])
  rw [hnE] at C13su
  have HnA : Hid (A.length = nA) := hnA
  have HnE : Hid ((A ++ D).length = nE) := hnE
  clear hnE
  clear f1 f2 h2
  obtain ⟨t, ht⟩ : ∃ t, bs (encs l) = t := ⟨_, rfl⟩
  have hlen := hl.len
  have bt : t.size ≤ 2000 := by rw [← ht, bs_size]; have := encs_len l; omega
  have C9l : ∀ W, SlI W a3 n3 c3 l → Calls Tryd.prog 9 #[.slice a3 n3 c3] W fun e w' => e = .returned (.tuple #[.string t, .int .i64 0]) ∧ Keeps (fun _ => False) W w' := fun W h => by
    have := text9 W a3 n3 c3 l h (by omega)
    rw [show txt l = (encs l, 0) by unfold txt; rw [if_pos h3], ht] at this
    exact this
  have C11t : ∀ W, Lib.Utf8Tabs 0 1 W → Calls Tryd.prog 11 #[.string t] W fun e w' => e = .returned (.bool true) ∧ Keeps (fun _ => False) W w' := fun W h => by
    have := valid11 W h t (by omega)
    rw [← ht, bs_data, (sg_encs h3).1, ht] at this
    exact this
  have C13t := signs_own (s := t) (l := l) (by rw [← ht, bs_data, (sg_encs h3).2])
  rw [hlen] at C13t
  clear ht hlen h3
  have g0 : ¬ (1000 : Int) < (s.size : Int) := by omega
  have g1 : ¬ (1000 : Int) < (u.size : Int) := by omega
  have g2 : ¬ (500 : Int) < (n3 : Int) := by omega
  clear hA hD hnA hnD h1
  have K0 : Keeps (fun _ => False) w w := Keeps.refl _ _
  have m0 : Hid True := trivial
  go_enter Tryd.func4, Tryd.ntmps4
  go_wp2_with (first
    | (go_at_call 7; have := m16; refine (wakes7 _ (Tabs.keep hT K16)).mono ?_; rintro e w17 ⟨rfl, k17⟩; have K17 := K16.trans k17; have sl_17 := sl_16.keep k17; have sA_17 := sA_16.keep k17; have sD_17 := sD_16.keep k17; have sE_17 := sE_16.keep k17; have sF_17 := sF_16.keep k17; have sT_17 := sT_16.keep k17; have m17 : Hid True := trivial)
    | (go_at_call 12; have := m15; refine (ints_same _ _ _ _ _ sT_15 sl_15 (by omega)).mono ?_; rintro e w16 ⟨rfl, k16⟩; have K16 := K15.trans k16; have sl_16 := sl_15.keep k16; have sA_16 := sA_15.keep k16; have sD_16 := sD_15.keep k16; have sE_16 := sE_15.keep k16; have sF_16 := sF_15.keep k16; have sT_16 := sT_15.keep k16; have m16 : Hid True := trivial)
    | (go_at_call 13; have := m14; refine (C13t _ (Tabs.keep hT K14) (by omega)).mono ?_; rintro e w15 ⟨⟨aT, cT, rfl, sT_15, ncT⟩, k15⟩; have K15 := K14.trans k15; have sl_15 := sl_14.keep k15; have sA_15 := sA_14.keep k15; have sD_15 := sD_14.keep k15; have sE_15 := sE_14.keep k15; have sF_15 := sF_14.keep k15; have m15 : Hid True := trivial)
    | (go_at_call 11; have := m13; refine (C11t _ (Tabs.keep hT K13)).mono ?_; rintro e w14 ⟨rfl, k14⟩; have K14 := K13.trans k14; have sl_14 := sl_13.keep k14; have sA_14 := sA_13.keep k14; have sD_14 := sD_13.keep k14; have sE_14 := sE_13.keep k14; have sF_14 := sF_13.keep k14; have m14 : Hid True := trivial)
    | (go_at_call 9; have := m12; refine (C9l _ sl_12).mono ?_; rintro e w13 ⟨rfl, k13⟩; have K13 := K12.trans k13; have sl_13 := sl_12.keep k13; have sA_13 := sA_12.keep k13; have sD_13 := sD_12.keep k13; have sE_13 := sE_12.keep k13; have sF_13 := sF_12.keep k13; have m13 : Hid True := trivial)
    | (go_at_call 12; have := m11; refine (ints_same _ _ _ _ _ sE_11 sF_11 (by omega)).mono ?_; rintro e w12 ⟨rfl, k12⟩; have K12 := K11.trans k12; have sl_12 := sl_11.keep k12; have sA_12 := sA_11.keep k12; have sD_12 := sD_11.keep k12; have sE_12 := sE_11.keep k12; have sF_12 := sF_11.keep k12; have m12 : Hid True := trivial)
    | (have := m10; refine unguard rfl ?_; refine wpList_appIs rfl _ _ rfl w8.heap.size _ A rfl oc10 aD nD cD D rfl sD_10 ncD (by have := HnA.out; omega) (by omega) ?_; intro v11 w11 od11 k11; have K11 := keeps_past K10 k11 oc10 (by omega); have sl_11 := SlI.past hl sl_10 k11 oc10 (by omega); have sA_11 := SlI.past sA_1 sA_10 k11 oc10 (by omega); have sD_11 := SlI.past sD_2 sD_10 k11 oc10 (by omega); have sE_11 := SlI.past sE_8 sE_10 k11 oc10 (by omega); obtain ⟨aF, cF, rfl, sF_11, _⟩ := od11.slice2; rw [HnE.out] at sF_11 ⊢; have m11 : Hid True := trivial)
    | (have := m9; refine unguard rfl ?_; refine wpList_appIs rfl _ _ rfl w8.heap.size _ [] rfl ob9 aA nA cA A rfl sA_9 ncA (by simp; omega) (by omega) ?_; intro v10 w10 oc10 k10; rw [List.nil_append] at oc10; have K10 := keeps_past K9 k10 ob9 (by omega); have sl_10 := SlI.past hl sl_9 k10 ob9 (by omega); have sA_10 := SlI.past sA_1 sA_9 k10 ob9 (by omega); have sD_10 := SlI.past sD_2 sD_9 k10 ob9 (by omega); have sE_10 := SlI.past sE_8 sE_9 k10 ob9 (by omega); obtain ⟨av, nv, cv, rfl⟩ := oc10.shape; have zw10 := k10.size; have m10 : Hid True := trivial)
    | (have := m8; refine unguard rfl ?_; refine wpList_build0I rfl rfl ?_; intro gb w9 ob9 zb9 k9; have K9 := K8.trans k9; have zz9 := K8.size; have zy9 := k9.size; have sl_9 := sl_8.keep k9; have sA_9 := sA_8.keep k9; have sD_9 := sD_8.keep k9; have sE_9 := sE_8.keep k9; have ze9_1 := k1.size; have ze9_2 := k2.size; have ze9_3 := k3.size; have ze9_4 := k4.size; have ze9_5 := k5.size; have ze9_6 := k6.size; have ze9_7 := k7.size; have ze9_8 := k8.size; have m9 : Hid True := trivial)
    | (go_at_call 13; have := m7; refine (C13su _ (Tabs.keep hT K7) (by rw [app_sz]; omega)).mono ?_; rintro e w8 ⟨⟨aE, cE, rfl, sE_8, ncE⟩, k8⟩; have K8 := K7.trans k8; have sl_8 := sl_7.keep k8; have sA_8 := sA_7.keep k8; have sD_8 := sD_7.keep k8; have m8 : Hid True := trivial)
    | (go_at_call 11; have := m6; refine (C11u _ (Tabs.keep hT K6)).mono ?_; rintro e w7 ⟨rfl, k7⟩; have K7 := K6.trans k7; have sl_7 := sl_6.keep k7; have sA_7 := sA_6.keep k7; have sD_7 := sD_6.keep k7; have m7 : Hid True := trivial)
    | (go_at_call 11; have := m5; refine (C11u _ (Tabs.keep hT K5)).mono ?_; rintro e w6 ⟨rfl, k6⟩; have K6 := K5.trans k6; have sl_6 := sl_5.keep k6; have sA_6 := sA_5.keep k6; have sD_6 := sD_5.keep k6; have m6 : Hid True := trivial)
    | (go_at_call 11; have := m4; refine (C11su _ (Tabs.keep hT K4)).mono ?_; rintro e w5 ⟨rfl, k5⟩; have K5 := K4.trans k5; have sl_5 := sl_4.keep k5; have sA_5 := sA_4.keep k5; have sD_5 := sD_4.keep k5; have m5 : Hid True := trivial)
    | (go_at_call 9; have := m3; refine (C9A _ _ _ sA_3).mono ?_; rintro e w4 ⟨rfl, k4⟩; have K4 := K3.trans k4; have sl_4 := sl_3.keep k4; have sA_4 := sA_3.keep k4; have sD_4 := sD_3.keep k4; have m4 : Hid True := trivial)
    | (go_at_call 11; have := m2; refine (C11s _ (Tabs.keep hT K2)).mono ?_; rintro e w3 ⟨rfl, k3⟩; have K3 := K2.trans k3; have sl_3 := sl_2.keep k3; have sA_3 := sA_2.keep k3; have sD_3 := sD_2.keep k3; have m3 : Hid True := trivial)
    | (go_at_call 13; have := m1; refine (C13u _ (Tabs.keep hT K1) (by omega)).mono ?_; rintro e w2 ⟨⟨aD, cD, rfl, sD_2, ncD⟩, k2⟩; have K2 := K1.trans k2; have sl_2 := sl_1.keep k2; have sA_2 := sA_1.keep k2; have m2 : Hid True := trivial)
    | (go_at_call 13; have := m0; refine (C13s _ (Tabs.keep hT K0) (by omega)).mono ?_; rintro e w1 ⟨⟨aA, cA, rfl, sA_1, ncA⟩, k1⟩; have K1 := K0.trans k1; have sl_1 := hl.keep k1; have m1 : Hid True := trivial))
  go_ret
  exact ⟨rfl, K17⟩

set_option maxRecDepth 100000 in
set_option maxHeartbeats 2000000 in
theorem back_110 (w : World) (hT : Lib.Utf8Tabs 0 1 w) (s u : ByteArray) (hs : s.size ≤ 1000) (hu : u.size ≤ 1000) (a3 : Option Addr) (n3 c3 : Nat) (l : List Int) (hl : SlI w a3 n3 c3 l) (hn : n3 ≤ 500)
    (h1 : vd s.data.toList = true) (h2 : vd u.data.toList = true) (h3 : ¬ allS l) :
    Calls Tryd.prog 4 #[.string s, .string u, .slice a3 n3 c3] w fun e w' => e = .returned (.bool true) ∧ Keeps (fun _ => False) w w' := by
  obtain ⟨A, hA⟩ : ∃ A, sg s.data.toList = A := ⟨_, rfl⟩
  obtain ⟨D, hD⟩ : ∃ D, sg u.data.toList = D := ⟨_, rfl⟩
  obtain ⟨nA, hnA⟩ : ∃ nA, A.length = nA := ⟨_, rfl⟩
  obtain ⟨nD, hnD⟩ : ∃ nD, D.length = nD := ⟨_, rfl⟩
  have bA : nA ≤ 1000 := by have := sg_len s.data.toList; rw [hA, hnA, sz_len] at this; omega
  have bD : nD ≤ 1000 := by have := sg_len u.data.toList; rw [hD, hnD, sz_len] at this; omega
  have C13s := signs_own hA
  have C13u := signs_own hD
  rw [hnA] at C13s
  rw [hnD] at C13u
  have C11s : ∀ W, Lib.Utf8Tabs 0 1 W → Calls Tryd.prog 11 #[.string s] W fun e w' => e = .returned (.bool true) ∧ Keeps (fun _ => False) W w' := fun W h => by
    rw [← h1]; exact valid11 W h s (by omega)
  obtain ⟨f1, f2⟩ := vd_split h1
  rw [hA] at f1 f2
  have C9A : ∀ W a c, SlI W a nA c A → Calls Tryd.prog 9 #[.slice a nA c] W fun e w' => e = .returned (.tuple #[.string s, .int .i64 0]) ∧ Keeps (fun _ => False) W w' := fun W a c h => by
    have := text9 W a nA c A h (by omega)
    rw [show txt A = (s.data.toList, 0) by unfold txt; rw [if_pos f2, ← f1], bs_of] at this
    exact this
  have C11su : ∀ W, Lib.Utf8Tabs 0 1 W → Calls Tryd.prog 11 #[.string (s ++ u)] W fun e w' => e = .returned (.bool true) ∧ Keeps (fun _ => False) W w' := fun W h => by
    have := valid11 W h (s ++ u) (by rw [app_sz]; omega)
    rw [app_data, sg_app h1, h2] at this
    exact this
  have C11u : ∀ W, Lib.Utf8Tabs 0 1 W → Calls Tryd.prog 11 #[.string u] W fun e w' => e = .returned (.bool true) ∧ Keeps (fun _ => False) W w' := fun W h => by
    rw [← h2]; exact valid11 W h u (by omega)
  obtain ⟨nE, hnE⟩ : ∃ nE, (A ++ D).length = nE := ⟨_, rfl⟩
  have bE : nE ≤ 2000 := by rw [List.length_append] at hnE; omega
  have C13su := signs_own (s := s ++ u) (l := A ++ D) (by rw [app_data, sg_app2 h1 h2, hA, hD])
  rw [hnE] at C13su
  have HnA : Hid (A.length = nA) := hnA
  have HnE : Hid ((A ++ D).length = nE) := hnE
  clear hnE
  clear f1 f2 h2
  have C9l : ∀ W, SlI W a3 n3 c3 l → Calls Tryd.prog 9 #[.slice a3 n3 c3] W fun e w' => e = .returned (.tuple #[.string ⟨#[]⟩, .int .i64 11]) ∧ Keeps (fun _ => False) W w' := fun W h => by
    have := text9 W a3 n3 c3 l h (by omega)
    rw [show txt l = ([], 11) by unfold txt; rw [if_neg h3]] at this
    exact this
  clear h3
  have g0 : ¬ (1000 : Int) < (s.size : Int) := by omega
  have g1 : ¬ (1000 : Int) < (u.size : Int) := by omega
  have g2 : ¬ (500 : Int) < (n3 : Int) := by omega
  clear hA hD hnA hnD h1
  have K0 : Keeps (fun _ => False) w w := Keeps.refl _ _
  have m0 : Hid True := trivial
  go_enter Tryd.func4, Tryd.ntmps4
  go_wp2_with (first
    | (go_at_call 7; have := m13; refine (wakes7 _ (Tabs.keep hT K13)).mono ?_; rintro e w14 ⟨rfl, k14⟩; have K14 := K13.trans k14; have sl_14 := sl_13.keep k14; have sA_14 := sA_13.keep k14; have sD_14 := sD_13.keep k14; have sE_14 := sE_13.keep k14; have sF_14 := sF_13.keep k14; have m14 : Hid True := trivial)
    | (go_at_call 9; have := m12; refine (C9l _ sl_12).mono ?_; rintro e w13 ⟨rfl, k13⟩; have K13 := K12.trans k13; have sl_13 := sl_12.keep k13; have sA_13 := sA_12.keep k13; have sD_13 := sD_12.keep k13; have sE_13 := sE_12.keep k13; have sF_13 := sF_12.keep k13; have m13 : Hid True := trivial)
    | (go_at_call 12; have := m11; refine (ints_same _ _ _ _ _ sE_11 sF_11 (by omega)).mono ?_; rintro e w12 ⟨rfl, k12⟩; have K12 := K11.trans k12; have sl_12 := sl_11.keep k12; have sA_12 := sA_11.keep k12; have sD_12 := sD_11.keep k12; have sE_12 := sE_11.keep k12; have sF_12 := sF_11.keep k12; have m12 : Hid True := trivial)
    | (have := m10; refine unguard rfl ?_; refine wpList_appIs rfl _ _ rfl w8.heap.size _ A rfl oc10 aD nD cD D rfl sD_10 ncD (by have := HnA.out; omega) (by omega) ?_; intro v11 w11 od11 k11; have K11 := keeps_past K10 k11 oc10 (by omega); have sl_11 := SlI.past hl sl_10 k11 oc10 (by omega); have sA_11 := SlI.past sA_1 sA_10 k11 oc10 (by omega); have sD_11 := SlI.past sD_2 sD_10 k11 oc10 (by omega); have sE_11 := SlI.past sE_8 sE_10 k11 oc10 (by omega); obtain ⟨aF, cF, rfl, sF_11, _⟩ := od11.slice2; rw [HnE.out] at sF_11 ⊢; have m11 : Hid True := trivial)
    | (have := m9; refine unguard rfl ?_; refine wpList_appIs rfl _ _ rfl w8.heap.size _ [] rfl ob9 aA nA cA A rfl sA_9 ncA (by simp; omega) (by omega) ?_; intro v10 w10 oc10 k10; rw [List.nil_append] at oc10; have K10 := keeps_past K9 k10 ob9 (by omega); have sl_10 := SlI.past hl sl_9 k10 ob9 (by omega); have sA_10 := SlI.past sA_1 sA_9 k10 ob9 (by omega); have sD_10 := SlI.past sD_2 sD_9 k10 ob9 (by omega); have sE_10 := SlI.past sE_8 sE_9 k10 ob9 (by omega); obtain ⟨av, nv, cv, rfl⟩ := oc10.shape; have zw10 := k10.size; have m10 : Hid True := trivial)
    | (have := m8; refine unguard rfl ?_; refine wpList_build0I rfl rfl ?_; intro gb w9 ob9 zb9 k9; have K9 := K8.trans k9; have zz9 := K8.size; have zy9 := k9.size; have sl_9 := sl_8.keep k9; have sA_9 := sA_8.keep k9; have sD_9 := sD_8.keep k9; have sE_9 := sE_8.keep k9; have ze9_1 := k1.size; have ze9_2 := k2.size; have ze9_3 := k3.size; have ze9_4 := k4.size; have ze9_5 := k5.size; have ze9_6 := k6.size; have ze9_7 := k7.size; have ze9_8 := k8.size; have m9 : Hid True := trivial)
    | (go_at_call 13; have := m7; refine (C13su _ (Tabs.keep hT K7) (by rw [app_sz]; omega)).mono ?_; rintro e w8 ⟨⟨aE, cE, rfl, sE_8, ncE⟩, k8⟩; have K8 := K7.trans k8; have sl_8 := sl_7.keep k8; have sA_8 := sA_7.keep k8; have sD_8 := sD_7.keep k8; have m8 : Hid True := trivial)
    | (go_at_call 11; have := m6; refine (C11u _ (Tabs.keep hT K6)).mono ?_; rintro e w7 ⟨rfl, k7⟩; have K7 := K6.trans k7; have sl_7 := sl_6.keep k7; have sA_7 := sA_6.keep k7; have sD_7 := sD_6.keep k7; have m7 : Hid True := trivial)
    | (go_at_call 11; have := m5; refine (C11u _ (Tabs.keep hT K5)).mono ?_; rintro e w6 ⟨rfl, k6⟩; have K6 := K5.trans k6; have sl_6 := sl_5.keep k6; have sA_6 := sA_5.keep k6; have sD_6 := sD_5.keep k6; have m6 : Hid True := trivial)
    | (go_at_call 11; have := m4; refine (C11su _ (Tabs.keep hT K4)).mono ?_; rintro e w5 ⟨rfl, k5⟩; have K5 := K4.trans k5; have sl_5 := sl_4.keep k5; have sA_5 := sA_4.keep k5; have sD_5 := sD_4.keep k5; have m5 : Hid True := trivial)
    | (go_at_call 9; have := m3; refine (C9A _ _ _ sA_3).mono ?_; rintro e w4 ⟨rfl, k4⟩; have K4 := K3.trans k4; have sl_4 := sl_3.keep k4; have sA_4 := sA_3.keep k4; have sD_4 := sD_3.keep k4; have m4 : Hid True := trivial)
    | (go_at_call 11; have := m2; refine (C11s _ (Tabs.keep hT K2)).mono ?_; rintro e w3 ⟨rfl, k3⟩; have K3 := K2.trans k3; have sl_3 := sl_2.keep k3; have sA_3 := sA_2.keep k3; have sD_3 := sD_2.keep k3; have m3 : Hid True := trivial)
    | (go_at_call 13; have := m1; refine (C13u _ (Tabs.keep hT K1) (by omega)).mono ?_; rintro e w2 ⟨⟨aD, cD, rfl, sD_2, ncD⟩, k2⟩; have K2 := K1.trans k2; have sl_2 := sl_1.keep k2; have sA_2 := sA_1.keep k2; have m2 : Hid True := trivial)
    | (go_at_call 13; have := m0; refine (C13s _ (Tabs.keep hT K0) (by omega)).mono ?_; rintro e w1 ⟨⟨aA, cA, rfl, sA_1, ncA⟩, k1⟩; have K1 := K0.trans k1; have sl_1 := hl.keep k1; have m1 : Hid True := trivial))
  go_ret
  exact ⟨rfl, K14⟩

set_option maxRecDepth 100000 in
set_option maxHeartbeats 2000000 in
theorem back_101 (w : World) (hT : Lib.Utf8Tabs 0 1 w) (s u : ByteArray) (hs : s.size ≤ 1000) (hu : u.size ≤ 1000) (a3 : Option Addr) (n3 c3 : Nat) (l : List Int) (hl : SlI w a3 n3 c3 l) (hn : n3 ≤ 500)
    (h1 : vd s.data.toList = true) (h2 : vd u.data.toList = false) (h3 : allS l) :
    Calls Tryd.prog 4 #[.string s, .string u, .slice a3 n3 c3] w fun e w' => e = .returned (.bool true) ∧ Keeps (fun _ => False) w w' := by
  obtain ⟨A, hA⟩ : ∃ A, sg s.data.toList = A := ⟨_, rfl⟩
  obtain ⟨D, hD⟩ : ∃ D, sg u.data.toList = D := ⟨_, rfl⟩
  obtain ⟨nA, hnA⟩ : ∃ nA, A.length = nA := ⟨_, rfl⟩
  obtain ⟨nD, hnD⟩ : ∃ nD, D.length = nD := ⟨_, rfl⟩
  have bA : nA ≤ 1000 := by have := sg_len s.data.toList; rw [hA, hnA, sz_len] at this; omega
  have bD : nD ≤ 1000 := by have := sg_len u.data.toList; rw [hD, hnD, sz_len] at this; omega
  have C13s := signs_own hA
  have C13u := signs_own hD
  rw [hnA] at C13s
  rw [hnD] at C13u
  have C11s : ∀ W, Lib.Utf8Tabs 0 1 W → Calls Tryd.prog 11 #[.string s] W fun e w' => e = .returned (.bool true) ∧ Keeps (fun _ => False) W w' := fun W h => by
    rw [← h1]; exact valid11 W h s (by omega)
  obtain ⟨f1, f2⟩ := vd_split h1
  rw [hA] at f1 f2
  have C9A : ∀ W a c, SlI W a nA c A → Calls Tryd.prog 9 #[.slice a nA c] W fun e w' => e = .returned (.tuple #[.string s, .int .i64 0]) ∧ Keeps (fun _ => False) W w' := fun W a c h => by
    have := text9 W a nA c A h (by omega)
    rw [show txt A = (s.data.toList, 0) by unfold txt; rw [if_pos f2, ← f1], bs_of] at this
    exact this
  have C11su : ∀ W, Lib.Utf8Tabs 0 1 W → Calls Tryd.prog 11 #[.string (s ++ u)] W fun e w' => e = .returned (.bool false) ∧ Keeps (fun _ => False) W w' := fun W h => by
    have := valid11 W h (s ++ u) (by rw [app_sz]; omega)
    rw [app_data, sg_app h1, h2] at this
    exact this
  have C11u : ∀ W, Lib.Utf8Tabs 0 1 W → Calls Tryd.prog 11 #[.string u] W fun e w' => e = .returned (.bool false) ∧ Keeps (fun _ => False) W w' := fun W h => by
    rw [← h2]; exact valid11 W h u (by omega)
  clear f1 f2 h2
  obtain ⟨t, ht⟩ : ∃ t, bs (encs l) = t := ⟨_, rfl⟩
  have hlen := hl.len
  have bt : t.size ≤ 2000 := by rw [← ht, bs_size]; have := encs_len l; omega
  have C9l : ∀ W, SlI W a3 n3 c3 l → Calls Tryd.prog 9 #[.slice a3 n3 c3] W fun e w' => e = .returned (.tuple #[.string t, .int .i64 0]) ∧ Keeps (fun _ => False) W w' := fun W h => by
    have := text9 W a3 n3 c3 l h (by omega)
    rw [show txt l = (encs l, 0) by unfold txt; rw [if_pos h3], ht] at this
    exact this
  have C11t : ∀ W, Lib.Utf8Tabs 0 1 W → Calls Tryd.prog 11 #[.string t] W fun e w' => e = .returned (.bool true) ∧ Keeps (fun _ => False) W w' := fun W h => by
    have := valid11 W h t (by omega)
    rw [← ht, bs_data, (sg_encs h3).1, ht] at this
    exact this
  have C13t := signs_own (s := t) (l := l) (by rw [← ht, bs_data, (sg_encs h3).2])
  rw [hlen] at C13t
  clear ht hlen h3
  have g0 : ¬ (1000 : Int) < (s.size : Int) := by omega
  have g1 : ¬ (1000 : Int) < (u.size : Int) := by omega
  have g2 : ¬ (500 : Int) < (n3 : Int) := by omega
  clear hA hD hnA hnD h1
  have K0 : Keeps (fun _ => False) w w := Keeps.refl _ _
  have m0 : Hid True := trivial
  go_enter Tryd.func4, Tryd.ntmps4
  go_wp2_with (first
    | (go_at_call 7; have := m11; refine (wakes7 _ (Tabs.keep hT K11)).mono ?_; rintro e w12 ⟨rfl, k12⟩; have K12 := K11.trans k12; have sl_12 := sl_11.keep k12; have sA_12 := sA_11.keep k12; have sD_12 := sD_11.keep k12; have sT_12 := sT_11.keep k12; have m12 : Hid True := trivial)
    | (go_at_call 12; have := m10; refine (ints_same _ _ _ _ _ sT_10 sl_10 (by omega)).mono ?_; rintro e w11 ⟨rfl, k11⟩; have K11 := K10.trans k11; have sl_11 := sl_10.keep k11; have sA_11 := sA_10.keep k11; have sD_11 := sD_10.keep k11; have sT_11 := sT_10.keep k11; have m11 : Hid True := trivial)
    | (go_at_call 13; have := m9; refine (C13t _ (Tabs.keep hT K9) (by omega)).mono ?_; rintro e w10 ⟨⟨aT, cT, rfl, sT_10, ncT⟩, k10⟩; have K10 := K9.trans k10; have sl_10 := sl_9.keep k10; have sA_10 := sA_9.keep k10; have sD_10 := sD_9.keep k10; have m10 : Hid True := trivial)
    | (go_at_call 11; have := m8; refine (C11t _ (Tabs.keep hT K8)).mono ?_; rintro e w9 ⟨rfl, k9⟩; have K9 := K8.trans k9; have sl_9 := sl_8.keep k9; have sA_9 := sA_8.keep k9; have sD_9 := sD_8.keep k9; have m9 : Hid True := trivial)
    | (go_at_call 9; have := m7; refine (C9l _ sl_7).mono ?_; rintro e w8 ⟨rfl, k8⟩; have K8 := K7.trans k8; have sl_8 := sl_7.keep k8; have sA_8 := sA_7.keep k8; have sD_8 := sD_7.keep k8; have m8 : Hid True := trivial)
    | (go_at_call 11; have := m6; refine (C11u _ (Tabs.keep hT K6)).mono ?_; rintro e w7 ⟨rfl, k7⟩; have K7 := K6.trans k7; have sl_7 := sl_6.keep k7; have sA_7 := sA_6.keep k7; have sD_7 := sD_6.keep k7; have m7 : Hid True := trivial)
    | (go_at_call 11; have := m5; refine (C11u _ (Tabs.keep hT K5)).mono ?_; rintro e w6 ⟨rfl, k6⟩; have K6 := K5.trans k6; have sl_6 := sl_5.keep k6; have sA_6 := sA_5.keep k6; have sD_6 := sD_5.keep k6; have m6 : Hid True := trivial)
    | (go_at_call 11; have := m4; refine (C11su _ (Tabs.keep hT K4)).mono ?_; rintro e w5 ⟨rfl, k5⟩; have K5 := K4.trans k5; have sl_5 := sl_4.keep k5; have sA_5 := sA_4.keep k5; have sD_5 := sD_4.keep k5; have m5 : Hid True := trivial)
    | (go_at_call 9; have := m3; refine (C9A _ _ _ sA_3).mono ?_; rintro e w4 ⟨rfl, k4⟩; have K4 := K3.trans k4; have sl_4 := sl_3.keep k4; have sA_4 := sA_3.keep k4; have sD_4 := sD_3.keep k4; have m4 : Hid True := trivial)
    | (go_at_call 11; have := m2; refine (C11s _ (Tabs.keep hT K2)).mono ?_; rintro e w3 ⟨rfl, k3⟩; have K3 := K2.trans k3; have sl_3 := sl_2.keep k3; have sA_3 := sA_2.keep k3; have sD_3 := sD_2.keep k3; have m3 : Hid True := trivial)
    | (go_at_call 13; have := m1; refine (C13u _ (Tabs.keep hT K1) (by omega)).mono ?_; rintro e w2 ⟨⟨aD, cD, rfl, sD_2, ncD⟩, k2⟩; have K2 := K1.trans k2; have sl_2 := sl_1.keep k2; have sA_2 := sA_1.keep k2; have m2 : Hid True := trivial)
    | (go_at_call 13; have := m0; refine (C13s _ (Tabs.keep hT K0) (by omega)).mono ?_; rintro e w1 ⟨⟨aA, cA, rfl, sA_1, ncA⟩, k1⟩; have K1 := K0.trans k1; have sl_1 := hl.keep k1; have m1 : Hid True := trivial))
  go_ret
  exact ⟨rfl, K12⟩

set_option maxRecDepth 100000 in
set_option maxHeartbeats 2000000 in
theorem back_100 (w : World) (hT : Lib.Utf8Tabs 0 1 w) (s u : ByteArray) (hs : s.size ≤ 1000) (hu : u.size ≤ 1000) (a3 : Option Addr) (n3 c3 : Nat) (l : List Int) (hl : SlI w a3 n3 c3 l) (hn : n3 ≤ 500)
    (h1 : vd s.data.toList = true) (h2 : vd u.data.toList = false) (h3 : ¬ allS l) :
    Calls Tryd.prog 4 #[.string s, .string u, .slice a3 n3 c3] w fun e w' => e = .returned (.bool true) ∧ Keeps (fun _ => False) w w' := by
  obtain ⟨A, hA⟩ : ∃ A, sg s.data.toList = A := ⟨_, rfl⟩
  obtain ⟨D, hD⟩ : ∃ D, sg u.data.toList = D := ⟨_, rfl⟩
  obtain ⟨nA, hnA⟩ : ∃ nA, A.length = nA := ⟨_, rfl⟩
  obtain ⟨nD, hnD⟩ : ∃ nD, D.length = nD := ⟨_, rfl⟩
  have bA : nA ≤ 1000 := by have := sg_len s.data.toList; rw [hA, hnA, sz_len] at this; omega
  have bD : nD ≤ 1000 := by have := sg_len u.data.toList; rw [hD, hnD, sz_len] at this; omega
  have C13s := signs_own hA
  have C13u := signs_own hD
  rw [hnA] at C13s
  rw [hnD] at C13u
  have C11s : ∀ W, Lib.Utf8Tabs 0 1 W → Calls Tryd.prog 11 #[.string s] W fun e w' => e = .returned (.bool true) ∧ Keeps (fun _ => False) W w' := fun W h => by
    rw [← h1]; exact valid11 W h s (by omega)
  obtain ⟨f1, f2⟩ := vd_split h1
  rw [hA] at f1 f2
  have C9A : ∀ W a c, SlI W a nA c A → Calls Tryd.prog 9 #[.slice a nA c] W fun e w' => e = .returned (.tuple #[.string s, .int .i64 0]) ∧ Keeps (fun _ => False) W w' := fun W a c h => by
    have := text9 W a nA c A h (by omega)
    rw [show txt A = (s.data.toList, 0) by unfold txt; rw [if_pos f2, ← f1], bs_of] at this
    exact this
  have C11su : ∀ W, Lib.Utf8Tabs 0 1 W → Calls Tryd.prog 11 #[.string (s ++ u)] W fun e w' => e = .returned (.bool false) ∧ Keeps (fun _ => False) W w' := fun W h => by
    have := valid11 W h (s ++ u) (by rw [app_sz]; omega)
    rw [app_data, sg_app h1, h2] at this
    exact this
  have C11u : ∀ W, Lib.Utf8Tabs 0 1 W → Calls Tryd.prog 11 #[.string u] W fun e w' => e = .returned (.bool false) ∧ Keeps (fun _ => False) W w' := fun W h => by
    rw [← h2]; exact valid11 W h u (by omega)
  clear f1 f2 h2
  have C9l : ∀ W, SlI W a3 n3 c3 l → Calls Tryd.prog 9 #[.slice a3 n3 c3] W fun e w' => e = .returned (.tuple #[.string ⟨#[]⟩, .int .i64 11]) ∧ Keeps (fun _ => False) W w' := fun W h => by
    have := text9 W a3 n3 c3 l h (by omega)
    rw [show txt l = ([], 11) by unfold txt; rw [if_neg h3]] at this
    exact this
  clear h3
  have g0 : ¬ (1000 : Int) < (s.size : Int) := by omega
  have g1 : ¬ (1000 : Int) < (u.size : Int) := by omega
  have g2 : ¬ (500 : Int) < (n3 : Int) := by omega
  clear hA hD hnA hnD h1
  have K0 : Keeps (fun _ => False) w w := Keeps.refl _ _
  have m0 : Hid True := trivial
  go_enter Tryd.func4, Tryd.ntmps4
  go_wp2_with (first
    | (go_at_call 7; have := m8; refine (wakes7 _ (Tabs.keep hT K8)).mono ?_; rintro e w9 ⟨rfl, k9⟩; have K9 := K8.trans k9; have sl_9 := sl_8.keep k9; have sA_9 := sA_8.keep k9; have sD_9 := sD_8.keep k9; have m9 : Hid True := trivial)
    | (go_at_call 9; have := m7; refine (C9l _ sl_7).mono ?_; rintro e w8 ⟨rfl, k8⟩; have K8 := K7.trans k8; have sl_8 := sl_7.keep k8; have sA_8 := sA_7.keep k8; have sD_8 := sD_7.keep k8; have m8 : Hid True := trivial)
    | (go_at_call 11; have := m6; refine (C11u _ (Tabs.keep hT K6)).mono ?_; rintro e w7 ⟨rfl, k7⟩; have K7 := K6.trans k7; have sl_7 := sl_6.keep k7; have sA_7 := sA_6.keep k7; have sD_7 := sD_6.keep k7; have m7 : Hid True := trivial)
    | (go_at_call 11; have := m5; refine (C11u _ (Tabs.keep hT K5)).mono ?_; rintro e w6 ⟨rfl, k6⟩; have K6 := K5.trans k6; have sl_6 := sl_5.keep k6; have sA_6 := sA_5.keep k6; have sD_6 := sD_5.keep k6; have m6 : Hid True := trivial)
    | (go_at_call 11; have := m4; refine (C11su _ (Tabs.keep hT K4)).mono ?_; rintro e w5 ⟨rfl, k5⟩; have K5 := K4.trans k5; have sl_5 := sl_4.keep k5; have sA_5 := sA_4.keep k5; have sD_5 := sD_4.keep k5; have m5 : Hid True := trivial)
    | (go_at_call 9; have := m3; refine (C9A _ _ _ sA_3).mono ?_; rintro e w4 ⟨rfl, k4⟩; have K4 := K3.trans k4; have sl_4 := sl_3.keep k4; have sA_4 := sA_3.keep k4; have sD_4 := sD_3.keep k4; have m4 : Hid True := trivial)
    | (go_at_call 11; have := m2; refine (C11s _ (Tabs.keep hT K2)).mono ?_; rintro e w3 ⟨rfl, k3⟩; have K3 := K2.trans k3; have sl_3 := sl_2.keep k3; have sA_3 := sA_2.keep k3; have sD_3 := sD_2.keep k3; have m3 : Hid True := trivial)
    | (go_at_call 13; have := m1; refine (C13u _ (Tabs.keep hT K1) (by omega)).mono ?_; rintro e w2 ⟨⟨aD, cD, rfl, sD_2, ncD⟩, k2⟩; have K2 := K1.trans k2; have sl_2 := sl_1.keep k2; have sA_2 := sA_1.keep k2; have m2 : Hid True := trivial)
    | (go_at_call 13; have := m0; refine (C13s _ (Tabs.keep hT K0) (by omega)).mono ?_; rintro e w1 ⟨⟨aA, cA, rfl, sA_1, ncA⟩, k1⟩; have K1 := K0.trans k1; have sl_1 := hl.keep k1; have m1 : Hid True := trivial))
  go_ret
  exact ⟨rfl, K9⟩

set_option maxRecDepth 100000 in
set_option maxHeartbeats 2000000 in
theorem back_001 (w : World) (hT : Lib.Utf8Tabs 0 1 w) (s u : ByteArray) (hs : s.size ≤ 1000) (hu : u.size ≤ 1000) (a3 : Option Addr) (n3 c3 : Nat) (l : List Int) (hl : SlI w a3 n3 c3 l) (hn : n3 ≤ 500)
    (h1 : vd s.data.toList = false) (h3 : allS l) :
    Calls Tryd.prog 4 #[.string s, .string u, .slice a3 n3 c3] w fun e w' => e = .returned (.bool true) ∧ Keeps (fun _ => False) w w' := by
  obtain ⟨A, hA⟩ : ∃ A, sg s.data.toList = A := ⟨_, rfl⟩
  obtain ⟨D, hD⟩ : ∃ D, sg u.data.toList = D := ⟨_, rfl⟩
  obtain ⟨nA, hnA⟩ : ∃ nA, A.length = nA := ⟨_, rfl⟩
  obtain ⟨nD, hnD⟩ : ∃ nD, D.length = nD := ⟨_, rfl⟩
  have bA : nA ≤ 1000 := by have := sg_len s.data.toList; rw [hA, hnA, sz_len] at this; omega
  have bD : nD ≤ 1000 := by have := sg_len u.data.toList; rw [hD, hnD, sz_len] at this; omega
  have C13s := signs_own hA
  have C13u := signs_own hD
  rw [hnA] at C13s
  rw [hnD] at C13u
  have C11s : ∀ W, Lib.Utf8Tabs 0 1 W → Calls Tryd.prog 11 #[.string s] W fun e w' => e = .returned (.bool false) ∧ Keeps (fun _ => False) W w' := fun W h => by
    rw [← h1]; exact valid11 W h s (by omega)
  obtain rfl : A = [] := by rw [← hA]; exact sg_no h1
  obtain rfl : nA = 0 := by rw [← hnA]; rfl
  obtain ⟨t, ht⟩ : ∃ t, bs (encs l) = t := ⟨_, rfl⟩
  have hlen := hl.len
  have bt : t.size ≤ 2000 := by rw [← ht, bs_size]; have := encs_len l; omega
  have C9l : ∀ W, SlI W a3 n3 c3 l → Calls Tryd.prog 9 #[.slice a3 n3 c3] W fun e w' => e = .returned (.tuple #[.string t, .int .i64 0]) ∧ Keeps (fun _ => False) W w' := fun W h => by
    have := text9 W a3 n3 c3 l h (by omega)
    rw [show txt l = (encs l, 0) by unfold txt; rw [if_pos h3], ht] at this
    exact this
  have C11t : ∀ W, Lib.Utf8Tabs 0 1 W → Calls Tryd.prog 11 #[.string t] W fun e w' => e = .returned (.bool true) ∧ Keeps (fun _ => False) W w' := fun W h => by
    have := valid11 W h t (by omega)
    rw [← ht, bs_data, (sg_encs h3).1, ht] at this
    exact this
  have C13t := signs_own (s := t) (l := l) (by rw [← ht, bs_data, (sg_encs h3).2])
  rw [hlen] at C13t
  clear ht hlen h3
  have g0 : ¬ (1000 : Int) < (s.size : Int) := by omega
  have g1 : ¬ (1000 : Int) < (u.size : Int) := by omega
  have g2 : ¬ (500 : Int) < (n3 : Int) := by omega
  clear hA hD hnA hnD h1
  have K0 : Keeps (fun _ => False) w w := Keeps.refl _ _
  have m0 : Hid True := trivial
  go_enter Tryd.func4, Tryd.ntmps4
  go_wp2_with (first
    | (go_at_call 7; have := m7; refine (wakes7 _ (Tabs.keep hT K7)).mono ?_; rintro e w8 ⟨rfl, k8⟩; have K8 := K7.trans k8; have sl_8 := sl_7.keep k8; have sA_8 := sA_7.keep k8; have sD_8 := sD_7.keep k8; have sT_8 := sT_7.keep k8; have m8 : Hid True := trivial)
    | (go_at_call 12; have := m6; refine (ints_same _ _ _ _ _ sT_6 sl_6 (by omega)).mono ?_; rintro e w7 ⟨rfl, k7⟩; have K7 := K6.trans k7; have sl_7 := sl_6.keep k7; have sA_7 := sA_6.keep k7; have sD_7 := sD_6.keep k7; have sT_7 := sT_6.keep k7; have m7 : Hid True := trivial)
    | (go_at_call 13; have := m5; refine (C13t _ (Tabs.keep hT K5) (by omega)).mono ?_; rintro e w6 ⟨⟨aT, cT, rfl, sT_6, ncT⟩, k6⟩; have K6 := K5.trans k6; have sl_6 := sl_5.keep k6; have sA_6 := sA_5.keep k6; have sD_6 := sD_5.keep k6; have m6 : Hid True := trivial)
    | (go_at_call 11; have := m4; refine (C11t _ (Tabs.keep hT K4)).mono ?_; rintro e w5 ⟨rfl, k5⟩; have K5 := K4.trans k5; have sl_5 := sl_4.keep k5; have sA_5 := sA_4.keep k5; have sD_5 := sD_4.keep k5; have m5 : Hid True := trivial)
    | (go_at_call 9; have := m3; refine (C9l _ sl_3).mono ?_; rintro e w4 ⟨rfl, k4⟩; have K4 := K3.trans k4; have sl_4 := sl_3.keep k4; have sA_4 := sA_3.keep k4; have sD_4 := sD_3.keep k4; have m4 : Hid True := trivial)
    | (go_at_call 11; have := m2; refine (C11s _ (Tabs.keep hT K2)).mono ?_; rintro e w3 ⟨rfl, k3⟩; have K3 := K2.trans k3; have sl_3 := sl_2.keep k3; have sA_3 := sA_2.keep k3; have sD_3 := sD_2.keep k3; have m3 : Hid True := trivial)
    | (go_at_call 13; have := m1; refine (C13u _ (Tabs.keep hT K1) (by omega)).mono ?_; rintro e w2 ⟨⟨aD, cD, rfl, sD_2, ncD⟩, k2⟩; have K2 := K1.trans k2; have sl_2 := sl_1.keep k2; have sA_2 := sA_1.keep k2; have m2 : Hid True := trivial)
    | (go_at_call 13; have := m0; refine (C13s _ (Tabs.keep hT K0) (by omega)).mono ?_; rintro e w1 ⟨⟨aA, cA, rfl, sA_1, ncA⟩, k1⟩; have K1 := K0.trans k1; have sl_1 := hl.keep k1; have m1 : Hid True := trivial))
  go_ret
  exact ⟨rfl, K8⟩

set_option maxRecDepth 100000 in
set_option maxHeartbeats 2000000 in
theorem back_000 (w : World) (hT : Lib.Utf8Tabs 0 1 w) (s u : ByteArray) (hs : s.size ≤ 1000) (hu : u.size ≤ 1000) (a3 : Option Addr) (n3 c3 : Nat) (l : List Int) (hl : SlI w a3 n3 c3 l) (hn : n3 ≤ 500)
    (h1 : vd s.data.toList = false) (h3 : ¬ allS l) :
    Calls Tryd.prog 4 #[.string s, .string u, .slice a3 n3 c3] w fun e w' => e = .returned (.bool true) ∧ Keeps (fun _ => False) w w' := by
  obtain ⟨A, hA⟩ : ∃ A, sg s.data.toList = A := ⟨_, rfl⟩
  obtain ⟨D, hD⟩ : ∃ D, sg u.data.toList = D := ⟨_, rfl⟩
  obtain ⟨nA, hnA⟩ : ∃ nA, A.length = nA := ⟨_, rfl⟩
  obtain ⟨nD, hnD⟩ : ∃ nD, D.length = nD := ⟨_, rfl⟩
  have bA : nA ≤ 1000 := by have := sg_len s.data.toList; rw [hA, hnA, sz_len] at this; omega
  have bD : nD ≤ 1000 := by have := sg_len u.data.toList; rw [hD, hnD, sz_len] at this; omega
  have C13s := signs_own hA
  have C13u := signs_own hD
  rw [hnA] at C13s
  rw [hnD] at C13u
  have C11s : ∀ W, Lib.Utf8Tabs 0 1 W → Calls Tryd.prog 11 #[.string s] W fun e w' => e = .returned (.bool false) ∧ Keeps (fun _ => False) W w' := fun W h => by
    rw [← h1]; exact valid11 W h s (by omega)
  obtain rfl : A = [] := by rw [← hA]; exact sg_no h1
  obtain rfl : nA = 0 := by rw [← hnA]; rfl
  have C9l : ∀ W, SlI W a3 n3 c3 l → Calls Tryd.prog 9 #[.slice a3 n3 c3] W fun e w' => e = .returned (.tuple #[.string ⟨#[]⟩, .int .i64 11]) ∧ Keeps (fun _ => False) W w' := fun W h => by
    have := text9 W a3 n3 c3 l h (by omega)
    rw [show txt l = ([], 11) by unfold txt; rw [if_neg h3]] at this
    exact this
  clear h3
  have g0 : ¬ (1000 : Int) < (s.size : Int) := by omega
  have g1 : ¬ (1000 : Int) < (u.size : Int) := by omega
  have g2 : ¬ (500 : Int) < (n3 : Int) := by omega
  clear hA hD hnA hnD h1
  have K0 : Keeps (fun _ => False) w w := Keeps.refl _ _
  have m0 : Hid True := trivial
  go_enter Tryd.func4, Tryd.ntmps4
  go_wp2_with (first
    | (go_at_call 7; have := m4; refine (wakes7 _ (Tabs.keep hT K4)).mono ?_; rintro e w5 ⟨rfl, k5⟩; have K5 := K4.trans k5; have sl_5 := sl_4.keep k5; have sA_5 := sA_4.keep k5; have sD_5 := sD_4.keep k5; have m5 : Hid True := trivial)
    | (go_at_call 9; have := m3; refine (C9l _ sl_3).mono ?_; rintro e w4 ⟨rfl, k4⟩; have K4 := K3.trans k4; have sl_4 := sl_3.keep k4; have sA_4 := sA_3.keep k4; have sD_4 := sD_3.keep k4; have m4 : Hid True := trivial)
    | (go_at_call 11; have := m2; refine (C11s _ (Tabs.keep hT K2)).mono ?_; rintro e w3 ⟨rfl, k3⟩; have K3 := K2.trans k3; have sl_3 := sl_2.keep k3; have sA_3 := sA_2.keep k3; have sD_3 := sD_2.keep k3; have m3 : Hid True := trivial)
    | (go_at_call 13; have := m1; refine (C13u _ (Tabs.keep hT K1) (by omega)).mono ?_; rintro e w2 ⟨⟨aD, cD, rfl, sD_2, ncD⟩, k2⟩; have K2 := K1.trans k2; have sl_2 := sl_1.keep k2; have sA_2 := sA_1.keep k2; have m2 : Hid True := trivial)
    | (go_at_call 13; have := m0; refine (C13s _ (Tabs.keep hT K0) (by omega)).mono ?_; rintro e w1 ⟨⟨aA, cA, rfl, sA_1, ncA⟩, k1⟩; have K1 := K0.trans k1; have sl_1 := hl.keep k1; have m1 : Hid True := trivial))
  go_ret
  exact ⟨rfl, K5⟩

set_option maxRecDepth 100000 in
set_option maxHeartbeats 2000000 in
theorem back_long (w : World) (hT : Lib.Utf8Tabs 0 1 w) (s u : ByteArray) (a3 : Option Addr) (n3 c3 : Nat) (h : 1000 < s.size ∨ 1000 < u.size ∨ 500 < n3) :
    Calls Tryd.prog 4 #[.string s, .string u, .slice a3 n3 c3] w fun e w' => e = .returned (.bool true) ∧ Keeps (fun _ => False) w w' := by
  have cs : (1000 : Int) < (s.size : Int) ∨ (¬ (1000 : Int) < (s.size : Int) ∧ (1000 : Int) < (u.size : Int)) ∨ (¬ (1000 : Int) < (s.size : Int) ∧ ¬ (1000 : Int) < (u.size : Int) ∧ (500 : Int) < (n3 : Int)) := by omega
  clear h
  go_enter Tryd.func4, Tryd.ntmps4
  rcases cs with h1 | ⟨h1, h2⟩ | ⟨h1, h2, h3⟩
  all_goals
    go_wp2_with (go_at_call 7; refine (wakes7 _ hT).mono ?_; rintro e w2 ⟨rfl, k2⟩)
    go_ret
    exact ⟨rfl, k2⟩

theorem backL (w : World) (hT : Lib.Utf8Tabs 0 1 w) (s : ByteArray) (hs : s.size ≤ 9223372036854775807) (u : ByteArray) (hu : u.size ≤ 9223372036854775807) (a3 : Option Addr) (n3 c3 : Nat) (l : List Int) (hl : SlI w a3 n3 c3 l) (hn : n3 ≤ 9223372036854775807) :
    Calls Tryd.prog 4 #[.string s, .string u, .slice a3 n3 c3] w fun e w' => e = .returned (.bool true) ∧ Keeps (fun _ => False) w w' := by
  by_cases h : 1000 < s.size ∨ 1000 < u.size ∨ 500 < n3
  · exact back_long w hT s u a3 n3 c3 h
  · have b1 : s.size ≤ 1000 := by omega
    have b2 : u.size ≤ 1000 := by omega
    have b3 : n3 ≤ 500 := by omega
    cases h1 : vd s.data.toList with
    | false =>
      by_cases h3 : allS l
      · exact back_001 w hT s u b1 b2 a3 n3 c3 l hl b3 h1 h3
      · exact back_000 w hT s u b1 b2 a3 n3 c3 l hl b3 h1 h3
    | true =>
      cases h2 : vd u.data.toList with
      | false =>
        by_cases h3 : allS l
        · exact back_101 w hT s u b1 b2 a3 n3 c3 l hl b3 h1 h2 h3
        · exact back_100 w hT s u b1 b2 a3 n3 c3 l hl b3 h1 h2 h3
      | true =>
        by_cases h3 : allS l
        · exact back_111 w hT s u b1 b2 a3 n3 c3 l hl b3 h1 h2 h3
        · exact back_110 w hT s u b1 b2 a3 n3 c3 l hl b3 h1 h2 h3


end Go.Proofs.YtppliejbpgkaiaaDoor
