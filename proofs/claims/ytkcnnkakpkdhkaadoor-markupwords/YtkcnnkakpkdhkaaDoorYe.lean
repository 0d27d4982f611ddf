/-
  The law MarkupWords.
-/
import Derived.Test.YtkcnnkakpkdhkaaDoorHC
set_option linter.all false
set_option maxRecDepth 100000
namespace Go.Proofs.YtkcnnkakpkdhkaaDoor
open Go.RowKit Go.Sort Go.Shelf
attribute [local go_sem] Oper.semAt_some

theorem wds_mid (p r : List UInt8) : wds (p ++ 32 :: r) = wds p ++ wds r := by
  unfold wds
  rw [cutL_mid, List.filter_append]
theorem wds_bl (r : List UInt8) : wds (32 :: r) = wds r := by
  have := wds_mid [] r
  rw [List.nil_append] at this
  rw [this]; rfl
theorem wds_rep (r : List UInt8) : ∀ k : Nat, wds (List.replicate k 32 ++ r) = wds r
  | 0 => rfl
  | k + 1 => by rw [List.replicate_succ, List.cons_append, wds_bl, wds_rep r k]
theorem wds_add (p r : List UInt8) {k : Nat} (hk : 1 ≤ k) : wds (p ++ List.replicate k 32 ++ r) = wds p ++ wds r := by
  obtain ⟨j, rfl⟩ : ∃ j, k = j + 1 := ⟨k - 1, by omega⟩
  rw [List.append_assoc, List.replicate_succ, List.cons_append, wds_mid, wds_rep]
theorem rep_snoc (p : List UInt8) (k : Nat) : p ++ List.replicate k 32 ++ [32] = p ++ List.replicate (k + 1) (32 : UInt8) := by
  rw [List.append_assoc, ← List.replicate_succ']
theorem wds_mem2 {l x : List UInt8} (h : x ∈ wds l) : x ≠ [] ∧ (32 : UInt8) ∉ x := by
  refine ⟨(wds_mem h).1, ?_⟩
  unfold wds at h
  rw [List.mem_filter] at h
  exact cutL_no x h.1
theorem SlT.keepsB {S : Nat → Prop} {w w' : World} {a : Option Addr} {n c : Nat} {l : List (List UInt8)} (h : SlT w a n c l) (hk : Keeps S w w') (B : Nat) (hB : ∀ b o, a = some ⟨b, o, none⟩ → B ≤ b) (hS : ∀ k, S k → k < B) : SlT w' a n c l :=
  h.keeps hk (fun _ b o e hs => by have := hB b o e; have := hS b hs; omega)

theorem texts_same (w : World) (a b : Option Addr) (n c d : Nat) (l : List (List UInt8)) (hl : SlT w a n c l) (hr : SlT w b n d l) (hn : n ≤ 100000) :
    Calls Tryd.prog 18 #[.slice a n c, .slice b n d] w fun e w' => e = .returned (.bool true) ∧ Keeps (fun _ => False) w w' := by
  have h := texts18 w a b n n c d l l hl hr hn
  have e : decide (l = l) = true := decide_eq_true rfl
  rw [e] at h
  exact h
/-- Where the law stands. -/
structure WdI (w : World) (i : Nat) (L : ByteArray) (v : Value) (wr : World) : Prop where
  own : OwnT wr w.heap.size v (wds L.data.toList)
  keep : Keeps (fun _ => False) w wr
  ls : L.size ≤ i * 64
  wl : (wds L.data.toList).length ≤ i * 61

set_option maxHeartbeats 16000000 in
theorem wordsW (w : World) (hT : Lib.Utf8Tabs 0 1 w) (a : Option Addr) (n c : Nat) (l : List (List UInt8)) (hl : SlT w a n c l) (hn : n ≤ 9223372036854775807) (a2 : Option Addr) (n2 c2 : Nat) (bl : List UInt8) (hb : SlU w a2 n2 c2 bl) (hn2 : n2 ≤ 9223372036854775807) :
    Calls Tryd.prog 6 #[.slice a n c, .slice a2 n2 c2] w fun e w' => e = .returned (.bool true) ∧ Keeps (fun _ => False) w w' := by
  have hwk := Hid.mk' (fun W (hW : Keeps (fun _ => False) w W) => wakes9 W (Tabs.keep hT hW))
  obtain ⟨E0, hE0⟩ : ∃ E : ByteArray, E = ⟨#[]⟩ := ⟨_, rfl⟩
  obtain ⟨E1, hE1⟩ : ∃ E : ByteArray, E = ⟨#[32]⟩ := ⟨_, rfl⟩
  obtain ⟨E2, hE2⟩ : ∃ E : ByteArray, E = ⟨#[32, 32]⟩ := ⟨_, rfl⟩
  by_cases hn60 : 60 < n
  · have g1 : (60 : Int) < (n : Int) := by omega
    clear hn60
    go_enter Tryd.func6, Tryd.ntmps6
    rw [← hE0, ← hE1, ← hE2]
    go_wp2_with (go_at_call 9; refine (hwk.out _ (Keeps.refl _ _)).mono ?_; rintro e w1 ⟨rfl, k1⟩)
    go_ret
    exact ⟨rfl, k1⟩
  · have g1 : ¬ (60 : Int) < (n : Int) := by omega
    by_cases hn100 : 100 < n2
    · have g2 : (100 : Int) < (n2 : Int) := by omega
      clear hn60 hn100
      go_enter Tryd.func6, Tryd.ntmps6
      rw [← hE0, ← hE1, ← hE2]
      go_wp2_with (go_at_call 9; refine (hwk.out _ (Keeps.refl _ _)).mono ?_; rintro e w1 ⟨rfl, k1⟩)
      go_ret
      exact ⟨rfl, k1⟩
    · have g2 : ¬ (100 : Int) < (n2 : Int) := by omega
      have I0 : WdI w 0 E0 (.slice none 0 0) w := by rw [hE0]; exact ⟨OwnT.nil _ _, Keeps.refl _ _, Nat.le_refl _, Nat.le_refl _⟩
      have z0 : E0.size = 0 := by rw [hE0]; rfl
      have z1 : E1.size = 1 := by rw [hE1]; rfl
      have z2 : E2.size = 2 := by rw [hE2]; rfl
      have HE0 := Hid.mk' hE0
      have HE1 := Hid.mk' hE1
      have HE2 := Hid.mk' hE2
      have HL := Hid.mk' hl
      have HB := Hid.mk' hb
      have HN : Hid (l.length = n) := hl.len
      go_enter Tryd.func6, Tryd.ntmps6
      rw [← hE0, ← hE1, ← hE2]
      clear hE0 hE1 hE2 hn hn2 hn100
      go_wp2
      go_loopw [5, 6, 7] (fun ln v t wr => ∃ (i : Nat) (L : ByteArray), t = .int .i64 (i : Int) ∧ i ≤ n ∧ ln = .string L ∧ WdI w i L v wr) (fun _ _ t _ => n - (intOf t).toNat)
      case atStart => exact ⟨0, E0, rfl, by omega, rfl, I0⟩
      case round =>
        clear I0
        obtain ⟨i, L, rfl, hi, rfl, hI⟩ := hrel
        have HI := Hid.mk' hI
        have hLs := hI.ls
        clear hI
        by_cases hlt : i < n
        · have hlt' : (i : Int) < (n : Int) := by omega
          have hi0 : (0 : Int) ≤ (i : Int) := by omega
          obtain ⟨b, o, rfl, _, hcx⟩ := (HL.out.keep HI.out.keep).ent2 hlt
          obtain ⟨x, hx⟩ : ∃ x, l.getD i [] = x := ⟨_, rfl⟩
          rw [hx] at hcx
          have Hx := Hid.mk' hx
          obtain ⟨X, hX⟩ : ∃ X, bs x = X := ⟨_, rfl⟩
          have HX := Hid.mk' hX
          have HXl : Hid (X.data.toList = x) := by show _ = _; rw [← hX, bs_data]
          have hXs : X.size = x.length := by rw [← sz_len, HXl.out]
          rw [hX] at hcx
          clear hx hX
          by_cases h60 : 60 < x.length
          · have g3 : (60 : Int) < (X.size : Int) := by omega
            clear h60 hXs hLs
            go_wp2_with (go_at_call 9; refine (hwk.out _ HI.out.keep).mono ?_; rintro e w1 ⟨rfl, k1⟩)
            go_ret
            exact ⟨rfl, HI.out.keep.trans k1⟩
          · have g3 : ¬ (60 : Int) < (X.size : Int) := by omega
            obtain ⟨ws, hws⟩ : ∃ ws, wds x = ws := ⟨_, rfl⟩
            have hqx := pwords19 wr X (by omega)
            rw [HXl.out, hws] at hqx
            obtain ⟨m, hm⟩ : ∃ m, ws.length = m := ⟨_, rfl⟩
            have HM := Hid.mk' hm
            have Hws := Hid.mk' hws
            have hm61 : m ≤ 61 := by have := wds_len x; rw [hws, hm] at this; omega
            obtain ⟨WL, hWL⟩ : ∃ WL, wds L.data.toList = WL := ⟨_, rfl⟩
            have HWL := Hid.mk' hWL
            have oW0 := HI.out.own
            rw [hWL] at oW0
            have oW := Hid.mk' oW0
            clear oW0
            have hWl : WL.length ≤ 3660 := by have := HI.out.wl; rw [hWL] at this; omega
            have hL9 : L.size ≤ 3840 := by omega
            have HLs := Hid.mk' hLs
            clear hws hm hWL hLs
            go_wp2_with (first
              | (have hh := y1; clear y1; refine wpList_appTs rfl _ _ rfl w.heap.size _ WL rfl (oW.out.keeps k1 (fun _ _ h => h.elim)) a8 m c8 ws rfl s8 z8 (by omega) (by have := HI.out.keep.size; have := k1.size; omega) ?_; intro v' w2 o2 k2; have hks : ∀ q, Value.ownBlock _ = some q → q < wr.heap.size := (fun q e => (OwnT.from oW.out e).2); have s82 := s8.keepsB k2 wr.heap.size b8 hks; have K2 : Hid (Keeps (fun _ => False) w w2) := HI.out.keep.trans' ((k1.mono (fun _ _ h => h.elim)).trans k2) (fun k e => .inr (OwnT.from oW.out e).1))
              | (go_at_call 19; refine hqx.mono ?_; rintro e w1 ⟨⟨u, rfl, ou⟩, k1⟩; obtain ⟨a8, c8, e8, s8, z8, b8⟩ := ou.slice2; rw [HM.out] at e8 s8; obtain rfl : u = .slice a8 m c8 := e8; have y1 : Hid True := trivial))
            have S8 := Hid.mk' s82
            have O2 := Hid.mk' o2
            clear s8 s82 k1 k2 ou o2 hqx hks oW
            go_loopw [9] (fun t wr2 => ∃ k : Nat, t = .int .i64 (k : Int) ∧ k ≤ m ∧ Keeps (fun _ => False) w2 wr2) (fun t _ => m - (intOf t).toNat)
            case atStart => exact ⟨0, rfl, by omega, Keeps.refl _ _⟩
            case round =>
              obtain ⟨k, rfl, hk, hkk⟩ := hrel
              have HKK := Hid.mk' hkk
              by_cases hkm : k < m
              · have hkm' : (k : Int) < (m : Int) := by omega
                have hk0 : (0 : Int) ≤ (k : Int) := by omega
                obtain ⟨b9, o9, rfl, _, hcy⟩ := (S8.out.keep hkk).ent2 hkm
                obtain ⟨y, hy⟩ : ∃ y, ws.getD k [] = y := ⟨_, rfl⟩
                have hym : y ∈ wds x := by
                  rw [Hws.out, ← hy, List.getD_eq_getElem?_getD, List.getElem?_eq_getElem (by rw [HM.out]; exact hkm)]
                  exact List.getElem_mem _
                rw [hy] at hcy
                obtain ⟨hy1, hy2⟩ := wds_mem2 hym
                have hyl := (wds_mem hym).2
                obtain ⟨Y, hY⟩ : ∃ Y, bs y = Y := ⟨_, rfl⟩
                have t0 : (Y.toList == E0.toList) = false := by rw [← hY]; exact bs_ne hy1 E0 HE0.out
                have HYl : Hid (Y.data.toList = y) := by show _ = _; rw [← hY, bs_data]
                have hYs : Y.size = y.length := by rw [← sz_len, HYl.out]
                have HY2 := Hid.mk' hy2
                have hY60 : Y.size ≤ 60 := by omega
                rw [hY] at hcy
                clear hy hym hy1 hy2 hyl hY hkk
                go_wp2
                go_loopw [10] (fun t wr3 => ∃ j : Nat, t = .int .i64 (j : Int) ∧ j ≤ Y.size ∧ wr3.cell? ⟨b9, o9 + k, none⟩ = some (.string Y) ∧ Keeps (fun _ => False) w2 wr3) (fun t _ => Y.size - (intOf t).toNat)
                case atStart => exact ⟨0, rfl, by omega, hcy, HKK.out⟩
                case round =>
                  clear hcy
                  obtain ⟨j, rfl, hj, hcy, hk3⟩ := hrel
                  have HK3 := Hid.mk' hk3
                  clear hk3
                  by_cases hjl : j < Y.size
                  · have hjl' : (j : Int) < (Y.size : Int) := by omega
                    have hj0 : (0 : Int) ≤ (j : Int) := by omega
                    obtain ⟨z, hz⟩ : ∃ z : UInt8, Y[j]'hjl = z := ⟨_, rfl⟩
                    have hz32 : ((z.toNat : Int) == (32 : Int)) = false := by
                      have hzm : z ∈ y := by
                        have e := s_get Y j hjl
                        rw [hz, HYl.out] at e
                        rw [e, List.getD_eq_getElem?_getD, List.getElem?_eq_getElem (by omega)]
                        exact List.getElem_mem _
                      simp
                      intro e
                      refine HY2.out ?_
                      have : z = 32 := by
                        apply UInt8.toNat_inj.1
                        have : (32 : UInt8).toNat = 32 := rfl
                        omega
                      rw [← this]; exact hzm
                    go_wp2
                    exact ⟨⟨j + 1, rfl, by omega, hcy, HK3.out⟩, by simp [intOf]; omega⟩
                  · obtain rfl : j = Y.size := by omega
                    have hjl' : ¬ (Y.size : Int) < (Y.size : Int) := by omega
                    clear hjl hj
                    go_wp2
                    exact ⟨⟨k + 1, rfl, by omega, HK3.out⟩, by simp [intOf]; omega⟩
              · obtain rfl : k = m := by omega
                have hkm' : ¬ (k : Int) < (k : Int) := by omega
                clear hkm hk hkk
                have HID2 : Hid (Keeps (fun _ => False) w w2) := K2.out
                by_cases hib : i < n2
                · have hib' : (i : Int) < (n2 : Int) := by omega
                  obtain ⟨bz, hbz⟩ : ∃ bz, bl[i]? = some bz := ⟨_, List.getElem?_eq_getElem (by rw [HB.out.len]; exact hib)⟩
                  obtain ⟨b6, o6, rfl, hcz⟩ := (HB.out.keep (HID2.out.trans HKK.out)).at_ i bz hbz
                  have hb256 := UInt8.toNat_lt bz
                  obtain ⟨zz, hzz⟩ : ∃ zz : Nat, bz.toNat = zz := ⟨_, rfl⟩
                  rw [hzz] at hcz hb256
                  obtain ⟨r, hr⟩ : ∃ r : Nat, zz % 4 = r := ⟨_, rfl⟩
                  have hr4 : r ≤ 3 := by omega
                  have hz0 : (0 : Int) ≤ (zz : Int) := by omega
                  have hz9 : (zz : Int) < 256 := by omega
                  have hrm : Int.tmod (zz : Int) 4 = (r : Int) := by
                    rw [Int.tmod_eq_emod_of_nonneg (by omega)]; omega
                  have hrm2 : (zz : Int) % 4 = (r : Int) := by omega
                  clear hbz hzz hr hib
                  go_wp2
                  go_loopw [5, 12] (fun ln t wr3 => ∃ (k : Nat) (L2 : ByteArray), t = .int .i64 (k : Int) ∧ k ≤ (1 + r) ∧ ln = .string L2 ∧ L2.data.toList = L.data.toList ++ List.replicate k 32 ∧ L2.size = L.size + k ∧ Keeps (fun _ => False) w2 wr3) (fun _ t _ => (1 + r) - (intOf t).toNat)
                  case atStart => exact ⟨0, L, rfl, by omega, rfl, by simp, rfl, HKK.out⟩
                  case round =>
                    obtain ⟨q, L2, rfl, hq, rfl, hd2, hs2, hk4⟩ := hrel
                    have HD2 := Hid.mk' hd2
                    have HS2 := Hid.mk' hs2
                    have hL2 : L2.size ≤ 3844 := by omega
                    clear hd2 hs2
                    by_cases hqn : q < (1 + r)
                    · have hqn' : (q : Int) < 1 + (r : Int) := by omega
                      have hq0 : (0 : Int) ≤ (q : Int) := by omega
                      have Hk4 := Hid.mk' hk4
                      clear hk4
                      go_wp2
                      refine ⟨⟨q + 1, L2 ++ E1, rfl, by omega, rfl, ?_, ?_, Hk4.out⟩, by simp [intOf]; omega⟩
                      · rw [ByteArray.data_append, Array.toList_append, HD2.out, HE1.out]
                        exact rep_snoc _ _
                      · rw [ByteArray.size_append, z1, HS2.out]; omega
                    · have hqe : q = (1 + r) := by omega
                      have hqn' : ¬ (q : Int) < 1 + (r : Int) := by omega
                      have hKw := HID2.out.trans hk4
                      obtain ⟨b7, o7, e7, _, hcx2⟩ := (HL.out.keep hKw).ent2 hlt
                      cases e7
                      rw [Hx.out, HX.out] at hcx2
                      have Hk4 := Hid.mk' hk4
                      have HKw := Hid.mk' hKw
                      clear hk4 hqn hq hKw
                      go_wp2
                      refine ⟨⟨i + 1, L2 ++ X, rfl, by omega, rfl, ?_⟩, by simp [intOf]; omega⟩
                      have hwd : wds (L2 ++ X).data.toList = WL ++ ws := by
                        rw [ByteArray.data_append, Array.toList_append, HD2.out, HXl.out, wds_add _ _ (by omega), HWL.out, Hws.out]
                      refine ⟨?_, HKw.out, ?_, ?_⟩
                      · rw [hwd]; exact O2.out.keeps Hk4.out (fun _ _ h => h.elim)
                      · rw [ByteArray.size_append, HS2.out]
                        have := HLs.out
                        omega
                      · rw [hwd, List.length_append, HM.out]
                        have := HI.out.wl
                        rw [HWL.out] at this
                        omega
                · have hib' : ¬ (i : Int) < (n2 : Int) := by omega
                  clear hib
                  go_wp2
                  go_loopw [5, 12] (fun ln t wr3 => ∃ (k : Nat) (L2 : ByteArray), t = .int .i64 (k : Int) ∧ k ≤ 1 ∧ ln = .string L2 ∧ L2.data.toList = L.data.toList ++ List.replicate k 32 ∧ L2.size = L.size + k ∧ Keeps (fun _ => False) w2 wr3) (fun _ t _ => 1 - (intOf t).toNat)
                  case atStart => exact ⟨0, L, rfl, by omega, rfl, by simp, rfl, HKK.out⟩
                  case round =>
                    obtain ⟨q, L2, rfl, hq, rfl, hd2, hs2, hk4⟩ := hrel
                    have HD2 := Hid.mk' hd2
                    have HS2 := Hid.mk' hs2
                    have hL2 : L2.size ≤ 3844 := by omega
                    clear hd2 hs2
                    by_cases hqn : q < 1
                    · have hqn' : (q : Int) < (1 : Int) := by omega
                      have hq0 : (0 : Int) ≤ (q : Int) := by omega
                      have Hk4 := Hid.mk' hk4
                      clear hk4
                      go_wp2
                      refine ⟨⟨q + 1, L2 ++ E1, rfl, by omega, rfl, ?_, ?_, Hk4.out⟩, by simp [intOf]; omega⟩
                      · rw [ByteArray.data_append, Array.toList_append, HD2.out, HE1.out]
                        exact rep_snoc _ _
                      · rw [ByteArray.size_append, z1, HS2.out]; omega
                    · have hqe : q = 1 := by omega
                      have hqn' : ¬ (q : Int) < (1 : Int) := by omega
                      have hKw := HID2.out.trans hk4
                      obtain ⟨b7, o7, e7, _, hcx2⟩ := (HL.out.keep hKw).ent2 hlt
                      cases e7
                      rw [Hx.out, HX.out] at hcx2
                      have Hk4 := Hid.mk' hk4
                      have HKw := Hid.mk' hKw
                      clear hk4 hqn hq hKw
                      go_wp2
                      refine ⟨⟨i + 1, L2 ++ X, rfl, by omega, rfl, ?_⟩, by simp [intOf]; omega⟩
                      have hwd : wds (L2 ++ X).data.toList = WL ++ ws := by
                        rw [ByteArray.data_append, Array.toList_append, HD2.out, HXl.out, wds_add _ _ (by omega), HWL.out, Hws.out]
                      refine ⟨?_, HKw.out, ?_, ?_⟩
                      · rw [hwd]; exact O2.out.keeps Hk4.out (fun _ _ h => h.elim)
                      · rw [ByteArray.size_append, HS2.out]
                        have := HLs.out
                        omega
                      · rw [hwd, List.length_append, HM.out]
                        have := HI.out.wl
                        rw [HWL.out] at this
                        omega
        · obtain rfl : i = n := by omega
          have hlt' : ¬ (i : Int) < (i : Int) := by omega
          clear hlt hi
          obtain ⟨WL, hWL⟩ : ∃ WL, wds L.data.toList = WL := ⟨_, rfl⟩
          have hoW := HI.out.own
          rw [hWL] at hoW
          obtain ⟨nw, hnw⟩ : ∃ nw, WL.length = nw := ⟨_, rfl⟩
          have hnw9 : nw ≤ 100000 := by have := HI.out.wl; rw [hWL, hnw] at this; omega
          obtain ⟨av, cv, ev, sv, _, bv⟩ := hoW.slice2
          rw [hnw] at ev sv
          subst ev
          have SV := Hid.mk' sv
          have hq1 := Hid.mk' (fun W => words_sl W L (by omega) WL hWL nw hnw)
          have hq2 := Hid.mk' (fun W => words_sl W (L ++ E2) (by rw [ByteArray.size_append]; omega) WL (by
            rw [ByteArray.data_append, Array.toList_append, HE2.out]
            show wds (L.data.toList ++ 32 :: [32]) = _
            rw [wds_mid, hWL]
            show WL ++ [] = WL
            rw [List.append_nil]) nw hnw)
          have hL3 : L.size ≤ 3840 := by omega
          have y0 : Hid True := trivial
          clear hoW hWL hnw sv bv
          go_wp2_with (first
            | (have hh := y4; clear y4; go_at_call 9; refine (hwk.out _ K4.out).mono ?_; rintro e w5 ⟨rfl, k5⟩)
            | (have hh := y3; clear y3; go_at_call 18; refine (texts_same _ a3 av nw c3 cv WL s3 (SV.out.keep J3.out) hnw9).mono ?_; rintro e w4 ⟨rfl, k4⟩; have K4 : Hid (Keeps (fun _ => False) w w4) := (HI.out.keep.trans J3.out).trans k4; have y4 : Hid True := trivial)
            | (have hh := y2; clear y2; go_at_call 19; refine (hq2.out _).mono ?_; rintro e w3 ⟨a3, c3, rfl, s3, _, k3⟩; have J3 : Hid (Keeps (fun _ => False) wr w3) := J2.out.trans k3; have y3 : Hid True := trivial)
            | (have hh := y1; clear y1; go_at_call 18; refine (texts_same _ a1 av nw c1 cv WL s1 (SV.out.keep J1.out) hnw9).mono ?_; rintro e w2 ⟨rfl, k2⟩; have J2 : Hid (Keeps (fun _ => False) wr w2) := J1.out.trans k2; have y2 : Hid True := trivial)
            | (have hh := y0; clear y0; go_at_call 19; refine (hq1.out _).mono ?_; rintro e w1 ⟨a1, c1, rfl, s1, _, k1⟩; have J1 : Hid (Keeps (fun _ => False) wr w1) := k1; have y1 : Hid True := trivial))
          go_ret
          exact ⟨rfl, K4.out.trans k5⟩

end Go.Proofs.YtkcnnkakpkdhkaaDoor
