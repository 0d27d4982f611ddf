/-
  Source of the reference.
-/
import Derived.Test.YtkcnnkakpkdhkaaDoorYg
set_option linter.all false
set_option maxRecDepth 100000
namespace Go.Proofs.YtkcnnkakpkdhkaaDoor
open Go.RowKit Go.Sort Go.Shelf
attribute [local go_sem] Oper.semAt_some

theorem join_take {ws : List (List UInt8)} {j : Nat} (hj : j < ws.length) (sep : List UInt8) : Lib.join (ws.take (j + 1)) sep = Lib.join (ws.take j) sep ++ ((if j = 0 then [] else sep) ++ ws.getD j []) := by
  rw [List.take_succ, List.getElem?_eq_getElem hj, List.getD_eq_getElem?_getD, List.getElem?_eq_getElem hj]
  show Lib.join (List.take j ws ++ [ws[j]]) _ = _
  rw [join_snoc]
  congr 2
  by_cases h0 : j = 0
  · subst h0; rfl
  · rw [if_neg h0, if_neg]
    intro e
    have := congrArg List.length e
    rw [List.length_take, List.length_nil] at this
    omega
theorem join_mono {ws : List (List UInt8)} (sep : List UInt8) : ∀ (d i : Nat), i + d = ws.length → (Lib.join (ws.take i) sep).length ≤ (Lib.join ws sep).length
  | 0, i, h => by rw [List.take_of_length_le (by omega)]; exact Nat.le_refl _
  | d + 1, i, h => by
    refine Nat.le_trans ?_ (join_mono sep d (i + 1) (by omega))
    rw [join_take (by omega), List.length_append]
    omega
theorem cat_list (x y : ByteArray) : (x ++ y).data.toList = x.data.toList ++ y.data.toList := by rw [ByteArray.data_append, Array.toList_append]

set_option maxHeartbeats 40000000 in
theorem rsource14 (w : World) (a : Option Addr) (n c : Nat) (P : List Pt) (hl : SlP w a n c P) (hn : n ≤ 200) (hP : ∀ p ∈ P, okP p) :
    Calls Tryd.prog 14 #[.slice a n c] w fun e w' => e = .returned (.tuple #[.string (bs (srcR P).1), .int .i64 (srcR P).2]) ∧ Keeps (fun _ => False) w w' := by
  have hg := rgood17 w a n c P hl (by omega) (fun p hp => ⟨by have := (hP p hp).1; omega, fun x hx => by have := (hP p hp).2 x hx; omega⟩)
  obtain ⟨G, hG⟩ : ∃ G, gdL P = G := ⟨_, rfl⟩
  rw [hG] at hg
  have HP := Hid.mk' hP
  have HL : Hid (P.length = n) := hl.len
  obtain ⟨E0, hE0⟩ : ∃ E0 : ByteArray, E0 = ⟨#[]⟩ := ⟨_, rfl⟩
  obtain ⟨E1, hE1⟩ : ∃ E1 : ByteArray, E1 = ⟨#[10, 10]⟩ := ⟨_, rfl⟩
  obtain ⟨E2, hE2⟩ : ∃ E2 : ByteArray, E2 = ⟨#[61, 32]⟩ := ⟨_, rfl⟩
  obtain ⟨E3, hE3⟩ : ∃ E3 : ByteArray, E3 = ⟨#[45, 32]⟩ := ⟨_, rfl⟩
  obtain ⟨E4, hE4⟩ : ∃ E4 : ByteArray, E4 = ⟨#[45, 45, 45]⟩ := ⟨_, rfl⟩
  obtain ⟨E5, hE5⟩ : ∃ E5 : ByteArray, E5 = ⟨#[32]⟩ := ⟨_, rfl⟩
  have HD0 : Hid (E0 = bs []) := by show _ = _; rw [hE0]; rfl
  have HD1 : Hid (E1.data.toList = [10, 10]) := by show _ = _; rw [hE1]
  have HD2 : Hid (E2.data.toList = [61, 32]) := by show _ = _; rw [hE2]
  have HD3 : Hid (E3.data.toList = [45, 32]) := by show _ = _; rw [hE3]
  have HD4 : Hid (E4.data.toList = [45, 45, 45]) := by show _ = _; rw [hE4]
  have HD5 : Hid (E5.data.toList = [32]) := by show _ = _; rw [hE5]
  have z0 : E0.size = 0 := by rw [hE0]; rfl
  have z1 : E1.size = 2 := by rw [hE1]; rfl
  have z2 : E2.size = 2 := by rw [hE2]; rfl
  have z3 : E3.size = 2 := by rw [hE3]; rfl
  have z4 : E4.size = 3 := by rw [hE4]; rfl
  have z5 : E5.size = 1 := by rw [hE5]; rfl
  cases G with
  | false =>
    have HR : Hid (srcR P = ([], 11)) := by show _ = _; unfold srcR; rw [if_neg (by rw [hG]; simp)]
    rw [HR.out]
    clear hG hP hE1 hE2 hE3 hE4 hE5
    go_enter Tryd.func14, Tryd.ntmps14
    rw [← hE0]
    go_wp2_with (go_at_call 17; refine hg.mono ?_; rintro e w1 ⟨rfl, k1⟩)
    go_ret2
    exact ⟨by rw [HD0.out]; rfl, k1⟩
  | true =>
    have HBig : Hid (240 < (srcL P).length → srcR P = ([], 11)) := fun h => by unfold srcR; rw [if_neg (by omega)]
    have HSm : Hid ((srcL P).length ≤ 240 → srcR P = (srcL P, 0)) := fun h => by unfold srcR; rw [if_pos ⟨hG, h⟩]
    have HG : Hid (∀ p ∈ P, gdP p = true) := by
      have := hG
      unfold gdL at this
      rw [List.all_eq_true] at this
      exact this
    clear hG hP
    go_enter Tryd.func14, Tryd.ntmps14
    rw [← hE0, ← hE1, ← hE2, ← hE3, ← hE4, ← hE5]
    clear hE0 hE1 hE2 hE3 hE4 hE5
    go_wp2_with (go_at_call 17; refine hg.mono ?_; rintro e w1 ⟨rfl, k1⟩)
    clear hg
    go_loopw [4, 5] (fun s t wr => ∃ (i : Nat) (L : ByteArray), t = .int .i64 (i : Int) ∧ s = .string L ∧ i ≤ n ∧ L.data.toList = srcL (P.take i) ∧ L.size ≤ 240 ∧ Keeps (fun _ => False) w wr) (fun _ t _ => n - (intOf t).toNat)
    case atStart => exact ⟨0, E0, rfl, rfl, by omega, by rw [HD0.out]; rfl, by omega, k1⟩
    case round =>
      obtain ⟨i, L, rfl, rfl, hi, hd, hs, hk⟩ := hrel
      have HD := Hid.mk' hd
      have HK := Hid.mk' hk
      clear hd k1
      by_cases hlt : i < n
      · have hlt' : (i : Int) < (n : Int) := by omega
        have hi0' : (0 : Int) ≤ (i : Int) := by omega
        obtain ⟨p, hp⟩ : ∃ p, P[i]? = some p := ⟨_, List.getElem?_eq_getElem (by rw [hl.len]; exact hlt)⟩
        have hpp : P.getD i (0, []) = p := by rw [List.getD_eq_getElem?_getD, hp]; rfl
        have hok := HP.out p (List.mem_of_getElem? hp)
        have hgd := HG.out p (List.mem_of_getElem? hp)
        have HX := srcL_snoc (P := P) (i := i) (by rw [HL.out]; exact hlt)
        have HM := srcL_mono (P := P) (P.length - (i + 1)) (i + 1) (by have := HL.out; omega)
        obtain ⟨b1, o1, rfl, h1w, a1, m, c1, h2w, s1w, zz1⟩ := hl.at_ i p hp
        obtain ⟨k, ws⟩ := p
        rw [hpp, ← HD.out] at HX
        simp only [lineP] at h1w h2w s1w hok hgd HX
        have h1 := cell_keeps hk h1w (fun h => h)
        have H2w := Hid.mk' h2w
        have S1 := Hid.mk' s1w
        have HW : Hid (∀ x ∈ ws, x.length ≤ 1000) := hok.2
        have hm3 : m ≤ 300 := by rw [← s1w.len]; exact hok.1
        have HML : Hid (ws.length = m) := s1w.len
        have hk14 : k = 1 ∨ k = 2 ∨ k = 3 ∨ k = 4 := by
          have : okK (k, ws) = true := by
            unfold gdP at hgd
            simp only [Bool.and_eq_true] at hgd
            exact hgd.1.1
          unfold okK at this
          simp only [Bool.and_eq_true, decide_eq_true_eq] at this
          omega
        clear hp hpp hok hgd h1w h2w s1w zz1 hk
        rcases hk14 with rfl | rfl | rfl | rfl
        · by_cases hi0 : i = 0
          · have HX2 : Hid (srcL (P.take (i + 1)) = (L).data.toList ++ Lib.join ws [32]) := by
              show _ = _
              rw [HX]
              rw [if_pos hi0, List.nil_append]
              simp [mk]
            have HM2 := Hid.mk' HM
            clear HX HM
            have t0 : ¬ (0 : Int) < (i : Int) := by omega
            clear hi0
            go_wp2
            clear h1
            go_loopw [4, 6] (fun s t wr2 => ∃ (j : Nat) (J : ByteArray), t = .int .i64 (j : Int) ∧ s = .string J ∧ j ≤ m ∧ J.data.toList = (L).data.toList ++ Lib.join (ws.take j) [32] ∧ J.size ≤ 245 ∧ Keeps (fun _ => False) w wr2) (fun _ t _ => m - (intOf t).toNat)
            case atStart => exact ⟨0, _, rfl, rfl, by omega, by rw [List.take_zero, Lib.join_nil, List.append_nil], by omega, HK.out⟩
            case round =>
              obtain ⟨j, J, rfl, rfl, hj, hdJ, hsJ, hk2⟩ := hrel
              have HDJ := Hid.mk' hdJ
              have HK2 := Hid.mk' hk2
              have g2 := cell_keeps hk2 H2w.out (fun h => h)
              clear hdJ
              by_cases hjm : j < m
              · have hjm' : (j : Int) < (m : Int) := by omega
                have hj0' : (0 : Int) ≤ (j : Int) := by omega
                obtain ⟨bw, ow, rfl, _, hcx⟩ := (S1.out.keep hk2).ent2 hjm
                obtain ⟨x, hx⟩ : ∃ x, ws.getD j [] = x := ⟨_, rfl⟩
                rw [hx] at hcx
                have hxl : x.length ≤ 1000 := by
                  rw [← hx, List.getD_eq_getElem?_getD, List.getElem?_eq_getElem (by rw [HML.out]; exact hjm)]
                  exact HW.out _ (List.getElem_mem _)
                have HJT : Hid (Lib.join (ws.take (j + 1)) [32] = Lib.join (ws.take j) [32] ++ ((if j = 0 then [] else [32]) ++ x)) := by
                  show _ = _
                  rw [join_take (by rw [HML.out]; exact hjm), hx]
                have HJM : Hid ((Lib.join (ws.take (j + 1)) [32]).length ≤ (Lib.join ws [32]).length) := join_mono [32] (ws.length - (j + 1)) (j + 1) (by have := HML.out; omega)
                obtain ⟨X, hX⟩ : ∃ X, bs x = X := ⟨_, rfl⟩
                rw [hX] at hcx
                have HXl : Hid (X.data.toList = x) := by show _ = _; rw [← hX, bs_data]
                have hXs : X.size ≤ 1000 := by rw [← hX, bs_size]; exact hxl
                clear hx hX hxl hk2
                by_cases hj0 : j = 0
                · have t0 : ¬ (0 : Int) < (j : Int) := by omega
                  have HT : Hid ((J ++ X).data.toList = (L).data.toList ++ Lib.join (ws.take (j + 1)) [32]) := by
                    show _ = _
                    rw [cat_list, HDJ.out, HJT.out, if_pos hj0, HXl.out, List.nil_append, List.append_assoc]
                  clear hj0
                  by_cases hbig : 240 < J.size + X.size
                  · have q1 : (240 : Int) < (J.size : Int) + (X.size : Int) := by omega
                    have q2 : (240 : Int) < ((J ++ X).size : Int) := by rw [ByteArray.size_append]; omega
                    have HB2 : Hid (240 < J.size + X.size) := hbig
                    clear hbig
                    go_wp2
                    go_ret2
                    exact ⟨by rw [HBig.out (by have h1 := HM2.out; have h2 := congrArg List.length HT.out; rw [HX2.out, List.length_append] at h1; rw [sz_len, List.length_append] at h2; simp only [ByteArray.size_append, z5] at h2; have h3 := HJM.out; have h4 := HB2.out; omega), HD0.out]; rfl, HK2.out⟩
                  · have q1 : ¬ (240 : Int) < (J.size : Int) + (X.size : Int) := by omega
                    have q2 : ¬ (240 : Int) < ((J ++ X).size : Int) := by rw [ByteArray.size_append]; omega
                    have HB2 : Hid (J.size + X.size ≤ 240) := by show _ ≤ _; omega
                    clear hbig
                    go_wp2
                    exact ⟨⟨j + 1, J ++ X, rfl, rfl, by omega, HT.out, by rw [ByteArray.size_append]; have := HB2.out; omega, HK2.out⟩, by simp [intOf]; omega⟩
                · have t0 : (0 : Int) < (j : Int) := by omega
                  have HT : Hid ((J ++ E5 ++ X).data.toList = (L).data.toList ++ Lib.join (ws.take (j + 1)) [32]) := by
                    show _ = _
                    rw [cat_list, cat_list, HDJ.out, HD5.out, HJT.out, if_neg hj0, HXl.out]
                    simp only [List.append_assoc]
                  have y5 : (J ++ E5).size = J.size + 1 := by rw [ByteArray.size_append, z5]
                  clear hj0
                  by_cases hbig : 240 < J.size + 1 + X.size
                  · have q1 : (240 : Int) < (J.size : Int) + (E5.size : Int) + (X.size : Int) := by omega
                    have q2 : (240 : Int) < ((J ++ E5 ++ X).size : Int) := by rw [ByteArray.size_append, y5]; omega
                    have HB2 : Hid (240 < J.size + 1 + X.size) := hbig
                    clear hbig
                    go_wp2
                    go_ret2
                    exact ⟨by rw [HBig.out (by have h1 := HM2.out; have h2 := congrArg List.length HT.out; rw [HX2.out, List.length_append] at h1; rw [sz_len, List.length_append] at h2; simp only [ByteArray.size_append, z5] at h2; have h3 := HJM.out; have h4 := HB2.out; omega), HD0.out]; rfl, HK2.out⟩
                  · have q1 : ¬ (240 : Int) < (J.size : Int) + (E5.size : Int) + (X.size : Int) := by omega
                    have q2 : ¬ (240 : Int) < ((J ++ E5 ++ X).size : Int) := by rw [ByteArray.size_append, y5]; omega
                    have HB2 : Hid (J.size + 1 + X.size ≤ 240) := by show _ ≤ _; omega
                    clear hbig
                    go_wp2
                    exact ⟨⟨j + 1, J ++ E5 ++ X, rfl, rfl, by omega, HT.out, by rw [ByteArray.size_append, y5]; have := HB2.out; omega, HK2.out⟩, by simp [intOf]; omega⟩
              · obtain rfl : j = m := by omega
                have hjm' : ¬ (j : Int) < (j : Int) := by omega
                have HT : Hid (J.data.toList = srcL (P.take (i + 1))) := by
                  show _ = _
                  rw [HDJ.out, HX2.out, List.take_of_length_le (by rw [HML.out]; exact Nat.le_refl _)]
                clear hj hjm hk2
                by_cases hbig : 240 < J.size
                · have q1 : (240 : Int) < (J.size : Int) := by omega
                  have HB2 : Hid (240 < J.size) := hbig
                  clear hbig
                  go_wp2
                  go_ret2
                  exact ⟨by rw [HBig.out (by have h1 := HM2.out; rw [← HT.out, sz_len] at h1; have := HB2.out; omega), HD0.out]; rfl, HK2.out⟩
                · have q1 : ¬ (240 : Int) < (J.size : Int) := by omega
                  have HB2 : Hid (J.size ≤ 240) := by show _ ≤ _; omega
                  clear hbig
                  go_wp2
                  exact ⟨⟨i + 1, J, rfl, rfl, by omega, HT.out, HB2.out, HK2.out⟩, by simp [intOf]; omega⟩
          · have HX2 : Hid (srcL (P.take (i + 1)) = (L ++ E1).data.toList ++ Lib.join ws [32]) := by
              show _ = _
              rw [HX]
              rw [if_neg hi0, cat_list, HD1.out]
              simp [mk]
            have HM2 := Hid.mk' HM
            clear HX HM
            have y1 : (L ++ E1).size = L.size + 2 := by rw [ByteArray.size_append, z1]
            have t0 : (0 : Int) < (i : Int) := by omega
            clear hi0
            go_wp2
            clear h1
            go_loopw [4, 6] (fun s t wr2 => ∃ (j : Nat) (J : ByteArray), t = .int .i64 (j : Int) ∧ s = .string J ∧ j ≤ m ∧ J.data.toList = (L ++ E1).data.toList ++ Lib.join (ws.take j) [32] ∧ J.size ≤ 245 ∧ Keeps (fun _ => False) w wr2) (fun _ t _ => m - (intOf t).toNat)
            case atStart => exact ⟨0, _, rfl, rfl, by omega, by rw [List.take_zero, Lib.join_nil, List.append_nil], by omega, HK.out⟩
            case round =>
              obtain ⟨j, J, rfl, rfl, hj, hdJ, hsJ, hk2⟩ := hrel
              have HDJ := Hid.mk' hdJ
              have HK2 := Hid.mk' hk2
              have g2 := cell_keeps hk2 H2w.out (fun h => h)
              clear hdJ
              by_cases hjm : j < m
              · have hjm' : (j : Int) < (m : Int) := by omega
                have hj0' : (0 : Int) ≤ (j : Int) := by omega
                obtain ⟨bw, ow, rfl, _, hcx⟩ := (S1.out.keep hk2).ent2 hjm
                obtain ⟨x, hx⟩ : ∃ x, ws.getD j [] = x := ⟨_, rfl⟩
                rw [hx] at hcx
                have hxl : x.length ≤ 1000 := by
                  rw [← hx, List.getD_eq_getElem?_getD, List.getElem?_eq_getElem (by rw [HML.out]; exact hjm)]
                  exact HW.out _ (List.getElem_mem _)
                have HJT : Hid (Lib.join (ws.take (j + 1)) [32] = Lib.join (ws.take j) [32] ++ ((if j = 0 then [] else [32]) ++ x)) := by
                  show _ = _
                  rw [join_take (by rw [HML.out]; exact hjm), hx]
                have HJM : Hid ((Lib.join (ws.take (j + 1)) [32]).length ≤ (Lib.join ws [32]).length) := join_mono [32] (ws.length - (j + 1)) (j + 1) (by have := HML.out; omega)
                obtain ⟨X, hX⟩ : ∃ X, bs x = X := ⟨_, rfl⟩
                rw [hX] at hcx
                have HXl : Hid (X.data.toList = x) := by show _ = _; rw [← hX, bs_data]
                have hXs : X.size ≤ 1000 := by rw [← hX, bs_size]; exact hxl
                clear hx hX hxl hk2
                by_cases hj0 : j = 0
                · have t0 : ¬ (0 : Int) < (j : Int) := by omega
                  have HT : Hid ((J ++ X).data.toList = (L ++ E1).data.toList ++ Lib.join (ws.take (j + 1)) [32]) := by
                    show _ = _
                    rw [cat_list, HDJ.out, HJT.out, if_pos hj0, HXl.out, List.nil_append, List.append_assoc]
                  clear hj0
                  by_cases hbig : 240 < J.size + X.size
                  · have q1 : (240 : Int) < (J.size : Int) + (X.size : Int) := by omega
                    have q2 : (240 : Int) < ((J ++ X).size : Int) := by rw [ByteArray.size_append]; omega
                    have HB2 : Hid (240 < J.size + X.size) := hbig
                    clear hbig
                    go_wp2
                    go_ret2
                    exact ⟨by rw [HBig.out (by have h1 := HM2.out; have h2 := congrArg List.length HT.out; rw [HX2.out, List.length_append] at h1; rw [sz_len, List.length_append] at h2; simp only [ByteArray.size_append, z5] at h2; have h3 := HJM.out; have h4 := HB2.out; omega), HD0.out]; rfl, HK2.out⟩
                  · have q1 : ¬ (240 : Int) < (J.size : Int) + (X.size : Int) := by omega
                    have q2 : ¬ (240 : Int) < ((J ++ X).size : Int) := by rw [ByteArray.size_append]; omega
                    have HB2 : Hid (J.size + X.size ≤ 240) := by show _ ≤ _; omega
                    clear hbig
                    go_wp2
                    exact ⟨⟨j + 1, J ++ X, rfl, rfl, by omega, HT.out, by rw [ByteArray.size_append]; have := HB2.out; omega, HK2.out⟩, by simp [intOf]; omega⟩
                · have t0 : (0 : Int) < (j : Int) := by omega
                  have HT : Hid ((J ++ E5 ++ X).data.toList = (L ++ E1).data.toList ++ Lib.join (ws.take (j + 1)) [32]) := by
                    show _ = _
                    rw [cat_list, cat_list, HDJ.out, HD5.out, HJT.out, if_neg hj0, HXl.out]
                    simp only [List.append_assoc]
                  have y5 : (J ++ E5).size = J.size + 1 := by rw [ByteArray.size_append, z5]
                  clear hj0
                  by_cases hbig : 240 < J.size + 1 + X.size
                  · have q1 : (240 : Int) < (J.size : Int) + (E5.size : Int) + (X.size : Int) := by omega
                    have q2 : (240 : Int) < ((J ++ E5 ++ X).size : Int) := by rw [ByteArray.size_append, y5]; omega
                    have HB2 : Hid (240 < J.size + 1 + X.size) := hbig
                    clear hbig
                    go_wp2
                    go_ret2
                    exact ⟨by rw [HBig.out (by have h1 := HM2.out; have h2 := congrArg List.length HT.out; rw [HX2.out, List.length_append] at h1; rw [sz_len, List.length_append] at h2; simp only [ByteArray.size_append, z5] at h2; have h3 := HJM.out; have h4 := HB2.out; omega), HD0.out]; rfl, HK2.out⟩
                  · have q1 : ¬ (240 : Int) < (J.size : Int) + (E5.size : Int) + (X.size : Int) := by omega
                    have q2 : ¬ (240 : Int) < ((J ++ E5 ++ X).size : Int) := by rw [ByteArray.size_append, y5]; omega
                    have HB2 : Hid (J.size + 1 + X.size ≤ 240) := by show _ ≤ _; omega
                    clear hbig
                    go_wp2
                    exact ⟨⟨j + 1, J ++ E5 ++ X, rfl, rfl, by omega, HT.out, by rw [ByteArray.size_append, y5]; have := HB2.out; omega, HK2.out⟩, by simp [intOf]; omega⟩
              · obtain rfl : j = m := by omega
                have hjm' : ¬ (j : Int) < (j : Int) := by omega
                have HT : Hid (J.data.toList = srcL (P.take (i + 1))) := by
                  show _ = _
                  rw [HDJ.out, HX2.out, List.take_of_length_le (by rw [HML.out]; exact Nat.le_refl _)]
                clear hj hjm hk2
                by_cases hbig : 240 < J.size
                · have q1 : (240 : Int) < (J.size : Int) := by omega
                  have HB2 : Hid (240 < J.size) := hbig
                  clear hbig
                  go_wp2
                  go_ret2
                  exact ⟨by rw [HBig.out (by have h1 := HM2.out; rw [← HT.out, sz_len] at h1; have := HB2.out; omega), HD0.out]; rfl, HK2.out⟩
                · have q1 : ¬ (240 : Int) < (J.size : Int) := by omega
                  have HB2 : Hid (J.size ≤ 240) := by show _ ≤ _; omega
                  clear hbig
                  go_wp2
                  exact ⟨⟨i + 1, J, rfl, rfl, by omega, HT.out, HB2.out, HK2.out⟩, by simp [intOf]; omega⟩
        · by_cases hi0 : i = 0
          · have HX2 : Hid (srcL (P.take (i + 1)) = (L ++ E2).data.toList ++ Lib.join ws [32]) := by
              show _ = _
              rw [HX]
              rw [if_pos hi0, List.nil_append, cat_list, HD2.out]
              simp [mk]
            have HM2 := Hid.mk' HM
            clear HX HM
            have t0 : ¬ (0 : Int) < (i : Int) := by omega
            have y2 : (L ++ E2).size = L.size + 2 := by rw [ByteArray.size_append, z2]
            clear hi0
            go_wp2
            clear h1
            go_loopw [4, 6] (fun s t wr2 => ∃ (j : Nat) (J : ByteArray), t = .int .i64 (j : Int) ∧ s = .string J ∧ j ≤ m ∧ J.data.toList = (L ++ E2).data.toList ++ Lib.join (ws.take j) [32] ∧ J.size ≤ 245 ∧ Keeps (fun _ => False) w wr2) (fun _ t _ => m - (intOf t).toNat)
            case atStart => exact ⟨0, _, rfl, rfl, by omega, by rw [List.take_zero, Lib.join_nil, List.append_nil], by omega, HK.out⟩
            case round =>
              obtain ⟨j, J, rfl, rfl, hj, hdJ, hsJ, hk2⟩ := hrel
              have HDJ := Hid.mk' hdJ
              have HK2 := Hid.mk' hk2
              have g2 := cell_keeps hk2 H2w.out (fun h => h)
              clear hdJ
              by_cases hjm : j < m
              · have hjm' : (j : Int) < (m : Int) := by omega
                have hj0' : (0 : Int) ≤ (j : Int) := by omega
                obtain ⟨bw, ow, rfl, _, hcx⟩ := (S1.out.keep hk2).ent2 hjm
                obtain ⟨x, hx⟩ : ∃ x, ws.getD j [] = x := ⟨_, rfl⟩
                rw [hx] at hcx
                have hxl : x.length ≤ 1000 := by
                  rw [← hx, List.getD_eq_getElem?_getD, List.getElem?_eq_getElem (by rw [HML.out]; exact hjm)]
                  exact HW.out _ (List.getElem_mem _)
                have HJT : Hid (Lib.join (ws.take (j + 1)) [32] = Lib.join (ws.take j) [32] ++ ((if j = 0 then [] else [32]) ++ x)) := by
                  show _ = _
                  rw [join_take (by rw [HML.out]; exact hjm), hx]
                have HJM : Hid ((Lib.join (ws.take (j + 1)) [32]).length ≤ (Lib.join ws [32]).length) := join_mono [32] (ws.length - (j + 1)) (j + 1) (by have := HML.out; omega)
                obtain ⟨X, hX⟩ : ∃ X, bs x = X := ⟨_, rfl⟩
                rw [hX] at hcx
                have HXl : Hid (X.data.toList = x) := by show _ = _; rw [← hX, bs_data]
                have hXs : X.size ≤ 1000 := by rw [← hX, bs_size]; exact hxl
                clear hx hX hxl hk2
                by_cases hj0 : j = 0
                · have t0 : ¬ (0 : Int) < (j : Int) := by omega
                  have HT : Hid ((J ++ X).data.toList = (L ++ E2).data.toList ++ Lib.join (ws.take (j + 1)) [32]) := by
                    show _ = _
                    rw [cat_list, HDJ.out, HJT.out, if_pos hj0, HXl.out, List.nil_append, List.append_assoc]
                  clear hj0
                  by_cases hbig : 240 < J.size + X.size
                  · have q1 : (240 : Int) < (J.size : Int) + (X.size : Int) := by omega
                    have q2 : (240 : Int) < ((J ++ X).size : Int) := by rw [ByteArray.size_append]; omega
                    have HB2 : Hid (240 < J.size + X.size) := hbig
                    clear hbig
                    go_wp2
                    go_ret2
                    exact ⟨by rw [HBig.out (by have h1 := HM2.out; have h2 := congrArg List.length HT.out; rw [HX2.out, List.length_append] at h1; rw [sz_len, List.length_append] at h2; simp only [ByteArray.size_append, z5] at h2; have h3 := HJM.out; have h4 := HB2.out; omega), HD0.out]; rfl, HK2.out⟩
                  · have q1 : ¬ (240 : Int) < (J.size : Int) + (X.size : Int) := by omega
                    have q2 : ¬ (240 : Int) < ((J ++ X).size : Int) := by rw [ByteArray.size_append]; omega
                    have HB2 : Hid (J.size + X.size ≤ 240) := by show _ ≤ _; omega
                    clear hbig
                    go_wp2
                    exact ⟨⟨j + 1, J ++ X, rfl, rfl, by omega, HT.out, by rw [ByteArray.size_append]; have := HB2.out; omega, HK2.out⟩, by simp [intOf]; omega⟩
                · have t0 : (0 : Int) < (j : Int) := by omega
                  have HT : Hid ((J ++ E5 ++ X).data.toList = (L ++ E2).data.toList ++ Lib.join (ws.take (j + 1)) [32]) := by
                    show _ = _
                    rw [cat_list, cat_list, HDJ.out, HD5.out, HJT.out, if_neg hj0, HXl.out]
                    simp only [List.append_assoc]
                  have y5 : (J ++ E5).size = J.size + 1 := by rw [ByteArray.size_append, z5]
                  clear hj0
                  by_cases hbig : 240 < J.size + 1 + X.size
                  · have q1 : (240 : Int) < (J.size : Int) + (E5.size : Int) + (X.size : Int) := by omega
                    have q2 : (240 : Int) < ((J ++ E5 ++ X).size : Int) := by rw [ByteArray.size_append, y5]; omega
                    have HB2 : Hid (240 < J.size + 1 + X.size) := hbig
                    clear hbig
                    go_wp2
                    go_ret2
                    exact ⟨by rw [HBig.out (by have h1 := HM2.out; have h2 := congrArg List.length HT.out; rw [HX2.out, List.length_append] at h1; rw [sz_len, List.length_append] at h2; simp only [ByteArray.size_append, z5] at h2; have h3 := HJM.out; have h4 := HB2.out; omega), HD0.out]; rfl, HK2.out⟩
                  · have q1 : ¬ (240 : Int) < (J.size : Int) + (E5.size : Int) + (X.size : Int) := by omega
                    have q2 : ¬ (240 : Int) < ((J ++ E5 ++ X).size : Int) := by rw [ByteArray.size_append, y5]; omega
                    have HB2 : Hid (J.size + 1 + X.size ≤ 240) := by show _ ≤ _; omega
                    clear hbig
                    go_wp2
                    exact ⟨⟨j + 1, J ++ E5 ++ X, rfl, rfl, by omega, HT.out, by rw [ByteArray.size_append, y5]; have := HB2.out; omega, HK2.out⟩, by simp [intOf]; omega⟩
              · obtain rfl : j = m := by omega
                have hjm' : ¬ (j : Int) < (j : Int) := by omega
                have HT : Hid (J.data.toList = srcL (P.take (i + 1))) := by
                  show _ = _
                  rw [HDJ.out, HX2.out, List.take_of_length_le (by rw [HML.out]; exact Nat.le_refl _)]
                clear hj hjm hk2
                by_cases hbig : 240 < J.size
                · have q1 : (240 : Int) < (J.size : Int) := by omega
                  have HB2 : Hid (240 < J.size) := hbig
                  clear hbig
                  go_wp2
                  go_ret2
                  exact ⟨by rw [HBig.out (by have h1 := HM2.out; rw [← HT.out, sz_len] at h1; have := HB2.out; omega), HD0.out]; rfl, HK2.out⟩
                · have q1 : ¬ (240 : Int) < (J.size : Int) := by omega
                  have HB2 : Hid (J.size ≤ 240) := by show _ ≤ _; omega
                  clear hbig
                  go_wp2
                  exact ⟨⟨i + 1, J, rfl, rfl, by omega, HT.out, HB2.out, HK2.out⟩, by simp [intOf]; omega⟩
          · have HX2 : Hid (srcL (P.take (i + 1)) = (L ++ E1 ++ E2).data.toList ++ Lib.join ws [32]) := by
              show _ = _
              rw [HX]
              rw [if_neg hi0, cat_list, cat_list, HD1.out, HD2.out]
              simp [mk]
            have HM2 := Hid.mk' HM
            clear HX HM
            have y1 : (L ++ E1).size = L.size + 2 := by rw [ByteArray.size_append, z1]
            have t0 : (0 : Int) < (i : Int) := by omega
            have y2 : (L ++ E1 ++ E2).size = L.size + 2 + 2 := by rw [ByteArray.size_append, z2, y1]
            clear hi0
            go_wp2
            clear h1
            go_loopw [4, 6] (fun s t wr2 => ∃ (j : Nat) (J : ByteArray), t = .int .i64 (j : Int) ∧ s = .string J ∧ j ≤ m ∧ J.data.toList = (L ++ E1 ++ E2).data.toList ++ Lib.join (ws.take j) [32] ∧ J.size ≤ 245 ∧ Keeps (fun _ => False) w wr2) (fun _ t _ => m - (intOf t).toNat)
            case atStart => exact ⟨0, _, rfl, rfl, by omega, by rw [List.take_zero, Lib.join_nil, List.append_nil], by omega, HK.out⟩
            case round =>
              obtain ⟨j, J, rfl, rfl, hj, hdJ, hsJ, hk2⟩ := hrel
              have HDJ := Hid.mk' hdJ
              have HK2 := Hid.mk' hk2
              have g2 := cell_keeps hk2 H2w.out (fun h => h)
              clear hdJ
              by_cases hjm : j < m
              · have hjm' : (j : Int) < (m : Int) := by omega
                have hj0' : (0 : Int) ≤ (j : Int) := by omega
                obtain ⟨bw, ow, rfl, _, hcx⟩ := (S1.out.keep hk2).ent2 hjm
                obtain ⟨x, hx⟩ : ∃ x, ws.getD j [] = x := ⟨_, rfl⟩
                rw [hx] at hcx
                have hxl : x.length ≤ 1000 := by
                  rw [← hx, List.getD_eq_getElem?_getD, List.getElem?_eq_getElem (by rw [HML.out]; exact hjm)]
                  exact HW.out _ (List.getElem_mem _)
                have HJT : Hid (Lib.join (ws.take (j + 1)) [32] = Lib.join (ws.take j) [32] ++ ((if j = 0 then [] else [32]) ++ x)) := by
                  show _ = _
                  rw [join_take (by rw [HML.out]; exact hjm), hx]
                have HJM : Hid ((Lib.join (ws.take (j + 1)) [32]).length ≤ (Lib.join ws [32]).length) := join_mono [32] (ws.length - (j + 1)) (j + 1) (by have := HML.out; omega)
                obtain ⟨X, hX⟩ : ∃ X, bs x = X := ⟨_, rfl⟩
                rw [hX] at hcx
                have HXl : Hid (X.data.toList = x) := by show _ = _; rw [← hX, bs_data]
                have hXs : X.size ≤ 1000 := by rw [← hX, bs_size]; exact hxl
                clear hx hX hxl hk2
                by_cases hj0 : j = 0
                · have t0 : ¬ (0 : Int) < (j : Int) := by omega
                  have HT : Hid ((J ++ X).data.toList = (L ++ E1 ++ E2).data.toList ++ Lib.join (ws.take (j + 1)) [32]) := by
                    show _ = _
                    rw [cat_list, HDJ.out, HJT.out, if_pos hj0, HXl.out, List.nil_append, List.append_assoc]
                  clear hj0
                  by_cases hbig : 240 < J.size + X.size
                  · have q1 : (240 : Int) < (J.size : Int) + (X.size : Int) := by omega
                    have q2 : (240 : Int) < ((J ++ X).size : Int) := by rw [ByteArray.size_append]; omega
                    have HB2 : Hid (240 < J.size + X.size) := hbig
                    clear hbig
                    go_wp2
                    go_ret2
                    exact ⟨by rw [HBig.out (by have h1 := HM2.out; have h2 := congrArg List.length HT.out; rw [HX2.out, List.length_append] at h1; rw [sz_len, List.length_append] at h2; simp only [ByteArray.size_append, z5] at h2; have h3 := HJM.out; have h4 := HB2.out; omega), HD0.out]; rfl, HK2.out⟩
                  · have q1 : ¬ (240 : Int) < (J.size : Int) + (X.size : Int) := by omega
                    have q2 : ¬ (240 : Int) < ((J ++ X).size : Int) := by rw [ByteArray.size_append]; omega
                    have HB2 : Hid (J.size + X.size ≤ 240) := by show _ ≤ _; omega
                    clear hbig
                    go_wp2
                    exact ⟨⟨j + 1, J ++ X, rfl, rfl, by omega, HT.out, by rw [ByteArray.size_append]; have := HB2.out; omega, HK2.out⟩, by simp [intOf]; omega⟩
                · have t0 : (0 : Int) < (j : Int) := by omega
                  have HT : Hid ((J ++ E5 ++ X).data.toList = (L ++ E1 ++ E2).data.toList ++ Lib.join (ws.take (j + 1)) [32]) := by
                    show _ = _
                    rw [cat_list, cat_list, HDJ.out, HD5.out, HJT.out, if_neg hj0, HXl.out]
                    simp only [List.append_assoc]
                  have y5 : (J ++ E5).size = J.size + 1 := by rw [ByteArray.size_append, z5]
                  clear hj0
                  by_cases hbig : 240 < J.size + 1 + X.size
                  · have q1 : (240 : Int) < (J.size : Int) + (E5.size : Int) + (X.size : Int) := by omega
                    have q2 : (240 : Int) < ((J ++ E5 ++ X).size : Int) := by rw [ByteArray.size_append, y5]; omega
                    have HB2 : Hid (240 < J.size + 1 + X.size) := hbig
                    clear hbig
                    go_wp2
                    go_ret2
                    exact ⟨by rw [HBig.out (by have h1 := HM2.out; have h2 := congrArg List.length HT.out; rw [HX2.out, List.length_append] at h1; rw [sz_len, List.length_append] at h2; simp only [ByteArray.size_append, z5] at h2; have h3 := HJM.out; have h4 := HB2.out; omega), HD0.out]; rfl, HK2.out⟩
                  · have q1 : ¬ (240 : Int) < (J.size : Int) + (E5.size : Int) + (X.size : Int) := by omega
                    have q2 : ¬ (240 : Int) < ((J ++ E5 ++ X).size : Int) := by rw [ByteArray.size_append, y5]; omega
                    have HB2 : Hid (J.size + 1 + X.size ≤ 240) := by show _ ≤ _; omega
                    clear hbig
                    go_wp2
                    exact ⟨⟨j + 1, J ++ E5 ++ X, rfl, rfl, by omega, HT.out, by rw [ByteArray.size_append, y5]; have := HB2.out; omega, HK2.out⟩, by simp [intOf]; omega⟩
              · obtain rfl : j = m := by omega
                have hjm' : ¬ (j : Int) < (j : Int) := by omega
                have HT : Hid (J.data.toList = srcL (P.take (i + 1))) := by
                  show _ = _
                  rw [HDJ.out, HX2.out, List.take_of_length_le (by rw [HML.out]; exact Nat.le_refl _)]
                clear hj hjm hk2
                by_cases hbig : 240 < J.size
                · have q1 : (240 : Int) < (J.size : Int) := by omega
                  have HB2 : Hid (240 < J.size) := hbig
                  clear hbig
                  go_wp2
                  go_ret2
                  exact ⟨by rw [HBig.out (by have h1 := HM2.out; rw [← HT.out, sz_len] at h1; have := HB2.out; omega), HD0.out]; rfl, HK2.out⟩
                · have q1 : ¬ (240 : Int) < (J.size : Int) := by omega
                  have HB2 : Hid (J.size ≤ 240) := by show _ ≤ _; omega
                  clear hbig
                  go_wp2
                  exact ⟨⟨i + 1, J, rfl, rfl, by omega, HT.out, HB2.out, HK2.out⟩, by simp [intOf]; omega⟩
        · by_cases hi0 : i = 0
          · have HX2 : Hid (srcL (P.take (i + 1)) = (L ++ E3).data.toList ++ Lib.join ws [32]) := by
              show _ = _
              rw [HX]
              rw [if_pos hi0, List.nil_append, cat_list, HD3.out]
              simp [mk]
            have HM2 := Hid.mk' HM
            clear HX HM
            have t0 : ¬ (0 : Int) < (i : Int) := by omega
            have y2 : (L ++ E3).size = L.size + 2 := by rw [ByteArray.size_append, z3]
            clear hi0
            go_wp2
            clear h1
            go_loopw [4, 6] (fun s t wr2 => ∃ (j : Nat) (J : ByteArray), t = .int .i64 (j : Int) ∧ s = .string J ∧ j ≤ m ∧ J.data.toList = (L ++ E3).data.toList ++ Lib.join (ws.take j) [32] ∧ J.size ≤ 245 ∧ Keeps (fun _ => False) w wr2) (fun _ t _ => m - (intOf t).toNat)
            case atStart => exact ⟨0, _, rfl, rfl, by omega, by rw [List.take_zero, Lib.join_nil, List.append_nil], by omega, HK.out⟩
            case round =>
              obtain ⟨j, J, rfl, rfl, hj, hdJ, hsJ, hk2⟩ := hrel
              have HDJ := Hid.mk' hdJ
              have HK2 := Hid.mk' hk2
              have g2 := cell_keeps hk2 H2w.out (fun h => h)
              clear hdJ
              by_cases hjm : j < m
              · have hjm' : (j : Int) < (m : Int) := by omega
                have hj0' : (0 : Int) ≤ (j : Int) := by omega
                obtain ⟨bw, ow, rfl, _, hcx⟩ := (S1.out.keep hk2).ent2 hjm
                obtain ⟨x, hx⟩ : ∃ x, ws.getD j [] = x := ⟨_, rfl⟩
                rw [hx] at hcx
                have hxl : x.length ≤ 1000 := by
                  rw [← hx, List.getD_eq_getElem?_getD, List.getElem?_eq_getElem (by rw [HML.out]; exact hjm)]
                  exact HW.out _ (List.getElem_mem _)
                have HJT : Hid (Lib.join (ws.take (j + 1)) [32] = Lib.join (ws.take j) [32] ++ ((if j = 0 then [] else [32]) ++ x)) := by
                  show _ = _
                  rw [join_take (by rw [HML.out]; exact hjm), hx]
                have HJM : Hid ((Lib.join (ws.take (j + 1)) [32]).length ≤ (Lib.join ws [32]).length) := join_mono [32] (ws.length - (j + 1)) (j + 1) (by have := HML.out; omega)
                obtain ⟨X, hX⟩ : ∃ X, bs x = X := ⟨_, rfl⟩
                rw [hX] at hcx
                have HXl : Hid (X.data.toList = x) := by show _ = _; rw [← hX, bs_data]
                have hXs : X.size ≤ 1000 := by rw [← hX, bs_size]; exact hxl
                clear hx hX hxl hk2
                by_cases hj0 : j = 0
                · have t0 : ¬ (0 : Int) < (j : Int) := by omega
                  have HT : Hid ((J ++ X).data.toList = (L ++ E3).data.toList ++ Lib.join (ws.take (j + 1)) [32]) := by
                    show _ = _
                    rw [cat_list, HDJ.out, HJT.out, if_pos hj0, HXl.out, List.nil_append, List.append_assoc]
                  clear hj0
                  by_cases hbig : 240 < J.size + X.size
                  · have q1 : (240 : Int) < (J.size : Int) + (X.size : Int) := by omega
                    have q2 : (240 : Int) < ((J ++ X).size : Int) := by rw [ByteArray.size_append]; omega
                    have HB2 : Hid (240 < J.size + X.size) := hbig
                    clear hbig
                    go_wp2
                    go_ret2
                    exact ⟨by rw [HBig.out (by have h1 := HM2.out; have h2 := congrArg List.length HT.out; rw [HX2.out, List.length_append] at h1; rw [sz_len, List.length_append] at h2; simp only [ByteArray.size_append, z5] at h2; have h3 := HJM.out; have h4 := HB2.out; omega), HD0.out]; rfl, HK2.out⟩
                  · have q1 : ¬ (240 : Int) < (J.size : Int) + (X.size : Int) := by omega
                    have q2 : ¬ (240 : Int) < ((J ++ X).size : Int) := by rw [ByteArray.size_append]; omega
                    have HB2 : Hid (J.size + X.size ≤ 240) := by show _ ≤ _; omega
                    clear hbig
                    go_wp2
                    exact ⟨⟨j + 1, J ++ X, rfl, rfl, by omega, HT.out, by rw [ByteArray.size_append]; have := HB2.out; omega, HK2.out⟩, by simp [intOf]; omega⟩
                · have t0 : (0 : Int) < (j : Int) := by omega
                  have HT : Hid ((J ++ E5 ++ X).data.toList = (L ++ E3).data.toList ++ Lib.join (ws.take (j + 1)) [32]) := by
                    show _ = _
                    rw [cat_list, cat_list, HDJ.out, HD5.out, HJT.out, if_neg hj0, HXl.out]
                    simp only [List.append_assoc]
                  have y5 : (J ++ E5).size = J.size + 1 := by rw [ByteArray.size_append, z5]
                  clear hj0
                  by_cases hbig : 240 < J.size + 1 + X.size
                  · have q1 : (240 : Int) < (J.size : Int) + (E5.size : Int) + (X.size : Int) := by omega
                    have q2 : (240 : Int) < ((J ++ E5 ++ X).size : Int) := by rw [ByteArray.size_append, y5]; omega
                    have HB2 : Hid (240 < J.size + 1 + X.size) := hbig
                    clear hbig
                    go_wp2
                    go_ret2
                    exact ⟨by rw [HBig.out (by have h1 := HM2.out; have h2 := congrArg List.length HT.out; rw [HX2.out, List.length_append] at h1; rw [sz_len, List.length_append] at h2; simp only [ByteArray.size_append, z5] at h2; have h3 := HJM.out; have h4 := HB2.out; omega), HD0.out]; rfl, HK2.out⟩
                  · have q1 : ¬ (240 : Int) < (J.size : Int) + (E5.size : Int) + (X.size : Int) := by omega
                    have q2 : ¬ (240 : Int) < ((J ++ E5 ++ X).size : Int) := by rw [ByteArray.size_append, y5]; omega
                    have HB2 : Hid (J.size + 1 + X.size ≤ 240) := by show _ ≤ _; omega
                    clear hbig
                    go_wp2
                    exact ⟨⟨j + 1, J ++ E5 ++ X, rfl, rfl, by omega, HT.out, by rw [ByteArray.size_append, y5]; have := HB2.out; omega, HK2.out⟩, by simp [intOf]; omega⟩
              · obtain rfl : j = m := by omega
                have hjm' : ¬ (j : Int) < (j : Int) := by omega
                have HT : Hid (J.data.toList = srcL (P.take (i + 1))) := by
                  show _ = _
                  rw [HDJ.out, HX2.out, List.take_of_length_le (by rw [HML.out]; exact Nat.le_refl _)]
                clear hj hjm hk2
                by_cases hbig : 240 < J.size
                · have q1 : (240 : Int) < (J.size : Int) := by omega
                  have HB2 : Hid (240 < J.size) := hbig
                  clear hbig
                  go_wp2
                  go_ret2
                  exact ⟨by rw [HBig.out (by have h1 := HM2.out; rw [← HT.out, sz_len] at h1; have := HB2.out; omega), HD0.out]; rfl, HK2.out⟩
                · have q1 : ¬ (240 : Int) < (J.size : Int) := by omega
                  have HB2 : Hid (J.size ≤ 240) := by show _ ≤ _; omega
                  clear hbig
                  go_wp2
                  exact ⟨⟨i + 1, J, rfl, rfl, by omega, HT.out, HB2.out, HK2.out⟩, by simp [intOf]; omega⟩
          · have HX2 : Hid (srcL (P.take (i + 1)) = (L ++ E1 ++ E3).data.toList ++ Lib.join ws [32]) := by
              show _ = _
              rw [HX]
              rw [if_neg hi0, cat_list, cat_list, HD1.out, HD3.out]
              simp [mk]
            have HM2 := Hid.mk' HM
            clear HX HM
            have y1 : (L ++ E1).size = L.size + 2 := by rw [ByteArray.size_append, z1]
            have t0 : (0 : Int) < (i : Int) := by omega
            have y2 : (L ++ E1 ++ E3).size = L.size + 2 + 2 := by rw [ByteArray.size_append, z3, y1]
            clear hi0
            go_wp2
            clear h1
            go_loopw [4, 6] (fun s t wr2 => ∃ (j : Nat) (J : ByteArray), t = .int .i64 (j : Int) ∧ s = .string J ∧ j ≤ m ∧ J.data.toList = (L ++ E1 ++ E3).data.toList ++ Lib.join (ws.take j) [32] ∧ J.size ≤ 245 ∧ Keeps (fun _ => False) w wr2) (fun _ t _ => m - (intOf t).toNat)
            case atStart => exact ⟨0, _, rfl, rfl, by omega, by rw [List.take_zero, Lib.join_nil, List.append_nil], by omega, HK.out⟩
            case round =>
              obtain ⟨j, J, rfl, rfl, hj, hdJ, hsJ, hk2⟩ := hrel
              have HDJ := Hid.mk' hdJ
              have HK2 := Hid.mk' hk2
              have g2 := cell_keeps hk2 H2w.out (fun h => h)
              clear hdJ
              by_cases hjm : j < m
              · have hjm' : (j : Int) < (m : Int) := by omega
                have hj0' : (0 : Int) ≤ (j : Int) := by omega
                obtain ⟨bw, ow, rfl, _, hcx⟩ := (S1.out.keep hk2).ent2 hjm
                obtain ⟨x, hx⟩ : ∃ x, ws.getD j [] = x := ⟨_, rfl⟩
                rw [hx] at hcx
                have hxl : x.length ≤ 1000 := by
                  rw [← hx, List.getD_eq_getElem?_getD, List.getElem?_eq_getElem (by rw [HML.out]; exact hjm)]
                  exact HW.out _ (List.getElem_mem _)
                have HJT : Hid (Lib.join (ws.take (j + 1)) [32] = Lib.join (ws.take j) [32] ++ ((if j = 0 then [] else [32]) ++ x)) := by
                  show _ = _
                  rw [join_take (by rw [HML.out]; exact hjm), hx]
                have HJM : Hid ((Lib.join (ws.take (j + 1)) [32]).length ≤ (Lib.join ws [32]).length) := join_mono [32] (ws.length - (j + 1)) (j + 1) (by have := HML.out; omega)
                obtain ⟨X, hX⟩ : ∃ X, bs x = X := ⟨_, rfl⟩
                rw [hX] at hcx
                have HXl : Hid (X.data.toList = x) := by show _ = _; rw [← hX, bs_data]
                have hXs : X.size ≤ 1000 := by rw [← hX, bs_size]; exact hxl
                clear hx hX hxl hk2
                by_cases hj0 : j = 0
                · have t0 : ¬ (0 : Int) < (j : Int) := by omega
                  have HT : Hid ((J ++ X).data.toList = (L ++ E1 ++ E3).data.toList ++ Lib.join (ws.take (j + 1)) [32]) := by
                    show _ = _
                    rw [cat_list, HDJ.out, HJT.out, if_pos hj0, HXl.out, List.nil_append, List.append_assoc]
                  clear hj0
                  by_cases hbig : 240 < J.size + X.size
                  · have q1 : (240 : Int) < (J.size : Int) + (X.size : Int) := by omega
                    have q2 : (240 : Int) < ((J ++ X).size : Int) := by rw [ByteArray.size_append]; omega
                    have HB2 : Hid (240 < J.size + X.size) := hbig
                    clear hbig
                    go_wp2
                    go_ret2
                    exact ⟨by rw [HBig.out (by have h1 := HM2.out; have h2 := congrArg List.length HT.out; rw [HX2.out, List.length_append] at h1; rw [sz_len, List.length_append] at h2; simp only [ByteArray.size_append, z5] at h2; have h3 := HJM.out; have h4 := HB2.out; omega), HD0.out]; rfl, HK2.out⟩
                  · have q1 : ¬ (240 : Int) < (J.size : Int) + (X.size : Int) := by omega
                    have q2 : ¬ (240 : Int) < ((J ++ X).size : Int) := by rw [ByteArray.size_append]; omega
                    have HB2 : Hid (J.size + X.size ≤ 240) := by show _ ≤ _; omega
                    clear hbig
                    go_wp2
                    exact ⟨⟨j + 1, J ++ X, rfl, rfl, by omega, HT.out, by rw [ByteArray.size_append]; have := HB2.out; omega, HK2.out⟩, by simp [intOf]; omega⟩
                · have t0 : (0 : Int) < (j : Int) := by omega
                  have HT : Hid ((J ++ E5 ++ X).data.toList = (L ++ E1 ++ E3).data.toList ++ Lib.join (ws.take (j + 1)) [32]) := by
                    show _ = _
                    rw [cat_list, cat_list, HDJ.out, HD5.out, HJT.out, if_neg hj0, HXl.out]
                    simp only [List.append_assoc]
                  have y5 : (J ++ E5).size = J.size + 1 := by rw [ByteArray.size_append, z5]
                  clear hj0
                  by_cases hbig : 240 < J.size + 1 + X.size
                  · have q1 : (240 : Int) < (J.size : Int) + (E5.size : Int) + (X.size : Int) := by omega
                    have q2 : (240 : Int) < ((J ++ E5 ++ X).size : Int) := by rw [ByteArray.size_append, y5]; omega
                    have HB2 : Hid (240 < J.size + 1 + X.size) := hbig
                    clear hbig
                    go_wp2
                    go_ret2
                    exact ⟨by rw [HBig.out (by have h1 := HM2.out; have h2 := congrArg List.length HT.out; rw [HX2.out, List.length_append] at h1; rw [sz_len, List.length_append] at h2; simp only [ByteArray.size_append, z5] at h2; have h3 := HJM.out; have h4 := HB2.out; omega), HD0.out]; rfl, HK2.out⟩
                  · have q1 : ¬ (240 : Int) < (J.size : Int) + (E5.size : Int) + (X.size : Int) := by omega
                    have q2 : ¬ (240 : Int) < ((J ++ E5 ++ X).size : Int) := by rw [ByteArray.size_append, y5]; omega
                    have HB2 : Hid (J.size + 1 + X.size ≤ 240) := by show _ ≤ _; omega
                    clear hbig
                    go_wp2
                    exact ⟨⟨j + 1, J ++ E5 ++ X, rfl, rfl, by omega, HT.out, by rw [ByteArray.size_append, y5]; have := HB2.out; omega, HK2.out⟩, by simp [intOf]; omega⟩
              · obtain rfl : j = m := by omega
                have hjm' : ¬ (j : Int) < (j : Int) := by omega
                have HT : Hid (J.data.toList = srcL (P.take (i + 1))) := by
                  show _ = _
                  rw [HDJ.out, HX2.out, List.take_of_length_le (by rw [HML.out]; exact Nat.le_refl _)]
                clear hj hjm hk2
                by_cases hbig : 240 < J.size
                · have q1 : (240 : Int) < (J.size : Int) := by omega
                  have HB2 : Hid (240 < J.size) := hbig
                  clear hbig
                  go_wp2
                  go_ret2
                  exact ⟨by rw [HBig.out (by have h1 := HM2.out; rw [← HT.out, sz_len] at h1; have := HB2.out; omega), HD0.out]; rfl, HK2.out⟩
                · have q1 : ¬ (240 : Int) < (J.size : Int) := by omega
                  have HB2 : Hid (J.size ≤ 240) := by show _ ≤ _; omega
                  clear hbig
                  go_wp2
                  exact ⟨⟨i + 1, J, rfl, rfl, by omega, HT.out, HB2.out, HK2.out⟩, by simp [intOf]; omega⟩
        · by_cases hi0 : i = 0
          · have HX2 : Hid (srcL (P.take (i + 1)) = (L ++ E4).data.toList ++ Lib.join ws [32]) := by
              show _ = _
              rw [HX]
              rw [if_pos hi0, List.nil_append, cat_list, HD4.out]
              simp [mk]
            have HM2 := Hid.mk' HM
            clear HX HM
            have t0 : ¬ (0 : Int) < (i : Int) := by omega
            have y2 : (L ++ E4).size = L.size + 3 := by rw [ByteArray.size_append, z4]
            clear hi0
            go_wp2
            clear h1
            go_loopw [4, 6] (fun s t wr2 => ∃ (j : Nat) (J : ByteArray), t = .int .i64 (j : Int) ∧ s = .string J ∧ j ≤ m ∧ J.data.toList = (L ++ E4).data.toList ++ Lib.join (ws.take j) [32] ∧ J.size ≤ 245 ∧ Keeps (fun _ => False) w wr2) (fun _ t _ => m - (intOf t).toNat)
            case atStart => exact ⟨0, _, rfl, rfl, by omega, by rw [List.take_zero, Lib.join_nil, List.append_nil], by omega, HK.out⟩
            case round =>
              obtain ⟨j, J, rfl, rfl, hj, hdJ, hsJ, hk2⟩ := hrel
              have HDJ := Hid.mk' hdJ
              have HK2 := Hid.mk' hk2
              have g2 := cell_keeps hk2 H2w.out (fun h => h)
              clear hdJ
              by_cases hjm : j < m
              · have hjm' : (j : Int) < (m : Int) := by omega
                have hj0' : (0 : Int) ≤ (j : Int) := by omega
                obtain ⟨bw, ow, rfl, _, hcx⟩ := (S1.out.keep hk2).ent2 hjm
                obtain ⟨x, hx⟩ : ∃ x, ws.getD j [] = x := ⟨_, rfl⟩
                rw [hx] at hcx
                have hxl : x.length ≤ 1000 := by
                  rw [← hx, List.getD_eq_getElem?_getD, List.getElem?_eq_getElem (by rw [HML.out]; exact hjm)]
                  exact HW.out _ (List.getElem_mem _)
                have HJT : Hid (Lib.join (ws.take (j + 1)) [32] = Lib.join (ws.take j) [32] ++ ((if j = 0 then [] else [32]) ++ x)) := by
                  show _ = _
                  rw [join_take (by rw [HML.out]; exact hjm), hx]
                have HJM : Hid ((Lib.join (ws.take (j + 1)) [32]).length ≤ (Lib.join ws [32]).length) := join_mono [32] (ws.length - (j + 1)) (j + 1) (by have := HML.out; omega)
                obtain ⟨X, hX⟩ : ∃ X, bs x = X := ⟨_, rfl⟩
                rw [hX] at hcx
                have HXl : Hid (X.data.toList = x) := by show _ = _; rw [← hX, bs_data]
                have hXs : X.size ≤ 1000 := by rw [← hX, bs_size]; exact hxl
                clear hx hX hxl hk2
                by_cases hj0 : j = 0
                · have t0 : ¬ (0 : Int) < (j : Int) := by omega
                  have HT : Hid ((J ++ X).data.toList = (L ++ E4).data.toList ++ Lib.join (ws.take (j + 1)) [32]) := by
                    show _ = _
                    rw [cat_list, HDJ.out, HJT.out, if_pos hj0, HXl.out, List.nil_append, List.append_assoc]
                  clear hj0
                  by_cases hbig : 240 < J.size + X.size
                  · have q1 : (240 : Int) < (J.size : Int) + (X.size : Int) := by omega
                    have q2 : (240 : Int) < ((J ++ X).size : Int) := by rw [ByteArray.size_append]; omega
                    have HB2 : Hid (240 < J.size + X.size) := hbig
                    clear hbig
                    go_wp2
                    go_ret2
                    exact ⟨by rw [HBig.out (by have h1 := HM2.out; have h2 := congrArg List.length HT.out; rw [HX2.out, List.length_append] at h1; rw [sz_len, List.length_append] at h2; simp only [ByteArray.size_append, z5] at h2; have h3 := HJM.out; have h4 := HB2.out; omega), HD0.out]; rfl, HK2.out⟩
                  · have q1 : ¬ (240 : Int) < (J.size : Int) + (X.size : Int) := by omega
                    have q2 : ¬ (240 : Int) < ((J ++ X).size : Int) := by rw [ByteArray.size_append]; omega
                    have HB2 : Hid (J.size + X.size ≤ 240) := by show _ ≤ _; omega
                    clear hbig
                    go_wp2
                    exact ⟨⟨j + 1, J ++ X, rfl, rfl, by omega, HT.out, by rw [ByteArray.size_append]; have := HB2.out; omega, HK2.out⟩, by simp [intOf]; omega⟩
                · have t0 : (0 : Int) < (j : Int) := by omega
                  have HT : Hid ((J ++ E5 ++ X).data.toList = (L ++ E4).data.toList ++ Lib.join (ws.take (j + 1)) [32]) := by
                    show _ = _
                    rw [cat_list, cat_list, HDJ.out, HD5.out, HJT.out, if_neg hj0, HXl.out]
                    simp only [List.append_assoc]
                  have y5 : (J ++ E5).size = J.size + 1 := by rw [ByteArray.size_append, z5]
                  clear hj0
                  by_cases hbig : 240 < J.size + 1 + X.size
                  · have q1 : (240 : Int) < (J.size : Int) + (E5.size : Int) + (X.size : Int) := by omega
                    have q2 : (240 : Int) < ((J ++ E5 ++ X).size : Int) := by rw [ByteArray.size_append, y5]; omega
                    have HB2 : Hid (240 < J.size + 1 + X.size) := hbig
                    clear hbig
                    go_wp2
                    go_ret2
                    exact ⟨by rw [HBig.out (by have h1 := HM2.out; have h2 := congrArg List.length HT.out; rw [HX2.out, List.length_append] at h1; rw [sz_len, List.length_append] at h2; simp only [ByteArray.size_append, z5] at h2; have h3 := HJM.out; have h4 := HB2.out; omega), HD0.out]; rfl, HK2.out⟩
                  · have q1 : ¬ (240 : Int) < (J.size : Int) + (E5.size : Int) + (X.size : Int) := by omega
                    have q2 : ¬ (240 : Int) < ((J ++ E5 ++ X).size : Int) := by rw [ByteArray.size_append, y5]; omega
                    have HB2 : Hid (J.size + 1 + X.size ≤ 240) := by show _ ≤ _; omega
                    clear hbig
                    go_wp2
                    exact ⟨⟨j + 1, J ++ E5 ++ X, rfl, rfl, by omega, HT.out, by rw [ByteArray.size_append, y5]; have := HB2.out; omega, HK2.out⟩, by simp [intOf]; omega⟩
              · obtain rfl : j = m := by omega
                have hjm' : ¬ (j : Int) < (j : Int) := by omega
                have HT : Hid (J.data.toList = srcL (P.take (i + 1))) := by
                  show _ = _
                  rw [HDJ.out, HX2.out, List.take_of_length_le (by rw [HML.out]; exact Nat.le_refl _)]
                clear hj hjm hk2
                by_cases hbig : 240 < J.size
                · have q1 : (240 : Int) < (J.size : Int) := by omega
                  have HB2 : Hid (240 < J.size) := hbig
                  clear hbig
                  go_wp2
                  go_ret2
                  exact ⟨by rw [HBig.out (by have h1 := HM2.out; rw [← HT.out, sz_len] at h1; have := HB2.out; omega), HD0.out]; rfl, HK2.out⟩
                · have q1 : ¬ (240 : Int) < (J.size : Int) := by omega
                  have HB2 : Hid (J.size ≤ 240) := by show _ ≤ _; omega
                  clear hbig
                  go_wp2
                  exact ⟨⟨i + 1, J, rfl, rfl, by omega, HT.out, HB2.out, HK2.out⟩, by simp [intOf]; omega⟩
          · have HX2 : Hid (srcL (P.take (i + 1)) = (L ++ E1 ++ E4).data.toList ++ Lib.join ws [32]) := by
              show _ = _
              rw [HX]
              rw [if_neg hi0, cat_list, cat_list, HD1.out, HD4.out]
              simp [mk]
            have HM2 := Hid.mk' HM
            clear HX HM
            have y1 : (L ++ E1).size = L.size + 2 := by rw [ByteArray.size_append, z1]
            have t0 : (0 : Int) < (i : Int) := by omega
            have y2 : (L ++ E1 ++ E4).size = L.size + 2 + 3 := by rw [ByteArray.size_append, z4, y1]
            clear hi0
            go_wp2
            clear h1
            go_loopw [4, 6] (fun s t wr2 => ∃ (j : Nat) (J : ByteArray), t = .int .i64 (j : Int) ∧ s = .string J ∧ j ≤ m ∧ J.data.toList = (L ++ E1 ++ E4).data.toList ++ Lib.join (ws.take j) [32] ∧ J.size ≤ 245 ∧ Keeps (fun _ => False) w wr2) (fun _ t _ => m - (intOf t).toNat)
            case atStart => exact ⟨0, _, rfl, rfl, by omega, by rw [List.take_zero, Lib.join_nil, List.append_nil], by omega, HK.out⟩
            case round =>
              obtain ⟨j, J, rfl, rfl, hj, hdJ, hsJ, hk2⟩ := hrel
              have HDJ := Hid.mk' hdJ
              have HK2 := Hid.mk' hk2
              have g2 := cell_keeps hk2 H2w.out (fun h => h)
              clear hdJ
              by_cases hjm : j < m
              · have hjm' : (j : Int) < (m : Int) := by omega
                have hj0' : (0 : Int) ≤ (j : Int) := by omega
                obtain ⟨bw, ow, rfl, _, hcx⟩ := (S1.out.keep hk2).ent2 hjm
                obtain ⟨x, hx⟩ : ∃ x, ws.getD j [] = x := ⟨_, rfl⟩
                rw [hx] at hcx
                have hxl : x.length ≤ 1000 := by
                  rw [← hx, List.getD_eq_getElem?_getD, List.getElem?_eq_getElem (by rw [HML.out]; exact hjm)]
                  exact HW.out _ (List.getElem_mem _)
                have HJT : Hid (Lib.join (ws.take (j + 1)) [32] = Lib.join (ws.take j) [32] ++ ((if j = 0 then [] else [32]) ++ x)) := by
                  show _ = _
                  rw [join_take (by rw [HML.out]; exact hjm), hx]
                have HJM : Hid ((Lib.join (ws.take (j + 1)) [32]).length ≤ (Lib.join ws [32]).length) := join_mono [32] (ws.length - (j + 1)) (j + 1) (by have := HML.out; omega)
                obtain ⟨X, hX⟩ : ∃ X, bs x = X := ⟨_, rfl⟩
                rw [hX] at hcx
                have HXl : Hid (X.data.toList = x) := by show _ = _; rw [← hX, bs_data]
                have hXs : X.size ≤ 1000 := by rw [← hX, bs_size]; exact hxl
                clear hx hX hxl hk2
                by_cases hj0 : j = 0
                · have t0 : ¬ (0 : Int) < (j : Int) := by omega
                  have HT : Hid ((J ++ X).data.toList = (L ++ E1 ++ E4).data.toList ++ Lib.join (ws.take (j + 1)) [32]) := by
                    show _ = _
                    rw [cat_list, HDJ.out, HJT.out, if_pos hj0, HXl.out, List.nil_append, List.append_assoc]
                  clear hj0
                  by_cases hbig : 240 < J.size + X.size
                  · have q1 : (240 : Int) < (J.size : Int) + (X.size : Int) := by omega
                    have q2 : (240 : Int) < ((J ++ X).size : Int) := by rw [ByteArray.size_append]; omega
                    have HB2 : Hid (240 < J.size + X.size) := hbig
                    clear hbig
                    go_wp2
                    go_ret2
                    exact ⟨by rw [HBig.out (by have h1 := HM2.out; have h2 := congrArg List.length HT.out; rw [HX2.out, List.length_append] at h1; rw [sz_len, List.length_append] at h2; simp only [ByteArray.size_append, z5] at h2; have h3 := HJM.out; have h4 := HB2.out; omega), HD0.out]; rfl, HK2.out⟩
                  · have q1 : ¬ (240 : Int) < (J.size : Int) + (X.size : Int) := by omega
                    have q2 : ¬ (240 : Int) < ((J ++ X).size : Int) := by rw [ByteArray.size_append]; omega
                    have HB2 : Hid (J.size + X.size ≤ 240) := by show _ ≤ _; omega
                    clear hbig
                    go_wp2
                    exact ⟨⟨j + 1, J ++ X, rfl, rfl, by omega, HT.out, by rw [ByteArray.size_append]; have := HB2.out; omega, HK2.out⟩, by simp [intOf]; omega⟩
                · have t0 : (0 : Int) < (j : Int) := by omega
                  have HT : Hid ((J ++ E5 ++ X).data.toList = (L ++ E1 ++ E4).data.toList ++ Lib.join (ws.take (j + 1)) [32]) := by
                    show _ = _
                    rw [cat_list, cat_list, HDJ.out, HD5.out, HJT.out, if_neg hj0, HXl.out]
                    simp only [List.append_assoc]
                  have y5 : (J ++ E5).size = J.size + 1 := by rw [ByteArray.size_append, z5]
                  clear hj0
                  by_cases hbig : 240 < J.size + 1 + X.size
                  · have q1 : (240 : Int) < (J.size : Int) + (E5.size : Int) + (X.size : Int) := by omega
                    have q2 : (240 : Int) < ((J ++ E5 ++ X).size : Int) := by rw [ByteArray.size_append, y5]; omega
                    have HB2 : Hid (240 < J.size + 1 + X.size) := hbig
                    clear hbig
                    go_wp2
                    go_ret2
                    exact ⟨by rw [HBig.out (by have h1 := HM2.out; have h2 := congrArg List.length HT.out; rw [HX2.out, List.length_append] at h1; rw [sz_len, List.length_append] at h2; simp only [ByteArray.size_append, z5] at h2; have h3 := HJM.out; have h4 := HB2.out; omega), HD0.out]; rfl, HK2.out⟩
                  · have q1 : ¬ (240 : Int) < (J.size : Int) + (E5.size : Int) + (X.size : Int) := by omega
                    have q2 : ¬ (240 : Int) < ((J ++ E5 ++ X).size : Int) := by rw [ByteArray.size_append, y5]; omega
                    have HB2 : Hid (J.size + 1 + X.size ≤ 240) := by show _ ≤ _; omega
                    clear hbig
                    go_wp2
                    exact ⟨⟨j + 1, J ++ E5 ++ X, rfl, rfl, by omega, HT.out, by rw [ByteArray.size_append, y5]; have := HB2.out; omega, HK2.out⟩, by simp [intOf]; omega⟩
              · obtain rfl : j = m := by omega
                have hjm' : ¬ (j : Int) < (j : Int) := by omega
                have HT : Hid (J.data.toList = srcL (P.take (i + 1))) := by
                  show _ = _
                  rw [HDJ.out, HX2.out, List.take_of_length_le (by rw [HML.out]; exact Nat.le_refl _)]
                clear hj hjm hk2
                by_cases hbig : 240 < J.size
                · have q1 : (240 : Int) < (J.size : Int) := by omega
                  have HB2 : Hid (240 < J.size) := hbig
                  clear hbig
                  go_wp2
                  go_ret2
                  exact ⟨by rw [HBig.out (by have h1 := HM2.out; rw [← HT.out, sz_len] at h1; have := HB2.out; omega), HD0.out]; rfl, HK2.out⟩
                · have q1 : ¬ (240 : Int) < (J.size : Int) := by omega
                  have HB2 : Hid (J.size ≤ 240) := by show _ ≤ _; omega
                  clear hbig
                  go_wp2
                  exact ⟨⟨i + 1, J, rfl, rfl, by omega, HT.out, HB2.out, HK2.out⟩, by simp [intOf]; omega⟩
      · obtain rfl : i = n := by omega
        have hlt' : ¬ (i : Int) < (i : Int) := by omega
        have HT : Hid (L.data.toList = srcL P) := by
          show _ = _
          rw [HD.out, List.take_of_length_le (by rw [HL.out]; exact Nat.le_refl _)]
        have HS2 := Hid.mk' hs
        clear hk hlt hi
        go_wp2
        go_ret2
        exact ⟨by rw [HSm.out (by rw [← HT.out, sz_len]; exact HS2.out), ← HT.out]; show _ = Ending.returned (.tuple #[.string (bs L.data.toList), _]); rw [bs_of]; rfl, HK.out⟩

end Go.Proofs.YtkcnnkakpkdhkaaDoor
