/-
  The program's Source.
-/
import Derived.Test.YtkcnnkakpkdhkaaDoorXj
set_option linter.all false
set_option maxRecDepth 100000
namespace Go.Proofs.YtkcnnkakpkdhkaaDoor
open Go.RowKit Go.Sort Go.Shelf
attribute [local go_sem] Oper.semAt_some

set_option maxHeartbeats 8000000 in
theorem psource13 (w : World) (hT : Lib.Utf8Tabs 0 1 w) (a : Option Addr) (n c : Nat) (P : List Pt) (hl : SlP w a n c P) (hn : n ≤ 100000) (hP : ∀ p ∈ P, p.2.length ≤ 90000 ∧ ∀ x ∈ p.2, x.length ≤ 90000) :
    Calls Tryd.prog 13 #[.slice a n c] w fun e w' => e = .returned (.tuple #[.string (bs (srcR P).1), .int .i64 (srcR P).2]) ∧ Keeps (fun _ => False) w w' := by
  have hg := pgood16 w hT a n c P hl hn hP
  obtain ⟨G, hG⟩ : ∃ G, gdL P = G := ⟨_, rfl⟩
  rw [hG] at hg
  have HP := Hid.mk' hP
  have HL : Hid (P.length = n) := hl.len
  obtain ⟨E0, hE0⟩ : ∃ E0 : ByteArray, E0 = ⟨#[]⟩ := ⟨_, rfl⟩
  obtain ⟨E1, hE1⟩ : ∃ E1 : ByteArray, E1 = ⟨#[10, 10]⟩ := ⟨_, rfl⟩
  cases G with
  | false =>
    have HR : Hid (srcR P = ([], 11)) := by show _ = _; unfold srcR; rw [if_neg (by rw [hG]; simp)]
    rw [HR.out]
    clear hG hP hE1
    go_enter Tryd.func13, Tryd.ntmps13
    rw [← hE0]
    go_wp2_with (go_at_call 16; refine hg.mono ?_; rintro e w1 ⟨rfl, k1⟩)
    go_ret2
    exact ⟨by rw [hE0]; rfl, k1⟩
  | true =>
    have HR : Hid (srcR P = if (srcL P).length ≤ 240 then (srcL P, 0) else ([], 11)) := by show _ = _; unfold srcR; simp [hG]
    clear hG hP
    go_enter Tryd.func13, Tryd.ntmps13
    rw [← hE0, ← hE1]
    go_wp2_with (first
      | (have hh := h1; clear h1; refine wpList_alloc58 rfl rfl ?_; intro b w2 b2 z2 k2)
      | (go_at_call 16; refine hg.mono ?_; rintro e w1 ⟨rfl, k1⟩; have h1 : Hid True := trivial))
    obtain ⟨B, hB⟩ : ∃ B, w1.heap.size = B := ⟨_, rfl⟩
    rw [hB] at b2 z2
    have HwB : Hid (w.heap.size ≤ B) := by show _ ≤ _; rw [← hB]; exact k1.size
    have HK2 : Hid (Keeps (fun _ => False) w w2) := k1.trans k2
    have HB2 : Hid (B ≤ w2.heap.size) := by show _ ≤ _; rw [← hB]; exact k2.size
    have hw1 := fun W l (h : Bd W B b l) (hB : B ≤ W.heap.size) h2 => bwrite29 W B b l [10, 10] h hB h2
    rw [show bs [10, 10] = E1 by rw [hE1]; rfl] at hw1
    have hs2 : Bd w2 B b (srcL (P.take 0)) := b2
    clear hh k1 k2 hB z2 hg hE1 b2
    go_loopw [12] (fun t wr => ∃ i : Nat, t = .int .i64 (i : Int) ∧ i ≤ n ∧ Bd wr B b (srcL (P.take i)) ∧ (srcL (P.take i)).length ≤ 240 ∧ Keeps (fun _ => False) w wr ∧ B ≤ wr.heap.size) (fun t _ => n - (intOf t).toNat)
    case atStart => exact ⟨0, rfl, by omega, hs2, by show 0 ≤ 240; omega, HK2.out, HB2.out⟩
    case round =>
    clear hs2
    obtain ⟨i, rfl, hi, hb, hl240, hk, hBr⟩ := hrel
    by_cases hlt : i < n
    · have hlt' : (i : Int) < (n : Int) := by omega
      have hi0' : (0 : Int) ≤ (i : Int) := by omega
      obtain ⟨p, hp⟩ : ∃ p, P[i]? = some p := ⟨_, List.getElem?_eq_getElem (by rw [hl.len]; exact hlt)⟩
      have hpp : P.getD i (0, []) = p := by rw [List.getD_eq_getElem?_getD, hp]; rfl
      obtain ⟨hp1, hp2⟩ := HP.out p (List.mem_of_getElem? hp)
      obtain ⟨b1, o1, rfl, h1w, a1, m, c1, h2w, s1, _⟩ := hl.at_ i p hp
      obtain ⟨k, ws⟩ := p
      simp only at h1w h2w s1 hp1 hp2
      have h1 := cell_keeps hk h1w (fun h => h)
      have h2 := cell_keeps hk h2w (fun h => h)
      have hm9 : m ≤ 90000 := by rw [← s1.len]; exact hp1
      have hq := Hid.mk' (fun W (hW : Keeps (fun _ => False) w W) => written30 W k a1 m c1 ws (s1.keep hW) hm9 hp2)
      obtain ⟨L, hL⟩ : ∃ L, srcL (P.take i) = L := ⟨_, rfl⟩
      obtain ⟨N, hN⟩ : ∃ N, srcL (P.take (i + 1)) = N := ⟨_, rfl⟩
      obtain ⟨X, hX⟩ : ∃ X, lineP (k, ws) = X := ⟨_, rfl⟩
      have hXl : X.length ≤ 8200000000 := by
        rw [← hX]
        have e1 := join_len 90000 [32] ws hp2
        have e2 : ws.length * (90000 + [(32 : UInt8)].length) ≤ 90000 * 90001 := Nat.mul_le_mul hp1 (by simp)
        have e3 : (mk k).length ≤ 3 := by
          unfold mk
          repeat' split
          all_goals simp
        unfold lineP
        simp only [List.length_append]
        omega
      have HN : Hid (N = L ++ ((if i = 0 then [] else [10, 10]) ++ X)) := by show _ = _; rw [← hN, srcL_snoc (by rw [HL.out]; exact hlt), hL, hpp, hX]
      have HM : Hid (N.length ≤ (srcL P).length) := by show _ ≤ _; rw [← hN]; exact srcL_mono (P.length - (i + 1)) (i + 1) (by have := HL.out; omega)
      rw [hX] at hq
      rw [hL] at hb hl240
      clear hp hpp hp1 hp2 s1 hm9 h1w h2w hX
      by_cases hN240 : N.length ≤ 240
      · have hN240' : ¬ (240 : Int) < (N.length : Int) := by omega
        by_cases hi0 : i = 0
        · have t0 : ¬ (0 : Int) < (i : Int) := by omega
          have HN2 : Hid (L ++ X = N) := by show _ = _; rw [HN.out, if_pos hi0, List.nil_append]
          have HLl : Hid (L.length + X.length ≤ 140737488355328) := by show _ ≤ _; omega
          clear HN hi0
          go_wp2_with (first
        | (have hh := y8; clear y8; go_at_call 31; refine (blen31 _ B b _ b6).mono ?_; rintro e w' ⟨rfl, rfl⟩)
        | (have hh := y7; clear y7; go_at_call 29; refine (bwrite29 _ B b _ X b5 zB5 HLl.out).mono ?_; rintro e w6 ⟨⟨v6, rfl⟩, b6, k6, _⟩; rw [HN2.out] at b6; have K6 : Hid (Keeps (fun _ => False) w w6) := K5.out.trans' k6 (fun k e => .inr (Nat.le_trans HwB.out e)); have zB6 : B ≤ w6.heap.size := Nat.le_trans zB5 k6.size; have y8 : Hid True := trivial)
        | (have hh := y6; clear y6; go_at_call 30; refine (hq.out _ K3.out).mono ?_; rintro e w5 ⟨rfl, k5⟩; have b5 := b4.keep k5; have K5 : Hid (Keeps (fun _ => False) w w5) := K3.out.trans k5; have zB5 : B ≤ w5.heap.size := Nat.le_trans zB4 k5.size; have y7 : Hid True := trivial)
        | (have hh := q0; clear q0; refine wpList_load41 rfl _ rfl g 0 rfl _ _ hh q1 ?_; have y6 : Hid True := trivial)
        | (have hh := r2; clear r2; refine wpList_store41 rfl _ _ rfl g rfl k a1 m c1 rfl _ hh ?_; intro w3 r3 k3; clear hh; have kk3 : Keeps (fun _ => False) wr w3 := k2.trans' k3 (fun k e => .inr (by omega)); have K3 : Hid (Keeps (fun _ => False) w w3) := hk.trans kk3; have b3 := hb.keep kk3; have zB3 : B ≤ w3.heap.size := Nat.le_trans hBr kk3.size; have b4 := b3; have zB4 := zB3; have q0 : w3.cell? ⟨g, 0, none⟩ = some (.int .i64 k) := (by rw [cell_of_row w3 g 0 _ _ _ r3.row]; rfl); have q1 : w3.cell? ⟨g, 1, none⟩ = some (.slice a1 m c1) := (by rw [cell_of_row w3 g 1 _ _ _ r3.row]; rfl))
        | (have hh := y1; clear y1; refine wpList_alloc41 rfl rfl ?_; intro g w2 r2 z2 k2)
        | (have hh := h1; clear h1; refine wpList_load41 rfl _ rfl b1 (o1 + i * 2) rfl _ _ hh h2 ?_; clear hh; have y1 : Hid True := trivial))
          exact ⟨⟨i + 1, rfl, by omega, by rw [hN]; exact b6, by rw [hN]; exact hN240, K6.out, zB6⟩, by simp [intOf]; omega⟩
        · have t0 : (0 : Int) < (i : Int) := by omega
          have HN2 : Hid ((L ++ [10, 10]) ++ X = N) := by show _ = _; rw [HN.out, if_neg hi0, List.append_assoc]
          have HLl : Hid ((L ++ [10, 10]).length + X.length ≤ 140737488355328) := by show _ ≤ _; simp; omega
          have H2l : Hid (L.length + ([10, 10] : List UInt8).length ≤ 140737488355328) := by show _ ≤ _; simp; omega
          clear HN hi0
          go_wp2_with (first
        | (have hh := y8; clear y8; go_at_call 31; refine (blen31 _ B b _ b6).mono ?_; rintro e w' ⟨rfl, rfl⟩)
        | (have hh := y7; clear y7; go_at_call 29; refine (bwrite29 _ B b _ X b5 zB5 HLl.out).mono ?_; rintro e w6 ⟨⟨v6, rfl⟩, b6, k6, _⟩; rw [HN2.out] at b6; have K6 : Hid (Keeps (fun _ => False) w w6) := K5.out.trans' k6 (fun k e => .inr (Nat.le_trans HwB.out e)); have zB6 : B ≤ w6.heap.size := Nat.le_trans zB5 k6.size; have y8 : Hid True := trivial)
        | (have hh := y6; clear y6; go_at_call 30; refine (hq.out _ K4.out).mono ?_; rintro e w5 ⟨rfl, k5⟩; have b5 := b4.keep k5; have K5 : Hid (Keeps (fun _ => False) w w5) := K4.out.trans k5; have zB5 : B ≤ w5.heap.size := Nat.le_trans zB4 k5.size; have y7 : Hid True := trivial)
        | (have hh := q0; clear q0; refine wpList_load41 rfl _ rfl g 0 rfl _ _ hh q1 ?_; have y6 : Hid True := trivial)
        | (have hh := y4; clear y4; go_at_call 29; refine (hw1 w3 L b3 zB3 H2l.out).mono ?_; rintro e w4 ⟨⟨v4, rfl⟩, b4, k4, p4⟩; have r4 := p4 g _ r3; have K4 : Hid (Keeps (fun _ => False) w w4) := K3.out.trans' k4 (fun k e => .inr (Nat.le_trans HwB.out e)); have zB4 : B ≤ w4.heap.size := Nat.le_trans zB3 k4.size; have q0 : w4.cell? ⟨g, 0, none⟩ = some (.int .i64 k) := (by rw [cell_of_row w4 g 0 _ _ _ r4.row]; rfl); have q1 : w4.cell? ⟨g, 1, none⟩ = some (.slice a1 m c1) := (by rw [cell_of_row w4 g 1 _ _ _ r4.row]; rfl))
        | (have hh := r2; clear r2; refine wpList_store41 rfl _ _ rfl g rfl k a1 m c1 rfl _ hh ?_; intro w3 r3 k3; clear hh; have kk3 : Keeps (fun _ => False) wr w3 := k2.trans' k3 (fun k e => .inr (by omega)); have K3 : Hid (Keeps (fun _ => False) w w3) := hk.trans kk3; have b3 := hb.keep kk3; have zB3 : B ≤ w3.heap.size := Nat.le_trans hBr kk3.size; have y4 : Hid True := trivial)
        | (have hh := y1; clear y1; refine wpList_alloc41 rfl rfl ?_; intro g w2 r2 z2 k2)
        | (have hh := h1; clear h1; refine wpList_load41 rfl _ rfl b1 (o1 + i * 2) rfl _ _ hh h2 ?_; clear hh; have y1 : Hid True := trivial))
          exact ⟨⟨i + 1, rfl, by omega, by rw [hN]; exact b6, by rw [hN]; exact hN240, K6.out, zB6⟩, by simp [intOf]; omega⟩
      · have HR0 : Hid (srcR P = ([], 11)) := by show _ = _; rw [HR.out, if_neg (by have := HM.out; omega)]
        have hN240' : (240 : Int) < (N.length : Int) := by omega
        by_cases hi0 : i = 0
        · have t0 : ¬ (0 : Int) < (i : Int) := by omega
          have HN2 : Hid (L ++ X = N) := by show _ = _; rw [HN.out, if_pos hi0, List.nil_append]
          have HLl : Hid (L.length + X.length ≤ 140737488355328) := by show _ ≤ _; omega
          clear HN hi0
          clear hN
          go_wp2_with (first
        | (have hh := y8; clear y8; go_at_call 31; refine (blen31 _ B b _ b6).mono ?_; rintro e w' ⟨rfl, rfl⟩)
        | (have hh := y7; clear y7; go_at_call 29; refine (bwrite29 _ B b _ X b5 zB5 HLl.out).mono ?_; rintro e w6 ⟨⟨v6, rfl⟩, b6, k6, _⟩; rw [HN2.out] at b6; have K6 : Hid (Keeps (fun _ => False) w w6) := K5.out.trans' k6 (fun k e => .inr (Nat.le_trans HwB.out e)); have zB6 : B ≤ w6.heap.size := Nat.le_trans zB5 k6.size; have y8 : Hid True := trivial)
        | (have hh := y6; clear y6; go_at_call 30; refine (hq.out _ K3.out).mono ?_; rintro e w5 ⟨rfl, k5⟩; have b5 := b4.keep k5; have K5 : Hid (Keeps (fun _ => False) w w5) := K3.out.trans k5; have zB5 : B ≤ w5.heap.size := Nat.le_trans zB4 k5.size; have y7 : Hid True := trivial)
        | (have hh := q0; clear q0; refine wpList_load41 rfl _ rfl g 0 rfl _ _ hh q1 ?_; have y6 : Hid True := trivial)
        | (have hh := r2; clear r2; refine wpList_store41 rfl _ _ rfl g rfl k a1 m c1 rfl _ hh ?_; intro w3 r3 k3; clear hh; have kk3 : Keeps (fun _ => False) wr w3 := k2.trans' k3 (fun k e => .inr (by omega)); have K3 : Hid (Keeps (fun _ => False) w w3) := hk.trans kk3; have b3 := hb.keep kk3; have zB3 : B ≤ w3.heap.size := Nat.le_trans hBr kk3.size; have b4 := b3; have zB4 := zB3; have q0 : w3.cell? ⟨g, 0, none⟩ = some (.int .i64 k) := (by rw [cell_of_row w3 g 0 _ _ _ r3.row]; rfl); have q1 : w3.cell? ⟨g, 1, none⟩ = some (.slice a1 m c1) := (by rw [cell_of_row w3 g 1 _ _ _ r3.row]; rfl))
        | (have hh := y1; clear y1; refine wpList_alloc41 rfl rfl ?_; intro g w2 r2 z2 k2)
        | (have hh := h1; clear h1; refine wpList_load41 rfl _ rfl b1 (o1 + i * 2) rfl _ _ hh h2 ?_; clear hh; have y1 : Hid True := trivial))
          go_ret2
          exact ⟨by rw [HR0.out, hE0]; rfl, K6.out⟩
        · have t0 : (0 : Int) < (i : Int) := by omega
          have HN2 : Hid ((L ++ [10, 10]) ++ X = N) := by show _ = _; rw [HN.out, if_neg hi0, List.append_assoc]
          have HLl : Hid ((L ++ [10, 10]).length + X.length ≤ 140737488355328) := by show _ ≤ _; simp; omega
          have H2l : Hid (L.length + ([10, 10] : List UInt8).length ≤ 140737488355328) := by show _ ≤ _; simp; omega
          clear HN hi0
          clear hN
          go_wp2_with (first
        | (have hh := y8; clear y8; go_at_call 31; refine (blen31 _ B b _ b6).mono ?_; rintro e w' ⟨rfl, rfl⟩)
        | (have hh := y7; clear y7; go_at_call 29; refine (bwrite29 _ B b _ X b5 zB5 HLl.out).mono ?_; rintro e w6 ⟨⟨v6, rfl⟩, b6, k6, _⟩; rw [HN2.out] at b6; have K6 : Hid (Keeps (fun _ => False) w w6) := K5.out.trans' k6 (fun k e => .inr (Nat.le_trans HwB.out e)); have zB6 : B ≤ w6.heap.size := Nat.le_trans zB5 k6.size; have y8 : Hid True := trivial)
        | (have hh := y6; clear y6; go_at_call 30; refine (hq.out _ K4.out).mono ?_; rintro e w5 ⟨rfl, k5⟩; have b5 := b4.keep k5; have K5 : Hid (Keeps (fun _ => False) w w5) := K4.out.trans k5; have zB5 : B ≤ w5.heap.size := Nat.le_trans zB4 k5.size; have y7 : Hid True := trivial)
        | (have hh := q0; clear q0; refine wpList_load41 rfl _ rfl g 0 rfl _ _ hh q1 ?_; have y6 : Hid True := trivial)
        | (have hh := y4; clear y4; go_at_call 29; refine (hw1 w3 L b3 zB3 H2l.out).mono ?_; rintro e w4 ⟨⟨v4, rfl⟩, b4, k4, p4⟩; have r4 := p4 g _ r3; have K4 : Hid (Keeps (fun _ => False) w w4) := K3.out.trans' k4 (fun k e => .inr (Nat.le_trans HwB.out e)); have zB4 : B ≤ w4.heap.size := Nat.le_trans zB3 k4.size; have q0 : w4.cell? ⟨g, 0, none⟩ = some (.int .i64 k) := (by rw [cell_of_row w4 g 0 _ _ _ r4.row]; rfl); have q1 : w4.cell? ⟨g, 1, none⟩ = some (.slice a1 m c1) := (by rw [cell_of_row w4 g 1 _ _ _ r4.row]; rfl))
        | (have hh := r2; clear r2; refine wpList_store41 rfl _ _ rfl g rfl k a1 m c1 rfl _ hh ?_; intro w3 r3 k3; clear hh; have kk3 : Keeps (fun _ => False) wr w3 := k2.trans' k3 (fun k e => .inr (by omega)); have K3 : Hid (Keeps (fun _ => False) w w3) := hk.trans kk3; have b3 := hb.keep kk3; have zB3 : B ≤ w3.heap.size := Nat.le_trans hBr kk3.size; have y4 : Hid True := trivial)
        | (have hh := y1; clear y1; refine wpList_alloc41 rfl rfl ?_; intro g w2 r2 z2 k2)
        | (have hh := h1; clear h1; refine wpList_load41 rfl _ rfl b1 (o1 + i * 2) rfl _ _ hh h2 ?_; clear hh; have y1 : Hid True := trivial))
          go_ret2
          exact ⟨by rw [HR0.out, hE0]; rfl, K6.out⟩
    · obtain rfl : i = n := by omega
      have hlt' : ¬ (i : Int) < (i : Int) := by omega
      rw [List.take_of_length_le (by rw [HL.out]; exact Nat.le_refl _)] at hb hl240
      have HR0 : Hid (srcR P = (srcL P, 0)) := by show _ = _; rw [HR.out, if_pos hl240]
      have HK := Hid.mk' hk
      clear hlt hi hl240 hk
      go_wp2_with (go_at_call 32; refine (bstr32 _ B b _ hb hBr).mono ?_; rintro e w3 ⟨rfl, k3⟩)
      go_ret2
      exact ⟨by rw [HR0.out]; rfl, HK.out.trans' k3 (fun k e => .inr (Nat.le_trans HwB.out e))⟩

end Go.Proofs.YtkcnnkakpkdhkaaDoor
