/-
  MarkupBack: the walk.
-/
import Derived.Test.YtkcnnkakpkdhkaaDoorYg
import Derived.Test.YtkcnnkakpkdhkaaDoorYk
set_option linter.all false
set_option maxRecDepth 100000
namespace Go.Proofs.YtkcnnkakpkdhkaaDoor
open Go.RowKit Go.Sort Go.Shelf
attribute [local go_sem] Oper.semAt_some

theorem rwords_slB (w : World) (s : ByteArray) (hs : s.size ≤ 90000) (W : List (List UInt8)) (h : wds s.data.toList = W) (n : Nat) (hn : W.length = n) :
    Calls Tryd.prog 20 #[.string s] w fun z w' => ∃ a c, z = .returned (.slice a n c) ∧ SlT w' a n c W ∧ (a = none → c = 0) ∧ Keeps (fun _ => False) w w' := by
  refine (words20 w s hs).mono ?_
  rintro z w' ⟨⟨v, rfl, h1⟩, k⟩
  rw [h] at h1
  obtain ⟨a, c, rfl, h3, h4, _⟩ := h1.slice2
  rw [hn] at h3 ⊢
  exact ⟨a, c, rfl, h3, h4, k⟩
theorem OwnT.keep {w w' : World} {base : Nat} {v : Value} {l : List (List UInt8)} (h : OwnT w base v l) (hk : Keeps (fun _ => False) w w') : OwnT w' base v l := h.keeps hk (fun _ _ h => h.elim)
theorem OwnT.slN {w : World} {base : Nat} {v : Value} {l : List (List UInt8)} {n : Nat} (h : OwnT w base v l) (hn : l.length = n) : ∃ a c, v = .slice a n c ∧ SlT w a n c l := by
  obtain ⟨a, c, e, hs, _⟩ := h.slice
  rw [hn] at e hs
  exact ⟨a, c, e, hs⟩

/-- Where the words of all lines stand. -/
structure CutW (l : List UInt8) (B : Nat) (w0 : World) (L : List (List UInt8)) (f i : Nat) (v : Value) (w : World) : Prop where
  own : OwnT w B v (L.flatMap wds)
  keep : Keeps (fun _ => False) w0 w
  size : B ≤ w.heap.size
  rest : cutL 10 l = L ++ (if f ≤ l.length then cutL 10 (l.drop f) else [])
  no : ∀ j, f ≤ j → j < i → l.getD j 0 ≠ 10
  fi : f ≤ i
  ii : i ≤ l.length + 1
  last : i = l.length + 1 → f = l.length + 1
theorem CutW.len {l : List UInt8} {B : Nat} {w0 : World} {L : List (List UInt8)} {f i : Nat} {v : Value} {w : World} (h : CutW l B w0 L f i v w) (hl : l.length ≤ 240) : (L.flatMap wds).length ≤ 60000 := by
  have h1 := flat_small hl
  rw [h.rest, List.flatMap_append, List.length_append] at h1
  omega

set_option maxHeartbeats 40000000 in
theorem backL (w : World) (hT : Lib.Utf8Tabs 0 1 w) (s : ByteArray) (hs : s.size ≤ 140737488355328) (a : Option Addr) (n c : Nat) (P : List Pt) (hl : SlP w a n c P) (hn : n ≤ 9223372036854775807) :
    Calls Tryd.prog 4 #[.string s, .slice a n c] w fun e w' => e = .returned (.bool true) ∧ Keeps (fun _ => False) w w' := by
  have hwk := Hid.mk' (fun W (hW : Keeps (fun _ => False) w W) => wakes9 W (Tabs.keep hT hW))
  by_cases hbig : 240 < s.size
  · have g1 : (240 : Int) < (s.size : Int) := by omega
    clear hbig
    go_enter Tryd.func4, Tryd.ntmps4
    go_wp2_with (go_at_call 9; refine (hwk.out _ (Keeps.refl _ _)).mono ?_; rintro e w1 ⟨rfl, k1⟩)
    go_ret
    exact ⟨rfl, k1⟩
  · have g1 : ¬ (240 : Int) < (s.size : Int) := by omega
    have hs240 : s.size ≤ 240 := by omega
    clear hbig
    go_enter Tryd.func4, Tryd.ntmps4
    go_wp2_with fail
    go_at_call 8
    refine (fair8 w a n c P hl hn).mono ?_
    rintro e w1 ⟨hf, k1⟩
    obtain ⟨b, rfl, hb⟩ := hf.out
    clear hf
    cases b with
    | false =>
      clear hb
      go_wp2_with (go_at_call 9; refine (hwk.out _ k1).mono ?_; rintro e w2 ⟨rfl, k2⟩)
      go_ret
      exact ⟨rfl, k1.trans k2⟩
    | true =>
      obtain ⟨hn200, hok⟩ := hb rfl
      clear hb
      have HP9 : Hid (∀ p ∈ P, p.2.length ≤ 90000 ∧ ∀ x ∈ p.2, x.length ≤ 90000) := fun p hp => ⟨by have := (hok p hp).1; omega, fun x hx => by have := (hok p hp).2 x hx; omega⟩
      have HP3 : Hid (∀ p ∈ P, p.2.length ≤ 300) := fun p hp => (hok p hp).1
      have hn1 : n ≤ 100000 := by omega
      obtain ⟨P1, e1, hpe⟩ : ∃ P1 e1, parseL s.data.toList = (P1, e1) := ⟨_, _, rfl⟩
      obtain ⟨n1, hn1'⟩ : ∃ n1, P1.length = n1 := ⟨_, rfl⟩
      have hl1 := parseL_len s.data.toList (by rw [sz_len]; omega)
      have hw1 := parseL_words s.data.toList (by rw [sz_len]; omega)
      have HF0 : Hid (e1 = 0 → flW P1 = (cutL 10 s.data.toList).flatMap wds) := fun h => flat_parse (by rw [hpe, h])
      have HE15 : Hid (e1 ≠ 0 → P1 = [] ∧ e1 = 15) := fun h => by
        have := parse_15 (s := s.data.toList) (by rw [sz_len]; omega) (by rw [hpe]; exact h)
        rw [hpe] at this
        cases this; exact ⟨rfl, rfl⟩
      have HSm := flat_small (s := s.data.toList) (by rw [sz_len]; omega)
      rw [hpe] at hl1 hw1
      simp only at hl1 hw1
      rw [hn1'] at hl1
      have hn19 : n1 ≤ 241 := hl1
      have hqs := Hid.mk' (fun V (hV : Keeps (fun _ => False) w V) => parse_sl V (Tabs.keep hT hV) s P1 e1 hpe n1 hn1')
      have HN1 : Hid (P1.length = n1) := hn1'
      have HW1 := Hid.mk' hw1
      obtain ⟨ls, hls⟩ : ∃ ls, s.data.toList = ls := ⟨_, rfl⟩
      have HLS : Hid (s.data.toList = ls) := hls
      have HLZ : Hid (ls.length = s.size) := by show _ = _; rw [← hls, sz_len]
      rw [hls] at HF0 HSm
      have HFL : Hid (((cutL 10 ls).flatMap wds).length ≤ 60000) := HSm
      have HS := Hid.mk' hl
      have hT' := Hid.mk' hT
      have HL : Hid (P.length = n) := hl.len
      have HK1 := Hid.mk' k1
      clear hok hpe hn1' hl1 hw1 HSm hls k1
      have hq13 := Hid.mk' (fun V (hV : Keeps (fun _ => False) w V) => psource13 V (Tabs.keep hT'.out hV) a n c P (HS.out.keep hV) hn1 HP9.out)
      by_cases hG : gdL P = true ∧ (srcL P).length ≤ 240
      · -- a source of parts, read again
        have hR : srcR P = (srcL P, 0) := by unfold srcR; rw [if_pos hG]
        rw [hR] at hq13
        obtain ⟨T, hTT⟩ : ∃ T, bs (srcL P) = T := ⟨_, rfl⟩
        have hpT : parseL T.data.toList = (P, 0) := by rw [← hTT, bs_data]; exact parse_src hG.1 hG.2
        simp only [hTT] at hq13
        have hq16 := Hid.mk' (fun V (hV : Keeps (fun _ => False) w V) => pgood16 V (Tabs.keep hT'.out hV) a n c P (HS.out.keep hV) hn1 HP9.out)
        rw [hG.1] at hq16
        have hq10 := Hid.mk' (fun V (hV : Keeps (fun _ => False) w V) => parse_sl V (Tabs.keep hT'.out hV) T P 0 hpT n HL.out)
        have hq15 := Hid.mk' (fun V (hV : Keeps (fun _ => False) w V) a' c' (h' : SlP V a' n c' P) => parts_same V a' a n c' c P h' (HS.out.keep hV) hn1 (fun p hp => by have := HP3.out p hp; omega))
        clear hR hTT hpT hG hl hT
        by_cases h0 : e1 = 0
        · subst h0
          have HFW : Hid (flW P1 = (cutL 10 ls).flatMap wds) := HF0.out rfl
          clear HF0 HE15
          have x1 : Hid True := trivial
          go_wp2_with (first
            | (have hh := x5; clear x5; go_at_call 10; refine (hqs.out _ K5.out).mono ?_; rintro e w6 ⟨a6, c6, rfl, s6, z6, k6⟩; have K6 : Hid (Keeps (fun _ => False) w w6) := K5.out.trans k6)
            | (have hh := x4; clear x4; go_at_call 16; refine (hq16.out _ K4.out).mono ?_; rintro e w5 ⟨rfl, k5⟩; have K5 : Hid (Keeps (fun _ => False) w w5) := K4.out.trans k5; have x5 : Hid True := trivial)
            | (have hh := x3; clear x3; go_at_call 15; refine (hq15.out _ K3.out a2 c2 s2).mono ?_; rintro e w4 ⟨rfl, k4⟩; have K4 : Hid (Keeps (fun _ => False) w w4) := K3.out.trans k4; have x4 : Hid True := trivial)
            | (have hh := x2; clear x2; go_at_call 10; refine (hq10.out _ K2.out).mono ?_; rintro e w3 ⟨a2, c2, rfl, s2, _, k3⟩; have K3 : Hid (Keeps (fun _ => False) w w3) := K2.out.trans k3; have x3 : Hid True := trivial)
            | (have hh := x1; clear x1; go_at_call 13; refine (hq13.out _ HK1.out).mono ?_; rintro e w2 ⟨rfl, k2⟩; have K2 : Hid (Keeps (fun _ => False) w w2) := HK1.out.trans k2; have x2 : Hid True := trivial))
          obtain ⟨B6, hB6⟩ : ∃ B6, w6.heap.size = B6 := ⟨_, rfl⟩
          have HB6 := Hid.mk' hB6
          have S6 := Hid.mk' s6
          clear hB6 s6 z6 k6
          go_loopw [11, 13] (fun v t wr => ∃ i : Nat, t = .int .i64 (i : Int) ∧ i ≤ n1 ∧ OwnT wr B6 v (flW (P1.take i)) ∧ Keeps (fun _ => False) w6 wr) (fun _ t _ => n1 - (intOf t).toNat)
          case atStart => exact ⟨0, rfl, by omega, OwnT.nil _ _, Keeps.refl _ _⟩
          case round =>
            obtain ⟨i, rfl, hi, oV, kV⟩ := hrel
            have OV := Hid.mk' oV
            have KV := Hid.mk' kV
            clear oV
            by_cases hlt : i < n1
            · have hlt' : (i : Int) < (n1 : Int) := by omega
              have hi0 : (0 : Int) ≤ (i : Int) := by omega
              obtain ⟨p, hp⟩ : ∃ p, P1[i]? = some p := ⟨_, List.getElem?_eq_getElem (by rw [HN1.out]; exact hlt)⟩
              have hpp : P1.getD i (0, []) = p := by rw [List.getD_eq_getElem?_getD, hp]; rfl
              have HF := flW_take (P := P1) (i := i) (by rw [HN1.out]; exact hlt)
              have HFl := flW_le P1 (i + 1)
              rw [HFW.out] at HFl
              have HFl2 := HFL.out
              obtain ⟨b1, o1, rfl, h1w, a1, m, c1, h2w, s1w, zz1⟩ := S6.out.at_ i p hp
              obtain ⟨k, ws⟩ := p
              rw [hpp] at HF
              simp only at h1w h2w s1w HF
              obtain ⟨F, hF⟩ : ∃ F, flW (P1.take i) = F := ⟨_, rfl⟩
              rw [hF] at OV HF
              have hlen : F.length + (mkW k).length + ws.length ≤ 60000 := by
                rw [HF, List.length_append, List.length_append] at HFl
                omega
              have hml := s1w.len
              have h1 := cell_keeps kV h1w (fun h => h)
              have H2 := Hid.mk' h2w
              have S1 := Hid.mk' s1w
              have HF2 := Hid.mk' HF
              have hmz : B6 ≤ wr.heap.size := by have := kV.size; have := HB6.out; omega
              clear hp hpp hF HF HFl HFl2 h1w h2w s1w kV
              by_cases hk2 : k = 2
              · subst hk2
                have HF3 : Hid (flW (P1.take (i + 1)) = F ++ [[61]] ++ ws) := by show _ = _; rw [HF2.out, ← List.append_assoc]; rfl
                have hl2 : F.length + 1 + m ≤ 60000 := by
                  have e : (mkW 2).length = 1 := rfl
                  omega
                have x6 : Hid True := trivial
                go_wp2_with (first
                  | (have hh := x8; clear x8; refine wpList_appTs rfl _ _ rfl B6 _ (F ++ [[61]]) rfl o8 a1 m c1 ws rfl s8 zz1 (by rw [List.length_append]; simp only [List.length_cons, List.length_nil]; omega) (by have := KX8.size; have := HB6.out; omega) ?_; intro v9 w9 o9 k9)
                  | (have hh := x7; clear x7; refine wpList_appT rfl _ _ rfl B6 _ F rfl o7 g7 rfl [61] b7 (by omega) (by have := k7.size; omega) ?_; intro v8 w8 o8 k8; have KX8 : Keeps (fun _ => False) w6 w8 := (KV.out.trans k7).trans' k8 (fun k e => .inr (by have := OwnT.from o7 e; have := HB6.out; omega)); have h2 := cell_keeps KX8 H2.out (fun h => h); have s8 := S1.out.keep KX8; have x8 : Hid True := trivial)
                  | (have hh := x6; clear x6; refine wpList_build1T rfl _ rfl [61] rfl ?_; intro g7 w7 b7 z7 k7; have o7 := OV.out.keep k7; have x7 : Hid True := trivial))
                have KQ : Keeps (fun _ => False) w6 w9 := (KX8).trans' k9 (fun k e => .inr (by have := OwnT.from o8 e; have := HB6.out; omega))
                exact ⟨⟨i + 1, rfl, by omega, by rw [HF3.out]; exact o9, KQ⟩, by simp [intOf]; omega⟩
              by_cases hk3 : k = 3
              · subst hk3
                have HF3 : Hid (flW (P1.take (i + 1)) = F ++ [[45]] ++ ws) := by show _ = _; rw [HF2.out, ← List.append_assoc]; rfl
                have hl2 : F.length + 1 + m ≤ 60000 := by
                  have e : (mkW 3).length = 1 := rfl
                  omega
                have x6 : Hid True := trivial
                go_wp2_with (first
                  | (have hh := x8; clear x8; refine wpList_appTs rfl _ _ rfl B6 _ (F ++ [[45]]) rfl o8 a1 m c1 ws rfl s8 zz1 (by rw [List.length_append]; simp only [List.length_cons, List.length_nil]; omega) (by have := KX8.size; have := HB6.out; omega) ?_; intro v9 w9 o9 k9)
                  | (have hh := x7; clear x7; refine wpList_appT rfl _ _ rfl B6 _ F rfl o7 g7 rfl [45] b7 (by omega) (by have := k7.size; omega) ?_; intro v8 w8 o8 k8; have KX8 : Keeps (fun _ => False) w6 w8 := (KV.out.trans k7).trans' k8 (fun k e => .inr (by have := OwnT.from o7 e; have := HB6.out; omega)); have h2 := cell_keeps KX8 H2.out (fun h => h); have s8 := S1.out.keep KX8; have x8 : Hid True := trivial)
                  | (have hh := x6; clear x6; refine wpList_build1T rfl _ rfl [45] rfl ?_; intro g7 w7 b7 z7 k7; have o7 := OV.out.keep k7; have x7 : Hid True := trivial))
                have KQ : Keeps (fun _ => False) w6 w9 := (KX8).trans' k9 (fun k e => .inr (by have := OwnT.from o8 e; have := HB6.out; omega))
                exact ⟨⟨i + 1, rfl, by omega, by rw [HF3.out]; exact o9, KQ⟩, by simp [intOf]; omega⟩
              by_cases hk4 : k = 4
              · subst hk4
                have HF3 : Hid (flW (P1.take (i + 1)) = F ++ [[45, 45, 45]] ++ ws) := by show _ = _; rw [HF2.out, ← List.append_assoc]; rfl
                have hl2 : F.length + 1 + m ≤ 60000 := by
                  have e : (mkW 4).length = 1 := rfl
                  omega
                have x6 : Hid True := trivial
                go_wp2_with (first
                  | (have hh := x8; clear x8; refine wpList_appTs rfl _ _ rfl B6 _ (F ++ [[45, 45, 45]]) rfl o8 a1 m c1 ws rfl s8 zz1 (by rw [List.length_append]; simp only [List.length_cons, List.length_nil]; omega) (by have := KX8.size; have := HB6.out; omega) ?_; intro v9 w9 o9 k9)
                  | (have hh := x7; clear x7; refine wpList_appT rfl _ _ rfl B6 _ F rfl o7 g7 rfl [45, 45, 45] b7 (by omega) (by have := k7.size; omega) ?_; intro v8 w8 o8 k8; have KX8 : Keeps (fun _ => False) w6 w8 := (KV.out.trans k7).trans' k8 (fun k e => .inr (by have := OwnT.from o7 e; have := HB6.out; omega)); have h2 := cell_keeps KX8 H2.out (fun h => h); have s8 := S1.out.keep KX8; have x8 : Hid True := trivial)
                  | (have hh := x6; clear x6; refine wpList_build1T rfl _ rfl [45, 45, 45] rfl ?_; intro g7 w7 b7 z7 k7; have o7 := OV.out.keep k7; have x7 : Hid True := trivial))
                have KQ : Keeps (fun _ => False) w6 w9 := (KX8).trans' k9 (fun k e => .inr (by have := OwnT.from o8 e; have := HB6.out; omega))
                exact ⟨⟨i + 1, rfl, by omega, by rw [HF3.out]; exact o9, KQ⟩, by simp [intOf]; omega⟩
              have HF3 : Hid (flW (P1.take (i + 1)) = F ++ ws) := by
                show _ = _
                rw [HF2.out]
                unfold mkW
                rw [if_neg hk2, if_neg hk3, if_neg hk4, List.nil_append]
              have q2 : (k == (2 : Int)) = false := by simp [hk2]
              have q3 : (k == (3 : Int)) = false := by simp [hk3]
              have q4 : (k == (4 : Int)) = false := by simp [hk4]
              have hl2 : F.length + m ≤ 60000 := by omega
              have h2 := cell_keeps KV.out H2.out (fun h => h)
              have s8 := S1.out.keep KV.out
              have o8 := OV.out
              clear hk2 hk3 hk4
              go_wp2_with (refine wpList_appTs rfl _ _ rfl B6 _ F rfl o8 a1 m c1 ws rfl s8 zz1 (by omega) hmz ?_; intro v9 w9 o9 k9)
              have KQ : Keeps (fun _ => False) w6 w9 := KV.out.trans' k9 (fun k e => .inr (by have := OwnT.from o8 e; have := HB6.out; omega))
              exact ⟨⟨i + 1, rfl, by omega, by rw [HF3.out]; exact o9, KQ⟩, by simp [intOf]; omega⟩
            · obtain rfl : i = n1 := by omega
              have hlt' : ¬ (i : Int) < (i : Int) := by omega
              obtain ⟨w7, rfl⟩ : ∃ w7, w7 = wr := ⟨_, rfl⟩
              obtain ⟨q, hq⟩ : ∃ q, (flW P1).length = q := ⟨_, rfl⟩
              have hq6 : q ≤ 100000 := by rw [← hq, HFW.out]; have := HFL.out; omega
              have e0 : P1.take i = P1 := List.take_of_length_le (by rw [HN1.out]; exact Nat.le_refl _)
              rw [e0] at OV
              obtain ⟨a7, c7, rfl, s7⟩ := OV.out.slN hq
              have S7 := Hid.mk' s7
              have HQ : Hid (((cutL 10 ls).flatMap wds).length = q) := by show _ = _; rw [← HFW.out]; exact hq
              have K7 : Hid (Keeps (fun _ => False) w w7) := K6.out.trans KV.out
              obtain ⟨B, hB⟩ : ∃ B, w7.heap.size = B := ⟨_, rfl⟩
              have HB := Hid.mk' hB
              clear hq e0 s7 hB kV hlt
              go_wp2
              go_loopw [12, 14, 15] (fun v t u wr2 => ∃ (L : List (List UInt8)) (f j : Nat), t = .int .i64 (f : Int) ∧ u = .int .i64 (j : Int) ∧ CutW ls B w7 L f j v wr2) (fun _ _ u _ => s.size + 1 - (intOf u).toNat)
              case atStart => exact ⟨[], 0, 0, rfl, rfl, ⟨OwnT.nil _ _, Keeps.refl _ _, by rw [HB.out]; omega, by simp, fun j _ h => by omega, by omega, by omega, fun h => by omega⟩⟩
              case round =>
                obtain ⟨L, f, j, rfl, rfl, hI⟩ := hrel
                have HI : Hid (CutW ls B w7 L f j _ wr) := hI
                have hfi := hI.fi
                have hii := hI.ii
                rw [HLZ.out] at hii
                by_cases h1 : j ≤ s.size
                · have h1' : (j : Int) ≤ (s.size : Int) := by omega
                  have hf0 : (0 : Int) ≤ (f : Int) := by omega
                  have hf1 : (f : Int) ≤ (j : Int) := by omega
                  obtain ⟨X, hX⟩ : ∃ X, s.extract f j = X := ⟨_, rfl⟩
                  have HX : Hid (X.data.toList = (ls.drop f).take (j - f)) := by show _ = _; rw [← hX, ext_mid s f j (by omega) (by omega), bs_data, HLS.out]
                  have hXz : X.size ≤ 240 := by
                    rw [← sz_len, HX.out, List.length_take, List.length_drop, HLZ.out]; omega
                  obtain ⟨wx, hwx⟩ : ∃ wx, wds X.data.toList = wx := ⟨_, rfl⟩
                  obtain ⟨mx, hmx⟩ : ∃ mx, wx.length = mx := ⟨_, rfl⟩
                  have hq20 := Hid.mk' (fun V => rwords_slB V X (by omega) wx hwx mx hmx)
                  have oL := hI.own
                  have zB := hI.size
                  -- what is behind a cut
                  have Hcut : Hid ((j = s.size ∨ ls.getD j 0 = 10) → (L.flatMap wds).length + mx ≤ 60000 ∧ ∀ (v' : Value) (w' : World), OwnT w' B v' (L.flatMap wds ++ wx) → Keeps (fun k => B ≤ k) wr w' → CutW ls B w7 (L ++ [(ls.drop f).take (j - f)]) (j + 1) (j + 1) v' w') := by
                    intro hc
                    have hr := HI.out.rest
                    rw [if_pos (by rw [HLZ.out]; omega)] at hr
                    have hm := mid_no HI.out.no (by omega) (by rw [HLZ.out]; omega)
                    have hr2 : cutL 10 ls = (L ++ [(ls.drop f).take (j - f)]) ++ (if j + 1 ≤ ls.length then cutL 10 (ls.drop (j + 1)) else []) := by
                      rw [hr, List.append_assoc]
                      congr 1
                      by_cases hj : j = s.size
                      · have e : (ls.drop f).take (j - f) = ls.drop f := List.take_of_length_le (by rw [List.length_drop, HLZ.out]; omega)
                        rw [e] at hm ⊢
                        rw [cutL_none hm, if_neg (by rw [HLZ.out]; omega)]
                        rfl
                      · have hb := hc.resolve_left hj
                        rw [if_pos (by rw [HLZ.out]; omega)]
                        have e := drop_split ls (f := f) (i := j) (by omega) (by rw [HLZ.out]; omega)
                        rw [hb] at e
                        conv => lhs; rw [e]
                        rw [cutL_at _ hm]
                        rfl
                    have hwx2 : wds ((ls.drop f).take (j - f)) = wx := by rw [← HX.out]; exact hwx
                    have hfm : (L ++ [(ls.drop f).take (j - f)]).flatMap wds = L.flatMap wds ++ wx := by rw [List.flatMap_append, List.flatMap_cons, List.flatMap_nil, List.append_nil, hwx2]
                    refine ⟨?_, fun v' w' ho kk => ⟨by rw [hfm]; exact ho, HI.out.keep.trans' kk (fun k hk => .inr (by rw [HB.out]; exact hk)), by have := kk.size; omega, hr2, fun q h1 h2 => by omega, by omega, by rw [HLZ.out]; omega, fun e => e⟩⟩
                    have h5 := HFL.out
                    rw [hr2, List.flatMap_append, hfm, List.length_append, List.length_append, hmx] at h5
                    omega
                  have HXe : Hid (s.extract f j = X) := hX
                  clear hwx hmx
                  by_cases h2 : j = s.size
                  · subst h2
                    have h2' : ((s.size : Int) == (s.size : Int)) = true := by simp
                    obtain ⟨hln, hct⟩ := Hcut.out (.inl rfl)
                    have HCT := Hid.mk' hct
                    clear hI hii Hcut hct
                    have x6 : Hid True := trivial
                    go_wp2_with (first
                      | (have hh := x7; clear x7; refine wpList_appTs rfl _ _ rfl B _ (L.flatMap wds) rfl (oL.keep k8) a8 mx c8 wx rfl s8 z8 (by omega) (by have := k8.size; omega) ?_; intro v9 w9 o9 k9)
                      | (have hh := x6; clear x6; go_at_call 20; refine (hq20.out _).mono ?_; rintro e w8 ⟨a8, c8, rfl, s8, z8, k8⟩; have x7 : Hid True := trivial))
                    refine ⟨⟨_, s.size + 1, s.size + 1, rfl, rfl, HCT.out v9 w9 o9 ((k8.mono (fun _ _ h => h.elim)).trans (k9.mono (fun k _ e => (OwnT.from (oL.keep k8) e).1)))⟩, by simp [intOf]⟩
                  · have h2' : ((j : Int) == (s.size : Int)) = false := by simp; omega
                    have hlt2 : j < s.size := by omega
                    have hj0 : (0 : Int) ≤ (j : Int) := by omega
                    have hlt2' : (j : Int) < (s.size : Int) := by omega
                    obtain ⟨y, hy⟩ : ∃ y : UInt8, s[j]'hlt2 = y := ⟨_, rfl⟩
                    have Hy : Hid (ls.getD j 0 = y) := by show _ = _; rw [← hy, s_get s j hlt2, HLS.out]
                    by_cases h3 : y = 10
                    · have h3' : ((y.toNat : Int) == (10 : Int)) = true := by rw [h3]; rfl
                      obtain ⟨hln, hct⟩ := Hcut.out (.inr (by rw [Hy.out]; exact h3))
                      have HCT := Hid.mk' hct
                      clear hI h3 Hcut hct
                      have x6 : Hid True := trivial
                      go_wp2_with (first
                        | (have hh := x7; clear x7; refine wpList_appTs rfl _ _ rfl B _ (L.flatMap wds) rfl (oL.keep k8) a8 mx c8 wx rfl s8 z8 (by omega) (by have := k8.size; omega) ?_; intro v9 w9 o9 k9)
                        | (have hh := x6; clear x6; go_at_call 20; refine (hq20.out _).mono ?_; rintro e w8 ⟨a8, c8, rfl, s8, z8, k8⟩; have x7 : Hid True := trivial))
                      refine ⟨⟨_, j + 1, j + 1, rfl, rfl, HCT.out v9 w9 o9 ((k8.mono (fun _ _ h => h.elim)).trans (k9.mono (fun k _ e => (OwnT.from (oL.keep k8) e).1)))⟩, by simp [intOf]; omega⟩
                    · have h3' : ((y.toNat : Int) == (10 : Int)) = false := by
                        simp
                        intro e
                        exact h3 (UInt8.toNat_inj.1 (by show y.toNat = 10; omega))
                      have H3 : Hid (y ≠ 10) := h3
                      clear hI h3 Hcut
                      go_wp2
                      refine ⟨⟨L, f, j + 1, rfl, rfl, ⟨HI.out.own, HI.out.keep, HI.out.size, HI.out.rest, fun q hq1 hq2 => ?_, by omega, by rw [HLZ.out]; omega, fun e => by rw [HLZ.out] at e; omega⟩⟩, by simp [intOf]; omega⟩
                      by_cases e : q = j
                      · subst e; rw [Hy.out]; exact H3.out
                      · exact HI.out.no q hq1 (by omega)
                · have h1' : ¬ (j : Int) ≤ (s.size : Int) := by omega
                  have hend : j = ls.length + 1 := by rw [HLZ.out]; omega
                  have hf := hI.last hend
                  have hr := hI.rest
                  rw [if_neg (by omega), List.append_nil] at hr
                  have ho := hI.own
                  rw [← hr] at ho
                  obtain ⟨a8, c8, rfl, s8⟩ := ho.slN HQ.out
                  have S8 := Hid.mk' s8
                  have K8 : Hid (Keeps (fun _ => False) w wr) := K7.out.trans hI.keep
                  have S78 : Hid (SlT wr a7 q c7 ((cutL 10 ls).flatMap wds)) := by
                    have := S7.out.keep hI.keep
                    rw [HFW.out] at this
                    exact this
                  clear hI hf hend hr ho s8
                  have x8 : Hid True := trivial
                  go_wp2_with (first
                    | (have hh := x9; clear x9; go_at_call 9; refine (hwk.out _ K9.out).mono ?_; rintro e w10 ⟨rfl, k10⟩)
                    | (have hh := x8; clear x8; go_at_call 18; refine (texts_same _ a7 a8 q c7 c8 _ S78.out S8.out hq6).mono ?_; rintro e w9 ⟨rfl, k9⟩; have K9 : Hid (Keeps (fun _ => False) w w9) := K8.out.trans k9; have x9 : Hid True := trivial))
                  go_ret
                  exact ⟨rfl, K9.out.trans k10⟩
        · obtain ⟨rfl, rfl⟩ := HE15.out h0
          obtain rfl : n1 = 0 := HN1.out.symm
          clear HF0 HE15 h0
          have x1 : Hid True := trivial
          go_wp2_with (first
            | (have hh := x6; clear x6; go_at_call 9; refine (hwk.out _ K6.out).mono ?_; rintro e w7 ⟨rfl, k7⟩)
            | (have hh := x5; clear x5; go_at_call 10; refine (hqs.out _ K5.out).mono ?_; rintro e w6 ⟨a6, c6, rfl, s6, z6, k6⟩; have K6 : Hid (Keeps (fun _ => False) w w6) := K5.out.trans k6; have x6 : Hid True := trivial)
            | (have hh := x4; clear x4; go_at_call 16; refine (hq16.out _ K4.out).mono ?_; rintro e w5 ⟨rfl, k5⟩; have K5 : Hid (Keeps (fun _ => False) w w5) := K4.out.trans k5; have x5 : Hid True := trivial)
            | (have hh := x3; clear x3; go_at_call 15; refine (hq15.out _ K3.out a2 c2 s2).mono ?_; rintro e w4 ⟨rfl, k4⟩; have K4 : Hid (Keeps (fun _ => False) w w4) := K3.out.trans k4; have x4 : Hid True := trivial)
            | (have hh := x2; clear x2; go_at_call 10; refine (hq10.out _ K2.out).mono ?_; rintro e w3 ⟨a2, c2, rfl, s2, _, k3⟩; have K3 : Hid (Keeps (fun _ => False) w w3) := K2.out.trans k3; have x3 : Hid True := trivial)
            | (have hh := x1; clear x1; go_at_call 13; refine (hq13.out _ HK1.out).mono ?_; rintro e w2 ⟨rfl, k2⟩; have K2 : Hid (Keeps (fun _ => False) w w2) := HK1.out.trans k2; have x2 : Hid True := trivial))
          go_ret
          exact ⟨rfl, K6.out.trans k7⟩
      · have hR : srcR P = ([], 11) := by unfold srcR; rw [if_neg hG]
        rw [hR] at hq13
        obtain ⟨T, hTT⟩ : ∃ T, bs ([] : List UInt8) = T := ⟨_, rfl⟩
        simp only [hTT] at hq13
        clear hR hTT hG hl hT
        by_cases h0 : e1 = 0
        · subst h0
          have HFW : Hid (flW P1 = (cutL 10 ls).flatMap wds) := HF0.out rfl
          clear HF0 HE15
          have x1 : Hid True := trivial
          go_wp2_with (first
            | (have hh := x5; clear x5; go_at_call 10; refine (hqs.out _ K5.out).mono ?_; rintro e w6 ⟨a6, c6, rfl, s6, z6, k6⟩; have K6 : Hid (Keeps (fun _ => False) w w6) := K5.out.trans k6)
            | (have hh := x1; clear x1; go_at_call 13; refine (hq13.out _ HK1.out).mono ?_; rintro e w5 ⟨rfl, k5⟩; have K5 : Hid (Keeps (fun _ => False) w w5) := HK1.out.trans k5; have x5 : Hid True := trivial))
          obtain ⟨B6, hB6⟩ : ∃ B6, w6.heap.size = B6 := ⟨_, rfl⟩
          have HB6 := Hid.mk' hB6
          have S6 := Hid.mk' s6
          clear hB6 s6 z6 k6
          go_loopw [11, 13] (fun v t wr => ∃ i : Nat, t = .int .i64 (i : Int) ∧ i ≤ n1 ∧ OwnT wr B6 v (flW (P1.take i)) ∧ Keeps (fun _ => False) w6 wr) (fun _ t _ => n1 - (intOf t).toNat)
          case atStart => exact ⟨0, rfl, by omega, OwnT.nil _ _, Keeps.refl _ _⟩
          case round =>
            obtain ⟨i, rfl, hi, oV, kV⟩ := hrel
            have OV := Hid.mk' oV
            have KV := Hid.mk' kV
            clear oV
            by_cases hlt : i < n1
            · have hlt' : (i : Int) < (n1 : Int) := by omega
              have hi0 : (0 : Int) ≤ (i : Int) := by omega
              obtain ⟨p, hp⟩ : ∃ p, P1[i]? = some p := ⟨_, List.getElem?_eq_getElem (by rw [HN1.out]; exact hlt)⟩
              have hpp : P1.getD i (0, []) = p := by rw [List.getD_eq_getElem?_getD, hp]; rfl
              have HF := flW_take (P := P1) (i := i) (by rw [HN1.out]; exact hlt)
              have HFl := flW_le P1 (i + 1)
              rw [HFW.out] at HFl
              have HFl2 := HFL.out
              obtain ⟨b1, o1, rfl, h1w, a1, m, c1, h2w, s1w, zz1⟩ := S6.out.at_ i p hp
              obtain ⟨k, ws⟩ := p
              rw [hpp] at HF
              simp only at h1w h2w s1w HF
              obtain ⟨F, hF⟩ : ∃ F, flW (P1.take i) = F := ⟨_, rfl⟩
              rw [hF] at OV HF
              have hlen : F.length + (mkW k).length + ws.length ≤ 60000 := by
                rw [HF, List.length_append, List.length_append] at HFl
                omega
              have hml := s1w.len
              have h1 := cell_keeps kV h1w (fun h => h)
              have H2 := Hid.mk' h2w
              have S1 := Hid.mk' s1w
              have HF2 := Hid.mk' HF
              have hmz : B6 ≤ wr.heap.size := by have := kV.size; have := HB6.out; omega
              clear hp hpp hF HF HFl HFl2 h1w h2w s1w kV
              by_cases hk2 : k = 2
              · subst hk2
                have HF3 : Hid (flW (P1.take (i + 1)) = F ++ [[61]] ++ ws) := by show _ = _; rw [HF2.out, ← List.append_assoc]; rfl
                have hl2 : F.length + 1 + m ≤ 60000 := by
                  have e : (mkW 2).length = 1 := rfl
                  omega
                have x6 : Hid True := trivial
                go_wp2_with (first
                  | (have hh := x8; clear x8; refine wpList_appTs rfl _ _ rfl B6 _ (F ++ [[61]]) rfl o8 a1 m c1 ws rfl s8 zz1 (by rw [List.length_append]; simp only [List.length_cons, List.length_nil]; omega) (by have := KX8.size; have := HB6.out; omega) ?_; intro v9 w9 o9 k9)
                  | (have hh := x7; clear x7; refine wpList_appT rfl _ _ rfl B6 _ F rfl o7 g7 rfl [61] b7 (by omega) (by have := k7.size; omega) ?_; intro v8 w8 o8 k8; have KX8 : Keeps (fun _ => False) w6 w8 := (KV.out.trans k7).trans' k8 (fun k e => .inr (by have := OwnT.from o7 e; have := HB6.out; omega)); have h2 := cell_keeps KX8 H2.out (fun h => h); have s8 := S1.out.keep KX8; have x8 : Hid True := trivial)
                  | (have hh := x6; clear x6; refine wpList_build1T rfl _ rfl [61] rfl ?_; intro g7 w7 b7 z7 k7; have o7 := OV.out.keep k7; have x7 : Hid True := trivial))
                have KQ : Keeps (fun _ => False) w6 w9 := (KX8).trans' k9 (fun k e => .inr (by have := OwnT.from o8 e; have := HB6.out; omega))
                exact ⟨⟨i + 1, rfl, by omega, by rw [HF3.out]; exact o9, KQ⟩, by simp [intOf]; omega⟩
              by_cases hk3 : k = 3
              · subst hk3
                have HF3 : Hid (flW (P1.take (i + 1)) = F ++ [[45]] ++ ws) := by show _ = _; rw [HF2.out, ← List.append_assoc]; rfl
                have hl2 : F.length + 1 + m ≤ 60000 := by
                  have e : (mkW 3).length = 1 := rfl
                  omega
                have x6 : Hid True := trivial
                go_wp2_with (first
                  | (have hh := x8; clear x8; refine wpList_appTs rfl _ _ rfl B6 _ (F ++ [[45]]) rfl o8 a1 m c1 ws rfl s8 zz1 (by rw [List.length_append]; simp only [List.length_cons, List.length_nil]; omega) (by have := KX8.size; have := HB6.out; omega) ?_; intro v9 w9 o9 k9)
                  | (have hh := x7; clear x7; refine wpList_appT rfl _ _ rfl B6 _ F rfl o7 g7 rfl [45] b7 (by omega) (by have := k7.size; omega) ?_; intro v8 w8 o8 k8; have KX8 : Keeps (fun _ => False) w6 w8 := (KV.out.trans k7).trans' k8 (fun k e => .inr (by have := OwnT.from o7 e; have := HB6.out; omega)); have h2 := cell_keeps KX8 H2.out (fun h => h); have s8 := S1.out.keep KX8; have x8 : Hid True := trivial)
                  | (have hh := x6; clear x6; refine wpList_build1T rfl _ rfl [45] rfl ?_; intro g7 w7 b7 z7 k7; have o7 := OV.out.keep k7; have x7 : Hid True := trivial))
                have KQ : Keeps (fun _ => False) w6 w9 := (KX8).trans' k9 (fun k e => .inr (by have := OwnT.from o8 e; have := HB6.out; omega))
                exact ⟨⟨i + 1, rfl, by omega, by rw [HF3.out]; exact o9, KQ⟩, by simp [intOf]; omega⟩
              by_cases hk4 : k = 4
              · subst hk4
                have HF3 : Hid (flW (P1.take (i + 1)) = F ++ [[45, 45, 45]] ++ ws) := by show _ = _; rw [HF2.out, ← List.append_assoc]; rfl
                have hl2 : F.length + 1 + m ≤ 60000 := by
                  have e : (mkW 4).length = 1 := rfl
                  omega
                have x6 : Hid True := trivial
                go_wp2_with (first
                  | (have hh := x8; clear x8; refine wpList_appTs rfl _ _ rfl B6 _ (F ++ [[45, 45, 45]]) rfl o8 a1 m c1 ws rfl s8 zz1 (by rw [List.length_append]; simp only [List.length_cons, List.length_nil]; omega) (by have := KX8.size; have := HB6.out; omega) ?_; intro v9 w9 o9 k9)
                  | (have hh := x7; clear x7; refine wpList_appT rfl _ _ rfl B6 _ F rfl o7 g7 rfl [45, 45, 45] b7 (by omega) (by have := k7.size; omega) ?_; intro v8 w8 o8 k8; have KX8 : Keeps (fun _ => False) w6 w8 := (KV.out.trans k7).trans' k8 (fun k e => .inr (by have := OwnT.from o7 e; have := HB6.out; omega)); have h2 := cell_keeps KX8 H2.out (fun h => h); have s8 := S1.out.keep KX8; have x8 : Hid True := trivial)
                  | (have hh := x6; clear x6; refine wpList_build1T rfl _ rfl [45, 45, 45] rfl ?_; intro g7 w7 b7 z7 k7; have o7 := OV.out.keep k7; have x7 : Hid True := trivial))
                have KQ : Keeps (fun _ => False) w6 w9 := (KX8).trans' k9 (fun k e => .inr (by have := OwnT.from o8 e; have := HB6.out; omega))
                exact ⟨⟨i + 1, rfl, by omega, by rw [HF3.out]; exact o9, KQ⟩, by simp [intOf]; omega⟩
              have HF3 : Hid (flW (P1.take (i + 1)) = F ++ ws) := by
                show _ = _
                rw [HF2.out]
                unfold mkW
                rw [if_neg hk2, if_neg hk3, if_neg hk4, List.nil_append]
              have q2 : (k == (2 : Int)) = false := by simp [hk2]
              have q3 : (k == (3 : Int)) = false := by simp [hk3]
              have q4 : (k == (4 : Int)) = false := by simp [hk4]
              have hl2 : F.length + m ≤ 60000 := by omega
              have h2 := cell_keeps KV.out H2.out (fun h => h)
              have s8 := S1.out.keep KV.out
              have o8 := OV.out
              clear hk2 hk3 hk4
              go_wp2_with (refine wpList_appTs rfl _ _ rfl B6 _ F rfl o8 a1 m c1 ws rfl s8 zz1 (by omega) hmz ?_; intro v9 w9 o9 k9)
              have KQ : Keeps (fun _ => False) w6 w9 := KV.out.trans' k9 (fun k e => .inr (by have := OwnT.from o8 e; have := HB6.out; omega))
              exact ⟨⟨i + 1, rfl, by omega, by rw [HF3.out]; exact o9, KQ⟩, by simp [intOf]; omega⟩
            · obtain rfl : i = n1 := by omega
              have hlt' : ¬ (i : Int) < (i : Int) := by omega
              obtain ⟨w7, rfl⟩ : ∃ w7, w7 = wr := ⟨_, rfl⟩
              obtain ⟨q, hq⟩ : ∃ q, (flW P1).length = q := ⟨_, rfl⟩
              have hq6 : q ≤ 100000 := by rw [← hq, HFW.out]; have := HFL.out; omega
              have e0 : P1.take i = P1 := List.take_of_length_le (by rw [HN1.out]; exact Nat.le_refl _)
              rw [e0] at OV
              obtain ⟨a7, c7, rfl, s7⟩ := OV.out.slN hq
              have S7 := Hid.mk' s7
              have HQ : Hid (((cutL 10 ls).flatMap wds).length = q) := by show _ = _; rw [← HFW.out]; exact hq
              have K7 : Hid (Keeps (fun _ => False) w w7) := K6.out.trans KV.out
              obtain ⟨B, hB⟩ : ∃ B, w7.heap.size = B := ⟨_, rfl⟩
              have HB := Hid.mk' hB
              clear hq e0 s7 hB kV hlt
              go_wp2
              go_loopw [12, 14, 15] (fun v t u wr2 => ∃ (L : List (List UInt8)) (f j : Nat), t = .int .i64 (f : Int) ∧ u = .int .i64 (j : Int) ∧ CutW ls B w7 L f j v wr2) (fun _ _ u _ => s.size + 1 - (intOf u).toNat)
              case atStart => exact ⟨[], 0, 0, rfl, rfl, ⟨OwnT.nil _ _, Keeps.refl _ _, by rw [HB.out]; omega, by simp, fun j _ h => by omega, by omega, by omega, fun h => by omega⟩⟩
              case round =>
                obtain ⟨L, f, j, rfl, rfl, hI⟩ := hrel
                have HI : Hid (CutW ls B w7 L f j _ wr) := hI
                have hfi := hI.fi
                have hii := hI.ii
                rw [HLZ.out] at hii
                by_cases h1 : j ≤ s.size
                · have h1' : (j : Int) ≤ (s.size : Int) := by omega
                  have hf0 : (0 : Int) ≤ (f : Int) := by omega
                  have hf1 : (f : Int) ≤ (j : Int) := by omega
                  obtain ⟨X, hX⟩ : ∃ X, s.extract f j = X := ⟨_, rfl⟩
                  have HX : Hid (X.data.toList = (ls.drop f).take (j - f)) := by show _ = _; rw [← hX, ext_mid s f j (by omega) (by omega), bs_data, HLS.out]
                  have hXz : X.size ≤ 240 := by
                    rw [← sz_len, HX.out, List.length_take, List.length_drop, HLZ.out]; omega
                  obtain ⟨wx, hwx⟩ : ∃ wx, wds X.data.toList = wx := ⟨_, rfl⟩
                  obtain ⟨mx, hmx⟩ : ∃ mx, wx.length = mx := ⟨_, rfl⟩
                  have hq20 := Hid.mk' (fun V => rwords_slB V X (by omega) wx hwx mx hmx)
                  have oL := hI.own
                  have zB := hI.size
                  -- what is behind a cut
                  have Hcut : Hid ((j = s.size ∨ ls.getD j 0 = 10) → (L.flatMap wds).length + mx ≤ 60000 ∧ ∀ (v' : Value) (w' : World), OwnT w' B v' (L.flatMap wds ++ wx) → Keeps (fun k => B ≤ k) wr w' → CutW ls B w7 (L ++ [(ls.drop f).take (j - f)]) (j + 1) (j + 1) v' w') := by
                    intro hc
                    have hr := HI.out.rest
                    rw [if_pos (by rw [HLZ.out]; omega)] at hr
                    have hm := mid_no HI.out.no (by omega) (by rw [HLZ.out]; omega)
                    have hr2 : cutL 10 ls = (L ++ [(ls.drop f).take (j - f)]) ++ (if j + 1 ≤ ls.length then cutL 10 (ls.drop (j + 1)) else []) := by
                      rw [hr, List.append_assoc]
                      congr 1
                      by_cases hj : j = s.size
                      · have e : (ls.drop f).take (j - f) = ls.drop f := List.take_of_length_le (by rw [List.length_drop, HLZ.out]; omega)
                        rw [e] at hm ⊢
                        rw [cutL_none hm, if_neg (by rw [HLZ.out]; omega)]
                        rfl
                      · have hb := hc.resolve_left hj
                        rw [if_pos (by rw [HLZ.out]; omega)]
                        have e := drop_split ls (f := f) (i := j) (by omega) (by rw [HLZ.out]; omega)
                        rw [hb] at e
                        conv => lhs; rw [e]
                        rw [cutL_at _ hm]
                        rfl
                    have hwx2 : wds ((ls.drop f).take (j - f)) = wx := by rw [← HX.out]; exact hwx
                    have hfm : (L ++ [(ls.drop f).take (j - f)]).flatMap wds = L.flatMap wds ++ wx := by rw [List.flatMap_append, List.flatMap_cons, List.flatMap_nil, List.append_nil, hwx2]
                    refine ⟨?_, fun v' w' ho kk => ⟨by rw [hfm]; exact ho, HI.out.keep.trans' kk (fun k hk => .inr (by rw [HB.out]; exact hk)), by have := kk.size; omega, hr2, fun q h1 h2 => by omega, by omega, by rw [HLZ.out]; omega, fun e => e⟩⟩
                    have h5 := HFL.out
                    rw [hr2, List.flatMap_append, hfm, List.length_append, List.length_append, hmx] at h5
                    omega
                  have HXe : Hid (s.extract f j = X) := hX
                  clear hwx hmx
                  by_cases h2 : j = s.size
                  · subst h2
                    have h2' : ((s.size : Int) == (s.size : Int)) = true := by simp
                    obtain ⟨hln, hct⟩ := Hcut.out (.inl rfl)
                    have HCT := Hid.mk' hct
                    clear hI hii Hcut hct
                    have x6 : Hid True := trivial
                    go_wp2_with (first
                      | (have hh := x7; clear x7; refine wpList_appTs rfl _ _ rfl B _ (L.flatMap wds) rfl (oL.keep k8) a8 mx c8 wx rfl s8 z8 (by omega) (by have := k8.size; omega) ?_; intro v9 w9 o9 k9)
                      | (have hh := x6; clear x6; go_at_call 20; refine (hq20.out _).mono ?_; rintro e w8 ⟨a8, c8, rfl, s8, z8, k8⟩; have x7 : Hid True := trivial))
                    refine ⟨⟨_, s.size + 1, s.size + 1, rfl, rfl, HCT.out v9 w9 o9 ((k8.mono (fun _ _ h => h.elim)).trans (k9.mono (fun k _ e => (OwnT.from (oL.keep k8) e).1)))⟩, by simp [intOf]⟩
                  · have h2' : ((j : Int) == (s.size : Int)) = false := by simp; omega
                    have hlt2 : j < s.size := by omega
                    have hj0 : (0 : Int) ≤ (j : Int) := by omega
                    have hlt2' : (j : Int) < (s.size : Int) := by omega
                    obtain ⟨y, hy⟩ : ∃ y : UInt8, s[j]'hlt2 = y := ⟨_, rfl⟩
                    have Hy : Hid (ls.getD j 0 = y) := by show _ = _; rw [← hy, s_get s j hlt2, HLS.out]
                    by_cases h3 : y = 10
                    · have h3' : ((y.toNat : Int) == (10 : Int)) = true := by rw [h3]; rfl
                      obtain ⟨hln, hct⟩ := Hcut.out (.inr (by rw [Hy.out]; exact h3))
                      have HCT := Hid.mk' hct
                      clear hI h3 Hcut hct
                      have x6 : Hid True := trivial
                      go_wp2_with (first
                        | (have hh := x7; clear x7; refine wpList_appTs rfl _ _ rfl B _ (L.flatMap wds) rfl (oL.keep k8) a8 mx c8 wx rfl s8 z8 (by omega) (by have := k8.size; omega) ?_; intro v9 w9 o9 k9)
                        | (have hh := x6; clear x6; go_at_call 20; refine (hq20.out _).mono ?_; rintro e w8 ⟨a8, c8, rfl, s8, z8, k8⟩; have x7 : Hid True := trivial))
                      refine ⟨⟨_, j + 1, j + 1, rfl, rfl, HCT.out v9 w9 o9 ((k8.mono (fun _ _ h => h.elim)).trans (k9.mono (fun k _ e => (OwnT.from (oL.keep k8) e).1)))⟩, by simp [intOf]; omega⟩
                    · have h3' : ((y.toNat : Int) == (10 : Int)) = false := by
                        simp
                        intro e
                        exact h3 (UInt8.toNat_inj.1 (by show y.toNat = 10; omega))
                      have H3 : Hid (y ≠ 10) := h3
                      clear hI h3 Hcut
                      go_wp2
                      refine ⟨⟨L, f, j + 1, rfl, rfl, ⟨HI.out.own, HI.out.keep, HI.out.size, HI.out.rest, fun q hq1 hq2 => ?_, by omega, by rw [HLZ.out]; omega, fun e => by rw [HLZ.out] at e; omega⟩⟩, by simp [intOf]; omega⟩
                      by_cases e : q = j
                      · subst e; rw [Hy.out]; exact H3.out
                      · exact HI.out.no q hq1 (by omega)
                · have h1' : ¬ (j : Int) ≤ (s.size : Int) := by omega
                  have hend : j = ls.length + 1 := by rw [HLZ.out]; omega
                  have hf := hI.last hend
                  have hr := hI.rest
                  rw [if_neg (by omega), List.append_nil] at hr
                  have ho := hI.own
                  rw [← hr] at ho
                  obtain ⟨a8, c8, rfl, s8⟩ := ho.slN HQ.out
                  have S8 := Hid.mk' s8
                  have K8 : Hid (Keeps (fun _ => False) w wr) := K7.out.trans hI.keep
                  have S78 : Hid (SlT wr a7 q c7 ((cutL 10 ls).flatMap wds)) := by
                    have := S7.out.keep hI.keep
                    rw [HFW.out] at this
                    exact this
                  clear hI hf hend hr ho s8
                  have x8 : Hid True := trivial
                  go_wp2_with (first
                    | (have hh := x9; clear x9; go_at_call 9; refine (hwk.out _ K9.out).mono ?_; rintro e w10 ⟨rfl, k10⟩)
                    | (have hh := x8; clear x8; go_at_call 18; refine (texts_same _ a7 a8 q c7 c8 _ S78.out S8.out hq6).mono ?_; rintro e w9 ⟨rfl, k9⟩; have K9 : Hid (Keeps (fun _ => False) w w9) := K8.out.trans k9; have x9 : Hid True := trivial))
                  go_ret
                  exact ⟨rfl, K9.out.trans k10⟩
        · obtain ⟨rfl, rfl⟩ := HE15.out h0
          obtain rfl : n1 = 0 := HN1.out.symm
          clear HF0 HE15 h0
          have x1 : Hid True := trivial
          go_wp2_with (first
            | (have hh := x6; clear x6; go_at_call 9; refine (hwk.out _ K6.out).mono ?_; rintro e w7 ⟨rfl, k7⟩)
            | (have hh := x5; clear x5; go_at_call 10; refine (hqs.out _ K5.out).mono ?_; rintro e w6 ⟨a6, c6, rfl, s6, z6, k6⟩; have K6 : Hid (Keeps (fun _ => False) w w6) := K5.out.trans k6; have x6 : Hid True := trivial)
            | (have hh := x1; clear x1; go_at_call 13; refine (hq13.out _ HK1.out).mono ?_; rintro e w5 ⟨rfl, k5⟩; have K5 : Hid (Keeps (fun _ => False) w w5) := HK1.out.trans k5; have x5 : Hid True := trivial))
          go_ret
          exact ⟨rfl, K6.out.trans k7⟩

end Go.Proofs.YtkcnnkakpkdhkaaDoor
