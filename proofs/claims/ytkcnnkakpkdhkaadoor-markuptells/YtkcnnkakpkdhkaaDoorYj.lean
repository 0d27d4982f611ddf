/-
  MarkupTells: the walk.
-/
import Derived.Test.YtkcnnkakpkdhkaaDoorYh
import Derived.Test.YtkcnnkakpkdhkaaDoorYi
import Derived.Test.YtkcnnkakpkdhkaaDoorYe
set_option linter.all false
set_option maxRecDepth 100000
namespace Go.Proofs.YtkcnnkakpkdhkaaDoor
open Go.RowKit Go.Sort Go.Shelf
attribute [local go_sem] Oper.semAt_some

theorem rparse_sl (w : World) (s : ByteArray) (hs : s.size ≤ 90000) (P : List Pt) (e : Int) (h : parseL s.data.toList = (P, e)) (n : Nat) (hn : P.length = n) :
    Calls Tryd.prog 11 #[.string s] w fun z w' => ∃ a c, z = .returned (.tuple #[.slice a n c, .int .i64 e]) ∧ SlP w' a n c P ∧ (a = none → c = 0) ∧ Keeps (fun _ => False) w w' := by
  refine (rparse11 w s hs).mono ?_
  rintro z w' ⟨⟨v, rfl, l, h1, h2⟩, k⟩
  rw [h] at h2 ⊢
  obtain ⟨a, c, rfl, h3, h4, _⟩ := h1.sl h2
  rw [hn] at h3 ⊢
  exact ⟨a, c, rfl, h3, h4, k⟩
theorem rwords_sl (w : World) (s : ByteArray) (hs : s.size ≤ 90000) (W : List (List UInt8)) (h : wds s.data.toList = W) (n : Nat) (hn : W.length = n) :
    Calls Tryd.prog 20 #[.string s] w fun z w' => ∃ a c, z = .returned (.slice a n c) ∧ SlT w' a n c W ∧ (a = none → c = 0) ∧ Keeps (fun _ => False) w w' := by
  refine (words20 w s hs).mono ?_
  rintro z w' ⟨⟨v, rfl, h1⟩, k⟩
  rw [h] at h1
  obtain ⟨a, c, rfl, h3, h4, _⟩ := h1.slice2
  rw [hn] at h3 ⊢
  exact ⟨a, c, rfl, h3, h4, k⟩
theorem own_sl (w : World) (a : Option Addr) (n c : Nat) (P : List Pt) (hl : SlP w a n c P) (hn : n ≤ 200) (hP : ∀ p ∈ P, p.2.length ≤ 300) :
    Calls Tryd.prog 12 #[.slice a n c] w fun e w' => ∃ a' c', e = .returned (.slice a' n c') ∧ SlP w' a' n c' P ∧ Keeps (fun _ => False) w w' := by
  have hL := hl.len
  refine (own12 w a n c P hl hn hP).mono ?_
  rintro z w' ⟨⟨v, l, rfl, h1, h2⟩, k⟩
  obtain ⟨a, c, rfl, h3, h4, _⟩ := h1.sl h2
  rw [hL] at h3 ⊢
  exact ⟨a, c, rfl, h3, k⟩
theorem parseL_big {s : List UInt8} (h : ¬ s.length ≤ 240) : parseL s = ([], 16) := by unfold parseL; rw [if_pos (by omega)]
theorem parseL_len2 (s : List UInt8) : (parseL s).1.length ≤ 241 := by
  by_cases h : s.length ≤ 240
  · exact parseL_len s h
  · rw [parseL_big h]; simp
theorem parseL_words2 (s : List UInt8) : ∀ p ∈ (parseL s).1, p.2.length ≤ 60000 := by
  by_cases h : s.length ≤ 240
  · exact parseL_words s h
  · rw [parseL_big h]; simp


set_option maxHeartbeats 40000000 in
theorem tellsL (w : World) (hT : Lib.Utf8Tabs 0 1 w) (s : ByteArray) (hs : s.size ≤ 140737488355328) (a : Option Addr) (n c : Nat) (P : List Pt) (hl : SlP w a n c P) (hn : n ≤ 9223372036854775807) :
    Calls Tryd.prog 3 #[.string s, .slice a n c] w fun e w' => e = .returned (.bool true) ∧ Keeps (fun _ => False) w w' := by
  have hwk := Hid.mk' (fun W (hW : Keeps (fun _ => False) w W) => wakes9 W (Tabs.keep hT hW))
  by_cases hbig : 1000 < s.size
  · have g1 : (1000 : Int) < (s.size : Int) := by omega
    clear hbig
    go_enter Tryd.func3, Tryd.ntmps3
    go_wp2_with (go_at_call 9; refine (hwk.out _ (Keeps.refl _ _)).mono ?_; rintro e w1 ⟨rfl, k1⟩)
    go_ret
    exact ⟨rfl, k1⟩
  · have g1 : ¬ (1000 : Int) < (s.size : Int) := by omega
    have HS1 : Hid (s.size ≤ 1000) := by show _ ≤ _; omega
    clear hbig
    go_enter Tryd.func3, Tryd.ntmps3
    go_wp2_with fail
    go_at_call 8
    refine (fair8 w a n c P hl hn).mono ?_
    rintro e w1 ⟨hf, k1⟩
    obtain ⟨b, rfl, hb⟩ := hf.out
    clear hf
    cases b with
    | false =>
      clear hb
      go_wp2_with (go_at_call 9; refine (hwk.out _ k1).mono ?_; rintro e w2 ⟨rfl, k2⟩)
      go_ret
      exact ⟨rfl, k1.trans k2⟩
    | true =>
      obtain ⟨hn200, hok⟩ := hb rfl
      clear hb
      have HP9 : Hid (∀ p ∈ P, p.2.length ≤ 90000 ∧ ∀ x ∈ p.2, x.length ≤ 90000) := fun p hp => ⟨by have := (hok p hp).1; omega, fun x hx => by have := (hok p hp).2 x hx; omega⟩
      have HP3 : Hid (∀ p ∈ P, p.2.length ≤ 300) := fun p hp => (hok p hp).1
      have HOK := Hid.mk' hok
      have hn1 : n ≤ 100000 := by omega
      obtain ⟨P1, e1, hpe⟩ : ∃ P1 e1, parseL s.data.toList = (P1, e1) := ⟨_, _, rfl⟩
      obtain ⟨n1, hn1'⟩ : ∃ n1, P1.length = n1 := ⟨_, rfl⟩
      have hl1 := parseL_len2 s.data.toList
      have hw1 := parseL_words2 s.data.toList
      rw [hpe] at hl1 hw1
      simp only at hl1 hw1
      rw [hn1'] at hl1
      have hn19 : n1 ≤ 100000 := by omega
      obtain ⟨W, hW⟩ : ∃ W, wds s.data.toList = W := ⟨_, rfl⟩
      obtain ⟨m, hm⟩ : ∃ m, W.length = m := ⟨_, rfl⟩
      have hm9 : m ≤ 100000 := by
        have := wds_len s.data.toList
        rw [hW, hm, sz_len] at this
        have := HS1.out
        omega
      have hq10 := Hid.mk' (fun V (hV : Keeps (fun _ => False) w V) => parse_sl V (Tabs.keep hT hV) s P1 e1 hpe n1 hn1')
      have hq11 := Hid.mk' (fun V => rparse_sl V s (by have := HS1.out; omega) P1 e1 hpe n1 hn1')
      have hq19 := Hid.mk' (fun V => words_sl V s (by have := HS1.out; omega) W hW m hm)
      have hq20 := Hid.mk' (fun V => rwords_sl V s (by have := HS1.out; omega) W hW m hm)
      have hq12 := Hid.mk' (fun V (hV : Keeps (fun _ => False) w V) => own_sl V a n c P (hl.keep hV) hn200 HP3.out)
      obtain ⟨S, f, hSf⟩ : ∃ S f, srcR P = (S, f) := ⟨_, _, rfl⟩
      obtain ⟨T, hTT⟩ : ∃ T, bs S = T := ⟨_, rfl⟩
      obtain ⟨G, hG⟩ : ∃ G, gdL P = G := ⟨_, rfl⟩
      have hq13 := Hid.mk' (fun V (hV : Keeps (fun _ => False) w V) a' c' (h' : SlP V a' n c' P) => psource13 V (Tabs.keep hT hV) a' n c' P h' hn1 HP9.out)
      have hq14 := Hid.mk' (fun V (hV : Keeps (fun _ => False) w V) => rsource14 V a n c P (hl.keep hV) hn200 HOK.out)
      have hq16 := Hid.mk' (fun V (hV : Keeps (fun _ => False) w V) a' c' (h' : SlP V a' n c' P) => pgood16 V (Tabs.keep hT hV) a' n c' P h' hn1 HP9.out)
      have hq17 := Hid.mk' (fun V (hV : Keeps (fun _ => False) w V) => rgood17 V a n c P (hl.keep hV) hn1 HP9.out)
      rw [hSf] at hq13 hq14
      simp only [hTT] at hq13 hq14
      rw [hG] at hq16 hq17
      have HSP := Hid.mk' hl
      have hq15 := Hid.mk' (fun V (hV : Keeps (fun _ => False) w V) a' c' (h' : SlP V a' n c' P) => parts_same V a' a n c' c P h' (HSP.out.keep hV) hn1 (fun p hp => by have := HP3.out p hp; omega))
      have hq15b := Hid.mk' (fun V a' c' a2 c2 (h' : SlP V a' n1 c' P1) (h2 : SlP V a2 n1 c2 P1) => parts_same V a' a2 n1 c' c2 P1 h' h2 hn19 (fun p hp => by have := hw1 p hp; omega))
      have t1 : (e1 == e1) = true := by simp
      have t2 : (T.toList == T.toList) = true := by simp
      have t3 : (f == f) = true := by simp
      have t4 : (G == G) = true := by simp
      have HK1 := Hid.mk' k1
      clear hok hpe hn1' hl1 hw1 hW hm hSf hTT hG hl k1 hn200 hn1 hn19
      have y1 : Hid True := trivial
      go_wp2_with (first
        | (have hh := y15; clear y15; go_at_call 9; refine (hwk.out _ K14.out).mono ?_; rintro e w15 ⟨rfl, k15⟩)
        | (have hh := y14; clear y14; go_at_call 15; refine (hq15.out _ K13.out a4 c4 (s4.out.keep K13b.out)).mono ?_; rintro e w14 ⟨rfl, k14⟩; have K14 : Hid (Keeps (fun _ => False) w w14) := K13.out.trans k14; have y15 : Hid True := trivial)
        | (have hh := y13; clear y13; go_at_call 18; refine (texts_same _ a11 a12 m c11 c12 W (s11.keep k12) s12 hm9).mono ?_; rintro e w13 ⟨rfl, k13⟩; have K13 : Hid (Keeps (fun _ => False) w w13) := K12.out.trans k13; have K13b : Hid (Keeps (fun _ => False) w4 w13) := K12b.out.trans k13; have y14 : Hid True := trivial)
        | (have hh := y12; clear y12; go_at_call 20; refine (hq20.out _).mono ?_; rintro e w12 ⟨a12, c12, rfl, s12, _, k12⟩; have K12 : Hid (Keeps (fun _ => False) w w12) := K11.out.trans k12; have K12b : Hid (Keeps (fun _ => False) w4 w12) := K11b.out.trans k12; have y13 : Hid True := trivial)
        | (have hh := y11; clear y11; go_at_call 19; refine (hq19.out _).mono ?_; rintro e w11 ⟨a11, c11, rfl, s11, _, k11⟩; have K11 : Hid (Keeps (fun _ => False) w w11) := K10.out.trans k11; have K11b : Hid (Keeps (fun _ => False) w4 w11) := K10b.out.trans k11; have y12 : Hid True := trivial)
        | (have hh := y10; clear y10; go_at_call 17; refine (hq17.out _ K9.out).mono ?_; rintro e w10 ⟨rfl, k10⟩; have K10 : Hid (Keeps (fun _ => False) w w10) := K9.out.trans k10; have K10b : Hid (Keeps (fun _ => False) w4 w10) := K9b.out.trans k10; have y11 : Hid True := trivial)
        | (have hh := y9; clear y9; go_at_call 16; refine (hq16.out _ K8.out a4 c4 (s4.out.keep K8b.out)).mono ?_; rintro e w9 ⟨rfl, k9⟩; have K9 : Hid (Keeps (fun _ => False) w w9) := K8.out.trans k9; have K9b : Hid (Keeps (fun _ => False) w4 w9) := K8b.out.trans k9; have y10 : Hid True := trivial)
        | (have hh := y8; clear y8; go_at_call 15; refine (hq15b.out _ a2 c2 a3 c3 ((s2.keep k3).keep K7c.out) (s3.keep K7c.out)).mono ?_; rintro e w8 ⟨rfl, k8⟩; have K8 : Hid (Keeps (fun _ => False) w w8) := K6.out.trans k8; have K8b : Hid (Keeps (fun _ => False) w4 w8) := K6b.out.trans k8; have y9 : Hid True := trivial)
        | (have hh := y6; clear y6; go_at_call 14; refine (hq14.out _ K5.out).mono ?_; rintro e w6 ⟨rfl, k6⟩; have K6 : Hid (Keeps (fun _ => False) w w6) := K5.out.trans k6; have K6b : Hid (Keeps (fun _ => False) w4 w6) := K5b.out.trans k6; have K7c : Hid (Keeps (fun _ => False) w3 w6) := k4.out.trans K6b.out; have y8 : Hid True := trivial)
        | (have hh := y5; clear y5; go_at_call 13; refine (hq13.out _ K4.out a4 c4 s4.out).mono ?_; rintro e w5 ⟨rfl, k5⟩; have K5 : Hid (Keeps (fun _ => False) w w5) := K4.out.trans k5; have K5b : Hid (Keeps (fun _ => False) w4 w5) := k5; have y6 : Hid True := trivial)
        | (have hh := y4; clear y4; go_at_call 12; refine (hq12.out _ K3.out).mono ?_; rintro e w4 ⟨a4, c4, rfl, s4', k4'⟩; have k4 := Hid.mk' k4'; have s4 := Hid.mk' s4'; have K4 : Hid (Keeps (fun _ => False) w w4) := K3.out.trans k4'; clear k4' s4'; have y5 : Hid True := trivial)
        | (have hh := y3; clear y3; go_at_call 11; refine (hq11.out _).mono ?_; rintro e w3 ⟨a3, c3, rfl, s3, _, k3⟩; have K3 : Hid (Keeps (fun _ => False) w w3) := K2.out.trans k3; have y4 : Hid True := trivial)
        | (have hh := y1; clear y1; go_at_call 10; refine (hq10.out _ HK1.out).mono ?_; rintro e w2 ⟨a2, c2, rfl, s2, _, k2⟩; have K2 : Hid (Keeps (fun _ => False) w w2) := HK1.out.trans k2; have y3 : Hid True := trivial))
      go_ret
      exact ⟨rfl, K14.out.trans k15⟩

end Go.Proofs.YtkcnnkakpkdhkaaDoor
