/-
  The law MarkupMarks.
-/
import Derived.Test.YtkcnnkakpkdhkaaDoorYc
set_option linter.all false
set_option maxRecDepth 100000
namespace Go.Proofs.YtkcnnkakpkdhkaaDoor
open Go.RowKit Go.Sort Go.Shelf
attribute [local go_sem] Oper.semAt_some

theorem tame21 (w : World) (s : ByteArray) (hs : s.size ≤ 140737488355328) : Calls Tryd.prog 21 #[.string s] w fun e w' => e = .returned (.bool (tm s.data.toList)) ∧ w' = w := by
  obtain ⟨l, hl⟩ : ∃ l, s.data.toList = l := ⟨_, rfl⟩
  have HL : Hid (s.data.toList = l) := hl
  have HZ : Hid (l.length = s.size) := by show _ = _; rw [← hl, sz_len]
  obtain ⟨R, hR⟩ : ∃ R, tm s.data.toList = R := ⟨_, rfl⟩
  have HR : Hid (l.all tmB = R) := by show _ = _; rw [← hR, ← hl]; rfl
  rw [hR]
  clear hl hR
  go_enter Tryd.func21, Tryd.ntmps21
  go_wp2
  go_loopw [3] (fun t wr => ∃ i : Nat, t = .int .i64 (i : Int) ∧ i ≤ s.size ∧ (l.take i).all tmB = true ∧ wr = w) (fun t _ => s.size - (intOf t).toNat)
  case atStart => exact ⟨0, rfl, by omega, by simp, rfl⟩
  case round =>
    obtain ⟨i, rfl, hi, hall, rfl⟩ := hrel
    have Hall := Hid.mk' hall
    clear hall
    by_cases hlt : i < s.size
    · have hlt' : (i : Int) < (s.size : Int) := by omega
      have hi0 : (0 : Int) ≤ (i : Int) := by omega
      obtain ⟨y, hy⟩ : ∃ y : UInt8, s[i]'hlt = y := ⟨_, rfl⟩
      have Hy : Hid (l.getD i 0 = y) := by show _ = _; rw [← hy, s_get s i hlt, HL.out]
      have HS : Hid (∀ b, tmB y = b → (l.take (i + 1)).all tmB = b) := fun b hb => by
        have hil : i < l.length := by rw [HZ.out]; exact hlt
        rw [List.take_succ, List.all_append, Hall.out, List.getElem?_eq_getElem hil]
        have e := Hy.out
        rw [List.getD_eq_getElem?_getD, List.getElem?_eq_getElem hil] at e
        simp at e
        simp [e, hb]
      have HB : Hid (tmB y = false → R = false) := fun hb => by
        rw [← HR.out, List.all_eq_false]
        have hil : i < l.length := by rw [HZ.out]; exact hlt
        have e := Hy.out
        rw [List.getD_eq_getElem?_getD, List.getElem?_eq_getElem hil] at e
        simp at e
        exact ⟨l[i], List.getElem_mem hil, by rw [e, hb]; simp⟩
      by_cases h1 : y.toNat < 32
      · have t1 : ((y.toNat : Int) < 32) := by omega
        have HR0 : Hid (R = false) := HB.out (by unfold tmB; simp; omega)
        clear HS HB h1
        go_wp2
        go_ret
        exact ⟨by rw [HR0.out]; rfl, rfl⟩
      · have t1 : ¬ ((y.toNat : Int) < 32) := by omega
        by_cases h2 : 126 < y.toNat
        · have t2 : (126 : Int) < (y.toNat : Int) := by omega
          have HR0 : Hid (R = false) := HB.out (by unfold tmB; simp; omega)
          clear HS HB h1 h2
          go_wp2
          go_ret
          exact ⟨by rw [HR0.out]; rfl, rfl⟩
        · have t2 : ¬ (126 : Int) < (y.toNat : Int) := by omega
          have HA := Hid.mk' (HS.out true (by unfold tmB; simp; omega))
          clear HS HB h1 h2
          go_wp2
          exact ⟨⟨i + 1, rfl, by omega, HA.out, by first | rfl | trivial⟩, by simp [intOf]; omega⟩
    · obtain rfl : i = s.size := by omega
      have hlt' : ¬ (s.size : Int) < (s.size : Int) := by omega
      have HR0 : Hid (R = true) := by
        show _ = _
        have h := Hall.out
        rw [List.take_of_length_le (by rw [HZ.out]; exact Nat.le_refl _)] at h
        rw [← HR.out, h]
      clear hlt hi Hall
      go_wp2
      go_ret
      exact ⟨by rw [HR0.out]; rfl, rfl⟩

theorem tameK (w : World) (s : ByteArray) (hs : s.size ≤ 140737488355328) : Calls Tryd.prog 21 #[.string s] w fun e w' => e = .returned (.bool (tm s.data.toList)) ∧ Keeps (fun _ => False) w w' :=
  (tame21 w s hs).mono (by rintro e w' ⟨rfl, rfl⟩; exact ⟨rfl, Keeps.refl _ _⟩)

section
variable {ops : Array Oper} {rest : List Oper} {o : Oper} {a : Act} {w : World} {Q : Exit → Act → World → Prop}
/-- One text, in a row of one's own. -/
theorem wpList_b1O (hgd : o.guard = none) (x : Operand) (ho : o.op = .buildSlice 37 1 #[(0, x)]) (v : List UInt8) (hx : a.eval x = .string (bs v))
    (h : ∀ g w', OwnT w' w.heap.size (.slice (some ⟨g, 0, none⟩) 1 1) [v] → w.heap.size ≤ g → Keeps (fun _ => False) w w' → wpList Tryd.prog ops Q rest (a.put o.dst (.slice (some ⟨g, 0, none⟩) 1 1)) w') : wpList Tryd.prog ops Q (o :: rest) a w := by
  refine wpList_plain hgd fun K hK => ?_
  unfold Oper.wp execOp
  simp only [ho, hx, List.map_toArray, List.map_cons, List.map_nil, buildT, Sem.run_bind, Result.andThen_ok, Sem.run_pure]
  exact hK _ _ (h w.heap.size _ ⟨⟨by simp, .inr ⟨w.heap.size, 1, #[.string (bs v)], rfl, Nat.le_refl _, heap_alloc_new w _, Nat.le_refl _, by unfold maxLen; omega, by simp, by simp⟩⟩⟩ (Nat.le_refl _) (keeps_alloc w _))
theorem buildP6 (k1 k2 k3 k4 k5 k6 : Int) (a1 a2 a3 a4 a5 a6 : Option Addr) (n1 c1 n2 c2 n3 c3 n4 c4 n5 c5 n6 c6 : Nat) (w : World) : (Instr.buildSlice 22 6 #[(0, .agg #[.int .i64 k1, .slice a1 n1 c1]), (1, .agg #[.int .i64 k2, .slice a2 n2 c2]), (2, .agg #[.int .i64 k3, .slice a3 n3 c3]), (3, .agg #[.int .i64 k4, .slice a4 n4 c4]), (4, .agg #[.int .i64 k5, .slice a5 n5 c5]), (5, .agg #[.int .i64 k6, .slice a6 n6 c6])]).run Tryd.prog w
    = .ok (.slice (some ⟨w.heap.size, 0, none⟩) 6 6) (w.alloc (.cells #[.int .i64 k1, .slice a1 n1 c1, .int .i64 k2, .slice a2 n2 c2, .int .i64 k3, .slice a3 n3 c3, .int .i64 k4, .slice a4 n4 c4, .int .i64 k5, .slice a5 n5 c5, .int .i64 k6, .slice a6 n6 c6] 41)) := by kernel_rfl
theorem wpList_b6P (hgd : o.guard = none) (x1 x2 x3 x4 x5 x6 : Operand) (ho : o.op = .buildSlice 22 6 #[(0, x1), (1, x2), (2, x3), (3, x4), (4, x5), (5, x6)]) (p1 p2 p3 p4 p5 p6 : Pt)
    (h1 : PtV w (a.eval x1) p1) (h2 : PtV w (a.eval x2) p2) (h3 : PtV w (a.eval x3) p3) (h4 : PtV w (a.eval x4) p4) (h5 : PtV w (a.eval x5) p5) (h6 : PtV w (a.eval x6) p6)
    (h : ∀ g w', SlP w' (some ⟨g, 0, none⟩) 6 6 [p1, p2, p3, p4, p5, p6] → w.heap.size ≤ g → Keeps (fun _ => False) w w' → wpList Tryd.prog ops Q rest (a.put o.dst (.slice (some ⟨g, 0, none⟩) 6 6)) w') : wpList Tryd.prog ops Q (o :: rest) a w := by
  obtain ⟨a1, n1, c1, e1, s1, z1⟩ := h1.out
  obtain ⟨a2, n2, c2, e2, s2, z2⟩ := h2.out
  obtain ⟨a3, n3, c3, e3, s3, z3⟩ := h3.out
  obtain ⟨a4, n4, c4, e4, s4, z4⟩ := h4.out
  obtain ⟨a5, n5, c5, e5, s5, z5⟩ := h5.out
  obtain ⟨a6, n6, c6, e6, s6, z6⟩ := h6.out
  rw [e1] at h1
  rw [e2] at h2
  rw [e3] at h3
  rw [e4] at h4
  rw [e5] at h5
  rw [e6] at h6
  refine wpList_plain hgd fun K hK => ?_
  unfold Oper.wp execOp
  simp only [ho, e1, e2, e3, e4, e5, e6, List.map_toArray, List.map_cons, List.map_nil, buildP6, Sem.run_bind, Result.andThen_ok, Sem.run_pure]
  refine hK _ _ (h w.heap.size _ (SlP.of_row (l := [(p1.1, .slice a1 n1 c1), (p2.1, .slice a2 n2 c2), (p3.1, .slice a3 n3 c3), (p4.1, .slice a4 n4 c4), (p5.1, .slice a5 n5 c5), (p6.1, .slice a6 n6 c6)]) (heap_alloc_new w _) rfl rfl ?_) (Nat.le_refl _) (keeps_alloc w _))
  have k0 : Keeps (fun _ => False) w (w.alloc (.cells #[.int .i64 p1.1, .slice a1 n1 c1, .int .i64 p2.1, .slice a2 n2 c2, .int .i64 p3.1, .slice a3 n3 c3, .int .i64 p4.1, .slice a4 n4 c4, .int .i64 p5.1, .slice a5 n5 c5, .int .i64 p6.1, .slice a6 n6 c6] 41)) := keeps_alloc w _
  intro j x p hx hp
  match j with
  | 0 => simp at hx hp; subst hx hp; exact h1.keep k0
  | 1 => simp at hx hp; subst hx hp; exact h2.keep k0
  | 2 => simp at hx hp; subst hx hp; exact h3.keep k0
  | 3 => simp at hx hp; subst hx hp; exact h4.keep k0
  | 4 => simp at hx hp; subst hx hp; exact h5.keep k0
  | 5 => simp at hx hp; subst hx hp; exact h6.keep k0
  | j + 6 => simp at hx
end

set_option maxHeartbeats 16000000 in
theorem marksW (w : World) (hT : Lib.Utf8Tabs 0 1 w) (a : ByteArray) (ha : a.size ≤ 140737488355328) (b : ByteArray) (hb : b.size ≤ 140737488355328) (c : ByteArray) (hc : c.size ≤ 140737488355328) :
    Calls Tryd.prog 7 #[.string a, .string b, .string c] w fun e w' => e = .returned (.bool true) ∧ Keeps (fun _ => False) w w' := by
  have hwk := Hid.mk' (fun W (hW : Keeps (fun _ => False) w W) => wakes9 W (Tabs.keep hT hW))
  obtain ⟨E1, h1⟩ : ∃ E : ByteArray, E = ⟨#[119, 32]⟩ := ⟨_, rfl⟩
  obtain ⟨E2, h2⟩ : ∃ E : ByteArray, E = ⟨#[10, 119, 32]⟩ := ⟨_, rfl⟩
  obtain ⟨E3, h3⟩ : ∃ E : ByteArray, E = ⟨#[10, 61, 32]⟩ := ⟨_, rfl⟩
  obtain ⟨E4, h4⟩ : ∃ E : ByteArray, E = ⟨#[10, 45, 32]⟩ := ⟨_, rfl⟩
  obtain ⟨E5, h5⟩ : ∃ E : ByteArray, E = ⟨#[10, 45, 45, 45, 10, 119, 32]⟩ := ⟨_, rfl⟩
  obtain ⟨EW, hW⟩ : ∃ E : ByteArray, E = ⟨#[119]⟩ := ⟨_, rfl⟩
  have y0 : Hid True := trivial
  by_cases hbig : 150 < a.size + b.size + c.size
  · have g1 : (150 : Int) < (a.size : Int) + (b.size : Int) + (c.size : Int) := by omega
    clear hbig
    have K0 : Hid (Keeps (fun _ => False) w w) := Keeps.refl _ _
    go_enter Tryd.func7, Tryd.ntmps7
    rw [← h1, ← h2, ← h3, ← h4, ← h5, ← hW]
    clear h1 h2 h3 h4 h5
    go_wp2_with (first
          | (have hh := y0; clear y0; go_at_call 9; refine (hwk.out _ K0.out).mono ?_; rintro e w99 ⟨rfl, k99⟩; have y1 : Hid True := trivial))
    go_ret
    exact ⟨rfl, K0.out.trans k99⟩
  · have g1 : ¬ (150 : Int) < (a.size : Int) + (b.size : Int) + (c.size : Int) := by omega
    have hta := Hid.mk' (fun W => tameK W a ha)
    have htb := Hid.mk' (fun W => tameK W b hb)
    have htc := Hid.mk' (fun W => tameK W c hc)
    cases ta : tm a.data.toList with
    | false =>
      rw [ta] at hta
      clear ta hbig
      have K0 : Hid (Keeps (fun _ => False) w w) := Keeps.refl _ _
      go_enter Tryd.func7, Tryd.ntmps7
      rw [← h1, ← h2, ← h3, ← h4, ← h5, ← hW]
      clear h1 h2 h3 h4 h5
      go_wp2_with (first
            | (have hh := y1; clear y1; go_at_call 9; refine (hwk.out _ KA.out).mono ?_; rintro e w99 ⟨rfl, k99⟩; have y2 : Hid True := trivial)
            | (have hh := y0; clear y0; go_at_call 21; refine (hta.out _).mono ?_; rintro e wa ⟨rfl, ka⟩; have KA : Hid (Keeps (fun _ => False) w wa) := ka; have y1 : Hid True := trivial))
      go_ret
      exact ⟨rfl, KA.out.trans k99⟩
    | true =>
      cases tb : tm b.data.toList with
      | false =>
        rw [ta] at hta
        rw [tb] at htb
        clear ta tb hbig
        have K0 : Hid (Keeps (fun _ => False) w w) := Keeps.refl _ _
        go_enter Tryd.func7, Tryd.ntmps7
        rw [← h1, ← h2, ← h3, ← h4, ← h5, ← hW]
        clear h1 h2 h3 h4 h5
        go_wp2_with (first
              | (have hh := y2; clear y2; go_at_call 9; refine (hwk.out _ KB.out).mono ?_; rintro e w99 ⟨rfl, k99⟩; have y3 : Hid True := trivial)
              | (have hh := y1; clear y1; go_at_call 21; refine (htb.out _).mono ?_; rintro e wb ⟨rfl, kb⟩; have KB : Hid (Keeps (fun _ => False) w wb) := KA.out.trans kb; have y2 : Hid True := trivial)
              | (have hh := y0; clear y0; go_at_call 21; refine (hta.out _).mono ?_; rintro e wa ⟨rfl, ka⟩; have KA : Hid (Keeps (fun _ => False) w wa) := ka; have y1 : Hid True := trivial))
        go_ret
        exact ⟨rfl, KB.out.trans k99⟩
      | true =>
        cases tc : tm c.data.toList with
        | false =>
          rw [ta] at hta
          rw [tb] at htb
          rw [tc] at htc
          clear ta tb tc hbig
          have K0 : Hid (Keeps (fun _ => False) w w) := Keeps.refl _ _
          go_enter Tryd.func7, Tryd.ntmps7
          rw [← h1, ← h2, ← h3, ← h4, ← h5, ← hW]
          clear h1 h2 h3 h4 h5
          go_wp2_with (first
                | (have hh := y3; clear y3; go_at_call 9; refine (hwk.out _ KC.out).mono ?_; rintro e w99 ⟨rfl, k99⟩; have y4 : Hid True := trivial)
                | (have hh := y2; clear y2; go_at_call 21; refine (htc.out _).mono ?_; rintro e wc ⟨rfl, kc⟩; have KC : Hid (Keeps (fun _ => False) w wc) := KB.out.trans kc; have y3 : Hid True := trivial)
                | (have hh := y1; clear y1; go_at_call 21; refine (htb.out _).mono ?_; rintro e wb ⟨rfl, kb⟩; have KB : Hid (Keeps (fun _ => False) w wb) := KA.out.trans kb; have y2 : Hid True := trivial)
                | (have hh := y0; clear y0; go_at_call 21; refine (hta.out _).mono ?_; rintro e wa ⟨rfl, ka⟩; have KA : Hid (Keeps (fun _ => False) w wa) := ka; have y1 : Hid True := trivial))
          go_ret
          exact ⟨rfl, KC.out.trans k99⟩
        | true =>
          rw [ta] at hta
          rw [tb] at htb
          rw [tc] at htc
          obtain ⟨X1, eX1⟩ : ∃ X, wds a.data.toList = X := ⟨_, rfl⟩
          obtain ⟨X2, eX2⟩ : ∃ X, wds b.data.toList = X := ⟨_, rfl⟩
          obtain ⟨X3, eX3⟩ : ∃ X, wds c.data.toList = X := ⟨_, rfl⟩
          obtain ⟨n1, en1⟩ : ∃ n, X1.length = n := ⟨_, rfl⟩
          obtain ⟨n2, en2⟩ : ∃ n, X2.length = n := ⟨_, rfl⟩
          obtain ⟨n3, en3⟩ : ∃ n, X3.length = n := ⟨_, rfl⟩
          have hx1 := Hid.mk' (fun W => words_sl W a (by omega) X1 eX1 n1 en1)
          have hx2 := Hid.mk' (fun W => words_sl W b (by omega) X2 eX2 n2 en2)
          have hx3 := Hid.mk' (fun W => words_sl W c (by omega) X3 eX3 n3 en3)
          have m1 : n1 ≤ 151 := by have := wds_len a.data.toList; rw [eX1, en1, sz_len] at this; omega
          have m2 : n2 ≤ 151 := by have := wds_len b.data.toList; rw [eX2, en2, sz_len] at this; omega
          have m3 : n3 ≤ 151 := by have := wds_len c.data.toList; rw [eX3, en3, sz_len] at this; omega
          have HN1 := Hid.mk' en1
          have HN2 := Hid.mk' en2
          have HN3 := Hid.mk' en3
          by_cases q1 : n1 = 0
          · have t1 : ((n1 : Int) == (0 : Int)) = true := by simp [q1]
            clear q1 hbig ta tb tc eX1 eX2 eX3 en1 en2 en3
            have K0 : Hid (Keeps (fun _ => False) w w) := Keeps.refl _ _
            go_enter Tryd.func7, Tryd.ntmps7
            rw [← h1, ← h2, ← h3, ← h4, ← h5, ← hW]
            clear h1 h2 h3 h4 h5
            go_wp2_with (first
                  | (have hh := y6; clear y6; go_at_call 9; refine (hwk.out _ K3.out).mono ?_; rintro e w99 ⟨rfl, k99⟩; have y7 : Hid True := trivial)
                  | (have hh := y5; clear y5; go_at_call 19; refine (hx3.out _).mono ?_; rintro e w3 ⟨x3, c3, rfl, s3, z3, k3⟩; have K3 : Hid (Keeps (fun _ => False) w w3) := K2.out.trans k3; have y6 : Hid True := trivial)
                  | (have hh := y4; clear y4; go_at_call 19; refine (hx2.out _).mono ?_; rintro e w2 ⟨x2, c2, rfl, s2, z2, k2⟩; have K2 : Hid (Keeps (fun _ => False) w w2) := K1.out.trans k2; have y5 : Hid True := trivial)
                  | (have hh := y3; clear y3; go_at_call 19; refine (hx1.out _).mono ?_; rintro e w1 ⟨x1, c1, rfl, s1, z1, k1⟩; have K1 : Hid (Keeps (fun _ => False) w w1) := KC.out.trans k1; have y4 : Hid True := trivial)
                  | (have hh := y2; clear y2; go_at_call 21; refine (htc.out _).mono ?_; rintro e wc ⟨rfl, kc⟩; have KC : Hid (Keeps (fun _ => False) w wc) := KB.out.trans kc; have y3 : Hid True := trivial)
                  | (have hh := y1; clear y1; go_at_call 21; refine (htb.out _).mono ?_; rintro e wb ⟨rfl, kb⟩; have KB : Hid (Keeps (fun _ => False) w wb) := KA.out.trans kb; have y2 : Hid True := trivial)
                  | (have hh := y0; clear y0; go_at_call 21; refine (hta.out _).mono ?_; rintro e wa ⟨rfl, ka⟩; have KA : Hid (Keeps (fun _ => False) w wa) := ka; have y1 : Hid True := trivial))
            go_ret
            exact ⟨rfl, K3.out.trans k99⟩
          · have t1 : ((n1 : Int) == (0 : Int)) = false := by simp; exact q1
            by_cases q2 : n2 = 0
            · have t2 : ((n2 : Int) == (0 : Int)) = true := by simp [q2]
              clear q1 q2 hbig ta tb tc eX1 eX2 eX3 en1 en2 en3
              have K0 : Hid (Keeps (fun _ => False) w w) := Keeps.refl _ _
              go_enter Tryd.func7, Tryd.ntmps7
              rw [← h1, ← h2, ← h3, ← h4, ← h5, ← hW]
              clear h1 h2 h3 h4 h5
              go_wp2_with (first
                    | (have hh := y6; clear y6; go_at_call 9; refine (hwk.out _ K3.out).mono ?_; rintro e w99 ⟨rfl, k99⟩; have y7 : Hid True := trivial)
                    | (have hh := y5; clear y5; go_at_call 19; refine (hx3.out _).mono ?_; rintro e w3 ⟨x3, c3, rfl, s3, z3, k3⟩; have K3 : Hid (Keeps (fun _ => False) w w3) := K2.out.trans k3; have y6 : Hid True := trivial)
                    | (have hh := y4; clear y4; go_at_call 19; refine (hx2.out _).mono ?_; rintro e w2 ⟨x2, c2, rfl, s2, z2, k2⟩; have K2 : Hid (Keeps (fun _ => False) w w2) := K1.out.trans k2; have y5 : Hid True := trivial)
                    | (have hh := y3; clear y3; go_at_call 19; refine (hx1.out _).mono ?_; rintro e w1 ⟨x1, c1, rfl, s1, z1, k1⟩; have K1 : Hid (Keeps (fun _ => False) w w1) := KC.out.trans k1; have y4 : Hid True := trivial)
                    | (have hh := y2; clear y2; go_at_call 21; refine (htc.out _).mono ?_; rintro e wc ⟨rfl, kc⟩; have KC : Hid (Keeps (fun _ => False) w wc) := KB.out.trans kc; have y3 : Hid True := trivial)
                    | (have hh := y1; clear y1; go_at_call 21; refine (htb.out _).mono ?_; rintro e wb ⟨rfl, kb⟩; have KB : Hid (Keeps (fun _ => False) w wb) := KA.out.trans kb; have y2 : Hid True := trivial)
                    | (have hh := y0; clear y0; go_at_call 21; refine (hta.out _).mono ?_; rintro e wa ⟨rfl, ka⟩; have KA : Hid (Keeps (fun _ => False) w wa) := ka; have y1 : Hid True := trivial))
              go_ret
              exact ⟨rfl, K3.out.trans k99⟩
            · have t2 : ((n2 : Int) == (0 : Int)) = false := by simp; exact q2
              by_cases q3 : n3 = 0
              · have t3 : ((n3 : Int) == (0 : Int)) = true := by simp [q3]
                clear q1 q2 q3 hbig ta tb tc eX1 eX2 eX3 en1 en2 en3
                have K0 : Hid (Keeps (fun _ => False) w w) := Keeps.refl _ _
                go_enter Tryd.func7, Tryd.ntmps7
                rw [← h1, ← h2, ← h3, ← h4, ← h5, ← hW]
                clear h1 h2 h3 h4 h5
                go_wp2_with (first
                      | (have hh := y6; clear y6; go_at_call 9; refine (hwk.out _ K3.out).mono ?_; rintro e w99 ⟨rfl, k99⟩; have y7 : Hid True := trivial)
                      | (have hh := y5; clear y5; go_at_call 19; refine (hx3.out _).mono ?_; rintro e w3 ⟨x3, c3, rfl, s3, z3, k3⟩; have K3 : Hid (Keeps (fun _ => False) w w3) := K2.out.trans k3; have y6 : Hid True := trivial)
                      | (have hh := y4; clear y4; go_at_call 19; refine (hx2.out _).mono ?_; rintro e w2 ⟨x2, c2, rfl, s2, z2, k2⟩; have K2 : Hid (Keeps (fun _ => False) w w2) := K1.out.trans k2; have y5 : Hid True := trivial)
                      | (have hh := y3; clear y3; go_at_call 19; refine (hx1.out _).mono ?_; rintro e w1 ⟨x1, c1, rfl, s1, z1, k1⟩; have K1 : Hid (Keeps (fun _ => False) w w1) := KC.out.trans k1; have y4 : Hid True := trivial)
                      | (have hh := y2; clear y2; go_at_call 21; refine (htc.out _).mono ?_; rintro e wc ⟨rfl, kc⟩; have KC : Hid (Keeps (fun _ => False) w wc) := KB.out.trans kc; have y3 : Hid True := trivial)
                      | (have hh := y1; clear y1; go_at_call 21; refine (htb.out _).mono ?_; rintro e wb ⟨rfl, kb⟩; have KB : Hid (Keeps (fun _ => False) w wb) := KA.out.trans kb; have y2 : Hid True := trivial)
                      | (have hh := y0; clear y0; go_at_call 21; refine (hta.out _).mono ?_; rintro e wa ⟨rfl, ka⟩; have KA : Hid (Keeps (fun _ => False) w wa) := ka; have y1 : Hid True := trivial))
                go_ret
                exact ⟨rfl, K3.out.trans k99⟩
              · have t3 : ((n3 : Int) == (0 : Int)) = false := by simp; exact q3
                have hd : (E1 ++ a ++ E2 ++ b ++ E3 ++ c ++ E2 ++ a ++ E4 ++ b ++ E5 ++ c).data.toList = marksL a.data.toList b.data.toList c.data.toList := by
                  rw [h1, h2, h3, h4, h5]
                  simp only [ByteArray.data_append, Array.toList_append]
                  rfl
                have z1 : E1.size = 2 := by rw [h1]; rfl
                have z2 : E2.size = 3 := by rw [h2]; rfl
                have z3 : E3.size = 3 := by rw [h3]; rfl
                have z4 : E4.size = 3 := by rw [h4]; rfl
                have z5 : E5.size = 7 := by rw [h5]; rfl
                have hpr0 := fun W (hW : Keeps (fun _ => False) w W) => pparse10 W (Tabs.keep hT hW) (E1 ++ a ++ E2 ++ b ++ E3 ++ c ++ E2 ++ a ++ E4 ++ b ++ E5 ++ c)
                rw [hd] at hpr0
                have hsum : a.size + b.size + c.size ≤ 150 := by omega
                by_cases hl : 2 * (a.size + b.size + c.size) + 24 ≤ 240
                · have hpm := marks_parse ta tb tc (fun e => q1 (by rw [← en1, ← eX1, e]; rfl)) (fun e => q2 (by rw [← en2, ← eX2, e]; rfl)) (fun e => q3 (by rw [← en3, ← eX3, e]; rfl)) (by simp only [sz_len]; exact hl)
                  rw [hpm] at hpr0
                  have HWM : Hid (wantM a.data.toList b.data.toList c.data.toList = [(1, [[119]] ++ X1 ++ [[119]] ++ X2), (2, X3), (1, [] ++ [[119]] ++ X1), (3, X2), (4, []), (1, [] ++ [[119]] ++ X3)]) := by
                    show _ = _
                    unfold wantM
                    rw [eX1, eX2, eX3]
                    simp
                  rw [HWM.out] at hpr0
                  have hpr : Hid (∀ W, Keeps (fun _ => False) w W → Calls Tryd.prog 10 #[.string (E1 ++ a ++ E2 ++ b ++ E3 ++ c ++ E2 ++ a ++ E4 ++ b ++ E5 ++ c)] W fun e w' => ∃ v, e = .returned (.tuple #[v, .int .i64 0]) ∧ (∃ aa cc, v = .slice aa 6 cc ∧ SlP w' aa 6 cc [(1, [[119]] ++ X1 ++ [[119]] ++ X2), (2, X3), (1, [] ++ [[119]] ++ X1), (3, X2), (4, []), (1, [] ++ [[119]] ++ X3)]) ∧ Keeps (fun _ => False) W w') := fun W hW => (hpr0 W hW).mono (by
                    rintro e w' ⟨⟨v, rfl, l, o1, o2⟩, k⟩
                    obtain ⟨aa, cc, e, s, _, _⟩ := o1.sl o2
                    exact ⟨v, rfl, ⟨aa, cc, e, s⟩, k⟩)
                  have g2 : ¬ (240 : Int) < 2 * ((a.size : Int) + (b.size : Int) + (c.size : Int)) + 24 := by omega
                  have hwl : Hid (∀ p ∈ [((1 : Int), [[119]] ++ X1 ++ [[119]] ++ X2), (2, X3), (1, [] ++ [[119]] ++ X1), (3, X2), (4, []), (1, [] ++ [[119]] ++ X3)], p.2.length ≤ 100000) := by
                    intro p hp
                    have e1 := HN1.out
                    have e2 := HN2.out
                    have e3 := HN3.out
                    simp only [List.mem_cons, List.mem_nil_iff, or_false] at hp
                    rcases hp with rfl | rfl | rfl | rfl | rfl | rfl <;> simp <;> omega
                  clear hpm hpr0 hd q1 q2 q3 hbig ta tb tc eX1 eX2 eX3 en1 en2 en3 hl HWM
                  have K0 : Hid (Keeps (fun _ => False) w w) := Keeps.refl _ _
                  go_enter Tryd.func7, Tryd.ntmps7
                  rw [← h1, ← h2, ← h3, ← h4, ← h5, ← hW]
                  clear h1 h2 h3 h4 h5
                  go_wp2_with (first
                        | (have hh := y21; clear y21; go_at_call 9; refine (hwk.out _ K18.out).mono ?_; rintro e w99 ⟨rfl, k99⟩; have y22 : Hid True := trivial)
                        | (have hh := y20; clear y20; obtain ⟨aa, cc, rfl, O5⟩ := O4; go_at_call 15; refine (parts_same _ aa (some ⟨g17, 0, none⟩) 6 cc 6 _ (O5.keep J17.out) s17 (by omega) hwl.out).mono ?_; rintro e w18 ⟨rfl, k18⟩; have K18 : Hid (Keeps (fun _ => False) w w18) := K17.out.trans k18; have y21 : Hid True := trivial)
                        | (have hh := y19; clear y19; refine wpList_b6P rfl _ _ _ _ _ _ rfl (1, [[119]] ++ X1 ++ [[119]] ++ X2) (2, X3) (1, [] ++ [[119]] ++ X1) (3, X2) (4, []) (1, [] ++ [[119]] ++ X3) ⟨_, _, _, rfl, (S10.keep (kad.trans kdg)), Z10⟩ ⟨_, _, _, rfl, (t3.keep J16.out), z3⟩ ⟨_, _, _, rfl, (S13.keep kdg), Z13⟩ ⟨_, _, _, rfl, (t2.keep J16.out), z2⟩ ⟨_, _, _, rfl, SlT.nil _, (fun _ => rfl)⟩ ⟨_, _, _, rfl, S16, Z16⟩ ?_; intro g17 w17 s17 _ k17; have J17 : Hid (Keeps (fun _ => False) w4 w17) := J16.out.trans k17; have K17 : Hid (Keeps (fun _ => False) w w17) := K4.out.trans J17.out; have y20 : Hid True := trivial)
                        | (have hh := y18; clear y18; refine wpList_appTs rfl _ _ rfl w13.heap.size _ ([] ++ [[119]]) rfl o15 x3 n3 c3 X3 rfl (t3.keep J15.out) z3 (by have e1 := HN1.out; have e2 := HN2.out; have e3 := HN3.out; simp; omega) (by have := kdf.size; omega) ?_; intro v16 w16 o16 k16'; have kdg : Keeps (fun _ => False) w13 w16 := kdf.trans' k16' (fun k e => .inr (OwnT.from o15 e).1); have J16 : Hid (Keeps (fun _ => False) w4 w16) := J13.out.trans kdg; obtain ⟨a16, n16, d16, rfl, S16, Z16, _⟩ := o16.wd.out; have y19 : Hid True := trivial)
                        | (have hh := y17; clear y17; refine wpList_appTs rfl _ _ rfl w13.heap.size _ [] rfl o14 (some ⟨g5, 0, none⟩) 1 1 [[119]] rfl (s5.keep ((k5a.trans kad).trans k14)) (fun h => by cases h) (by simp) (by have := k14.size; omega) ?_; intro v15 w15 o15 k15'; have kdf : Keeps (fun _ => False) w13 w15 := k14.trans' k15' (fun k e => .inr (OwnT.from o14 e).1); have J15 : Hid (Keeps (fun _ => False) w4 w15) := J13.out.trans kdf; have y18 : Hid True := trivial)
                        | (have hh := y16; clear y16; refine wpList_build0T rfl rfl ?_; intro g14 w14 o14 _ k14; have J14 : Hid (Keeps (fun _ => False) w4 w14) := J13.out.trans k14; have y17 : Hid True := trivial)
                        | (have hh := y15; clear y15; refine wpList_appTs rfl _ _ rfl w10.heap.size _ ([] ++ [[119]]) rfl o12 x1 n1 c1 X1 rfl (t1.keep J12.out) z1 (by have e1 := HN1.out; have e2 := HN2.out; have e3 := HN3.out; simp; omega) (by have := kac.size; omega) ?_; intro v13 w13 o13 k13'; have kad : Keeps (fun _ => False) w10 w13 := kac.trans' k13' (fun k e => .inr (OwnT.from o12 e).1); have J13 : Hid (Keeps (fun _ => False) w4 w13) := J10.out.trans kad; obtain ⟨a13, n13, d13, rfl, S13, Z13, _⟩ := o13.wd.out; have y16 : Hid True := trivial)
                        | (have hh := y14; clear y14; refine wpList_appTs rfl _ _ rfl w10.heap.size _ [] rfl o11 (some ⟨g5, 0, none⟩) 1 1 [[119]] rfl (s5.keep (k5a.trans k11)) (fun h => by cases h) (by simp) (by have := k11.size; omega) ?_; intro v12 w12 o12 k12'; have kac : Keeps (fun _ => False) w10 w12 := k11.trans' k12' (fun k e => .inr (OwnT.from o11 e).1); have J12 : Hid (Keeps (fun _ => False) w4 w12) := J10.out.trans kac; have y15 : Hid True := trivial)
                        | (have hh := y13; clear y13; refine wpList_build0T rfl rfl ?_; intro g11 w11 o11 _ k11; have J11 : Hid (Keeps (fun _ => False) w4 w11) := J10.out.trans k11; have y14 : Hid True := trivial)
                        | (have hh := y12; clear y12; refine wpList_appTs rfl _ _ rfl w5.heap.size _ ([[119]] ++ X1 ++ [[119]]) rfl o9 x2 n2 c2 X2 rfl (t2.keep J9.out) z2 (by have e1 := HN1.out; have e2 := HN2.out; have e3 := HN3.out; simp; omega) (by have := k59.size; omega) ?_; intro v10 w10 o10 k10'; have k5a : Keeps (fun _ => False) w5 w10 := k59.trans' k10' (fun k e => .inr (OwnT.from o9 e).1); have J10 : Hid (Keeps (fun _ => False) w4 w10) := J5.out.trans k5a; obtain ⟨a10, n10, d10, rfl, S10, Z10, _⟩ := o10.wd.out; have y13 : Hid True := trivial)
                        | (have hh := y11; clear y11; refine wpList_appTs rfl _ _ rfl w5.heap.size _ ([[119]] ++ X1) rfl o8 (some ⟨g8, 0, none⟩) 1 1 [[119]] rfl s8 (fun h => by cases h) (by have e1 := HN1.out; have e2 := HN2.out; have e3 := HN3.out; simp; omega) (by have := k58.size; omega) ?_; intro v9 w9 o9 k9'; have k59 : Keeps (fun _ => False) w5 w9 := k58.trans' k9' (fun k e => .inr (OwnT.from o8 e).1); have J9 : Hid (Keeps (fun _ => False) w4 w9) := J5.out.trans k59; have y12 : Hid True := trivial)
                        | (have hh := y10; clear y10; refine wpList_b1T rfl _ rfl [119] (by rw [hW]; rfl) ?_; intro g8 w8 s8 _ k8; have J8 : Hid (Keeps (fun _ => False) w4 w8) := J7.out.trans k8; have o8 := o7.keeps k8 (fun _ _ h => h.elim); have k58 : Keeps (fun _ => False) w5 w8 := k57.trans k8; have y11 : Hid True := trivial)
                        | (have hh := y9; clear y9; refine wpList_appTs rfl _ _ rfl w5.heap.size _ [[119]] rfl o6 x1 n1 c1 X1 rfl (t1.keep J6.out) z1 (by have e1 := HN1.out; have e2 := HN2.out; have e3 := HN3.out; simp; omega) (by have := k6.size; omega) ?_; intro v7 w7 o7 k7'; have k57 : Keeps (fun _ => False) w5 w7 := k6.trans' k7' (fun k e => .inr (OwnT.from o6 e).1); have J7 : Hid (Keeps (fun _ => False) w4 w7) := J5.out.trans k57; have y10 : Hid True := trivial)
                        | (have hh := y8; clear y8; refine wpList_b1O rfl _ rfl [119] (by rw [hW]; rfl) ?_; intro g6 w6 o6 _ k6; have J6 : Hid (Keeps (fun _ => False) w4 w6) := J5.out.trans k6; have zz5 : w4.heap.size ≤ w5.heap.size := J5.out.size; have y9 : Hid True := trivial)
                        | (have hh := y7; clear y7; refine wpList_b1T rfl _ rfl [119] (by rw [hW]; rfl) ?_; intro g5 w5 s5 _ k5; have J5 : Hid (Keeps (fun _ => False) w4 w5) := k5; have y8 : Hid True := trivial)
                        | (have hh := y6; clear y6; go_at_call 10; refine (hpr.out _ K3.out).mono ?_; rintro e w4 ⟨v4, rfl, O4, k4⟩; have K4 : Hid (Keeps (fun _ => False) w w4) := K3.out.trans k4; have t1 := ((s1.keep k2).keep k3).keep k4; have t2 := (s2.keep k3).keep k4; have t3 := s3.keep k4; have y7 : Hid True := trivial)
                        | (have hh := y5; clear y5; go_at_call 19; refine (hx3.out _).mono ?_; rintro e w3 ⟨x3, c3, rfl, s3, z3, k3⟩; have K3 : Hid (Keeps (fun _ => False) w w3) := K2.out.trans k3; have y6 : Hid True := trivial)
                        | (have hh := y4; clear y4; go_at_call 19; refine (hx2.out _).mono ?_; rintro e w2 ⟨x2, c2, rfl, s2, z2, k2⟩; have K2 : Hid (Keeps (fun _ => False) w w2) := K1.out.trans k2; have y5 : Hid True := trivial)
                        | (have hh := y3; clear y3; go_at_call 19; refine (hx1.out _).mono ?_; rintro e w1 ⟨x1, c1, rfl, s1, z1, k1⟩; have K1 : Hid (Keeps (fun _ => False) w w1) := KC.out.trans k1; have y4 : Hid True := trivial)
                        | (have hh := y2; clear y2; go_at_call 21; refine (htc.out _).mono ?_; rintro e wc ⟨rfl, kc⟩; have KC : Hid (Keeps (fun _ => False) w wc) := KB.out.trans kc; have y3 : Hid True := trivial)
                        | (have hh := y1; clear y1; go_at_call 21; refine (htb.out _).mono ?_; rintro e wb ⟨rfl, kb⟩; have KB : Hid (Keeps (fun _ => False) w wb) := KA.out.trans kb; have y2 : Hid True := trivial)
                        | (have hh := y0; clear y0; go_at_call 21; refine (hta.out _).mono ?_; rintro e wa ⟨rfl, ka⟩; have KA : Hid (Keeps (fun _ => False) w wa) := ka; have y1 : Hid True := trivial))
                  go_ret
                  exact ⟨rfl, K18.out.trans k99⟩
                · have hpr : Hid (∀ W, Keeps (fun _ => False) w W → Calls Tryd.prog 10 #[.string (E1 ++ a ++ E2 ++ b ++ E3 ++ c ++ E2 ++ a ++ E4 ++ b ++ E5 ++ c)] W fun e w' => ∃ v, e = .returned (.tuple #[v, .int .i64 (parseL (marksL a.data.toList b.data.toList c.data.toList)).2]) ∧ True ∧ Keeps (fun _ => False) W w') := fun W hW => (hpr0 W hW).mono (by
                    rintro e w' ⟨⟨v, rfl, _⟩, k⟩
                    exact ⟨v, rfl, trivial, k⟩)
                  obtain ⟨ee, hee⟩ : ∃ ee, (parseL (marksL a.data.toList b.data.toList c.data.toList)).2 = ee := ⟨_, rfl⟩
                  rw [hee] at hpr
                  have g2 : (240 : Int) < 2 * ((a.size : Int) + (b.size : Int) + (c.size : Int)) + 24 := by omega
                  clear hee hpr0 hd q1 q2 q3 hbig ta tb tc eX1 eX2 eX3 en1 en2 en3 hl
                  have K0 : Hid (Keeps (fun _ => False) w w) := Keeps.refl _ _
                  go_enter Tryd.func7, Tryd.ntmps7
                  rw [← h1, ← h2, ← h3, ← h4, ← h5, ← hW]
                  clear h1 h2 h3 h4 h5
                  go_wp2_with (first
                        | (have hh := y20; clear y20; go_at_call 9; refine (hwk.out _ K17.out).mono ?_; rintro e w99 ⟨rfl, k99⟩; have y21 : Hid True := trivial)
                        | (have hh := y19; clear y19; refine wpList_b6P rfl _ _ _ _ _ _ rfl (1, [[119]] ++ X1 ++ [[119]] ++ X2) (2, X3) (1, [] ++ [[119]] ++ X1) (3, X2) (4, []) (1, [] ++ [[119]] ++ X3) ⟨_, _, _, rfl, (S10.keep (kad.trans kdg)), Z10⟩ ⟨_, _, _, rfl, (t3.keep J16.out), z3⟩ ⟨_, _, _, rfl, (S13.keep kdg), Z13⟩ ⟨_, _, _, rfl, (t2.keep J16.out), z2⟩ ⟨_, _, _, rfl, SlT.nil _, (fun _ => rfl)⟩ ⟨_, _, _, rfl, S16, Z16⟩ ?_; intro g17 w17 s17 _ k17; have J17 : Hid (Keeps (fun _ => False) w4 w17) := J16.out.trans k17; have K17 : Hid (Keeps (fun _ => False) w w17) := K4.out.trans J17.out; have y20 : Hid True := trivial)
                        | (have hh := y18; clear y18; refine wpList_appTs rfl _ _ rfl w13.heap.size _ ([] ++ [[119]]) rfl o15 x3 n3 c3 X3 rfl (t3.keep J15.out) z3 (by have e1 := HN1.out; have e2 := HN2.out; have e3 := HN3.out; simp; omega) (by have := kdf.size; omega) ?_; intro v16 w16 o16 k16'; have kdg : Keeps (fun _ => False) w13 w16 := kdf.trans' k16' (fun k e => .inr (OwnT.from o15 e).1); have J16 : Hid (Keeps (fun _ => False) w4 w16) := J13.out.trans kdg; obtain ⟨a16, n16, d16, rfl, S16, Z16, _⟩ := o16.wd.out; have y19 : Hid True := trivial)
                        | (have hh := y17; clear y17; refine wpList_appTs rfl _ _ rfl w13.heap.size _ [] rfl o14 (some ⟨g5, 0, none⟩) 1 1 [[119]] rfl (s5.keep ((k5a.trans kad).trans k14)) (fun h => by cases h) (by simp) (by have := k14.size; omega) ?_; intro v15 w15 o15 k15'; have kdf : Keeps (fun _ => False) w13 w15 := k14.trans' k15' (fun k e => .inr (OwnT.from o14 e).1); have J15 : Hid (Keeps (fun _ => False) w4 w15) := J13.out.trans kdf; have y18 : Hid True := trivial)
                        | (have hh := y16; clear y16; refine wpList_build0T rfl rfl ?_; intro g14 w14 o14 _ k14; have J14 : Hid (Keeps (fun _ => False) w4 w14) := J13.out.trans k14; have y17 : Hid True := trivial)
                        | (have hh := y15; clear y15; refine wpList_appTs rfl _ _ rfl w10.heap.size _ ([] ++ [[119]]) rfl o12 x1 n1 c1 X1 rfl (t1.keep J12.out) z1 (by have e1 := HN1.out; have e2 := HN2.out; have e3 := HN3.out; simp; omega) (by have := kac.size; omega) ?_; intro v13 w13 o13 k13'; have kad : Keeps (fun _ => False) w10 w13 := kac.trans' k13' (fun k e => .inr (OwnT.from o12 e).1); have J13 : Hid (Keeps (fun _ => False) w4 w13) := J10.out.trans kad; obtain ⟨a13, n13, d13, rfl, S13, Z13, _⟩ := o13.wd.out; have y16 : Hid True := trivial)
                        | (have hh := y14; clear y14; refine wpList_appTs rfl _ _ rfl w10.heap.size _ [] rfl o11 (some ⟨g5, 0, none⟩) 1 1 [[119]] rfl (s5.keep (k5a.trans k11)) (fun h => by cases h) (by simp) (by have := k11.size; omega) ?_; intro v12 w12 o12 k12'; have kac : Keeps (fun _ => False) w10 w12 := k11.trans' k12' (fun k e => .inr (OwnT.from o11 e).1); have J12 : Hid (Keeps (fun _ => False) w4 w12) := J10.out.trans kac; have y15 : Hid True := trivial)
                        | (have hh := y13; clear y13; refine wpList_build0T rfl rfl ?_; intro g11 w11 o11 _ k11; have J11 : Hid (Keeps (fun _ => False) w4 w11) := J10.out.trans k11; have y14 : Hid True := trivial)
                        | (have hh := y12; clear y12; refine wpList_appTs rfl _ _ rfl w5.heap.size _ ([[119]] ++ X1 ++ [[119]]) rfl o9 x2 n2 c2 X2 rfl (t2.keep J9.out) z2 (by have e1 := HN1.out; have e2 := HN2.out; have e3 := HN3.out; simp; omega) (by have := k59.size; omega) ?_; intro v10 w10 o10 k10'; have k5a : Keeps (fun _ => False) w5 w10 := k59.trans' k10' (fun k e => .inr (OwnT.from o9 e).1); have J10 : Hid (Keeps (fun _ => False) w4 w10) := J5.out.trans k5a; obtain ⟨a10, n10, d10, rfl, S10, Z10, _⟩ := o10.wd.out; have y13 : Hid True := trivial)
                        | (have hh := y11; clear y11; refine wpList_appTs rfl _ _ rfl w5.heap.size _ ([[119]] ++ X1) rfl o8 (some ⟨g8, 0, none⟩) 1 1 [[119]] rfl s8 (fun h => by cases h) (by have e1 := HN1.out; have e2 := HN2.out; have e3 := HN3.out; simp; omega) (by have := k58.size; omega) ?_; intro v9 w9 o9 k9'; have k59 : Keeps (fun _ => False) w5 w9 := k58.trans' k9' (fun k e => .inr (OwnT.from o8 e).1); have J9 : Hid (Keeps (fun _ => False) w4 w9) := J5.out.trans k59; have y12 : Hid True := trivial)
                        | (have hh := y10; clear y10; refine wpList_b1T rfl _ rfl [119] (by rw [hW]; rfl) ?_; intro g8 w8 s8 _ k8; have J8 : Hid (Keeps (fun _ => False) w4 w8) := J7.out.trans k8; have o8 := o7.keeps k8 (fun _ _ h => h.elim); have k58 : Keeps (fun _ => False) w5 w8 := k57.trans k8; have y11 : Hid True := trivial)
                        | (have hh := y9; clear y9; refine wpList_appTs rfl _ _ rfl w5.heap.size _ [[119]] rfl o6 x1 n1 c1 X1 rfl (t1.keep J6.out) z1 (by have e1 := HN1.out; have e2 := HN2.out; have e3 := HN3.out; simp; omega) (by have := k6.size; omega) ?_; intro v7 w7 o7 k7'; have k57 : Keeps (fun _ => False) w5 w7 := k6.trans' k7' (fun k e => .inr (OwnT.from o6 e).1); have J7 : Hid (Keeps (fun _ => False) w4 w7) := J5.out.trans k57; have y10 : Hid True := trivial)
                        | (have hh := y8; clear y8; refine wpList_b1O rfl _ rfl [119] (by rw [hW]; rfl) ?_; intro g6 w6 o6 _ k6; have J6 : Hid (Keeps (fun _ => False) w4 w6) := J5.out.trans k6; have zz5 : w4.heap.size ≤ w5.heap.size := J5.out.size; have y9 : Hid True := trivial)
                        | (have hh := y7; clear y7; refine wpList_b1T rfl _ rfl [119] (by rw [hW]; rfl) ?_; intro g5 w5 s5 _ k5; have J5 : Hid (Keeps (fun _ => False) w4 w5) := k5; have y8 : Hid True := trivial)
                        | (have hh := y6; clear y6; go_at_call 10; refine (hpr.out _ K3.out).mono ?_; rintro e w4 ⟨v4, rfl, O4, k4⟩; have K4 : Hid (Keeps (fun _ => False) w w4) := K3.out.trans k4; have t1 := ((s1.keep k2).keep k3).keep k4; have t2 := (s2.keep k3).keep k4; have t3 := s3.keep k4; have y7 : Hid True := trivial)
                        | (have hh := y5; clear y5; go_at_call 19; refine (hx3.out _).mono ?_; rintro e w3 ⟨x3, c3, rfl, s3, z3, k3⟩; have K3 : Hid (Keeps (fun _ => False) w w3) := K2.out.trans k3; have y6 : Hid True := trivial)
                        | (have hh := y4; clear y4; go_at_call 19; refine (hx2.out _).mono ?_; rintro e w2 ⟨x2, c2, rfl, s2, z2, k2⟩; have K2 : Hid (Keeps (fun _ => False) w w2) := K1.out.trans k2; have y5 : Hid True := trivial)
                        | (have hh := y3; clear y3; go_at_call 19; refine (hx1.out _).mono ?_; rintro e w1 ⟨x1, c1, rfl, s1, z1, k1⟩; have K1 : Hid (Keeps (fun _ => False) w w1) := KC.out.trans k1; have y4 : Hid True := trivial)
                        | (have hh := y2; clear y2; go_at_call 21; refine (htc.out _).mono ?_; rintro e wc ⟨rfl, kc⟩; have KC : Hid (Keeps (fun _ => False) w wc) := KB.out.trans kc; have y3 : Hid True := trivial)
                        | (have hh := y1; clear y1; go_at_call 21; refine (htb.out _).mono ?_; rintro e wb ⟨rfl, kb⟩; have KB : Hid (Keeps (fun _ => False) w wb) := KA.out.trans kb; have y2 : Hid True := trivial)
                        | (have hh := y0; clear y0; go_at_call 21; refine (hta.out _).mono ?_; rintro e wa ⟨rfl, ka⟩; have KA : Hid (Keeps (fun _ => False) w wa) := ka; have y1 : Hid True := trivial))
                  go_ret
                  exact ⟨rfl, K17.out.trans k99⟩

end Go.Proofs.YtkcnnkakpkdhkaaDoor
