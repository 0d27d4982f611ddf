/-
  The law MarkupParts.
-/
import Derived.Test.YtkcnnkakpkdhkaaDoorYa
set_option linter.all false
set_option maxRecDepth 100000
namespace Go.Proofs.YtkcnnkakpkdhkaaDoor
open Go.RowKit Go.Sort Go.Shelf
attribute [local go_sem] Oper.semAt_some

section
variable {ops : Array Oper} {rest : List Oper} {o : Oper} {a : Act} {w : World} {Q : Exit → Act → World → Prop}
theorem run_build0P (w : World) : (Instr.buildSlice 22 0 #[]).run Tryd.prog w = .ok (.slice (some ⟨w.heap.size, 0, none⟩) 0 0) (w.alloc (.cells #[] 41)) := by kernel_rfl
theorem wpList_build0P (hgd : o.guard = none) (ho : o.op = .buildSlice 22 0 #[])
    (h : ∀ g w', OwnP w' w.heap.size (.slice (some ⟨g, 0, none⟩) 0 0) [] → w.heap.size ≤ g → Keeps (fun _ => False) w w' → wpList Tryd.prog ops Q rest (a.put o.dst (.slice (some ⟨g, 0, none⟩) 0 0)) w') : wpList Tryd.prog ops Q (o :: rest) a w := by
  refine wpList_plain hgd fun K hK => ?_
  unfold Oper.wp execOp
  simp only [ho, List.map_toArray, List.map_nil, run_build0P, Sem.run_bind, Result.andThen_ok, Sem.run_pure]
  refine hK _ _ (h w.heap.size _ ⟨⟨by simp [pcs], .inr ⟨w.heap.size, 0, #[], rfl, Nat.le_refl _, heap_alloc_new w _, Nat.le_refl _, by unfold maxLen; omega, by simp, by simp [pcs]⟩⟩⟩ (Nat.le_refl _) (keeps_alloc w _))
theorem wpList_appPs (hgd : o.guard = none) (s x : Operand) (ho : o.op = .call { callee := .builtin .append, args := #[s, x], argTypes := #[22, 22] })
    (base : Nat) (v : Value) (l0 : List (Int × Value)) (hs : a.eval s = v) (hown : OwnP w base v l0) (base2 : Nat) (v2 : Value) (l1 : List (Int × Value)) (hx : a.eval x = v2) (hl : OwnP w base2 v2 l1) (h1 : ∀ x ∈ l1, x.2.oneCell' = true) (hlen : l0.length + l1.length ≤ 100000) (hbase : base ≤ w.heap.size)
    (h : ∀ v' w', OwnP w' base v' (l0 ++ l1) → Keeps (fun k => v.ownBlock = some k) w w' → wpList Tryd.prog ops Q rest (a.put o.dst v') w') : wpList Tryd.prog ops Q (o :: rest) a w := by
  obtain ⟨i, hi, hz, hsz, hby⟩ := info41'
  obtain ⟨hl1, hl2⟩ := hl.owns
  rcases hl2 with ⟨rfl, h0⟩ | ⟨g, cap, cur, rfl, hb, hg, hn, hc, hs2, ht⟩
  · obtain rfl : l1 = [] := List.eq_nil_of_length_eq_zero h0
    refine wpList_append_own_none hgd s x 22 ho base 41 i 2 Tryd.underlying22 hi v l0.length _ hs hown.owns hx ?_
    exact h v w (by rw [List.append_nil]; exact hown) (Keeps.refl _ _)
  · refine wpList_append_own _ hgd s x 22 ho base 41 i (.agg #[.int .i64 0, .slice none 0 0]) 2 32 Tryd.underlying22 hi hz hsz hby rfl (by omega) v l0.length _ hs hown.owns ⟨g, 0, none⟩ l1.length cap (pcs l1) hx (by rw [pcs_len]) (fun j u hu => ?_) (fun u hu => ?_) (by unfold maxLen; omega) (by omega) hbase ?_
    · rw [Addr_add, cell_of_row w g _ _ _ _ hg, Nat.zero_add]
      have hj : j < (pcs l1).length := (List.getElem?_eq_some_iff.1 hu).1
      rw [pcs_len] at hj
      rw [← ht, List.getElem?_take, if_pos (by omega)] at hu
      simpa using hu
    · unfold pcs at hu
      rw [List.mem_flatMap] at hu
      obtain ⟨y, hy, hu⟩ := hu
      simp at hu
      rcases hu with rfl | rfl
      · rfl
      · exact h1 y hy
    · intro v' w' ho' hg' _
      refine h v' w' ⟨?_⟩ ⟨hg'.os, hg'.tape, hg'.output, hg'.size, fun k hk hb => hg'.block k hk fun e => hb e.symm⟩
      rw [pcs_app, List.length_append]; exact ho'
end
theorem AllW.app {w : World} {l m : List (Int × Value)} {P R : List Pt} (h1 : AllW w l P) (h2 : AllW w m R) : AllW w (l ++ m) (P ++ R) := by
  have hl := h1.len
  refine ⟨by simp [hl, h2.len], fun j x p hx hp => ?_⟩
  by_cases hj : j < l.length
  · rw [List.getElem?_append_left hj] at hx
    rw [List.getElem?_append_left (by omega)] at hp
    exact h1.at_ j x p hx hp
  · rw [List.getElem?_append_right (by omega)] at hx
    rw [List.getElem?_append_right (by omega), ← hl] at hp
    exact h2.at_ _ x p hx hp
theorem AllW.one {w : World} {l : List (Int × Value)} {P : List Pt} (h : AllW w l P) : ∀ x ∈ l, x.2.oneCell' = true := fun x hx => by
  obtain ⟨j, hj⟩ := List.getElem?_of_mem hx
  obtain ⟨p, hp⟩ : ∃ p, P[j]? = some p := ⟨_, List.getElem?_eq_getElem (by rw [← h.len]; exact (List.getElem?_eq_some_iff.1 hj).1)⟩
  obtain ⟨a, n, c, e, _⟩ := (h.at_ j x p hj hp).2.out
  rw [e]; rfl
theorem parseL_len (s : List UInt8) (hs : s.length ≤ 240) : (parseL s).1.length ≤ 241 := by
  unfold parseL
  split
  · simp
  · split
    · simp
    · have h1 := (cutL_len 10 s).1
      cases h : linesP (cutL 10 s) ([], false) with
      | none => simp [resP]
      | some st =>
        have := linesP_len _ _ _ _ h
        simp [resP] at this ⊢
        omega

theorem linesP_words : ∀ (B : List (List UInt8)) (Q : List Pt) (o : Bool) (st : List Pt × Bool) (M : Nat), linesP B (Q, o) = some st → (∀ x ∈ B, x.length ≤ M) → ∀ (K : Nat), (∀ p ∈ Q, p.2.length ≤ K) → ∀ p ∈ st.1, p.2.length ≤ K + B.length * (M + 1)
  | [], Q, o, st, M, h, _, K, hQ => by cases h; intro p hp; have := hQ p hp; simp; omega
  | x :: B, Q, o, st, M, h, hB, K, hQ => by
    rw [linesP_cons] at h
    cases hs : stepP (Q, o) x with
    | none => rw [hs] at h; cases h
    | some s1 =>
      rw [hs] at h
      obtain ⟨Q1, o1⟩ := s1
      have hx := hB x (by simp)
      have hw := wds_len x
      have hQ1 : ∀ p ∈ Q1, p.2.length ≤ K + (M + 1) := by
        unfold stepP at hs
        simp only at hs
        intro p hp
        split at hs
        · cases hs
          rcases List.mem_append.1 hp with hp | hp
          · have := hQ p hp; omega
          · obtain rfl : p = (4, []) := by simpa using hp
            simp
        · split at hs
          · split at hs
            · cases hs
            · cases hs
              rcases List.mem_append.1 hp with hp | hp
              · have := hQ p hp; omega
              · simp at hp; subst hp; simp; omega
          · split at hs
            · cases hs; have := hQ p hp; omega
            · split at hs
              · cases hs
                unfold addLast at hp
                rcases List.mem_append.1 hp with hp | hp
                · have := hQ p (List.dropLast_subset _ hp); omega
                · simp at hp; subst hp
                  simp only [List.length_append]
                  have h3 : (Q.getLast?.getD (0, [])).2.length ≤ K := by
                    cases hq : Q.getLast? with
                    | none => simp
                    | some q => exact hQ q (List.mem_of_getLast? hq)
                  simp only [List.getLastD_eq_getLast?] at *
                  omega
              · cases hs
                rcases List.mem_append.1 hp with hp | hp
                · have := hQ p hp; omega
                · simp at hp; subst hp; simp; omega
      have ih := linesP_words B Q1 o1 st M h (fun y hy => hB y (by simp [hy])) (K + (M + 1)) hQ1
      intro p hp
      have := ih p hp
      simp only [List.length_cons]
      rw [Nat.add_mul, Nat.one_mul]
      omega
theorem parseL_words (s : List UInt8) (hs : s.length ≤ 240) : ∀ p ∈ (parseL s).1, p.2.length ≤ 60000 := by
  unfold parseL
  split
  · simp
  · split
    · simp
    · have h1 := cutL_len 10 s
      cases h : linesP (cutL 10 s) ([], false) with
      | none => simp [resP]
      | some st =>
        intro p hp
        have h2 := linesP_words _ _ _ _ 240 h (fun x hx => by have := h1.2 x hx; omega) 0 (fun p hp => by cases hp) p hp
        have h3 : (cutL 10 s).length * (240 + 1) ≤ 241 * 241 := Nat.mul_le_mul (by omega) (by omega)
        omega

theorem parts_same (w : World) (a b : Option Addr) (n c d : Nat) (P : List Pt) (hl : SlP w a n c P) (hr : SlP w b n d P) (hn : n ≤ 100000) (hP : ∀ p ∈ P, p.2.length ≤ 100000) :
    Calls Tryd.prog 15 #[.slice a n c, .slice b n d] w fun e w' => e = .returned (.bool true) ∧ Keeps (fun _ => False) w w' := by
  have h := parts15 w a b n n c d P P hl hr hn hP
  have e : decide (P = P) = true := decide_eq_true rfl
  rw [e] at h
  exact h

set_option maxHeartbeats 8000000 in
theorem partsL (w : World) (hT : Lib.Utf8Tabs 0 1 w) (s : ByteArray) (hs : s.size ≤ 140737488355328) (t : ByteArray) (ht : t.size ≤ 140737488355328) :
    Calls Tryd.prog 5 #[.string s, .string t] w fun e w' => e = .returned (.bool true) ∧ Keeps (fun _ => False) w w' := by
  have hwk := Hid.mk' (fun W (hW : Keeps (fun _ => False) w W) => wakes9 W (Tabs.keep hT hW))
  by_cases hbig : 238 < s.size + t.size
  · have g1 : (238 : Int) < (s.size : Int) + (t.size : Int) := by omega
    clear hbig
    go_enter Tryd.func5, Tryd.ntmps5
    go_wp2_with (go_at_call 9; refine (hwk.out _ (Keeps.refl _ _)).mono ?_; rintro e w1 ⟨rfl, k1⟩)
    go_ret
    exact ⟨rfl, k1⟩
  · have g1 : ¬ (238 : Int) < (s.size : Int) + (t.size : Int) := by omega
    obtain ⟨E, hE⟩ : ∃ E : ByteArray, E = ⟨#[10, 10]⟩ := ⟨_, rfl⟩
    have hd : (s ++ E ++ t).data.toList = s.data.toList ++ 10 :: 10 :: t.data.toList := by
      rw [hE, ByteArray.data_append, ByteArray.data_append, Array.toList_append, Array.toList_append]
      simp
    have hEs : E.size = 2 := by rw [hE]; rfl
    have h2 := parse_two s.data.toList t.data.toList (by rw [sz_len, sz_len]; omega)
    rw [← hd] at h2
    have hp1 := Hid.mk' (fun W (hW : Keeps (fun _ => False) w W) => pparse10 W (Tabs.keep hT hW) s)
    have hp2 := Hid.mk' (fun W (hW : Keeps (fun _ => False) w W) => pparse10 W (Tabs.keep hT hW) t)
    have hp3 := Hid.mk' (fun W (hW : Keeps (fun _ => False) w W) => pparse10 W (Tabs.keep hT hW) (s ++ E ++ t))
    have hl1 := parseL_len s.data.toList (by rw [sz_len]; omega)
    have hl2 := parseL_len t.data.toList (by rw [sz_len]; omega)
    have hw3 := parseL_words (s ++ E ++ t).data.toList (by rw [hd]; simp [sz_len]; omega)
    have hl3 := parseL_len (s ++ E ++ t).data.toList (by rw [hd]; simp [sz_len]; omega)
    obtain ⟨P1, e1, h1⟩ : ∃ P e, parseL s.data.toList = (P, e) := ⟨_, _, rfl⟩
    obtain ⟨P2, e2, h2'⟩ : ∃ P e, parseL t.data.toList = (P, e) := ⟨_, _, rfl⟩
    rw [h1, h2'] at h2
    rw [h1] at hp1 hl1
    rw [h2'] at hp2 hl2
    have hbs : s.size + t.size + 2 ≤ 240 := by omega
    have hbt : s.size ≤ 240 := by omega
    have hbu : t.size ≤ 240 := by omega
    simp only at hl1 hl2 h2
    clear hd h1 h2' hbig
    by_cases hee : e1 = 0 ∧ e2 = 0
    · obtain ⟨rfl, rfl⟩ := hee
      rw [if_pos ⟨rfl, rfl⟩] at h2
      rw [h2] at hp3 hw3 hl3
      simp only at hw3 hl3
      obtain ⟨n3, hn3⟩ : ∃ n3, (P1 ++ P2).length = n3 := ⟨_, rfl⟩
      have HN3 := Hid.mk' hn3
      have hl3' : n3 ≤ 100000 := by omega
      clear hn3 hl3
      have HW3 := Hid.mk' hw3
      clear h2 hw3
      go_enter Tryd.func5, Tryd.ntmps5
      rw [← hE]
      clear hE
      go_wp2_with (first
        | (have hh := y8; clear y8; go_at_call 9; refine (hwk.out _ K7.out).mono ?_; rintro e w8 ⟨rfl, k8⟩)
        | (have hh := y7; clear y7; go_at_call 15; refine (parts_same _ a3 a6 _ c3 c6 _ s36 s6 hl3' (fun p hp => by have := HW3.out p hp; omega)).mono ?_; rintro e w7 ⟨rfl, k7⟩; have K7 : Hid (Keeps (fun _ => False) w w7) := K6.out.trans k7; have y8 : Hid True := trivial)
        | (have hh := y6; clear y6; refine unguard rfl ?_; refine wpList_appPs rfl _ _ rfl w3.heap.size _ _ rfl o5 _ _ l2 rfl (p2.keep k35) n2.one (by simp; have := m1.len; have := m2.len; omega) (by have := k35.size; omega) ?_; intro v6 w6 o6 k6'; have k36 : Keeps (fun _ => False) w3 w6 := k35.trans' k6' (fun k e => .inr (o5.from e).1); have K6 : Hid (Keeps (fun _ => False) w w6) := (K3.out).trans k36; obtain ⟨a6, c6, e6, s6, _, _⟩ := o6.sl ((n1.app n2).keep k36); rw [HN3.out] at e6 s6; obtain rfl : v6 = .slice a6 n3 c6 := e6; have s36 := s3.keep k36; have y7 : Hid True := trivial)
        | (have hh := y5; clear y5; refine unguard rfl ?_; refine wpList_appPs rfl _ _ rfl w3.heap.size _ _ rfl o4 _ _ l1 rfl (p1.keep k4) n1.one (by simp; have := m1.len; omega) (by have := k4.size; omega) ?_; intro v5 w5 o5 k5'; have k35 : Keeps (fun _ => False) w3 w5 := k4.trans' k5' (fun k e => .inr (o4.from e).1); have y6 : Hid True := trivial)
        | (have hh := y4; clear y4; refine unguard rfl ?_; refine wpList_build0P rfl rfl ?_; intro g4 w4 o4 z4 k4; have y5 : Hid True := trivial)
        | (have hh := y3; clear y3; go_at_call 10; refine (hp3.out _ (k1.trans k2)).mono ?_; rintro e w3 ⟨⟨v3, rfl, l3, o3, m3⟩, k3⟩; obtain ⟨a3, c3, e3, s3, _, _⟩ := o3.sl m3; rw [HN3.out] at e3 s3; obtain rfl : v3 = .slice a3 n3 c3 := e3; have K3 : Hid (Keeps (fun _ => False) w w3) := (k1.trans k2).trans k3; have p1 := (o1.keep k2).keep k3; have n1 := (m1.keep k2).keep k3; have p2 := o2.keep k3; have n2 := m2.keep k3; have y4 : Hid True := trivial)
        | (have hh := y2; clear y2; go_at_call 10; refine (hp2.out _ k1).mono ?_; rintro e w2 ⟨⟨v2, rfl, l2, o2, m2⟩, k2⟩; have y3 : Hid True := trivial)
        | (go_at_call 10; refine (hp1.out _ (Keeps.refl _ _)).mono ?_; rintro e w1 ⟨⟨v1, rfl, l1, o1, m1⟩, k1⟩; have y2 : Hid True := trivial))
      go_ret
      exact ⟨rfl, K7.out.trans k8⟩
    · rw [if_neg hee] at h2
      rw [h2] at hp3
      clear h2 hw3 hl3 hl1 hl2
      by_cases h0 : e1 = 0
      · subst h0
        have t2 : (e2 != (0 : Int)) = true := by simp; exact fun h => hee ⟨rfl, h⟩
        clear hee
        go_enter Tryd.func5, Tryd.ntmps5
        rw [← hE]
        clear hE
        go_wp2_with (first
          | (have hh := y4; clear y4; go_at_call 9; refine (hwk.out _ ((k1.trans k2).trans k3)).mono ?_; rintro e w4 ⟨rfl, k4⟩)
          | (have hh := y3; clear y3; go_at_call 10; refine (hp3.out _ (k1.trans k2)).mono ?_; rintro e w3 ⟨⟨v3, rfl, l3, o3, m3⟩, k3⟩; obtain ⟨a3, c3, e3, s3, _, _⟩ := o3.sl m3; obtain rfl : v3 = .slice a3 0 c3 := e3; have y4 : Hid True := trivial)
          | (have hh := y2; clear y2; go_at_call 10; refine (hp2.out _ k1).mono ?_; rintro e w2 ⟨⟨v2, rfl, l2, o2, m2⟩, k2⟩; have y3 : Hid True := trivial)
          | (go_at_call 10; refine (hp1.out _ (Keeps.refl _ _)).mono ?_; rintro e w1 ⟨⟨v1, rfl, l1, o1, m1⟩, k1⟩; have y2 : Hid True := trivial))
        go_ret
        exact ⟨rfl, ((k1.trans k2).trans k3).trans k4⟩
      · have t1 : (e1 != (0 : Int)) = true := by simp [h0]
        clear hee h0
        go_enter Tryd.func5, Tryd.ntmps5
        rw [← hE]
        clear hE
        go_wp2_with (first
          | (have hh := y4; clear y4; go_at_call 9; refine (hwk.out _ ((k1.trans k2).trans k3)).mono ?_; rintro e w4 ⟨rfl, k4⟩)
          | (have hh := y3; clear y3; go_at_call 10; refine (hp3.out _ (k1.trans k2)).mono ?_; rintro e w3 ⟨⟨v3, rfl, l3, o3, m3⟩, k3⟩; obtain ⟨a3, c3, e3, s3, _, _⟩ := o3.sl m3; obtain rfl : v3 = .slice a3 0 c3 := e3; have y4 : Hid True := trivial)
          | (have hh := y2; clear y2; go_at_call 10; refine (hp2.out _ k1).mono ?_; rintro e w2 ⟨⟨v2, rfl, l2, o2, m2⟩, k2⟩; have y3 : Hid True := trivial)
          | (go_at_call 10; refine (hp1.out _ (Keeps.refl _ _)).mono ?_; rintro e w1 ⟨⟨v1, rfl, l1, o1, m1⟩, k1⟩; have y2 : Hid True := trivial))
        go_ret
        exact ⟨rfl, ((k1.trans k2).trans k3).trans k4⟩

end Go.Proofs.YtkcnnkakpkdhkaaDoor
