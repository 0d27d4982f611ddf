
/-
  Parse of the reference, of any text; texts held against each other.
-/
import Derived.Test.YtkcnnkakpkdhkaaDoorVq
set_option linter.all false
set_option maxRecDepth 100000
namespace Go.Proofs.YtkcnnkakpkdhkaaDoor
open Go.RowKit Go.Sort Go.Shelf
attribute [local go_sem] Oper.semAt_some

set_option maxHeartbeats 1000000 in
theorem rparse11 (w : World) (s : ByteArray) (hs : s.size ≤ 90000) :
    Calls Tryd.prog 11 #[.string s] w fun e w' => (∃ v, e = .returned (.tuple #[v, .int .i64 (parseL s.data.toList).2]) ∧ ∃ l, OwnP w' w.heap.size v l ∧ AllW w' l (parseL s.data.toList).1) ∧ Keeps (fun _ => False) w w' := by
  by_cases h1 : s.size ≤ 240
  · cases hp : pln true s.data.toList with
    | true => exact rparse_core w s h1 hp
    | false =>
      have hR : parseL s.data.toList = ([], 15) := by unfold parseL; rw [if_neg (by rw [sz_len]; omega), if_pos hp]
      have hq1 := plain22 w s hs true
      rw [hp] at hq1
      rw [hR]
      have g1 : ¬ (240 : Int) < (s.size : Int) := by omega
      clear hR hp h1
      go_enter Tryd.func11, Tryd.ntmps11
      go_wp2_with (go_at_call 27; refine hq1.mono ?_; rintro e w1 ⟨rfl, k1⟩)
      go_ret2
      exact ⟨⟨_, rfl, [], OwnP.nil _ _, AllW.nil _⟩, k1⟩
  · have hR : parseL s.data.toList = ([], 16) := by unfold parseL; rw [if_pos (by rw [sz_len]; omega)]
    rw [hR]
    have g1 : (240 : Int) < (s.size : Int) := by omega
    clear hR h1
    go_enter Tryd.func11, Tryd.ntmps11
    go_wp2
    go_ret2
    exact ⟨⟨_, rfl, [], OwnP.nil _ _, AllW.nil _⟩, Keeps.refl _ _⟩

theorem take_all_eq {α : Type} [Inhabited α] {l m : List α} (h : l.length = m.length) (d : α) : (∀ j, j < l.length → l.getD j d = m.getD j d) → l = m := ext_getD h

set_option maxHeartbeats 1000000 in
theorem texts18 (w : World) (a b : Option Addr) (n m c d : Nat) (l r : List (List UInt8)) (hl : SlT w a n c l) (hr : SlT w b m d r) (hn : n ≤ 100000) :
    Calls Tryd.prog 18 #[.slice a n c, .slice b m d] w fun e w' => e = .returned (.bool (decide (l = r))) ∧ Keeps (fun _ => False) w w' := by
  by_cases hnm : n = m
  · subst hnm
    obtain ⟨R, hR⟩ : ∃ R, decide (l = r) = R := ⟨_, rfl⟩
    have HR : Hid (decide (l = r) = R) := hR
    rw [hR]
    clear hR
    have hne : ((n : Int) == (n : Int)) = true := by simp
    go_enter Tryd.func18, Tryd.ntmps18
    go_wp2
    go_loopw [5] (fun t wr => ∃ i : Nat, t = .int .i64 (i : Int) ∧ i ≤ n ∧ (∀ j, j < i → l.getD j [] = r.getD j []) ∧ Keeps (fun _ => False) w wr) (fun t _ => n - (intOf t).toNat)
    case atStart => exact ⟨0, rfl, by omega, fun j h => by omega, Keeps.refl _ _⟩
    case round =>
      obtain ⟨i, rfl, hi, hall, hk⟩ := hrel
      have Hall := Hid.mk' hall
      have HK := Hid.mk' hk
      clear hall
      by_cases hlt : i < n
      · have hlt' : (i : Int) < (n : Int) := by omega
        have hi0 : (0 : Int) ≤ (i : Int) := by omega
        obtain ⟨b1, o1, rfl, _, h1⟩ := (hl.keep hk).ent2 hlt
        obtain ⟨b2, o2, rfl, _, h2⟩ := (hr.keep hk).ent2 hlt
        obtain ⟨x, hx⟩ : ∃ x, l.getD i [] = x := ⟨_, rfl⟩
        obtain ⟨y, hy⟩ : ∃ y, r.getD i [] = y := ⟨_, rfl⟩
        rw [hx] at h1
        rw [hy] at h2
        obtain ⟨X, hX⟩ : ∃ X, bs x = X := ⟨_, rfl⟩
        obtain ⟨Y, hY⟩ : ∃ Y, bs y = Y := ⟨_, rfl⟩
        have hXY : (X.toList == Y.toList) = decide (x = y) := by rw [← hX]; exact bs_eq Y hY.symm
        rw [hX] at h1
        rw [hY] at h2
        have c1 : ∀ dd os, (grow (redrawn wr dd) os).cell? ⟨b1, o1 + i, none⟩ = some (.string X) := fun dd os => cell_keeps (keeps_cls ⟨⟨dd, os⟩, rfl⟩) h1 (fun h => h)
        have c2 : ∀ dd os, (grow (redrawn wr dd) os).cell? ⟨b2, o2 + i, none⟩ = some (.string Y) := fun dd os => cell_keeps (keeps_cls ⟨⟨dd, os⟩, rfl⟩) h2 (fun h => h)
        have Hx := Hid.mk' hx
        have Hy := Hid.mk' hy
        by_cases hxy : x = y
        · rw [decide_eq_true hxy] at hXY
          have Hxy := Hid.mk' hxy
          clear hx hy hX hY hxy h1 h2
          go_wp2_with fail
          refine wp_region_quiet_below (by kernel_rfl) (by kernel_rfl) ?_
          iterate 9 (go_big_quiet_step (fail))
          refine wpQuiet_nil ?_
          intro w2 hw2
          go_wp2
          refine ⟨⟨i + 1, rfl, by omega, fun j hj => ?_, HK.out.trans (keeps_cls hw2)⟩, by simp [intOf]; omega⟩
          rcases Nat.lt_or_ge j i with h | h
          · exact Hall.out j h
          · obtain rfl : j = i := by omega
            rw [Hx.out, Hy.out, Hxy.out]
        · rw [decide_eq_false hxy] at hXY
          have Hxy := Hid.mk' hxy
          clear hx hy hX hY hxy h1 h2
          go_wp2_with fail
          refine wp_region_quiet_below (by kernel_rfl) (by kernel_rfl) ?_
          iterate 9 (go_big_quiet_step (fail))
          refine wpQuiet_nil ?_
          intro w2 hw2
          go_wp2
          go_ret
          refine ⟨?_, HK.out.trans (keeps_cls hw2)⟩
          rw [← HR.out, decide_eq_false (fun h => Hxy.out (by rw [← Hx.out, ← Hy.out, h]))]; rfl
      · obtain rfl : i = n := by omega
        have hlt' : ¬ (i : Int) < (i : Int) := by omega
        have HT : Hid (R = true) := by
          show _ = _
          rw [← HR.out, decide_eq_true (ext_getD (d := []) (hl.len.trans hr.len.symm) (fun j hj => Hall.out j (by rw [hl.len] at hj; exact hj)))]
        clear hk hlt hi
        go_wp2
        go_ret
        exact ⟨by rw [HT.out]; rfl, HK.out⟩
  · have hR : decide (l = r) = false := decide_eq_false (fun e => hnm (by rw [← hl.len, ← hr.len, e]))
    rw [hR]
    have hne : ((n : Int) == (m : Int)) = false := by simp; omega
    clear hR
    go_enter Tryd.func18, Tryd.ntmps18
    go_wp2
    go_ret
    exact ⟨rfl, Keeps.refl _ _⟩

/-- A slice of parts that is read. -/
structure SlP (w : World) (a : Option Addr) (n c : Nat) (P : List Pt) : Prop where
  len : P.length = n
  cap : n ≤ c
  at_ : ∀ (j : Nat) (p : Pt), P[j]? = some p → ∃ b o, a = some ⟨b, o, none⟩ ∧ w.cell? ⟨b, o + j * 2, none⟩ = some (.int .i64 p.1) ∧ ∃ a' n' c', w.cell? ⟨b, o + j * 2 + 1, none⟩ = some (.slice a' n' c') ∧ SlT w a' n' c' p.2 ∧ (a' = none → c' = 0)
theorem SlP.keep {w w' : World} {a : Option Addr} {n c : Nat} {P : List Pt} (h : SlP w a n c P) (hk : Keeps (fun _ => False) w w') : SlP w' a n c P :=
  ⟨h.len, h.cap, fun j p hp => by
    obtain ⟨b, o, e, h1, a', n', c', h2, h3, h4⟩ := h.at_ j p hp
    exact ⟨b, o, e, cell_keeps hk h1 (fun h => h), a', n', c', cell_keeps hk h2 (fun h => h), h3.keep hk, h4⟩⟩
theorem OwnP.sl {w : World} {base : Nat} {v : Value} {l : List (Int × Value)} {P : List Pt} (h : OwnP w base v l) (ha : AllW w l P) : ∃ a c, v = .slice a P.length c ∧ SlP w a P.length c P ∧ (a = none → c = 0) ∧ (∀ b o, a = some ⟨b, o, none⟩ → base ≤ b) := by
  have hl := ha.len
  obtain ⟨hlen, h2⟩ := h.owns
  rcases h2 with ⟨rfl, h0⟩ | ⟨g, cap, cur, rfl, hb, hg, hn, hc, hs, ht⟩
  · rw [h0] at hl
    obtain rfl : P = [] := List.eq_nil_of_length_eq_zero hl.symm
    exact ⟨none, 0, rfl, ⟨rfl, Nat.le_refl _, fun j p h => by simp at h⟩, fun _ => rfl, fun b o e => by cases e⟩
  · rw [hl]
    refine ⟨_, _, rfl, ⟨rfl, by omega, fun j p hp => ?_⟩, (fun e => by cases e), (fun b o e => by cases e; exact hb)⟩
    have hj : j < l.length := by have := (List.getElem?_eq_some_iff.1 hp).1; omega
    obtain ⟨x, hx⟩ : ∃ x, l[j]? = some x := ⟨_, List.getElem?_eq_getElem hj⟩
    obtain ⟨hk, a', n', c', e', hS, hz, _⟩ : x.1 = p.1 ∧ ∃ a n c, x.2 = .slice a n c ∧ SlT w a n c p.2 ∧ (a = none → c = 0) ∧ _ := by
      obtain ⟨h1, h2⟩ := ha.at_ j x p hx hp
      exact ⟨h1, h2.out⟩
    obtain ⟨c1, c2⟩ := pcs_at l j x hx
    rw [← ht, List.getElem?_take, if_pos (by omega)] at c1 c2
    refine ⟨g, 0, rfl, ?_, a', n', c', ?_, hS, hz⟩
    · rw [cell_of_row w g _ _ _ _ hg, ← hk, Nat.zero_add, Nat.mul_comm]; simpa using c1
    · rw [cell_of_row w g _ _ _ _ hg, Nat.zero_add, Nat.mul_comm, ← e']; simpa using c2

end Go.Proofs.YtkcnnkakpkdhkaaDoor
