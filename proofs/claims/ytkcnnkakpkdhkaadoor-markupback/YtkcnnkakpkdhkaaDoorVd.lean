
/-
  Plain of the reference; texts held against each other.
-/
import Derived.Test.YtkcnnkakpkdhkaaDoorVc
set_option linter.all false
namespace Go.Proofs.YtkcnnkakpkdhkaaDoor
open Go.RowKit Go.Sort Go.Shelf
attribute [local go_sem] Oper.semAt_some

theorem all_snocI {l : List Int} {p : Int → Bool} {i : Nat} (hi : i < l.length) : (l.take (i + 1)).all p = ((l.take i).all p && p (l.getD i 0)) := by
  rw [take_snoc hi, List.all_append]
  simp
theorem all_bad {l : List Int} {p : Int → Bool} {i : Nat} (hi : i < l.length) (h : p (l.getD i 0) = false) : l.all p = false := by
  rw [List.all_eq_false]
  exact ⟨_, getD_mem hi, by rw [h]; simp⟩
/-- What makes a sign wrong. -/
theorem okS_cases (b : Bool) (v : Int) : (v < 32 ∧ v ≠ 10 ∧ okS b v = false) ∨ (v = 10 ∧ okS b v = b) ∨ (32 ≤ v ∧ v = 127 ∧ okS b v = false) ∨ (32 ≤ v ∧ v ≠ 127 ∧ okS b v = true) := by
  unfold okS
  by_cases h1 : v < 32
  · by_cases h2 : v = 10
    · subst h2; right; left; cases b <;> exact ⟨rfl, rfl⟩
    · left; refine ⟨h1, h2, ?_⟩; simp [h1, h2]
  · by_cases h2 : v = 127
    · right; right; left; refine ⟨by omega, h2, ?_⟩; simp [h2]
    · right; right; right; refine ⟨by omega, h2, ?_⟩; simp [h1, h2]

set_option maxRecDepth 100000 in
set_option maxHeartbeats 2000000 in
theorem plain22 (w : World) (s : ByteArray) (hs : s.size ≤ 90000) (b : Bool) :
    Calls Tryd.prog 27 #[.string s, .bool b] w fun e w' => e = .returned (.bool (pln b s.data.toList)) ∧ Keeps (fun _ => False) w w' := by
  have hq := rsigns8 w s hs
  obtain ⟨V, hV⟩ : ∃ V, vd s.data.toList = V := ⟨_, rfl⟩
  obtain ⟨l, hl⟩ : ∃ l, sg s.data.toList = l := ⟨_, rfl⟩
  have HN : Hid (l.length ≤ 90000) := by show _ ≤ _; rw [← hl]; have := sg_len s.data.toList; rw [sz_len] at this; omega
  obtain ⟨T, hT⟩ : ∃ T, pln b s.data.toList = T := ⟨_, rfl⟩
  have HT : Hid (T = (V && l.all (okS b))) := by show _ = _; rw [← hT, ← hV, ← hl]; rfl
  rw [hV, hl] at hq
  rw [hT]
  clear hV hl hT
  go_enter Tryd.func27, Tryd.ntmps27
  go_wp2_with (first
    | (go_at_call 42; refine hq.mono ?_; rintro e w1 ⟨⟨a, n, c, rfl, hn, s1⟩, k1⟩; have HL : Hid (l.length = n) := hn.symm; have hn9 : n ≤ 90000 := (by rw [hn]; exact HN.out); clear hn)
    | (refine wpList_alloc25 rfl rfl ?_; intro g w2 r2 z2 k2; have s2 := s1.keep k2; have K2 := k1.trans k2)
    | (refine wpList_store25 rfl _ _ rfl g rfl a n c V rfl _ _ r2 ?_; intro w3 r3 k3; have s3 : SlI w3 a n c l := s2.keeps k3 (fun h0 b o e => (by subst e; obtain ⟨b', o', e', hlt, _⟩ := s1.ent h0; cases e'; omega))))
  have K3 : Keeps (fun _ => False) w w3 := K2.trans' k3 (fun k e => .inr (by have := k1.size; omega))
  have hc0 : w3.cell? ⟨g, 0, none⟩ = some (.slice a n c) := by rw [cell_of_row w3 g 0 _ _ _ r3.row]; rfl
  have hc1 : w3.cell? ⟨g, 1, none⟩ = some (.bool V) := by rw [cell_of_row w3 g 1 _ _ _ r3.row]; rfl
  have HK : Hid (Keeps (fun _ => False) w w3) := K3
  clear r2 r3 k1 k2 k3 K2 s1 s2 K3 z2
  go_loopw [6] (fun t wr => ∃ i : Nat, t = .int .i64 (i : Int) ∧ i ≤ n ∧ (l.take i).all (okS b) = true ∧ wr = w3) (fun t _ => n - (intOf t).toNat)
  case atStart => exact ⟨0, rfl, by omega, by simp, rfl⟩
  case round =>
    obtain ⟨i, rfl, hi, hall, rfl⟩ := hrel
    have Hall : Hid ((l.take i).all (okS b) = true) := hall
    clear hall
    by_cases hlt : i < n
    · have hlt' : (i : Int) < (n : Int) := by omega
      have hi0 : (0 : Int) ≤ (i : Int) := by omega
      obtain ⟨bb, oo, rfl, _, hE⟩ := s3.ent (by omega)
      have hce := hE _ (Keeps.refl _ _) i hlt
      obtain ⟨v, hv⟩ : ∃ v, l.getD i 0 = v := ⟨_, rfl⟩
      rw [hv] at hce
      have Hv : Hid (l.getD i 0 = v) := hv
      clear hv hE
      rcases okS_cases b v with ⟨c1, c2, c3⟩ | ⟨c1, c3⟩ | ⟨c1, c2, c3⟩ | ⟨c1, c2, c3⟩
      · have HF : Hid (T = false) := by show _ = _; rw [HT.out, all_bad (by rw [HL.out]; exact hlt) (by rw [Hv.out]; exact c3)]; simp
        have f2 : (v != (10 : Int)) = true := by simp; exact c2
        clear c3
        go_wp2
        go_ret
        exact ⟨by rw [HF.out]; rfl, HK.out⟩
      · subst c1
        cases b with
        | true =>
          have HA : Hid ((l.take (i + 1)).all (okS true) = true) := by show _ = _; rw [all_snocI (by rw [HL.out]; exact hlt), Hall.out, Hv.out, c3]; rfl
          clear c3
          go_wp2
          exact ⟨⟨i + 1, rfl, by omega, HA.out, by trivial⟩, by simp [intOf]; omega⟩
        | false =>
          have HF : Hid (T = false) := by show _ = _; rw [HT.out, all_bad (by rw [HL.out]; exact hlt) (by rw [Hv.out]; exact c3)]; simp
          clear c3
          go_wp2
          go_ret
          exact ⟨by rw [HF.out]; rfl, HK.out⟩
      · subst c2
        have HF : Hid (T = false) := by show _ = _; rw [HT.out, all_bad (by rw [HL.out]; exact hlt) (by rw [Hv.out]; exact c3)]; simp
        clear c3
        go_wp2
        go_ret
        exact ⟨by rw [HF.out]; rfl, HK.out⟩
      · have f1 : ¬ v < (32 : Int) := by omega
        have f2 : (v == (127 : Int)) = false := by simp; exact c2
        have HA : Hid ((l.take (i + 1)).all (okS b) = true) := by show _ = _; rw [all_snocI (by rw [HL.out]; exact hlt), Hall.out, Hv.out, c3]; rfl
        clear c1 c2 c3
        go_wp2
        exact ⟨⟨i + 1, rfl, by omega, HA.out, by trivial⟩, by simp [intOf]; omega⟩
    · obtain rfl : i = n := by omega
      have hlt' : ¬ (i : Int) < (i : Int) := by omega
      have HF : Hid (T = V) := by
        show _ = _
        have := Hall.out
        rw [List.take_of_length_le (by rw [HL.out]; exact Nat.le_refl _)] at this
        rw [HT.out, this, Bool.and_true]
      clear hi hlt
      go_wp2
      go_ret
      exact ⟨by rw [HF.out]; rfl, HK.out⟩

end Go.Proofs.YtkcnnkakpkdhkaaDoor
