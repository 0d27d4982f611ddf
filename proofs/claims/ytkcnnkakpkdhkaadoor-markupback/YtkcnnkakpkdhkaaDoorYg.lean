/-
  Are parts not too many, nor too long; parts of one's own.
-/
import Derived.Test.YtkcnnkakpkdhkaaDoorHC
set_option linter.all false
set_option maxRecDepth 100000
namespace Go.Proofs.YtkcnnkakpkdhkaaDoor
open Go.RowKit Go.Sort Go.Shelf
attribute [local go_sem] Oper.semAt_some

theorem wpList_min {ops : Array Oper} {rest : List Oper} {o : Oper} {a : Act} {w : World} {Q : Exit → Act → World → Prop} (hgd : o.guard = none) (x y : Operand) (ho : o.op = .call { callee := .builtin .min, args := #[x, y], argTypes := #[3, 3] }) (p q r : Int) (hx : a.eval x = .int .i64 p) (hy : a.eval y = .int .i64 q)
    (hr : (if q < p then q else p) = r) (h : wpList Tryd.prog ops Q rest (a.put o.dst (.int .i64 r)) w) : wpList Tryd.prog ops Q (o :: rest) a w := by
  refine wpList_plain hgd fun K hK => ?_
  have hrr : (execOp a.eval o).run Tryd.prog w = .ok (.value (.int .i64 r)) w := by
    subst hr
    generalize a.eval = ρ at hx hy ⊢
    simp [execOp, ho, hx, hy, go_sem, Builtin.min_, Builtin.min2]
  unfold Oper.wp
  rw [hrr]
  exact hK _ _ h

/-- Words not too many, nor too long. -/
def okP (p : Pt) : Prop := p.2.length ≤ 300 ∧ ∀ x ∈ p.2, x.length ≤ 1000

/-- What Fair tells. -/
structure FairA (n : Nat) (P : List Pt) (e : Ending) : Prop where
  out : ∃ b : Bool, e = .returned (.bool b) ∧ (b = true → n ≤ 200 ∧ ∀ p ∈ P, okP p)

set_option maxHeartbeats 8000000 in
theorem fair8 (w : World) (a : Option Addr) (n c : Nat) (P : List Pt) (hl : SlP w a n c P) (hn : n ≤ 9223372036854775807) :
    Calls Tryd.prog 8 #[.slice a n c] w fun e w' => FairA n P e ∧ Keeps (fun _ => False) w w' := by
  have HL : Hid (P.length = n) := hl.len
  have HS := Hid.mk' hl
  go_enter Tryd.func8, Tryd.ntmps8
  go_wp2
  go_loopw [3, 4] (fun v t wr => ∃ (i s : Nat), t = .int .i64 (i : Int) ∧ v = .int .i64 (s : Int) ∧ i ≤ n ∧ s ≤ 1000 ∧ (∀ j, j < i → okP (P.getD j (0, []))) ∧ Keeps (fun _ => False) w wr) (fun _ t _ => n - (intOf t).toNat)
  case atStart => exact ⟨0, 0, rfl, rfl, by omega, by omega, fun j h => by omega, Keeps.refl _ _⟩
  case round =>
    obtain ⟨i, s, rfl, rfl, hi, hs, hall, hk⟩ := hrel
    have Hall := Hid.mk' hall
    have HK := Hid.mk' hk
    clear hall
    by_cases hlt : i < n
    · have hlt' : (i : Int) < (n : Int) := by omega
      have hi0 : (0 : Int) ≤ (i : Int) := by omega
      obtain ⟨p, hp⟩ : ∃ p, P[i]? = some p := ⟨_, List.getElem?_eq_getElem (by rw [hl.len]; exact hlt)⟩
      have Hp : Hid (P.getD i (0, []) = p) := by show _ = _; rw [List.getD_eq_getElem?_getD, hp]; rfl
      obtain ⟨b1, o1, rfl, h1, a1, m, c1, h2, s1, _⟩ := (hl.keep hk).at_ i p hp
      obtain ⟨k, ws⟩ := p
      simp only at h1 h2 s1
      have HM : Hid (ws.length = m) := s1.len
      clear hp
      by_cases hm3 : 300 < m
      · have g1 : (300 : Int) < (m : Int) := by omega
        clear hm3 hk
        go_wp2
        go_ret
        exact ⟨⟨false, rfl, fun h => by cases h⟩, HK.out⟩
      · have g1 : ¬ (300 : Int) < (m : Int) := by omega
        have S1 := Hid.mk' s1
        have h2' := Hid.mk' h2
        clear hk
        go_wp2
        clear h1 s1 h2
        go_loopw [3, 5] (fun v t wr2 => ∃ (j s2 : Nat), t = .int .i64 (j : Int) ∧ v = .int .i64 (s2 : Int) ∧ j ≤ m ∧ s2 ≤ 1000 ∧ (∀ q, q < j → (ws.getD q []).length ≤ 1000) ∧ Keeps (fun _ => False) wr wr2) (fun _ t _ => m - (intOf t).toNat)
        case atStart => exact ⟨0, s, rfl, rfl, by omega, hs, fun q h => by omega, Keeps.refl _ _⟩
        case round =>
          obtain ⟨j, s2, rfl, rfl, hj, hs2, hwall, hk2⟩ := hrel
          have Hwall := Hid.mk' hwall
          have HK2 := Hid.mk' hk2
          have h2 := cell_keeps hk2 h2'.out (fun h => h)
          clear hwall
          by_cases hjm : j < m
          · have hjm' : (j : Int) < (m : Int) := by omega
            have hj0 : (0 : Int) ≤ (j : Int) := by omega
            obtain ⟨bw, ow, rfl, _, hcx⟩ := (S1.out.keep hk2).ent2 hjm
            obtain ⟨x, hx⟩ : ∃ x, ws.getD j [] = x := ⟨_, rfl⟩
            rw [hx] at hcx
            have Hx := Hid.mk' hx
            obtain ⟨X, hX⟩ : ∃ X, bs x = X := ⟨_, rfl⟩
            rw [hX] at hcx
            have hXs : X.size = x.length := by rw [← hX, bs_size]
            clear hx hX hk2
            obtain ⟨v, hv⟩ : ∃ v : Nat, min X.size 1001 = v := ⟨_, rfl⟩
            have hmn : min (X.size : Int) 1001 = (v : Int) := by omega
            have hv1 : v ≤ 1001 := by omega
            have HV : Hid (v ≤ 1000 → x.length ≤ 1000) := fun h => by omega
            clear hXs hv
            by_cases hs3 : 1000 < s2 + v
            · have hg : (1000 : Int) < (s2 : Int) + (v : Int) := by omega
              clear hs3
              go_wp2
              go_ret
              exact ⟨⟨false, rfl, fun h => by cases h⟩, HK.out.trans HK2.out⟩
            · have hg : ¬ (1000 : Int) < (s2 : Int) + (v : Int) := by omega
              have Hs3 : Hid (s2 + v ≤ 1000) := by show _ ≤ _; omega
              clear hs3
              go_wp2
              refine ⟨⟨j + 1, s2 + v, rfl, by simp, by omega, Hs3.out, fun q hq => ?_, HK2.out⟩, by simp [intOf]; omega⟩
              by_cases hqj : q < j
              · exact Hwall.out q hqj
              · obtain rfl : q = j := by omega
                rw [Hx.out]
                exact HV.out (by have := Hs3.out; omega)
          · obtain rfl : j = m := by omega
            have hjm' : ¬ (j : Int) < (j : Int) := by omega
            have Hok : Hid (okP (k, ws)) := ⟨by show ws.length ≤ 300; rw [HM.out]; omega, fun x hx => by
              obtain ⟨q, hq, e⟩ := List.getElem_of_mem hx
              have hq' : q < ws.length := hq
              have := Hwall.out q (by have := HM.out; omega)
              rw [List.getD_eq_getElem?_getD, List.getElem?_eq_getElem hq'] at this
              rw [← e]; simpa using this⟩
            clear hjm hk2 hj hm3
            go_wp2
            refine ⟨⟨i + 1, s2, rfl, rfl, by omega, hs2, fun q hq => ?_, HK.out.trans HK2.out⟩, by simp [intOf]; omega⟩
            by_cases hqi : q < i
            · exact Hall.out q hqi
            · obtain rfl : q = i := by omega
              rw [Hp.out]; exact Hok.out
    · obtain rfl : i = n := by omega
      have hlt' : ¬ (i : Int) < (i : Int) := by omega
      by_cases h200 : i ≤ 200
      · have g2 : (i : Int) ≤ (200 : Int) := by omega
        have H200 := Hid.mk' h200
        clear hk hlt hi h200
        go_wp2
        go_ret
        refine ⟨⟨true, rfl, fun _ => ⟨H200.out, fun p hp => ?_⟩⟩, HK.out⟩
        obtain ⟨q, hq, e⟩ := List.getElem_of_mem hp
        have := Hall.out q (by have := HL.out; omega)
        rw [List.getD_eq_getElem?_getD, List.getElem?_eq_getElem hq] at this
        rw [← e]; simpa using this
      · have g2 : ¬ (i : Int) ≤ (200 : Int) := by omega
        clear hk hlt hi h200
        go_wp2
        go_ret
        exact ⟨⟨false, rfl, fun h => by cases h⟩, HK.out⟩

end Go.Proofs.YtkcnnkakpkdhkaaDoor
