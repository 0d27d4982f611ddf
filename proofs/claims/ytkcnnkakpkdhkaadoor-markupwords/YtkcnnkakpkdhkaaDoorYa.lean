/-
  Two sources with an empty line between: in plain mathematics.
-/
import Derived.Test.YtkcnnkakpkdhkaaDoorXq
set_option linter.all false
set_option maxRecDepth 100000
namespace Go.Proofs.YtkcnnkakpkdhkaaDoor
open Go.RowKit Go.Sort Go.Shelf

theorem enc_low {v : Int} {b : UInt8} (h : isS v) (hb : b.toNat < 128) (hm : b ∈ Lib.encodeRune v) : Lib.encodeRune v = [b] := by
  have hm0 := hm
  unfold Lib.encodeRune at hm
  obtain ⟨x, hx, e⟩ := List.mem_map.1 hm
  have hby := Lib.encodeRuneZ_byte v x hx
  have e2 : x.toNat < 128 := by
    have := u8n hby.1 hby.2
    rw [← this, e]; exact hb
  obtain ⟨h0, h1, h2⟩ := h
  have hv : v ≤ 127 := by
    unfold Lib.encodeRuneZ at hx
    split at hx
    · omega
    · split at hx
      · simp at hx; omega
      · split at hx
        · simp at hx; omega
        · split at hx
          · simp at hx; omega
          · simp at hx; omega
  unfold Lib.encodeRune at hm0 ⊢
  rw [Lib.encodeRuneZ_one h0 hv] at hm0 ⊢
  simp at hm0 ⊢
  exact hm0.symm
theorem bad_app {r0 : List UInt8} (h0 : r0 ≠ []) (h : bad r0) {b : UInt8} (hb : b.toNat < 128) (r : List UInt8) : bad (r0 ++ b :: r) := by
  refine Classical.byContradiction fun hn => ?_
  have hne : r0 ++ b :: r ≠ [] := by simp
  obtain ⟨g1, g2, g3, g4⟩ := dN_good hne hn
  generalize hV : ((dN (r0 ++ b :: r)).1 : Int) = V at g1 g2
  generalize hK : (dN (r0 ++ b :: r)).2 = K at g2 g3 g4
  by_cases hl : K ≤ r0.length
  · rw [List.take_append_of_le_length hl] at g2
    have e : r0 = Lib.encodeRune V ++ r0.drop K := by rw [g2, List.take_append_drop]
    rw [e] at h
    exact enc_good g1 _ h
  · have hm : b ∈ Lib.encodeRune V := by
      rw [g2, List.mem_take_iff_getElem]
      exact ⟨r0.length, by simp; omega, by simp⟩
    have e := enc_low g1 hb hm
    have : K = 1 := by
      have := congrArg List.length g2
      rw [e, List.length_take] at this
      simp at this g4; omega
    have := List.length_pos_iff.2 h0
    omega
theorem vd_mid {b : UInt8} (hb : b.toNat < 128) (s r : List UInt8) : vd (s ++ b :: r) = (vd s && vd r) := by
  have hb1 : isS ((b.toNat : Nat) : Int) := ⟨by omega, by omega, by omega⟩
  have hbe : Lib.encodeRune ((b.toNat : Nat) : Int) = [b] := by
    unfold Lib.encodeRune
    rw [Lib.encodeRuneZ_one (by omega) (by omega)]
    simp
  have h1 : vd (b :: r) = vd r := by
    have := vd_encs (L := [((b.toNat : Nat) : Int)]) (by intro v hv; simp at hv; subst hv; exact hb1) r
    rw [show encs [((b.toNat : Nat) : Int)] = [b] by simp [encs, hbe]] at this
    exact this
  obtain ⟨L, r0, rfl, hL, h⟩ := split_at s
  rw [List.append_assoc, vd_encs hL, vd_encs hL]
  rcases h with rfl | ⟨h0, hbad⟩
  · rw [List.nil_append, h1]
    show vd r = (vd [] && vd r)
    rfl
  · have e1 : vd r0 = false := by unfold vd; rw [sgn_bad h0 hbad]; rfl
    have e2 : vd (r0 ++ b :: r) = false := by unfold vd; rw [sgn_bad (by simp) (bad_app h0 hbad hb r)]; rfl
    rw [e1, e2]; rfl
theorem sg_mid {b : UInt8} (hb : b.toNat < 128) {s r : List UInt8} (hs : vd s = true) (hr : vd r = true) : sg (s ++ b :: r) = sg s ++ ((b.toNat : Nat) : Int) :: sg r := by
  have hb1 : isS ((b.toNat : Nat) : Int) := ⟨by omega, by omega, by omega⟩
  have hbe : encs [((b.toNat : Nat) : Int)] = [b] := by
    simp only [encs, List.flatMap_cons, List.flatMap_nil, List.append_nil]
    unfold Lib.encodeRune
    rw [Lib.encodeRuneZ_one (by omega) (by omega)]
    simp
  have h1 := sg_encs (L := [((b.toNat : Nat) : Int)]) (by intro v hv; simp at hv; subst hv; exact hb1)
  rw [hbe] at h1
  have h2 : sg (b :: r) = ((b.toNat : Nat) : Int) :: sg r := by
    have := sg_app2 (l := [b]) (m := r) h1.1 hr
    rw [h1.2] at this
    exact this
  have h3 : vd (b :: r) = true := by
    have := vd_mid hb [] r
    rw [List.nil_append] at this
    rw [this, hr]; rfl
  rw [sg_app2 hs h3, h2]
theorem pln_mid (s r : List UInt8) : pln true (s ++ 10 :: r) = (pln true s && pln true r) := by
  unfold pln
  rw [vd_mid (b := 10) (by decide)]
  cases h1 : vd s with
  | false => simp
  | true =>
    cases h2 : vd r with
    | false => simp
    | true =>
      rw [sg_mid (b := 10) (by decide) h1 h2, List.all_append, List.all_cons]
      have : okS true (((10 : UInt8).toNat : Nat) : Int) = true := by decide
      rw [this]; simp
theorem cutL_cons (b x : UInt8) (r : List UInt8) : cutL b (x :: r) = if x = b then [] :: cutL b r else match cutL b r with
    | [] => [[x]]
    | h :: t => (x :: h) :: t := rfl
theorem cutL_mid (b : UInt8) : ∀ (s r : List UInt8), cutL b (s ++ b :: r) = cutL b s ++ cutL b r
  | [], r => by rw [List.nil_append, cutL_cons, if_pos rfl]; rfl
  | x :: s, r => by
    have ih := cutL_mid b s r
    rw [List.cons_append, cutL_cons, cutL_cons b x s]
    by_cases hx : x = b
    · rw [if_pos hx, if_pos hx, ih]; rfl
    · rw [if_neg hx, if_neg hx, ih]
      cases h : cutL b s with
      | nil => exact absurd h (cutL_ne b s)
      | cons p t => rfl
theorem addLast_app (P : List Pt) {Q : List Pt} (h : Q ≠ []) (ws : List (List UInt8)) : addLast (P ++ Q) ws = P ++ addLast Q ws := by
  unfold addLast
  obtain ⟨Q0, q, rfl⟩ : ∃ Q0 q, Q = Q0 ++ [q] := ⟨Q.dropLast, Q.getLast h, (List.dropLast_concat_getLast _).symm⟩
  rw [← List.append_assoc, List.dropLast_concat, List.dropLast_concat]
  simp
theorem stepP_app (P Q : List Pt) (o : Bool) (x : List UInt8) (h : o = true → Q ≠ []) : stepP (P ++ Q, o) x = (stepP (Q, o) x).map (fun st => (P ++ st.1, st.2)) := by
  unfold stepP
  simp only
  split
  · simp
  · split
    · split
      · rfl
      · simp
    · split
      · simp
      · cases o with
        | false => simp
        | true => simp [addLast_app P (h rfl)]
theorem stepP_ne {Q : List Pt} {o : Bool} {x : List UInt8} {st : List Pt × Bool} (h : stepP (Q, o) x = some st) : st.2 = true → st.1 ≠ [] := by
  unfold stepP at h
  intro ht
  split at h
  · cases h; simp
  · split at h
    · split at h
      · cases h
      · cases h; simp
    · split at h
      · cases h; cases ht
      · split at h
        · cases h; unfold addLast; simp
        · cases h; simp
theorem linesP_pre (P : List Pt) : ∀ (B : List (List UInt8)) (Q : List Pt) (o : Bool), (o = true → Q ≠ []) → linesP B (P ++ Q, o) = (linesP B (Q, o)).map (fun st => (P ++ st.1, st.2))
  | [], Q, o, _ => rfl
  | x :: B, Q, o, h => by
    rw [linesP_cons, linesP_cons, stepP_app P Q o x h]
    cases hs : stepP (Q, o) x with
    | none => rfl
    | some st =>
      obtain ⟨Q1, o1⟩ := st
      exact linesP_pre P B Q1 o1 (stepP_ne hs)
theorem stepP_empty (st : List Pt × Bool) : stepP st [] = some (st.1, false) := rfl

/-- Two sources with an empty line between. -/
theorem parse_two (s t : List UInt8) (h : s.length + t.length ≤ 238) :
    parseL (s ++ 10 :: 10 :: t) = if (parseL s).2 = 0 ∧ (parseL t).2 = 0 then ((parseL s).1 ++ (parseL t).1, 0) else ([], 15) := by
  unfold parseL
  rw [if_neg (show ¬ 240 < (s ++ 10 :: 10 :: t).length by simp; omega), if_neg (show ¬ 240 < s.length by omega), if_neg (show ¬ 240 < t.length by omega)]
  have e1 : pln true (10 :: t) = pln true t := by
    have := pln_mid [] t
    rw [List.nil_append] at this
    rw [this]; rfl
  rw [pln_mid, e1]
  cases h1 : pln true s with
  | false => simp
  | true =>
    cases h2 : pln true t with
    | false => simp
    | true =>
      simp only [Bool.and_self, Bool.true_eq_false, if_false]
      rw [cutL_mid]
      have e2 : cutL 10 (10 :: t) = [] :: cutL 10 t := by
        have := cutL_mid 10 [] t
        rw [List.nil_append] at this
        rw [this]; rfl
      rw [e2, linesP_app]
      cases h3 : linesP (cutL 10 s) ([], false) with
      | none => rfl
      | some st =>
        obtain ⟨P, o⟩ := st
        show resP (linesP ([] :: cutL 10 t) (P, o)) = _
        rw [linesP_cons, stepP_empty]
        show resP (linesP (cutL 10 t) (P, false)) = _
        have e3 := linesP_pre P (cutL 10 t) [] false (fun h => by cases h)
        rw [List.append_nil] at e3
        rw [e3]
        cases h4 : linesP (cutL 10 t) ([], false) with
        | none => rfl
        | some st2 => simp [resP]
theorem parse_err {s : List UInt8} (h : (parseL s).2 ≠ 0) : (parseL s).1 = [] := by
  unfold parseL at h ⊢
  split
  · rfl
  · split
    · rfl
    · rename_i h1 h2
      rw [if_neg h1, if_neg h2] at h
      cases h3 : linesP (cutL 10 s) ([], false) with
      | none => rfl
      | some st => rw [h3] at h; exact absurd rfl h

/-- Not too many, nor too long. -/
theorem linesP_len : ∀ (B : List (List UInt8)) (Q : List Pt) (o : Bool) (st : List Pt × Bool), linesP B (Q, o) = some st → st.1.length ≤ Q.length + B.length
  | [], Q, o, st, h => by cases h; simp
  | x :: B, Q, o, st, h => by
    rw [linesP_cons] at h
    cases hs : stepP (Q, o) x with
    | none => rw [hs] at h; cases h
    | some s1 =>
      rw [hs] at h
      obtain ⟨Q1, o1⟩ := s1
      have ih := linesP_len B Q1 o1 st h
      have : Q1.length ≤ Q.length + 1 := by
        unfold stepP at hs
        simp only at hs
        split at hs
        · cases hs; simp
        · split at hs
          · split at hs
            · cases hs
            · cases hs; simp
          · split at hs
            · cases hs; simp
            · split at hs
              · cases hs; unfold addLast; simp
              · cases hs; simp
      simp; omega

end Go.Proofs.YtkcnnkakpkdhkaaDoor
