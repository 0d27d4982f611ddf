/-
  Parts, written and read again; no word is lost: in plain mathematics.
-/
import Derived.Test.YtkcnnkakpkdhkaaDoorYe
set_option linter.all false
set_option maxRecDepth 100000
namespace Go.Proofs.YtkcnnkakpkdhkaaDoor
open Go.RowKit Go.Sort Go.Shelf

theorem pln_midb {b : UInt8} (hb : b.toNat < 128) (ho : okS true ((b.toNat : Nat) : Int) = true) (s r : List UInt8) : pln true (s ++ b :: r) = (pln true s && pln true r) := by
  unfold pln
  rw [vd_mid hb]
  cases h1 : vd s with
  | false => simp
  | true =>
    cases h2 : vd r with
    | false => simp
    | true =>
      rw [sg_mid hb h1 h2, List.all_append, List.all_cons, ho]; simp
theorem pln_up {x : List UInt8} (h : pln false x = true) : pln true x = true := by
  unfold pln at h ⊢
  simp only [Bool.and_eq_true, List.all_eq_true] at h ⊢
  refine ⟨h.1, fun v hv => ?_⟩
  have h2 := h.2 v hv
  rcases okS_cases false v with ⟨_, _, e⟩ | ⟨_, e⟩ | ⟨_, _, e⟩ | ⟨h1, h3, e⟩
  · rw [e] at h2; cases h2
  · rw [e] at h2; cases h2
  · rw [e] at h2; cases h2
  · rcases okS_cases true v with ⟨g, _, _⟩ | ⟨g, e⟩ | ⟨_, g, _⟩ | ⟨_, _, e⟩
    · omega
    · exact e
    · omega
    · exact e
theorem gdW_pln {x : List UInt8} (h : gdW x = true) : pln false x = true := by
  unfold gdW at h
  simp only [Bool.and_eq_true, decide_eq_true_eq] at h
  exact h.1.2
theorem enc_10 {v : Int} (h : isS v) (hm : (10 : UInt8) ∈ Lib.encodeRune v) : v = 10 := by
  unfold Lib.encodeRune at hm
  obtain ⟨x, hx, e⟩ := List.mem_map.1 hm
  have hb := Lib.encodeRuneZ_byte v x hx
  have e2 : x.toNat = 10 := by
    have := u8n hb.1 hb.2
    rw [← this, e]; rfl
  unfold Lib.encodeRuneZ at hx
  obtain ⟨h0, h1, h2⟩ := h
  split at hx
  · simp at hx; omega
  · split at hx
    · simp at hx; omega
    · split at hx
      · simp at hx; omega
      · split at hx
        · simp at hx; omega
        · simp at hx; omega
theorem gdW_no10 {x : List UInt8} (h : gdW x = true) : (10 : UInt8) ∉ x := by
  have hp := gdW_pln h
  unfold pln at hp
  simp only [Bool.and_eq_true, List.all_eq_true] at hp
  obtain ⟨he, hs⟩ := vd_split hp.1
  intro hm
  rw [he, mem_encs] at hm
  obtain ⟨v, hv, h10⟩ := hm
  have := enc_10 (hs v hv) h10
  subst this
  have := hp.2 10 hv
  revert this; decide
theorem pln_nil : pln true [] = true := by decide
theorem pln_join : ∀ ws : List (List UInt8), (∀ x ∈ ws, gdW x = true) → pln true (Lib.join ws [32]) = true
  | [], _ => by rw [Lib.join_nil]; exact pln_nil
  | [x], h => by rw [Lib.join_one]; exact pln_up (gdW_pln (h x (by simp)))
  | x :: y :: r, h => by
    rw [join_cons2]
    show pln true (x ++ 32 :: Lib.join (y :: r) [32]) = true
    rw [pln_midb (by decide) (by decide), pln_up (gdW_pln (h x (by simp))), pln_join (y :: r) (fun z hz => h z (by simp only [List.mem_cons] at hz ⊢; exact .inr hz))]
    rfl
theorem no10_join : ∀ ws : List (List UInt8), (∀ x ∈ ws, gdW x = true) → (10 : UInt8) ∉ Lib.join ws [32]
  | [], _ => by rw [Lib.join_nil]; simp
  | [x], h => by rw [Lib.join_one]; exact gdW_no10 (h x (by simp))
  | x :: y :: r, h => by
    have h1 := gdW_no10 (h x (by simp))
    have h2 := no10_join (y :: r) (fun z hz => h z (by simp only [List.mem_cons] at hz ⊢; exact .inr hz))
    rw [join_cons2]
    simp [h1, h2]
theorem wds_join : ∀ ws : List (List UInt8), (∀ x ∈ ws, gdW x = true) → wds (Lib.join ws [32]) = ws
  | [], _ => by rw [Lib.join_nil]; rfl
  | [x], h => by
    have := gdW_no (h x (by simp))
    rw [Lib.join_one]; exact (wds_one this.1).2 this.2
  | x :: y :: r, h => by
    have := gdW_no (h x (by simp))
    rw [join_cons2]
    show wds (x ++ 32 :: Lib.join (y :: r) [32]) = _
    rw [wds_mid, (wds_one this.1).2 this.2, wds_join (y :: r) (fun z hz => h z (by simp only [List.mem_cons] at hz ⊢; exact .inr hz))]
    rfl
theorem pln_line {p : Pt} (h : ∀ x ∈ p.2, gdW x = true) : pln true (lineP p) = true := by
  have hj := pln_join p.2 h
  unfold lineP mk
  split
  · show pln true ([61] ++ 32 :: Lib.join p.2 [32]) = true
    rw [pln_midb (by decide) (by decide), hj]; decide
  · split
    · show pln true ([45] ++ 32 :: Lib.join p.2 [32]) = true
      rw [pln_midb (by decide) (by decide), hj]; decide
    · split
      · show pln true ([45, 45] ++ 45 :: Lib.join p.2 [32]) = true
        rw [pln_midb (by decide) (by decide), hj]; decide
      · exact hj
theorem no10_line {p : Pt} (h : ∀ x ∈ p.2, gdW x = true) : ∀ x ∈ lineP p, x ≠ (10 : UInt8) := by
  have hj := no10_join p.2 h
  intro x hx e
  subst e
  unfold lineP at hx
  rw [List.mem_append] at hx
  rcases hx with hx | hx
  · unfold mk at hx
    repeat' split at hx
    all_goals simp at hx
  · exact hj hx
theorem gdP_words {p : Pt} (h : gdP p = true) : ∀ x ∈ p.2, gdW x = true := by
  unfold gdP at h
  simp only [Bool.and_eq_true, List.all_eq_true] at h
  exact h.1.2
theorem step_line (Q : List Pt) {p : Pt} (h : gdP p = true) : ∃ o, stepP (Q, false) (lineP p) = some (Q ++ [p], o) := by
  have hw := gdP_words h
  have hpe := part_eq p.1 p.2 (by rw [List.all_eq_true]; exact hw)
  have h2 : (okK (p.1, p.2) && !badT (p.1, p.2)) = true := by
    unfold gdP at h
    simp only [Bool.and_eq_true] at h ⊢
    exact ⟨h.1.1, h.2⟩
  rw [h2] at hpe
  simp only [Bool.and_eq_true, Bool.not_eq_true', Bool.and_eq_false_iff, decide_eq_true_eq, decide_eq_false_iff_not] at hpe
  obtain ⟨h3, h4⟩ := hpe
  have h5 : rdP (lineP p) = p := by
    unfold rdP
    have h4' : knd (lineP p) = p.1 := h4
    rw [h4']
    have e : (lineP p).drop (mk p.1).length = Lib.join p.2 [32] := by unfold lineP; simp
    rw [e, wds_join p.2 hw]
  rw [← stepQ_eq]
  unfold stepQ
  rw [h5]
  have h6 : p.2 = [] → p.1 = 4 := fun e => by
    rcases h3 with h3 | h3
    · rw [e] at h3; simp at h3
    · exact Classical.byContradiction h3
  rw [if_neg (fun hh => by have := h6 hh.2; have := hh.1; omega), if_neg (fun hh => hh.1 (h6 hh.2)), if_neg (fun hh => by cases hh.2)]
  exact ⟨_, rfl⟩
theorem srcL_cons2 (p q : Pt) (r : List Pt) : srcL (p :: q :: r) = lineP p ++ (10 :: 10 :: srcL (q :: r)) := by
  unfold srcL
  rw [List.map_cons, List.map_cons, join_cons2]
  rfl
theorem srcL_one (p : Pt) : srcL [p] = lineP p := by unfold srcL; rw [List.map_cons, List.map_nil, Lib.join_one]
theorem lines_src : ∀ (P Q : List Pt), (∀ p ∈ P, gdP p = true) → ∃ o, linesP (cutL 10 (srcL P)) (Q, false) = some (Q ++ P, o)
  | [], Q, _ => ⟨false, by rw [List.append_nil]; rfl⟩
  | [p], Q, h => by
    have hp := h p (by simp)
    obtain ⟨o, ho⟩ := step_line Q hp
    rw [srcL_one, cutL_none (no10_line (gdP_words hp)), linesP_cons, ho]
    exact ⟨o, rfl⟩
  | p :: q :: r, Q, h => by
    have hp := h p (by simp)
    obtain ⟨o, ho⟩ := step_line Q hp
    have ih := lines_src (q :: r) (Q ++ [p]) (fun z hz => h z (by simp only [List.mem_cons] at hz ⊢; exact .inr hz))
    obtain ⟨o2, h2⟩ := ih
    refine ⟨o2, ?_⟩
    rw [srcL_cons2, cutL_at _ (no10_line (gdP_words hp)), linesP_cons, ho, cutL_cons, if_pos rfl]
    show linesP ([] :: cutL 10 (srcL (q :: r))) (Q ++ [p], o) = _
    rw [linesP_cons, stepP_empty]
    show linesP (cutL 10 (srcL (q :: r))) (Q ++ [p], false) = _
    rw [h2]; simp
theorem pln_src : ∀ (P : List Pt), (∀ p ∈ P, gdP p = true) → pln true (srcL P) = true
  | [], _ => pln_nil
  | [p], h => by rw [srcL_one]; exact pln_line (gdP_words (h p (by simp)))
  | p :: q :: r, h => by
    have ih := pln_src (q :: r) (fun z hz => h z (by simp only [List.mem_cons] at hz ⊢; exact .inr hz))
    rw [srcL_cons2, pln_midb (by decide) (by decide), pln_line (gdP_words (h p (by simp)))]
    show (true && pln true ([] ++ 10 :: srcL (q :: r))) = true
    rw [pln_midb (by decide) (by decide), ih, pln_nil]; rfl
/-- The parts of parts' source are these. -/
theorem parse_src {P : List Pt} (h : gdL P = true) (hs : (srcL P).length ≤ 240) : parseL (srcL P) = (P, 0) := by
  have hp : ∀ p ∈ P, gdP p = true := by
    unfold gdL at h
    rw [List.all_eq_true] at h
    exact h
  obtain ⟨o, ho⟩ := lines_src P [] hp
  unfold parseL
  rw [if_neg (by omega), if_neg (by rw [pln_src P hp]; simp), ho, List.nil_append]
  rfl

/-! No word is lost, but the marks. -/
def mkW (k : Int) : List (List UInt8) := if k = 2 then [[61]] else if k = 3 then [[45]] else if k = 4 then [[45, 45, 45]] else []
def flW (P : List Pt) : List (List UInt8) := P.flatMap fun p => mkW p.1 ++ p.2
theorem flW_app (P Q : List Pt) : flW (P ++ Q) = flW P ++ flW Q := by simp [flW]
theorem flW_one (p : Pt) : flW [p] = mkW p.1 ++ p.2 := by simp [flW]
theorem flW_last {P : List Pt} (h : P ≠ []) (ws : List (List UInt8)) : flW (addLast P ws) = flW P ++ ws := by
  obtain ⟨Q, q, rfl⟩ : ∃ Q q, P = Q ++ [q] := ⟨P.dropLast, P.getLast h, (List.dropLast_concat_getLast _).symm⟩
  unfold addLast
  rw [List.dropLast_concat]
  have e : (Q ++ [q]).getLastD (0, []) = q := by simp
  rw [e, flW_app, flW_app, flW_one, flW_one]
  simp
theorem flat_step {st st' : List Pt × Bool} {x : List UInt8} (hne : st.2 = true → st.1 ≠ []) (h : stepP st x = some st') : flW st'.1 = flW st.1 ++ wds x := by
  unfold stepP at h
  split at h
  · rename_i hx
    cases h
    rw [flW_app, flW_one, hx]
    have e : wds [45, 45, 45] = [[45, 45, 45]] := by decide
    rw [e]; rfl
  · split at h
    · rename_i hx hm
      split at h
      · cases h
      · cases h
        rw [flW_app, flW_one]
        congr 1
        unfold isMk at hm
        simp only [decide_eq_true_eq] at hm
        rcases hm with hm | hm
        · obtain ⟨r, rfl⟩ := take_mark hm
          rw [wds_mark (by decide)]
          rfl
        · obtain ⟨r, rfl⟩ := take_mark hm
          rw [wds_mark (by decide)]
          rfl
    · split at h
      · rename_i hw
        cases h
        rw [hw, List.append_nil]
      · split at h
        · rename_i ho
          cases h
          exact flW_last (hne ho) _
        · cases h
          rw [flW_app, flW_one]
          rfl
theorem flat_lines : ∀ (B : List (List UInt8)) (st st' : List Pt × Bool), (st.2 = true → st.1 ≠ []) → linesP B st = some st' → flW st'.1 = flW st.1 ++ B.flatMap wds
  | [], st, st', _, h => by cases h; simp
  | x :: B, st, st', hne, h => by
    rw [linesP_cons] at h
    cases hs : stepP st x with
    | none => rw [hs] at h; cases h
    | some s1 =>
      rw [hs] at h
      have h1 := flat_step hne hs
      have h2 := flat_lines B s1 st' (stepP_ne (Q := st.1) (o := st.2) hs) h
      rw [h2, h1, List.flatMap_cons, List.append_assoc]
theorem flat_parse {s : List UInt8} {P : List Pt} (h : parseL s = (P, 0)) : flW P = (cutL 10 s).flatMap wds := by
  unfold parseL at h
  split at h
  · cases h
  · split at h
    · cases h
    · cases hs : linesP (cutL 10 s) ([], false) with
      | none => rw [hs] at h; cases h
      | some st =>
        rw [hs] at h
        have e : st.1 = P := by cases h; rfl
        rw [← e, flat_lines _ _ _ (fun h => by cases h) hs]
        rfl
theorem parse_15 {s : List UInt8} (hs : s.length ≤ 240) (h : (parseL s).2 ≠ 0) : parseL s = ([], 15) := by
  unfold parseL at h ⊢
  rw [if_neg (by omega)] at h ⊢
  split
  · rfl
  · rename_i h1
    rw [if_neg h1] at h
    cases hs : linesP (cutL 10 s) ([], false) with
    | none => rfl
    | some st => rw [hs] at h; exact absurd rfl h
theorem flat_len (M : Nat) : ∀ (B : List (List UInt8)), (∀ x ∈ B, x.length ≤ M) → (B.flatMap wds).length ≤ B.length * (M + 1)
  | [], _ => by simp
  | x :: B, h => by
    have h1 := wds_len x
    have h2 := h x (by simp)
    have h3 := flat_len M B (fun y hy => h y (by simp [hy]))
    rw [List.flatMap_cons, List.length_append, List.length_cons, Nat.add_mul]
    omega
theorem flat_small {s : List UInt8} (hs : s.length ≤ 240) : ((cutL 10 s).flatMap wds).length ≤ 60000 := by
  obtain ⟨h1, h2⟩ := cutL_len 10 s
  have h3 := flat_len 240 (cutL 10 s) (fun x hx => by have := h2 x hx; omega)
  have h4 : (cutL 10 s).length * (240 + 1) ≤ 241 * 241 := Nat.mul_le_mul (by omega) (by omega)
  omega
theorem flW_take {P : List Pt} {i : Nat} (hi : i < P.length) : flW (P.take (i + 1)) = flW (P.take i) ++ (mkW (P.getD i (0, [])).1 ++ (P.getD i (0, [])).2) := by
  rw [List.take_succ, List.getElem?_eq_getElem hi, List.getD_eq_getElem?_getD, List.getElem?_eq_getElem hi, flW_app]
  show flW (P.take i) ++ flW [P[i]] = _
  rw [flW_one]; rfl
theorem flW_le (P : List Pt) (i : Nat) : (flW (P.take i)).length ≤ (flW P).length := by
  have h : flW P = flW (P.take i) ++ flW (P.drop i) := by rw [← flW_app, List.take_append_drop]
  rw [h, List.length_append]
  omega

end Go.Proofs.YtkcnnkakpkdhkaaDoor
