/-
  Headings, points, texts of tame lines: in plain mathematics.
-/
import Derived.Test.YtkcnnkakpkdhkaaDoorHC
set_option linter.all false
set_option maxRecDepth 100000
namespace Go.Proofs.YtkcnnkakpkdhkaaDoor
open Go.RowKit Go.Sort Go.Shelf

def tmB (x : UInt8) : Bool := decide (32 ≤ x.toNat) && decide (x.toNat ≤ 126)
def tm (l : List UInt8) : Bool := l.all tmB
theorem encs_ascii : ∀ (l : List UInt8), (∀ x ∈ l, x.toNat < 128) → encs (l.map fun x => ((x.toNat : Nat) : Int)) = l ∧ allS (l.map fun x => ((x.toNat : Nat) : Int))
  | [], _ => ⟨rfl, fun v hv => by cases hv⟩
  | x :: l, h => by
    obtain ⟨h1, h2⟩ := encs_ascii l (fun y hy => h y (by simp [hy]))
    have hx := h x (by simp)
    refine ⟨?_, fun v hv => ?_⟩
    · rw [List.map_cons, encs_cons, h1]
      unfold Lib.encodeRune
      rw [Lib.encodeRuneZ_one (by omega) (by omega)]
      simp
    · rw [List.map_cons] at hv
      rcases List.mem_cons.1 hv with rfl | hv
      · exact ⟨by omega, by omega, by omega⟩
      · exact h2 v hv
theorem pln_ascii {l : List UInt8} (h : ∀ x ∈ l, tmB x = true ∨ x = 10) : pln true l = true := by
  have hb : ∀ x ∈ l, x.toNat < 128 := fun x hx => by
    rcases h x hx with h | rfl
    · unfold tmB at h; simp at h; omega
    · decide
  obtain ⟨h1, h2⟩ := encs_ascii l hb
  obtain ⟨h3, h4⟩ := sg_encs h2
  rw [h1] at h3 h4
  unfold pln
  rw [h3, h4, Bool.true_and, List.all_eq_true]
  intro v hv
  obtain ⟨x, hx, rfl⟩ := List.mem_map.1 hv
  rcases h x hx with h | rfl
  · unfold tmB at h
    simp only [Bool.and_eq_true, decide_eq_true_eq] at h
    rcases okS_cases true ((x.toNat : Nat) : Int) with ⟨e, _⟩ | ⟨e, e2⟩ | ⟨_, e, _⟩ | ⟨_, _, e⟩
    · omega
    · rw [e2]
    · omega
    · exact e
  · decide
theorem tm_no {l : List UInt8} (h : tm l = true) : ∀ x ∈ l, tmB x = true ∧ x ≠ 10 := fun x hx => by
  unfold tm at h
  rw [List.all_eq_true] at h
  refine ⟨h x hx, ?_⟩
  rintro rfl
  have := h 10 hx
  revert this
  decide

def marksL (a b c : List UInt8) : List UInt8 := [119, 32] ++ a ++ [10, 119, 32] ++ b ++ [10, 61, 32] ++ c ++ [10, 119, 32] ++ a ++ [10, 45, 32] ++ b ++ [10, 45, 45, 45, 10, 119, 32] ++ c
theorem cut_first {p r : List UInt8} (h : ∀ x ∈ p, x ≠ 10) : cutL 10 (p ++ 10 :: r) = p :: cutL 10 r := cutL_at r h
theorem marks_cut {a b c : List UInt8} (ha : tm a = true) (hb : tm b = true) (hc : tm c = true) :
    cutL 10 (marksL a b c) = [119 :: 32 :: a, 119 :: 32 :: b, 61 :: 32 :: c, 119 :: 32 :: a, 45 :: 32 :: b, [45, 45, 45], 119 :: 32 :: c] := by
  have na := fun x hx => (tm_no ha x hx).2
  have nb := fun x hx => (tm_no hb x hx).2
  have nc := fun x hx => (tm_no hc x hx).2
  have e : marksL a b c = (119 :: 32 :: a) ++ 10 :: ((119 :: 32 :: b) ++ 10 :: ((61 :: 32 :: c) ++ 10 :: ((119 :: 32 :: a) ++ 10 :: ((45 :: 32 :: b) ++ 10 :: ([45, 45, 45] ++ 10 :: (119 :: 32 :: c)))))) := by
    unfold marksL
    simp
  have two : ∀ (u v : UInt8) (l : List UInt8), u ≠ 10 → v ≠ 10 → (∀ x ∈ l, x ≠ 10) → ∀ x ∈ u :: v :: l, x ≠ 10 := by
    intro u v l hu hv hl x hx
    rcases List.mem_cons.1 hx with rfl | hx
    · exact hu
    · rcases List.mem_cons.1 hx with rfl | hx
      · exact hv
      · exact hl x hx
  rw [e, cut_first (two _ _ _ (by decide) (by decide) na), cut_first (two _ _ _ (by decide) (by decide) nb), cut_first (two _ _ _ (by decide) (by decide) nc), cut_first (two _ _ _ (by decide) (by decide) na), cut_first (two _ _ _ (by decide) (by decide) nb), cut_first (by decide), cutL_none (two _ _ _ (by decide) (by decide) nc)]
theorem step_w {st : List Pt × Bool} {a : List UInt8} : stepP st (119 :: 32 :: a) = some (if st.2 then addLast st.1 ([119] :: wds a) else st.1 ++ [(1, [119] :: wds a)], true) := by
  unfold stepP
  rw [if_neg (by simp), if_neg (by unfold isMk; simp), wds_mark (by decide), if_neg (by simp)]
  cases st.2 <;> rfl
theorem step_m {st : List Pt × Bool} {c : List UInt8} {m : UInt8} (hm : m = 61 ∨ m = 45) (h : wds c ≠ []) : stepP st (m :: 32 :: c) = some (st.1 ++ [(if m = 45 then 3 else 2, wds c)], false) := by
  unfold stepP
  rw [if_neg (by rcases hm with rfl | rfl <;> simp), if_pos (by unfold isMk; rcases hm with rfl | rfl <;> simp), wds_mark (by rcases hm with rfl | rfl <;> decide)]
  rw [if_neg (by cases hw : wds c with
    | nil => exact absurd hw h
    | cons u r => simp)]
  rcases hm with rfl | rfl <;> rfl
def wantM (a b c : List UInt8) : List Pt := [(1, [119] :: wds a ++ ([119] :: wds b)), (2, wds c), (1, [119] :: wds a), (3, wds b), (4, []), (1, [119] :: wds c)]
theorem marks_parse {a b c : List UInt8} (ha : tm a = true) (hb : tm b = true) (hc : tm c = true) (wa : wds a ≠ []) (wb : wds b ≠ []) (wc : wds c ≠ []) (hl : 2 * (a.length + b.length + c.length) + 24 ≤ 240) :
    parseL (marksL a b c) = (wantM a b c, 0) := by
  have hp : pln true (marksL a b c) = true := pln_ascii (fun x hx => by
    unfold marksL at hx
    simp only [List.mem_append, List.mem_cons, List.mem_nil_iff, or_false] at hx
    have ga := fun h => (tm_no ha x h).1
    have gb := fun h => (tm_no hb x h).1
    have gc := fun h => (tm_no hc x h).1
    rcases hx with (((((((((((rfl | rfl) | h) | (rfl | rfl | rfl)) | h) | (rfl | rfl | rfl)) | h) | (rfl | rfl | rfl)) | h) | (rfl | rfl | rfl)) | h) | (rfl | rfl | rfl | rfl | rfl | rfl | rfl)) | h
    all_goals first | exact .inl (ga h) | exact .inl (gb h) | exact .inl (gc h) | exact .inr rfl | exact .inl (by decide))
  have hlen : (marksL a b c).length ≤ 240 := by unfold marksL; simp; omega
  unfold parseL
  rw [if_neg (by omega), if_neg (by rw [hp]; simp), marks_cut ha hb hc]
  simp only [linesP_cons, step_w, step_m (.inl rfl) wc, step_m (.inr rfl) wb]
  have e4 : ∀ st : List Pt × Bool, stepP st [45, 45, 45] = some (st.1 ++ [(4, [])], false) := fun st => rfl
  simp only [e4, step_w]
  simp [resP, linesP, addLast, wantM]

end Go.Proofs.YtkcnnkakpkdhkaaDoor
