
/-
  Texts cut, words, parts: in plain mathematics.
-/
import Derived.Test.YtkcnnkakpkdhkaaDoorUp
set_option linter.all false
namespace Go.Proofs.YtkcnnkakpkdhkaaDoor

/-- Cut at each b. -/
def cutL (b : UInt8) : List UInt8 → List (List UInt8)
  | [] => [[]]
  | x :: r => if x = b then [] :: cutL b r else
    match cutL b r with
    | [] => [[x]]
    | h :: t => (x :: h) :: t
theorem cutL_none {b : UInt8} {l : List UInt8} (h : ∀ x ∈ l, x ≠ b) : cutL b l = [l] := by
  induction l with
  | nil => rfl
  | cons x r ih =>
    have hx := h x (by simp)
    unfold cutL
    rw [if_neg hx, ih (fun y hy => h y (by simp [hy]))]
theorem cutL_at {b : UInt8} {p : List UInt8} (r : List UInt8) (h : ∀ x ∈ p, x ≠ b) : cutL b (p ++ b :: r) = p :: cutL b r := by
  induction p with
  | nil => show (if b = b then _ else _) = _; rw [if_pos rfl]
  | cons x p ih =>
    have hx := h x (by simp)
    have e := ih (fun y hy => h y (by simp [hy]))
    show (if x = b then _ else match cutL b (p ++ b :: r) with | [] => _ | h :: t => _) = _
    rw [if_neg hx, e]
theorem cutL_ne (b : UInt8) (l : List UInt8) : cutL b l ≠ [] := by
  cases l with
  | nil => simp [cutL]
  | cons x r =>
    unfold cutL
    split
    · simp
    · cases h : cutL b r <;> simp [h]
theorem cutL_len (b : UInt8) (l : List UInt8) : (cutL b l).length ≤ l.length + 1 ∧ ∀ x ∈ cutL b l, x.length ≤ l.length := by
  induction l with
  | nil => simp [cutL]
  | cons x r ih =>
    unfold cutL
    split
    · refine ⟨by simp; omega, fun y hy => ?_⟩
      rcases List.mem_cons.1 hy with rfl | hy
      · simp
      · have := ih.2 y hy; simp; omega
    · cases h : cutL b r with
      | nil => exact absurd h (cutL_ne b r)
      | cons p t =>
        rw [h] at ih
        refine ⟨by simp at ih ⊢; omega, fun y hy => ?_⟩
        simp only [List.mem_cons] at hy
        rcases hy with rfl | hy
        · have := ih.2 p (by simp); simp; omega
        · have := ih.2 y (by simp [hy]); simp; omega
/-- A line's words. -/
def wds (l : List UInt8) : List (List UInt8) := (cutL 32 l).filter (· ≠ [])
theorem wds_len (l : List UInt8) : (wds l).length ≤ l.length + 1 := Nat.le_trans (List.length_filter_le _ _) (cutL_len 32 l).1
theorem wds_mem {l x : List UInt8} (h : x ∈ wds l) : x ≠ [] ∧ x.length ≤ l.length := by
  unfold wds at h
  rw [List.mem_filter] at h
  exact ⟨by simpa using h.2, (cutL_len 32 l).2 x h.1⟩
/-- A sign that may be. -/
def okS (lines : Bool) (v : Int) : Bool := !(decide (v < 32) && (decide (v ≠ 10) || !lines) || decide (v = 127))
/-- Plain. -/
def pln (lines : Bool) (l : List UInt8) : Bool := vd l && (sg l).all (okS lines)

/-- A part: its kind, its words. -/
abbrev Pt := Int × List (List UInt8)
def isMk (x : List UInt8) : Bool := decide (x.take 2 = [61, 32] ∨ x.take 2 = [45, 32])
def addLast (P : List Pt) (ws : List (List UInt8)) : List Pt := P.dropLast ++ [((P.getLastD (0, [])).1, (P.getLastD (0, [])).2 ++ ws)]
def stepP (st : List Pt × Bool) (x : List UInt8) : Option (List Pt × Bool) :=
  if x = [45, 45, 45] then some (st.1 ++ [(4, [])], false)
  else if isMk x then (if (wds x).length < 2 then none else some (st.1 ++ [(if x.getD 0 0 = 45 then 3 else 2, (wds x).tail)], false))
  else if wds x = [] then some (st.1, false)
  else if st.2 then some (addLast st.1 (wds x), true)
  else some (st.1 ++ [(1, wds x)], true)
def linesP : List (List UInt8) → List Pt × Bool → Option (List Pt × Bool)
  | [], st => some st
  | x :: r, st => match stepP st x with
    | none => none
    | some st' => linesP r st'
def resP : Option (List Pt × Bool) → List Pt × Int
  | none => ([], 15)
  | some st => (st.1, 0)
def parseL (s : List UInt8) : List Pt × Int :=
  if 240 < s.length then ([], 16) else if pln true s = false then ([], 15) else resP (linesP (cutL 10 s) ([], false))

end Go.Proofs.YtkcnnkakpkdhkaaDoor
