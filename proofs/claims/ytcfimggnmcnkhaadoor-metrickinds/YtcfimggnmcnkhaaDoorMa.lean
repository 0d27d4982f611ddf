/-
  How wide a sign is: both sides.
-/
import Derived.Test.YtcfimggnmcnkhaaDoorUp
set_option linter.all false
namespace Go.Proofs.YtcfimggnmcnkhaaDoor
open Go.RowKit Go.Sort Go.Shelf
attribute [local go_sem] Oper.semAt_some

/-- How wide a sign is. -/
def nA : List Int := [105, 106, 108, 46, 44, 59, 58, 33, 124, 39]
def nB : List Int := [102, 116, 114, 40, 41, 91, 93, 45, 34]
def nC : List Int := [109, 119, 77, 87, 64]
def wid (v : Int) : Int := if v ∈ nA then 3 else if v ∈ nB then 4 else if v ∈ nC then 9 else if 65 ≤ v ∧ v ≤ 90 then 7 else if 33 ≤ v ∧ v ≤ 126 then 6 else 10
theorem wid_or (v : Int) : wid v = 3 ∨ wid v = 4 ∨ wid v = 6 ∨ wid v = 7 ∨ wid v = 9 ∨ wid v = 10 := by
  unfold wid
  split
  · omega
  split
  · omega
  split
  · omega
  split
  · omega
  split <;> omega
theorem wid_rest {v : Int} (h : (v ≠ 105 ∧ v ≠ 106 ∧ v ≠ 108 ∧ v ≠ 46 ∧ v ≠ 44 ∧ v ≠ 59 ∧ v ≠ 58 ∧ v ≠ 33 ∧ v ≠ 124 ∧ v ≠ 39 ∧ v ≠ 102 ∧ v ≠ 116 ∧ v ≠ 114 ∧ v ≠ 40 ∧ v ≠ 41 ∧ v ≠ 91 ∧ v ≠ 93 ∧ v ≠ 45 ∧ v ≠ 34 ∧ v ≠ 109 ∧ v ≠ 119 ∧ v ≠ 77 ∧ v ≠ 87 ∧ v ≠ 64)) : wid v = if 65 ≤ v ∧ v ≤ 90 then 7 else if 33 ≤ v ∧ v ≤ 126 then 6 else 10 := by
  unfold wid
  rw [if_neg (by simp only [nA, List.mem_cons, List.not_mem_nil, or_false]; omega), if_neg (by simp only [nB, List.mem_cons, List.not_mem_nil, or_false]; omega), if_neg (by simp only [nC, List.mem_cons, List.not_mem_nil, or_false]; omega)]
set_option maxRecDepth 100000 in
set_option maxHeartbeats 4000000 in
theorem sign7_in (w : World) (v : Int) (h : v ∈ nA ++ nB ++ nC) : Calls Tryd.prog 7 #[.int .i64 v] w fun e w' => e = .returned (.int .i64 (wid v)) ∧ w' = w := by
  simp only [nA, nB, nC, List.cons_append, List.nil_append, List.mem_cons, List.not_mem_nil, or_false] at h
  rcases h with rfl | rfl | rfl | rfl | rfl | rfl | rfl | rfl | rfl | rfl | rfl | rfl | rfl | rfl | rfl | rfl | rfl | rfl | rfl | rfl | rfl | rfl | rfl | rfl
  all_goals
    go_enter Tryd.func7, Tryd.ntmps7
    go_wp2
    go_ret
    exact ⟨rfl, rfl⟩
set_option maxRecDepth 100000 in
set_option maxHeartbeats 4000000 in
theorem sign7_out (w : World) (v : Int) (h : (v ≠ 105 ∧ v ≠ 106 ∧ v ≠ 108 ∧ v ≠ 46 ∧ v ≠ 44 ∧ v ≠ 59 ∧ v ≠ 58 ∧ v ≠ 33 ∧ v ≠ 124 ∧ v ≠ 39 ∧ v ≠ 102 ∧ v ≠ 116 ∧ v ≠ 114 ∧ v ≠ 40 ∧ v ≠ 41 ∧ v ≠ 91 ∧ v ≠ 93 ∧ v ≠ 45 ∧ v ≠ 34 ∧ v ≠ 109 ∧ v ≠ 119 ∧ v ≠ 77 ∧ v ≠ 87 ∧ v ≠ 64)) : Calls Tryd.prog 7 #[.int .i64 v] w fun e w' => e = .returned (.int .i64 (wid v)) ∧ w' = w := by
  have HW : Hid (wid v = _) := wid_rest h
  have n105 : (v == (105 : Int)) = false := by simp; omega
  have n106 : (v == (106 : Int)) = false := by simp; omega
  have n108 : (v == (108 : Int)) = false := by simp; omega
  have n46 : (v == (46 : Int)) = false := by simp; omega
  have n44 : (v == (44 : Int)) = false := by simp; omega
  have n59 : (v == (59 : Int)) = false := by simp; omega
  have n58 : (v == (58 : Int)) = false := by simp; omega
  have n33 : (v == (33 : Int)) = false := by simp; omega
  have n124 : (v == (124 : Int)) = false := by simp; omega
  have n39 : (v == (39 : Int)) = false := by simp; omega
  have n102 : (v == (102 : Int)) = false := by simp; omega
  have n116 : (v == (116 : Int)) = false := by simp; omega
  have n114 : (v == (114 : Int)) = false := by simp; omega
  have n40 : (v == (40 : Int)) = false := by simp; omega
  have n41 : (v == (41 : Int)) = false := by simp; omega
  have n91 : (v == (91 : Int)) = false := by simp; omega
  have n93 : (v == (93 : Int)) = false := by simp; omega
  have n45 : (v == (45 : Int)) = false := by simp; omega
  have n34 : (v == (34 : Int)) = false := by simp; omega
  have n109 : (v == (109 : Int)) = false := by simp; omega
  have n119 : (v == (119 : Int)) = false := by simp; omega
  have n77 : (v == (77 : Int)) = false := by simp; omega
  have n87 : (v == (87 : Int)) = false := by simp; omega
  have n64 : (v == (64 : Int)) = false := by simp; omega
  clear h
  have cs : v < 33 ∨ (33 ≤ v ∧ v < 65) ∨ (65 ≤ v ∧ v ≤ 90) ∨ (90 < v ∧ v ≤ 126) ∨ 126 < v := by omega
  rcases cs with c | ⟨c, d⟩ | ⟨c, d⟩ | ⟨c, d⟩ | c
  · have HR : Hid (wid v = 10) := by show _ = _; rw [HW.out, if_neg (by omega), if_neg (by omega)]
    have f1 : ¬ (65 : Int) ≤ v := by omega
    have f2 : ¬ (33 : Int) ≤ v := by omega
    clear c HW
    go_enter Tryd.func7, Tryd.ntmps7
    go_wp2
    go_ret
    exact ⟨by rw [HR.out]; rfl, rfl⟩
  · have HR : Hid (wid v = 6) := by show _ = _; rw [HW.out, if_neg (by omega), if_pos (by omega)]
    have f1 : ¬ (65 : Int) ≤ v := by omega
    have f3 : v ≤ (126 : Int) := by omega
    clear d HW
    go_enter Tryd.func7, Tryd.ntmps7
    go_wp2
    go_ret
    exact ⟨by rw [HR.out]; rfl, rfl⟩
  · have HR : Hid (wid v = 7) := by show _ = _; rw [HW.out, if_pos (by omega)]
    clear HW
    go_enter Tryd.func7, Tryd.ntmps7
    go_wp2
    go_ret
    exact ⟨by rw [HR.out]; rfl, rfl⟩
  · have HR : Hid (wid v = 6) := by show _ = _; rw [HW.out, if_neg (by omega), if_pos (by omega)]
    have f1 : (65 : Int) ≤ v := by omega
    have f3 : ¬ v ≤ (90 : Int) := by omega
    have f2 : (33 : Int) ≤ v := by omega
    clear c HW
    go_enter Tryd.func7, Tryd.ntmps7
    go_wp2
    go_ret
    exact ⟨by rw [HR.out]; rfl, rfl⟩
  · have HR : Hid (wid v = 10) := by show _ = _; rw [HW.out, if_neg (by omega), if_neg (by omega)]
    have f1 : (65 : Int) ≤ v := by omega
    have f2 : (33 : Int) ≤ v := by omega
    have f3 : ¬ v ≤ (90 : Int) := by omega
    have f4 : ¬ v ≤ (126 : Int) := by omega
    clear c HW
    go_enter Tryd.func7, Tryd.ntmps7
    go_wp2
    go_ret
    exact ⟨by rw [HR.out]; rfl, rfl⟩

theorem sign7 (w : World) (v : Int) : Calls Tryd.prog 7 #[.int .i64 v] w fun e w' => e = .returned (.int .i64 (wid v)) ∧ w' = w := by
  by_cases h : v ∈ nA ++ nB ++ nC
  · exact sign7_in w v h
  · refine sign7_out w v ?_
    simp only [nA, nB, nC, List.cons_append, List.nil_append, List.mem_cons, List.not_mem_nil, or_false, not_or] at h
    exact h
/-- Is v one of the bytes of s? -/
def inS (v : Int) (s : ByteArray) : Bool := decide (∃ i, i < s.size ∧ ((s.data.toList.getD i 0).toNat : Int) = v)
set_option maxRecDepth 100000 in
set_option maxHeartbeats 1000000 in
theorem in13 (w : World) (v : Int) (s : ByteArray) (hs : s.size ≤ 1000) : Calls Tryd.prog 13 #[.int .i64 v, .string s] w fun e w' => e = .returned (.bool (inS v s)) ∧ w' = w := by
  obtain ⟨R, hR⟩ : ∃ R, inS v s = R := ⟨_, rfl⟩
  have HR : Hid (inS v s = R) := hR
  rw [hR]
  clear hR
  go_enter Tryd.func13, Tryd.ntmps13
  go_wp2
  go_loopw [5] (fun t wr => ∃ i : Nat, i ≤ s.size ∧ t = .int .i64 (i : Int) ∧ (∀ j, j < i → ((s.data.toList.getD j 0).toNat : Int) ≠ v) ∧ wr = w) (fun t _ => s.size - (intOf t).toNat)
  case atStart => exact ⟨0, by omega, rfl, fun j h => by omega, rfl⟩
  case round =>
    obtain ⟨i, hi, rfl, hno, rfl⟩ := hrel
    have Hno : Hid (∀ j, j < i → ((s.data.toList.getD j 0).toNat : Int) ≠ v) := hno
    clear hno
    by_cases hlt : i < s.size
    · have hlt' : (i : Int) < (s.size : Int) := by omega
      have hi0 : (0 : Int) ≤ (i : Int) := by omega
      obtain ⟨y, hy⟩ : ∃ y : UInt8, s[i]'hlt = y := ⟨_, rfl⟩
      have Hy : Hid (s.data.toList.getD i 0 = y) := by show _ = _; rw [← s_get s i hlt, hy]
      have hy0 : (y.toNat : Int) < 256 := by have := y.toNat_lt; omega
      by_cases c : (y.toNat : Int) = v
      · have hc : ((y.toNat : Int) == v) = true := by simp [c]
        have HT : Hid (R = true) := by show _ = _; rw [← HR.out]; exact decide_eq_true ⟨i, hlt, by rw [Hy.out]; exact c⟩
        have HN : Hid ((y.toNat : Int) = v) := c
        clear c
        go_wp2
        go_ret
        exact ⟨by rw [HT.out]; rfl, rfl⟩
      · have hc : ((y.toNat : Int) == v) = false := by simp [c]
        have HN : Hid ((y.toNat : Int) ≠ v) := c
        clear c
        go_wp2
        refine ⟨⟨i + 1, by omega, rfl, fun j hj => ?_, by trivial⟩, by simp [intOf]; omega⟩
        by_cases e : j = i
        · subst e; rw [Hy.out]; exact HN.out
        · exact Hno.out j (by omega)
    · obtain rfl : i = s.size := by omega
      have hlt' : ¬ (s.size : Int) < (s.size : Int) := by omega
      have HT : Hid (R = false) := by show _ = _; rw [← HR.out]; exact decide_eq_false (fun ⟨j, hj, e⟩ => Hno.out j hj e)
      clear hlt hi
      go_wp2
      go_ret
      exact ⟨by rw [HT.out]; rfl, rfl⟩
set_option maxRecDepth 100000 in
theorem in_A (v : Int) : inS v ⟨#[105, 106, 108, 46, 44, 59, 58, 33, 124, 39]⟩ = decide (v ∈ nA) := by
  unfold inS nA
  refine decide_eq_decide.2 ⟨?_, ?_⟩
  · rintro ⟨i, hi, rfl⟩
    have hi' : i < 10 := hi
    have : i = 0 ∨ i = 1 ∨ i = 2 ∨ i = 3 ∨ i = 4 ∨ i = 5 ∨ i = 6 ∨ i = 7 ∨ i = 8 ∨ i = 9 := by omega
    rcases this with rfl | rfl | rfl | rfl | rfl | rfl | rfl | rfl | rfl | rfl <;> decide
  · intro h
    simp only [List.mem_cons, List.not_mem_nil, or_false] at h
    rcases h with rfl | rfl | rfl | rfl | rfl | rfl | rfl | rfl | rfl | rfl
    · exact ⟨0, by decide, by rfl⟩
    · exact ⟨1, by decide, by rfl⟩
    · exact ⟨2, by decide, by rfl⟩
    · exact ⟨3, by decide, by rfl⟩
    · exact ⟨4, by decide, by rfl⟩
    · exact ⟨5, by decide, by rfl⟩
    · exact ⟨6, by decide, by rfl⟩
    · exact ⟨7, by decide, by rfl⟩
    · exact ⟨8, by decide, by rfl⟩
    · exact ⟨9, by decide, by rfl⟩
theorem in13_A (w : World) (v : Int) : Calls Tryd.prog 13 #[.int .i64 v, .string ⟨#[105, 106, 108, 46, 44, 59, 58, 33, 124, 39]⟩] w fun e w' => e = .returned (.bool (decide (v ∈ nA))) ∧ w' = w := by
  have h := in13 w v ⟨#[105, 106, 108, 46, 44, 59, 58, 33, 124, 39]⟩ (by show 10 ≤ 1000; omega)
  rw [in_A] at h
  exact h
set_option maxRecDepth 100000 in
theorem in_B (v : Int) : inS v ⟨#[102, 116, 114, 40, 41, 91, 93, 45, 34]⟩ = decide (v ∈ nB) := by
  unfold inS nB
  refine decide_eq_decide.2 ⟨?_, ?_⟩
  · rintro ⟨i, hi, rfl⟩
    have hi' : i < 9 := hi
    have : i = 0 ∨ i = 1 ∨ i = 2 ∨ i = 3 ∨ i = 4 ∨ i = 5 ∨ i = 6 ∨ i = 7 ∨ i = 8 := by omega
    rcases this with rfl | rfl | rfl | rfl | rfl | rfl | rfl | rfl | rfl <;> decide
  · intro h
    simp only [List.mem_cons, List.not_mem_nil, or_false] at h
    rcases h with rfl | rfl | rfl | rfl | rfl | rfl | rfl | rfl | rfl
    · exact ⟨0, by decide, by rfl⟩
    · exact ⟨1, by decide, by rfl⟩
    · exact ⟨2, by decide, by rfl⟩
    · exact ⟨3, by decide, by rfl⟩
    · exact ⟨4, by decide, by rfl⟩
    · exact ⟨5, by decide, by rfl⟩
    · exact ⟨6, by decide, by rfl⟩
    · exact ⟨7, by decide, by rfl⟩
    · exact ⟨8, by decide, by rfl⟩
theorem in13_B (w : World) (v : Int) : Calls Tryd.prog 13 #[.int .i64 v, .string ⟨#[102, 116, 114, 40, 41, 91, 93, 45, 34]⟩] w fun e w' => e = .returned (.bool (decide (v ∈ nB))) ∧ w' = w := by
  have h := in13 w v ⟨#[102, 116, 114, 40, 41, 91, 93, 45, 34]⟩ (by show 9 ≤ 1000; omega)
  rw [in_B] at h
  exact h
set_option maxRecDepth 100000 in
theorem in_C (v : Int) : inS v ⟨#[109, 119, 77, 87, 64]⟩ = decide (v ∈ nC) := by
  unfold inS nC
  refine decide_eq_decide.2 ⟨?_, ?_⟩
  · rintro ⟨i, hi, rfl⟩
    have hi' : i < 5 := hi
    have : i = 0 ∨ i = 1 ∨ i = 2 ∨ i = 3 ∨ i = 4 := by omega
    rcases this with rfl | rfl | rfl | rfl | rfl <;> decide
  · intro h
    simp only [List.mem_cons, List.not_mem_nil, or_false] at h
    rcases h with rfl | rfl | rfl | rfl | rfl
    · exact ⟨0, by decide, by rfl⟩
    · exact ⟨1, by decide, by rfl⟩
    · exact ⟨2, by decide, by rfl⟩
    · exact ⟨3, by decide, by rfl⟩
    · exact ⟨4, by decide, by rfl⟩
theorem in13_C (w : World) (v : Int) : Calls Tryd.prog 13 #[.int .i64 v, .string ⟨#[109, 119, 77, 87, 64]⟩] w fun e w' => e = .returned (.bool (decide (v ∈ nC))) ∧ w' = w := by
  have h := in13 w v ⟨#[109, 119, 77, 87, 64]⟩ (by show 5 ≤ 1000; omega)
  rw [in_C] at h
  exact h
set_option maxRecDepth 100000 in
set_option maxHeartbeats 2000000 in
theorem rsign8 (w : World) (v : Int) : Calls Tryd.prog 8 #[.int .i64 v] w fun e w' => e = .returned (.int .i64 (wid v)) ∧ w' = w := by
  have qa := fun W => in13_A W v
  have qb := fun W => in13_B W v
  have qc := fun W => in13_C W v
  by_cases a : v ∈ nA
  · have HR : Hid (wid v = 3) := if_pos a
    rw [decide_eq_true a] at qa
    clear a
    go_enter Tryd.func8, Tryd.ntmps8
    go_wp2_with (go_at_call 13; refine (qa _).mono ?_; rintro e w' ⟨rfl, rfl⟩)
    go_ret
    exact ⟨by rw [HR.out]; rfl, rfl⟩
  rw [decide_eq_false a] at qa
  by_cases b : v ∈ nB
  · have HR : Hid (wid v = 4) := by show _ = _; unfold wid; rw [if_neg a, if_pos b]
    rw [decide_eq_true b] at qb
    clear a b
    go_enter Tryd.func8, Tryd.ntmps8
    go_wp2_with (first
      | (go_at_call 13; have := Q1; refine (qb _).mono ?_; rintro e w' ⟨rfl, rfl⟩; have Q2 : Hid True := trivial)
      | (go_at_call 13; refine (qa _).mono ?_; rintro e w' ⟨rfl, rfl⟩; have Q1 : Hid True := trivial))
    go_ret
    exact ⟨by rw [HR.out]; rfl, rfl⟩
  rw [decide_eq_false b] at qb
  by_cases c : v ∈ nC
  · have HR : Hid (wid v = 9) := by show _ = _; unfold wid; rw [if_neg a, if_neg b, if_pos c]
    rw [decide_eq_true c] at qc
    clear a b c
    go_enter Tryd.func8, Tryd.ntmps8
    go_wp2_with (first
      | (go_at_call 13; have := Q2; refine (qc _).mono ?_; rintro e w' ⟨rfl, rfl⟩)
      | (go_at_call 13; have := Q1; refine (qb _).mono ?_; rintro e w' ⟨rfl, rfl⟩; have Q2 : Hid True := trivial)
      | (go_at_call 13; refine (qa _).mono ?_; rintro e w' ⟨rfl, rfl⟩; have Q1 : Hid True := trivial))
    go_ret
    exact ⟨by rw [HR.out]; rfl, rfl⟩
  rw [decide_eq_false c] at qc
  have HW : Hid (wid v = if 65 ≤ v ∧ v ≤ 90 then 7 else if 33 ≤ v ∧ v ≤ 126 then 6 else 10) := by show _ = _; unfold wid; rw [if_neg a, if_neg b, if_neg c]
  clear a b c
  have cs : v < 33 ∨ (33 ≤ v ∧ v < 65) ∨ (65 ≤ v ∧ v ≤ 90) ∨ (90 < v ∧ v ≤ 126) ∨ 126 < v := by omega
  rcases cs with c | ⟨c, d⟩ | ⟨c, d⟩ | ⟨c, d⟩ | c
  · have HR : Hid (wid v = 10) := by show _ = _; rw [HW.out, if_neg (by omega), if_neg (by omega)]
    have f0 : ¬ (65 : Int) ≤ v := by omega
    have f1 : ¬ (33 : Int) ≤ v := by omega
    clear HW
    go_enter Tryd.func8, Tryd.ntmps8
    go_wp2_with (first
      | (go_at_call 13; have := Q2; refine (qc _).mono ?_; rintro e w' ⟨rfl, rfl⟩)
      | (go_at_call 13; have := Q1; refine (qb _).mono ?_; rintro e w' ⟨rfl, rfl⟩; have Q2 : Hid True := trivial)
      | (go_at_call 13; refine (qa _).mono ?_; rintro e w' ⟨rfl, rfl⟩; have Q1 : Hid True := trivial))
    go_ret
    exact ⟨by rw [HR.out]; rfl, rfl⟩
  · have HR : Hid (wid v = 6) := by show _ = _; rw [HW.out, if_neg (by omega), if_pos (by omega)]
    have f0 : ¬ (65 : Int) ≤ v := by omega
    have f1 : v ≤ (126 : Int) := by omega
    clear HW
    go_enter Tryd.func8, Tryd.ntmps8
    go_wp2_with (first
      | (go_at_call 13; have := Q2; refine (qc _).mono ?_; rintro e w' ⟨rfl, rfl⟩)
      | (go_at_call 13; have := Q1; refine (qb _).mono ?_; rintro e w' ⟨rfl, rfl⟩; have Q2 : Hid True := trivial)
      | (go_at_call 13; refine (qa _).mono ?_; rintro e w' ⟨rfl, rfl⟩; have Q1 : Hid True := trivial))
    go_ret
    exact ⟨by rw [HR.out]; rfl, rfl⟩
  · have HR : Hid (wid v = 7) := by show _ = _; rw [HW.out, if_pos (by omega)]
    clear HW
    go_enter Tryd.func8, Tryd.ntmps8
    go_wp2_with (first
      | (go_at_call 13; have := Q2; refine (qc _).mono ?_; rintro e w' ⟨rfl, rfl⟩)
      | (go_at_call 13; have := Q1; refine (qb _).mono ?_; rintro e w' ⟨rfl, rfl⟩; have Q2 : Hid True := trivial)
      | (go_at_call 13; refine (qa _).mono ?_; rintro e w' ⟨rfl, rfl⟩; have Q1 : Hid True := trivial))
    go_ret
    exact ⟨by rw [HR.out]; rfl, rfl⟩
  · have HR : Hid (wid v = 6) := by show _ = _; rw [HW.out, if_neg (by omega), if_pos (by omega)]
    have f0 : (65 : Int) ≤ v := by omega
    have f1 : (33 : Int) ≤ v := by omega
    have f2 : ¬ v ≤ (90 : Int) := by omega
    clear HW
    go_enter Tryd.func8, Tryd.ntmps8
    go_wp2_with (first
      | (go_at_call 13; have := Q2; refine (qc _).mono ?_; rintro e w' ⟨rfl, rfl⟩)
      | (go_at_call 13; have := Q1; refine (qb _).mono ?_; rintro e w' ⟨rfl, rfl⟩; have Q2 : Hid True := trivial)
      | (go_at_call 13; refine (qa _).mono ?_; rintro e w' ⟨rfl, rfl⟩; have Q1 : Hid True := trivial))
    go_ret
    exact ⟨by rw [HR.out]; rfl, rfl⟩
  · have HR : Hid (wid v = 10) := by show _ = _; rw [HW.out, if_neg (by omega), if_neg (by omega)]
    have f0 : (65 : Int) ≤ v := by omega
    have f1 : (33 : Int) ≤ v := by omega
    have f2 : ¬ v ≤ (90 : Int) := by omega
    have f3 : ¬ v ≤ (126 : Int) := by omega
    clear HW
    go_enter Tryd.func8, Tryd.ntmps8
    go_wp2_with (first
      | (go_at_call 13; have := Q2; refine (qc _).mono ?_; rintro e w' ⟨rfl, rfl⟩)
      | (go_at_call 13; have := Q1; refine (qb _).mono ?_; rintro e w' ⟨rfl, rfl⟩; have Q2 : Hid True := trivial)
      | (go_at_call 13; refine (qa _).mono ?_; rintro e w' ⟨rfl, rfl⟩; have Q1 : Hid True := trivial))
    go_ret
    exact ⟨by rw [HR.out]; rfl, rfl⟩

end Go.Proofs.YtcfimggnmcnkhaaDoor
