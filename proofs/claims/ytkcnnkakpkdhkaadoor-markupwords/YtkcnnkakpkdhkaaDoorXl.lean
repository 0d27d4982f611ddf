/-
  A line read as a part; parts whose last one may grow.
-/
import Derived.Test.YtkcnnkakpkdhkaaDoorXk
set_option linter.all false
set_option maxRecDepth 100000
namespace Go.Proofs.YtkcnnkakpkdhkaaDoor
open Go.RowKit Go.Sort Go.Shelf
attribute [local go_sem] Oper.semAt_some

theorem mk_knd (x : List UInt8) : (mk (knd x)).length ≤ x.length := by
  unfold knd
  by_cases h1 : x = [45, 45, 45]
  · rw [if_pos h1, h1]; decide
  · rw [if_neg h1]
    by_cases h2 : [61, 32].isPrefixOf x = true
    · rw [if_pos h2]
      rw [List.isPrefixOf_iff_prefix] at h2
      exact h2.length_le
    · rw [if_neg h2]
      by_cases h3 : [45, 32].isPrefixOf x = true
      · rw [if_pos h3]
        rw [List.isPrefixOf_iff_prefix] at h3
        exact h3.length_le
      · rw [if_neg h3]; exact Nat.zero_le _
theorem results_pr {fn : Func} {p : Tmp} (h : fn.results = #[.cell p 41]) (tmps : Array Value) (w : World) (g : Nat) (z : Int × Value) (hp : tmps.getD p undef = .pointer (some ⟨g, 0, none⟩)) (hg : PrAt w g z) :
    (results fn tmps).run Tryd.prog w = .ok (.agg #[.int .i64 z.1, z.2]) w := by
  exact results_cell_row h tmps w g 41 #[.int .i64 z.1, z.2] (0, 0) _ hp hg.row Tryd.underlying41 rfl size41

set_option maxHeartbeats 4000000 in
theorem read26 (w : World) (s : ByteArray) (hs : s.size ≤ 90000) :
    Calls Tryd.prog 26 #[.string s] w fun e w' => ∃ v, e = .returned (.agg #[.int .i64 (rdP s.data.toList).1, v]) ∧ OwnT w' w.heap.size v (rdP s.data.toList).2 ∧ Keeps (fun _ => False) w w' := by
  obtain ⟨l, hl⟩ : ∃ l, s.data.toList = l := ⟨_, rfl⟩
  have hk := fun W => kind40 W s
  rw [hl] at hk ⊢
  obtain ⟨k, hkk⟩ : ∃ k, knd l = k := ⟨_, rfl⟩
  rw [hkk] at hk
  have hm := fun W => mark41 W k
  obtain ⟨M, hM⟩ : ∃ M, bs (mk k) = M := ⟨_, rfl⟩
  rw [hM] at hm
  have hqs : M.size ≤ s.size := by
    have := mk_knd l
    rw [hkk] at this
    rw [← hM, bs_size, ← sz_len, hl]; exact this
  have hw := fun W => pwords19 W (s.extract M.size s.size) (by rw [ext_sz]; omega)
  rw [ext_drop, hl] at hw
  obtain ⟨ws, hws⟩ : ∃ ws, wds (l.drop M.size) = ws := ⟨_, rfl⟩
  rw [hws] at hw
  have HR : Hid (rdP l = (k, ws)) := by
    show _ = _
    unfold rdP
    rw [hkk, ← hws, ← hM, bs_size]
  rw [HR.out]
  simp only
  have hq0 : (0 : Int) ≤ (M.size : Int) := by omega
  have hq1 : (M.size : Int) ≤ (s.size : Int) := by omega
  clear hl hkk hM hws hqs
  go_enter Tryd.func26, Tryd.ntmps26
  go_wp2_with (first
    | (have hh := y5; clear y5; refine wpList_store41 rfl _ _ rfl g rfl k a5 n5 c5 rfl _ r4 ?_; intro w6 r6 k6)
    | (have hh := y4; clear y4; refine wpList_bP rfl _ _ rfl k a5 n5 c5 rfl rfl ?_; have y5 : Hid True := trivial)
    | (have hh := y3; clear y3; go_at_call 19; refine (hw _).mono ?_; rintro e w4 ⟨⟨v4, rfl, o4⟩, k4⟩; have r4 := (⟨k4.row r1.row (fun h => h)⟩ : PrAt w4 g _); obtain ⟨a5, n5, c5, rfl⟩ := o4.shape; have y4 : Hid True := trivial)
    | (have hh := y2; clear y2; go_at_call 41; refine (hm _).mono ?_; rintro e w' ⟨rfl, rfl⟩; have y3 : Hid True := trivial)
    | (have hh := y1; clear y1; go_at_call 40; refine (hk _).mono ?_; rintro e w' ⟨rfl, rfl⟩; have y2 : Hid True := trivial)
    | (refine wpList_alloc41 rfl rfl ?_; intro g w1 r1 z1 k1; have y1 : Hid True := trivial))
  refine bodyPost_ret (results_pr rfl _ _ g _ rfl r6) rfl ?_
  have lt := lt_of_row r1.row
  refine ⟨_, rfl, ?_, (k1.trans k4).trans' k6 (fun i e => .inr (by omega))⟩
  exact (o4.keeps k6 (fun i _ e => by omega)).down (by have := k1.size; omega)

end Go.Proofs.YtkcnnkakpkdhkaaDoor
