/-
  Good of the program.
-/
import Derived.Test.YtdgnjpdjohibeaaDoorKa
import Derived.BigGuardPart
set_option linter.all false
set_option maxRecDepth 100000
namespace Go.Proofs.YtdgnjpdjohibeaaDoor
open Go.RowKit Go.Sort Go.Shelf

/-- May the superblock be? -/
def Su.good (s : Su) : Bool := decide (1 ≤ s.gen ∧ s.gen ≤ 1073741823 ∧ 16 ≤ s.blocks ∧ s.blocks ≤ 128 ∧ (s.root = 0 ∨ 2 ≤ s.root ∧ s.root < s.blocks)) && gu s.used s.blocks

theorem rowTy26 : RowTy 26 16 := ⟨⟨_, Tryd.underlying26, rfl⟩, by kernel_rfl⟩
theorem rowTy24 : RowTy 24 32 := rowTy52

/-- The same laws with the operation said first: an arm that does not fit fails at once. -/
theorem loadM_at {ops : Array Oper} {rest : List Oper} {o : Oper} {a : Act} {w : World} {Q : Exit → Act → World → Prop} (t : TypeId) (x : Operand) (ho : o.op = .load t x) (hw : Region.wanted o (yielded ops a.tmps) = true) (b of : Nat) (hx : a.eval x = .pointer (some ⟨b, of, none⟩)) (L : List B) (hr : w.rangeAt b of (brow L).toList) (hs : RowTy t L.length)
    (h : wpList Tryd.prog ops Q rest (a.put o.dst (.agg (brow L))) w) : wpList Tryd.prog ops Q (o :: rest) a w := wpList_loadM hw t x ho b of hx L hr hs h
theorem boxS_at {ops : Array Oper} {rest : List Oper} {o : Oper} {a : Act} {w : World} {Q : Exit → Act → World → Prop} (x : Operand) (ho : o.op = .box 28 x) (hgd : o.guard = none) (s : Su) (hx : a.eval x = .agg s.cells)
    (h : ∀ g w', SuAt w' g s → w.heap.size ≤ g → Keeps (fun _ => False) w w' → wpList Tryd.prog ops Q rest (a.put o.dst (.pointer (some ⟨g, 0, none⟩))) w') : wpList Tryd.prog ops Q (o :: rest) a w := wpList_boxR hgd 28 x ho s.cells hx h

theorem list16 {L : List B} (h : L.length = 16) : ∃ c0 c1 c2 c3 c4 c5 c6 c7 c8 c9 c10 c11 c12 c13 c14 c15, L = [c0, c1, c2, c3, c4, c5, c6, c7, c8, c9, c10, c11, c12, c13, c14, c15] := by
  rcases L with _ | ⟨c0, L⟩; · cases h
  rcases L with _ | ⟨c1, L⟩; · cases h
  rcases L with _ | ⟨c2, L⟩; · cases h
  rcases L with _ | ⟨c3, L⟩; · cases h
  rcases L with _ | ⟨c4, L⟩; · cases h
  rcases L with _ | ⟨c5, L⟩; · cases h
  rcases L with _ | ⟨c6, L⟩; · cases h
  rcases L with _ | ⟨c7, L⟩; · cases h
  rcases L with _ | ⟨c8, L⟩; · cases h
  rcases L with _ | ⟨c9, L⟩; · cases h
  rcases L with _ | ⟨c10, L⟩; · cases h
  rcases L with _ | ⟨c11, L⟩; · cases h
  rcases L with _ | ⟨c12, L⟩; · cases h
  rcases L with _ | ⟨c13, L⟩; · cases h
  rcases L with _ | ⟨c14, L⟩; · cases h
  rcases L with _ | ⟨c15, L⟩; · cases h
  rcases L with _ | ⟨c16, L⟩
  · exact ⟨c0, c1, c2, c3, c4, c5, c6, c7, c8, c9, c10, c11, c12, c13, c14, c15, rfl⟩
  · simp at h
theorem SuAt.ucell {w : World} {g : Nat} {s : Su} (h : SuAt w g s) (ho : s.Ok) (j : Nat) (hj : j < 16) : w.cell? ⟨g, 35 + j, none⟩ = some (.int .u8 (nb (s.used.getD j 0))) := by
  have hl := ho.used
  refine h.used ho j _ ?_
  rw [Array.getElem?_toList, brow_get, List.getElem?_eq_getElem (by omega), getD_lt (by omega)]
  rfl

theorem good36_at {L : List B} {k : Int} {v : Bool} (h : gu L k = v) {M : List B} (hM : L = M) (w : World) (hL : L.length = 16) (hk : -9223372036854775808 ≤ k ∧ k ≤ 9223372036854775807) :
    Calls Tryd.prog 36 #[.agg (brow M), .int .i64 k] w fun e w' => e = .returned (.bool v) ∧ Keeps (fun _ => False) w w' := by
  rw [← hM]; exact goodUsed36 w L hL k hk h

set_option maxHeartbeats 4000000 in
theorem good14 (w : World) (s : Su) (hs : s.Ok) {v : Bool} (hv : s.good = v) :
    Calls Tryd.prog 14 #[.agg s.cells] w fun e w' => e = .returned (.bool v) ∧ Keeps (fun _ => False) w w' := by
  have hg := hs.gen
  have hb := hs.blocks
  have hr := hs.root
  have lu := hs.used
  have tu : Hid (RowTy 26 s.used.length) := by show RowTy _ _; rw [lu]; exact rowTy26
  obtain ⟨u, hu⟩ : ∃ u, gu s.used s.blocks = u := ⟨_, rfl⟩
  have HU : Hid (gu s.used s.blocks = u) := hu
  have HV : Hid ((decide (1 ≤ s.gen ∧ s.gen ≤ 1073741823 ∧ 16 ≤ s.blocks ∧ s.blocks ≤ 128 ∧ (s.root = 0 ∨ 2 ≤ s.root ∧ s.root < s.blocks)) && u) = v) := by show _ = _; rw [← hu]; exact hv
  clear hu hv
  have Q0 : Hid True := trivial
  obtain ⟨c0, c1, c2, c3, c4, c5, c6, c7, c8, c9, c10, c11, c12, c13, c14, c15, hU⟩ := list16 lu
  have HL : Hid (s.used = [c0, c1, c2, c3, c4, c5, c6, c7, c8, c9, c10, c11, c12, c13, c14, c15]) := hU
  clear hU
  go_enter Tryd.func14, Tryd.ntmps14
  by_cases h1 : (1 : Int) ≤ (s.gen : Int)
  · by_cases h2 : (s.gen : Int) ≤ 1073741823
    · by_cases h3 : 16 ≤ s.blocks
      · by_cases h4 : s.blocks ≤ 128
        · by_cases h5 : s.root = 0
          · go_wp2_with (first
              | (have := Q0; refine boxS_at (.tmp 0) rfl rfl s rfl ?_; intro g2 w1 b1 z1 k1; obtain ⟨p0, p1, p2⟩ := SuAt.parts b1; have u0 : w1.cell? ⟨g2, 35, none⟩ = some (.int .u8 (nb c0)) := (by have := SuAt.ucell b1 hs 0 (by omega); rw [HL.out] at this; exact this); have u1 : w1.cell? ⟨g2, 36, none⟩ = some (.int .u8 (nb c1)) := (by have := SuAt.ucell b1 hs 1 (by omega); rw [HL.out] at this; exact this); have u2 : w1.cell? ⟨g2, 37, none⟩ = some (.int .u8 (nb c2)) := (by have := SuAt.ucell b1 hs 2 (by omega); rw [HL.out] at this; exact this); have u3 : w1.cell? ⟨g2, 38, none⟩ = some (.int .u8 (nb c3)) := (by have := SuAt.ucell b1 hs 3 (by omega); rw [HL.out] at this; exact this); have u4 : w1.cell? ⟨g2, 39, none⟩ = some (.int .u8 (nb c4)) := (by have := SuAt.ucell b1 hs 4 (by omega); rw [HL.out] at this; exact this); have u5 : w1.cell? ⟨g2, 40, none⟩ = some (.int .u8 (nb c5)) := (by have := SuAt.ucell b1 hs 5 (by omega); rw [HL.out] at this; exact this); have u6 : w1.cell? ⟨g2, 41, none⟩ = some (.int .u8 (nb c6)) := (by have := SuAt.ucell b1 hs 6 (by omega); rw [HL.out] at this; exact this); have u7 : w1.cell? ⟨g2, 42, none⟩ = some (.int .u8 (nb c7)) := (by have := SuAt.ucell b1 hs 7 (by omega); rw [HL.out] at this; exact this); have u8 : w1.cell? ⟨g2, 43, none⟩ = some (.int .u8 (nb c8)) := (by have := SuAt.ucell b1 hs 8 (by omega); rw [HL.out] at this; exact this); have u9 : w1.cell? ⟨g2, 44, none⟩ = some (.int .u8 (nb c9)) := (by have := SuAt.ucell b1 hs 9 (by omega); rw [HL.out] at this; exact this); have u10 : w1.cell? ⟨g2, 45, none⟩ = some (.int .u8 (nb c10)) := (by have := SuAt.ucell b1 hs 10 (by omega); rw [HL.out] at this; exact this); have u11 : w1.cell? ⟨g2, 46, none⟩ = some (.int .u8 (nb c11)) := (by have := SuAt.ucell b1 hs 11 (by omega); rw [HL.out] at this; exact this); have u12 : w1.cell? ⟨g2, 47, none⟩ = some (.int .u8 (nb c12)) := (by have := SuAt.ucell b1 hs 12 (by omega); rw [HL.out] at this; exact this); have u13 : w1.cell? ⟨g2, 48, none⟩ = some (.int .u8 (nb c13)) := (by have := SuAt.ucell b1 hs 13 (by omega); rw [HL.out] at this; exact this); have u14 : w1.cell? ⟨g2, 49, none⟩ = some (.int .u8 (nb c14)) := (by have := SuAt.ucell b1 hs 14 (by omega); rw [HL.out] at this; exact this); have u15 : w1.cell? ⟨g2, 50, none⟩ = some (.int .u8 (nb c15)) := (by have := SuAt.ucell b1 hs 15 (by omega); rw [HL.out] at this; exact this); clear Q0)
              | (go_at_call 36; refine (good36_at HU.out HL.out _ lu hb).mono ?_; rintro e w3 ⟨rfl, k3⟩))
            go_ret
            exact ⟨by rw [← HV.out, decide_eq_true (by omega)]; rfl, k1.trans k3⟩
          · by_cases h6 : 2 ≤ s.root
            · by_cases h7 : s.root < s.blocks
              · go_wp2_with (first
                  | (have := Q0; refine boxS_at (.tmp 0) rfl rfl s rfl ?_; intro g2 w1 b1 z1 k1; obtain ⟨p0, p1, p2⟩ := SuAt.parts b1; have u0 : w1.cell? ⟨g2, 35, none⟩ = some (.int .u8 (nb c0)) := (by have := SuAt.ucell b1 hs 0 (by omega); rw [HL.out] at this; exact this); have u1 : w1.cell? ⟨g2, 36, none⟩ = some (.int .u8 (nb c1)) := (by have := SuAt.ucell b1 hs 1 (by omega); rw [HL.out] at this; exact this); have u2 : w1.cell? ⟨g2, 37, none⟩ = some (.int .u8 (nb c2)) := (by have := SuAt.ucell b1 hs 2 (by omega); rw [HL.out] at this; exact this); have u3 : w1.cell? ⟨g2, 38, none⟩ = some (.int .u8 (nb c3)) := (by have := SuAt.ucell b1 hs 3 (by omega); rw [HL.out] at this; exact this); have u4 : w1.cell? ⟨g2, 39, none⟩ = some (.int .u8 (nb c4)) := (by have := SuAt.ucell b1 hs 4 (by omega); rw [HL.out] at this; exact this); have u5 : w1.cell? ⟨g2, 40, none⟩ = some (.int .u8 (nb c5)) := (by have := SuAt.ucell b1 hs 5 (by omega); rw [HL.out] at this; exact this); have u6 : w1.cell? ⟨g2, 41, none⟩ = some (.int .u8 (nb c6)) := (by have := SuAt.ucell b1 hs 6 (by omega); rw [HL.out] at this; exact this); have u7 : w1.cell? ⟨g2, 42, none⟩ = some (.int .u8 (nb c7)) := (by have := SuAt.ucell b1 hs 7 (by omega); rw [HL.out] at this; exact this); have u8 : w1.cell? ⟨g2, 43, none⟩ = some (.int .u8 (nb c8)) := (by have := SuAt.ucell b1 hs 8 (by omega); rw [HL.out] at this; exact this); have u9 : w1.cell? ⟨g2, 44, none⟩ = some (.int .u8 (nb c9)) := (by have := SuAt.ucell b1 hs 9 (by omega); rw [HL.out] at this; exact this); have u10 : w1.cell? ⟨g2, 45, none⟩ = some (.int .u8 (nb c10)) := (by have := SuAt.ucell b1 hs 10 (by omega); rw [HL.out] at this; exact this); have u11 : w1.cell? ⟨g2, 46, none⟩ = some (.int .u8 (nb c11)) := (by have := SuAt.ucell b1 hs 11 (by omega); rw [HL.out] at this; exact this); have u12 : w1.cell? ⟨g2, 47, none⟩ = some (.int .u8 (nb c12)) := (by have := SuAt.ucell b1 hs 12 (by omega); rw [HL.out] at this; exact this); have u13 : w1.cell? ⟨g2, 48, none⟩ = some (.int .u8 (nb c13)) := (by have := SuAt.ucell b1 hs 13 (by omega); rw [HL.out] at this; exact this); have u14 : w1.cell? ⟨g2, 49, none⟩ = some (.int .u8 (nb c14)) := (by have := SuAt.ucell b1 hs 14 (by omega); rw [HL.out] at this; exact this); have u15 : w1.cell? ⟨g2, 50, none⟩ = some (.int .u8 (nb c15)) := (by have := SuAt.ucell b1 hs 15 (by omega); rw [HL.out] at this; exact this); clear Q0)
                  | (go_at_call 36; refine (good36_at HU.out HL.out _ lu hb).mono ?_; rintro e w3 ⟨rfl, k3⟩))
                go_ret
                exact ⟨by rw [← HV.out, decide_eq_true (by omega)]; rfl, k1.trans k3⟩
              · go_wp2_with (have := Q0; refine boxS_at (.tmp 0) rfl rfl s rfl ?_; intro g2 w1 b1 z1 k1; obtain ⟨p0, p1, p2⟩ := SuAt.parts b1; clear Q0)
                go_ret
                exact ⟨by rw [← HV.out, decide_eq_false (by omega)]; rfl, k1⟩
            · go_wp2_with (have := Q0; refine boxS_at (.tmp 0) rfl rfl s rfl ?_; intro g2 w1 b1 z1 k1; obtain ⟨p0, p1, p2⟩ := SuAt.parts b1; clear Q0)
              go_ret
              exact ⟨by rw [← HV.out, decide_eq_false (by omega)]; rfl, k1⟩
        · go_wp2_with (have := Q0; refine boxS_at (.tmp 0) rfl rfl s rfl ?_; intro g2 w1 b1 z1 k1; obtain ⟨p0, p1, p2⟩ := SuAt.parts b1; clear Q0)
          go_ret
          exact ⟨by rw [← HV.out, decide_eq_false (by omega)]; rfl, k1⟩
      · go_wp2_with (have := Q0; refine boxS_at (.tmp 0) rfl rfl s rfl ?_; intro g2 w1 b1 z1 k1; obtain ⟨p0, p1, p2⟩ := SuAt.parts b1; clear Q0)
        go_ret
        exact ⟨by rw [← HV.out, decide_eq_false (by omega)]; rfl, k1⟩
    · go_wp2_with (have := Q0; refine boxS_at (.tmp 0) rfl rfl s rfl ?_; intro g2 w1 b1 z1 k1; obtain ⟨p0, p1, p2⟩ := SuAt.parts b1; clear Q0)
      go_ret
      exact ⟨by rw [← HV.out, decide_eq_false (by omega)]; rfl, k1⟩
  · go_wp2_with (have := Q0; refine boxS_at (.tmp 0) rfl rfl s rfl ?_; intro g2 w1 b1 z1 k1; obtain ⟨p0, p1, p2⟩ := SuAt.parts b1; clear Q0)
    go_ret
    exact ⟨by rw [← HV.out, decide_eq_false (by omega)]; rfl, k1⟩
end Go.Proofs.YtdgnjpdjohibeaaDoor
