/-
  SuperTurns: the superblocks that it writes, in plain mathematics.
-/
import Derived.Test.YtdgnjpdjohibeaaDoorNt
set_option linter.all false
set_option maxRecDepth 100000
namespace Go.Proofs.YtdgnjpdjohibeaaDoor
open Go.RowKit Go.Sort Go.Shelf

def tsup (G i : Nat) : Su := ⟨G + i, 16, 2 + (i : Int), zb 32, 3 :: zb 15⟩
theorem tsup_ok {G i : Nat} (h : G ≤ 1000000) (hi : i ≤ 7) : (tsup G i).Ok := ⟨by show G + i < _; omega, by show _ ≤ (16 : Int) ∧ (16 : Int) ≤ _; omega, by show _ ≤ 2 + (i : Int) ∧ 2 + (i : Int) ≤ _; omega, by simp [tsup, zb], by simp [tsup, zb]⟩
theorem gu3 : gu (3 :: zb 15) 16 = true := by decide +kernel
theorem tsup_good {G i : Nat} (h0 : 1 ≤ G) (h : G ≤ 1000000) (hi : i ≤ 7) : (tsup G i).good = true := by
  unfold Su.good
  rw [Bool.and_eq_true]
  exact ⟨decide_eq_true ⟨by show 1 ≤ G + i; omega, by show G + i ≤ _; omega, by show (16 : Int) ≤ 16; omega, by show (16 : Int) ≤ 128; omega, .inr ⟨by show (2 : Int) ≤ 2 + (i : Int); omega, by show 2 + (i : Int) < 16; omega⟩⟩, gu3⟩
def tblk (G i k : Nat) : List B := if k ≤ i then sblk (tsup G (i - k)) else zb 128
/-- A disk on which i of them were written. -/
structure TD (G i : Nat) (d : DS) : Prop where
  up : d.Up
  n : d.n = 16
  dc : 0 ≤ d.dc ∧ d.dc ≤ 2 * i
  ws : d.ws.length ≤ i
  last : dsb d ((G + i + 1) % 2) = tblk G i 1
  prev : dsb d ((G + i) % 2) = tblk G i 2
theorem TD.fit {G i : Nat} {d : DS} (h : TD G i d) (hi : i ≤ 7) : d.Fit := ⟨h.up.fit.1, h.up.fit.2, by rw [h.n]; omega, by have := h.dc; omega, by have := h.ws; omega⟩
theorem td_new (G : Nat) : TD G 0 (DS.new 16) :=
  ⟨up_new 16, rfl, by show (0 : Int) ≤ 0 ∧ (0 : Int) ≤ _; omega, Nat.le_refl _, by rw [dsb_new (by omega)]; unfold tblk; rw [if_neg (by omega)], by rw [dsb_new (by omega)]; unfold tblk; rw [if_neg (by omega)]⟩
theorem cand_tblk {G i k : Nat} (h0 : 1 ≤ G) (h : G ≤ 1000000) (hi : i ≤ 7) (hk : 1 ≤ k) {s : DS} {b : Nat} (hd : dsb s b = tblk G i k) {v : Su} (hv : cand s b = some v) : v.gen < G + i := by
  unfold tblk at hd
  split at hd
  · rename_i hki
    obtain ⟨h1, h2, h3, h4⟩ := cand_some hv
    rw [hd] at h4
    have e := congrArg srd h4
    have hs : (sblk (tsup G (i - k))).length = 128 := sblk_len (tsup_ok h (by omega))
    rw [srd_good (tsup_ok h (by omega)) (tsup_good h0 h (by omega))] at e
    have hvok : v.Ok := by
      unfold cand at hv
      split at hv
      · cases hv; rw [hd]; exact decR_ok hs
      · cases hv
    rw [srd_good hvok h1] at e
    rw [← e]
    show G + (i - k) < G + i
    omega
  · rw [cand_no (by rw [hd]; exact decR_zero2)] at hv; cases hv
theorem TD.step {G i : Nat} {d : DS} (h : TD G i d) (h0 : 1 ≤ G) (hG : G ≤ 1000000) (hi : i < 7) : ∃ d', wrR d (tsup G i) = (0, d') ∧ TD G (i + 1) d' ∧ newR d' = (tsup G i, 0) := by
  have hok := tsup_ok hG (show i ≤ 7 by omega)
  have hg := tsup_good h0 hG (show i ≤ 7 by omega)
  have hb : (tsup G i).blocks = (d.n : Int) := by rw [h.n]; rfl
  obtain ⟨p1, p2, p3, p4, p5⟩ := wrR_up h.up.fit.1 h.up.fit.2 h.up.dn h.up.F hok hg hb
  have q := wrR_dc d (tsup G i)
  have u := h.up.wr hok hg hb
  have hn := h.n
  have b0 := p5 ((G + i) % 2) (by omega)
  have b1 := p5 ((G + i + 1) % 2) (by omega)
  rw [if_pos (show (tsup G i).gen % 2 = (G + i) % 2 from rfl)] at b0
  rw [if_neg (show ¬ (tsup G i).gen % 2 = (G + i + 1) % 2 by show ¬ (G + i) % 2 = _; omega), h.last] at b1
  have e := pair_of p1
  refine ⟨(wrR d (tsup G i)).2, e, ⟨u, by rw [p4, hn], by have := h.dc; omega, by have := h.ws; omega, ?_, ?_⟩, ?_⟩
  · rw [show (G + (i + 1) + 1) % 2 = (G + i) % 2 by omega, b0]
    unfold tblk
    rw [if_pos (by omega), show i + 1 - 1 = i by omega]
  · rw [show (G + (i + 1)) % 2 = (G + i + 1) % 2 by omega, b1]
    unfold tblk
    by_cases hi1 : 1 ≤ i
    · rw [if_pos hi1, if_pos (by omega), show i + 1 - 2 = i - 1 by omega]
    · rw [if_neg hi1, if_neg (by omega)]
  · refine newR_top u.dn hok hg (by rw [p4, hn]; rfl) b0 ?_
    intro v hv
    have hv' : cand (wrR d (tsup G i)).2 ((G + i + 1) % 2) = some v := hv
    exact cand_tblk h0 hG (by omega) (Nat.le_refl 1) b1 hv'
theorem TD.fill {G i : Nat} {d : DS} (h : TD G i d) (h0 : 1 ≤ G) (hG : G ≤ 1000000) (hi : i ≤ 7) (hi2 : 2 ≤ i) (b : B) :
    ∃ d2 d3, d.write (((G + i + 1) % 2 : Nat) : Int) ((List.replicate 128 b).map vb) = (0, d2) ∧ newR d2 = (tsup G (i - 2), 0) ∧ d2.Fit ∧ d2.write (((G + i) % 2 : Nat) : Int) ((zb 128).map vb) = (0, d3) ∧ newR d3 = (su0, 13) ∧ d3.Fit := by
  have hn := h.n
  have hF := h.up.F
  have w0 := dsb_write h.up.fit.1 h.up.fit.2 (i := (G + i + 1) % 2) (by omega) h.up.dn (by rw [hF]; decide) (List.replicate 128 b) ((G + i + 1) % 2)
  have w1 := dsb_write h.up.fit.1 h.up.fit.2 (i := (G + i + 1) % 2) (by omega) h.up.dn (by rw [hF]; decide) (List.replicate 128 b) ((G + i) % 2)
  have u2 := h.up.wrote (i := (G + i + 1) % 2) (by omega) (L := List.replicate 128 b) (by simp)
  have q2 := write_dc d (((G + i + 1) % 2 : Nat) : Int) ((List.replicate 128 b).map vb)
  have e2 := pair_of w0.1
  have x0 := w0.2.2.2
  have x1 := w1.2.2.2
  rw [if_pos rfl] at x0
  rw [if_neg (by omega), h.prev] at x1
  generalize (d.write (((G + i + 1) % 2 : Nat) : Int) ((List.replicate 128 b).map vb)).2 = d2 at *
  have hn2 : d2.n = 16 := by rw [q2.2.2.2, hn]
  have x1' : dsb d2 ((tsup G (i - 2)).gen % 2) = sblk (tsup G (i - 2)) := by
    rw [show (tsup G (i - 2)).gen % 2 = (G + i) % 2 by show (G + (i - 2)) % 2 = _; omega, x1]
    unfold tblk; rw [if_pos hi2]
  have N2 : newR d2 = (tsup G (i - 2), 0) := by
    refine newR_top u2.dn (tsup_ok hG (by omega)) (tsup_good h0 hG (by omega)) (by rw [hn2]; rfl) x1' ?_
    intro v hv
    rw [show ((tsup G (i - 2)).gen + 1) % 2 = (G + i + 1) % 2 by show (G + (i - 2) + 1) % 2 = _; omega, cand_no (by rw [x0]; exact decR_fill b)] at hv
    cases hv
  have v0 := dsb_write u2.fit.1 u2.fit.2 (i := (G + i) % 2) (by omega) u2.dn (by rw [u2.F]; decide) (zb 128) ((G + i) % 2)
  have v1 := dsb_write u2.fit.1 u2.fit.2 (i := (G + i) % 2) (by omega) u2.dn (by rw [u2.F]; decide) (zb 128) ((G + i + 1) % 2)
  have u3 := u2.wrote (i := (G + i) % 2) (by omega) (zb_len 128)
  have q3 := write_dc d2 (((G + i) % 2 : Nat) : Int) ((zb 128).map vb)
  have e3 := pair_of v0.1
  have y0 := v0.2.2.2
  have y1 := v1.2.2.2
  rw [if_pos rfl] at y0
  rw [if_neg (by omega), x0] at y1
  generalize (d2.write (((G + i) % 2 : Nat) : Int) ((zb 128).map vb)).2 = d3 at *
  have c0 : cand d3 ((G + i) % 2) = none := cand_no (by rw [y0]; exact decR_zero2)
  have c1 : cand d3 ((G + i + 1) % 2) = none := cand_no (by rw [y1]; exact decR_fill b)
  have N3 : newR d3 = (su0, 13) := by
    rcases Nat.mod_two_eq_zero_or_one (G + i) with e | e
    · rw [e] at c0; rw [show (G + i + 1) % 2 = 1 by omega] at c1; exact newR_none u3.dn c0 c1
    · rw [e] at c0; rw [show (G + i + 1) % 2 = 0 by omega] at c1; exact newR_none u3.dn c1 c0
  have dd := h.dc
  have dw := h.ws
  exact ⟨d2, d3, e2, N2, ⟨u2.fit.1, u2.fit.2, by omega, by omega, by omega⟩, e3, N3, ⟨u3.fit.1, u3.fit.2, by rw [q3.2.2.2]; omega, by omega, by omega⟩⟩
theorem fillB_at (b : B) (w : World) : Calls Tryd.prog 33 #[.int .u8 (nb b)] w fun e w' => e = .returned (.agg (brow (List.replicate 128 b))) ∧ Keeps (fun _ => False) w w' := by
  rw [← fill_brow]; exact fill_any (nb b) w
end Go.Proofs.YtdgnjpdjohibeaaDoor
