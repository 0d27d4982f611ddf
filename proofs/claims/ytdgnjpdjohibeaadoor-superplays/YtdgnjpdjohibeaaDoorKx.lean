/-
  wakes: what it makes, in plain mathematics.
-/
import Derived.Test.YtdgnjpdjohibeaaDoorKw
set_option linter.all false
set_option maxRecDepth 100000
namespace Go.Proofs.YtdgnjpdjohibeaaDoor
open Go.RowKit Go.Sort Go.Shelf

def wkS : Su := ⟨258, 16, 5, 7 :: zb 31, 39 :: zb 15⟩
def wkT : Su := ⟨259, 16, 5, 7 :: zb 31, 39 :: zb 15⟩
theorem wkS_ok : wkS.Ok := ⟨by decide, by decide, by decide, by simp [wkS, zb], by simp [wkS, zb]⟩
theorem wkT_ok : wkT.Ok := ⟨by decide, by decide, by decide, by simp [wkT, zb], by simp [wkT, zb]⟩
theorem wkS_good : wkS.good = true := by decide +kernel
theorem wkT_good : wkT.good = true := by decide +kernel
/-- Up, with no fuse. -/
structure DS.Up (s : DS) : Prop where
  fit : s.Ok ∧ s.Bw
  dn : s.dn = false
  F : s.F = -1
theorem up_new (n : Nat) : (DS.new n).Up := ⟨⟨DS.Ok.new n, DS.Bw.new n⟩, rfl, rfl⟩
theorem DS.Up.wr {s : DS} (h : s.Up) {u : Su} (hu : u.Ok) (hg : u.good = true) (hb : u.blocks = (s.n : Int)) : (wrR s u).2.Up := by
  obtain ⟨h1, h2, h3, h4, h5⟩ := wrR_up h.fit.1 h.fit.2 h.dn h.F hu hg hb
  exact ⟨⟨wrR_ok h.fit.1 hu, wrR_bw h.fit.2 h.fit.1 hu⟩, h2, h3⟩
theorem DS.Up.wrote {s : DS} (h : s.Up) {i : Nat} (hi : i < s.n) {L : List B} (hL : L.length = 128) : (s.write (i : Int) (L.map vb)).2.Up := by
  obtain ⟨h1, h2, h3, _⟩ := dsb_write h.fit.1 h.fit.2 hi h.dn (by rw [h.F]; decide) L 0
  exact ⟨⟨h.fit.1.write _ _ (ok_vb hL), h.fit.2.write _ _⟩, h2, by rw [h3, h.F]; rfl⟩
theorem pair_of {α : Type} {p : Int × α} (h : p.1 = 0) : p = (0, p.2) := by
  obtain ⟨a, b⟩ := p
  simp at h
  rw [h]
theorem kb_one (k : Int) (b : B) (h : nb b = k % 256) : kb k = b := nb_inj (by rw [nb_kb, h])
theorem decR_zero2 : (decR (zb 128)).2 ≠ 0 := by rw [decR_zero]; decide
theorem wkS_at : nb ((sblk wkS).getD 0 0) = 83 ∧ nb ((sblk wkS).getD 3 0) = 1 ∧ nb ((sblk wkS).getD 4 0) = 2 ∧ nb ((sblk wkS).getD 5 0) = 16 ∧ nb ((sblk wkS).getD 6 0) = 5 ∧ nb ((sblk wkS).getD 7 0) = 7 ∧ nb ((sblk wkS).getD 39 0) = 39 := by
  have e := sblk_form wkS
  generalize (sha (stxt wkS)).take 4 ++ zb (124 - (stxt wkS).length) = T at e
  rw [e]
  refine ⟨rfl, rfl, rfl, rfl, rfl, rfl, rfl⟩

theorem wakes16 (w : World) (hT : Tabs w) : Calls Tryd.prog 16 #[] w fun e w' => e = .returned (.bool true) ∧ Keeps (fun _ => False) w w' := by
  obtain ⟨d0, h0⟩ : ∃ d, DS.new 16 = d := ⟨_, rfl⟩
  have n0 : d0.n = 16 := by rw [← h0]; rfl
  have u0 : d0.Up := by rw [← h0]; exact up_new 16
  have b00 : dsb d0 0 = zb 128 := by rw [← h0]; exact dsb_new (by omega)
  have b01 : dsb d0 1 = zb 128 := by rw [← h0]; exact dsb_new (by omega)
  have c0 : d0.dc = 0 := by rw [← h0]; rfl
  have s0 : d0.ws.length = 0 := by rw [← h0]; rfl
  have N0 : newR d0 = (su0, 13) := newR_none u0.dn (cand_no (by rw [b00]; exact decR_zero2)) (cand_no (by rw [b01]; exact decR_zero2))
  obtain ⟨p1, p2, p3, p4, p5⟩ := wrR_up u0.fit.1 u0.fit.2 u0.dn u0.F wkS_ok wkS_good (by rw [n0]; rfl)
  have q := wrR_dc d0 wkS
  have u1 := u0.wr wkS_ok wkS_good (by rw [n0]; rfl)
  have e1 := pair_of p1
  have b10 := p5 0 (by omega)
  have b11 := p5 1 (by omega)
  generalize (wrR d0 wkS).2 = d1 at *
  rw [if_pos (by rfl)] at b10
  rw [if_neg (by decide), b01] at b11
  obtain ⟨r1, r2, r3, r4, r5⟩ := wrR_up u1.fit.1 u1.fit.2 u1.dn u1.F wkT_ok wkT_good (by rw [p4, n0]; rfl)
  have q2 := wrR_dc d1 wkT
  have u2 := u1.wr wkT_ok wkT_good (by rw [p4, n0]; rfl)
  have e2 := pair_of r1
  have b20 := r5 0 (by omega)
  have b21 := r5 1 (by omega)
  generalize (wrR d1 wkT).2 = d2 at *
  rw [if_neg (by decide), b10] at b20
  rw [if_pos (by rfl)] at b21
  have n2 : d2.n = 16 := by rw [r4, p4, n0]
  have N2 : newR d2 = (wkT, 0) := by
    rw [newR_both u2.dn (cand_of b20 wkS_ok wkS_good (by rw [n2]; rfl) rfl) (cand_of b21 wkT_ok wkT_good (by rw [n2]; rfl) rfl), if_pos (by decide)]
  have w0 := dsb_write u2.fit.1 u2.fit.2 (i := 1) (by omega) u2.dn (by rw [u2.F]; decide) (zb 128) 0
  have w1 := dsb_write u2.fit.1 u2.fit.2 (i := 1) (by omega) u2.dn (by rw [u2.F]; decide) (zb 128) 1
  have u3 := u2.wrote (i := 1) (by omega) (zb_len 128)
  have q3 := write_dc d2 ((1 : Nat) : Int) ((zb 128).map vb)
  have e3 := pair_of w0.1
  have b30 := w0.2.2.2
  have b31 := w1.2.2.2
  generalize (d2.write ((1 : Nat) : Int) ((zb 128).map vb)).2 = d3 at *
  rw [if_neg (by decide), b20] at b30
  rw [if_pos rfl] at b31
  have N3 : newR d3 = (wkS, 0) := newR_one u3.dn (.inl ⟨cand_of b30 wkS_ok wkS_good (by rw [q3.2.2.2, n2]; rfl) rfl, cand_no (by rw [b31]; exact decR_zero2)⟩)
  obtain ⟨a0, a3, a4, a5, a6, a7, a39⟩ := wkS_at
  have f0 : d0.Fit := ⟨u0.fit.1, u0.fit.2, by omega, by omega, by omega⟩
  have f1 : d1.Fit := ⟨u1.fit.1, u1.fit.2, by omega, by omega, by omega⟩
  have f2 : d2.Fit := ⟨u2.fit.1, u2.fit.2, by omega, by omega, by omega⟩
  have f3 : d3.Fit := ⟨u3.fit.1, u3.fit.2, by omega, by omega, by omega⟩
  refine wakes_core w hT wkS wkT wkS_ok wkT_ok (sblk wkS) (sblk_len wkS_ok) d0 d1 d2 d3 h0 N0 f0 e1 f1 e2 f2 N2 ⟨e3, zb_len 128⟩ f3 N3 rfl rfl rfl rfl rfl (over_gen wkS 259) ?_ (decR_sblk wkS_ok wkS_good) wkS_good a0 a3 a4 a5 a6 a7 a39
  show encR wkS = _
  unfold encR
  rw [wkS_good]; rfl
end Go.Proofs.YtdgnjpdjohibeaaDoor
