/-
  What a crash leaves of a Write that was cut anywhere, in plain mathematics.
-/
import Derived.Test.YtdgnjpdjohibeaaDoorNt
set_option linter.all false
set_option maxRecDepth 100000
namespace Go.Proofs.YtdgnjpdjohibeaaDoor
open Go.RowKit Go.Sort Go.Shelf

theorem sblk_tail {u : Su} (hu : u.Ok) {j : Nat} (h : 59 ≤ j) : (sblk u).getD j 0 = 0 := by
  have ht := stxt_len hu
  have hx : sblk u = stxt u ++ ((sha (stxt u)).take 4 ++ zb 69) := by unfold sblk blk5; rw [ht]
  have lC : ((sha (stxt u)).take 4).length = 4 := by rw [List.length_take, sha_len]; rfl
  rw [hx, List.getD_eq_getElem?_getD, List.getElem?_append_right (by omega), List.getElem?_append_right (by omega)]
  simp only [zb, List.getElem?_replicate]
  split <;> rfl
theorem torn_same {u : Su} (hu : u.Ok) {O : List B} (hO : O.length = 128) (ht : ∀ j, 64 ≤ j → O.getD j 0 = 0) : (sblk u).take 64 ++ O.drop 64 = sblk u := by
  have hl := sblk_len hu
  apply List.ext_getElem (by simp [hl, hO])
  intro j h1 h2
  rcases Nat.lt_or_ge j 64 with h | h
  · rw [List.getElem_append_left (by simp [hl]; omega), List.getElem_take]
  · rw [List.getElem_append_right (by simp [hl]; omega)]
    have e1 : (List.drop 64 O)[j - ((sblk u).take 64).length]'(by simp [hl, hO]; omega) = O.getD j 0 := by
      have : ((sblk u).take 64).length = 64 := by simp [hl]
      rw [List.getElem_drop, List.getD_eq_getElem?_getD, List.getElem?_eq_getElem (by omega)]
      simp only [this, show 64 + (j - 64) = j by omega, Option.getD_some]
    rw [e1, ht j h]
    have e2 := sblk_tail hu (j := j) (by omega)
    rw [List.getD_eq_getElem?_getD, List.getElem?_eq_getElem (by omega)] at e2
    exact e2.symm

/-- A disk whose newest superblock is u, with nothing loose; k Writes were tried. -/
structure TS (k : Nat) (d : DS) (u : Su) : Prop where
  up : d.Up
  n : d.n = 16
  ws : d.ws = []
  dc : 0 ≤ d.dc ∧ d.dc ≤ 2 * k + 2
  uok : u.Ok
  good : u.good = true
  blocks : u.blocks = 16
  gen : u.gen ≤ 2 + k
  here : dsb d (u.gen % 2) = sblk u
  old : ∀ v, cand d ((u.gen + 1) % 2) = some v → v.gen < u.gen
  tail : ∀ j, 64 ≤ j → (dsb d ((u.gen + 1) % 2)).getD j 0 = 0
theorem TS.newest {k : Nat} {d : DS} {u : Su} (h : TS k d u) : newR d = (u, 0) :=
  newR_top h.up.dn h.uok h.good (by rw [h.n, h.blocks]; rfl) h.here h.old
theorem TS.fit {k : Nat} {d : DS} {u : Su} (h : TS k d u) (hk : k ≤ 1000) : d.Fit := ⟨h.up.fit.1, h.up.fit.2, by rw [h.n]; omega, by have := h.dc; omega, by rw [h.ws]; decide⟩
theorem block_nil {d : DS} (h : d.ws = []) (k : Nat) : d.block k = blk d.bl k := by unfold DS.block; rw [h]; rfl
theorem cand_gen {s : DS} {b : Nat} {u v : Su} (hu : u.Ok) (hg : u.good = true) (hd : dsb s b = sblk u) (hv : cand s b = some v) : v.gen = u.gen := by
  obtain ⟨h1, h2, h3, h4⟩ := cand_some hv
  have hvok : v.Ok := by
    unfold cand at hv
    split at hv
    · cases hv; rw [hd]; exact decR_ok (sblk_len hu)
    · cases hv
  rw [hd] at h4
  have e := congrArg srd h4
  rw [srd_good hu hg, srd_good hvok h1] at e
  rw [e]
/-- The new one stands there. -/
theorem TS.next {k : Nat} {d d' : DS} {u s : Su} (h : TS k d u) (up : d'.Up) (hn : d'.n = 16) (hw : d'.ws = []) (hdc : 0 ≤ d'.dc ∧ d'.dc ≤ 2 * (k + 1 : Nat) + 2) (hs : s.Ok) (hg : s.good = true) (hb : s.blocks = 16) (hsg : s.gen = u.gen + 1) (h0 : dsb d' ((u.gen + 1) % 2) = sblk s) (h1 : dsb d' (u.gen % 2) = sblk u) : TS (k + 1) d' s := by
  have hug := h.gen
  refine ⟨up, hn, hw, hdc, hs, hg, hb, by omega, by rw [hsg]; exact h0, ?_, ?_⟩
  · intro v hv
    rw [show (s.gen + 1) % 2 = u.gen % 2 by omega] at hv
    rw [cand_gen h.uok h.good h1 hv]; omega
  · intro j hj
    rw [show (s.gen + 1) % 2 = u.gen % 2 by omega, h1]
    exact sblk_tail h.uok (by omega)
/-- All is as it was. -/
theorem TS.stay {k : Nat} {d d' : DS} {u : Su} (h : TS k d u) (hn : d'.n = d.n) (hbl : d'.bl = d.bl) (hw : d'.ws = []) (hF : d'.F = -1) (hdn : d'.dn = false) (hdc : 0 ≤ d'.dc ∧ d'.dc ≤ 2 * (k + 1 : Nat) + 2) : TS (k + 1) d' u := by
  have hu := h.up.fit
  have hblk : ∀ j, dsb d' j = dsb d j := fun j => by unfold dsb; rw [block_nil hw, block_nil h.ws, hbl]
  have hc : ∀ j, cand d' j = cand d j := fun j => by unfold cand; rw [hblk, hn]
  have hg := h.gen
  refine ⟨⟨⟨⟨by rw [hbl, hn]; exact hu.1.size, by rw [hbl]; exact hu.1.one, (fun x hx => by rw [hw] at hx; cases hx), by omega, by omega⟩, ⟨by rw [hbl]; exact hu.2.bl, (fun x hx => by rw [hw] at hx; cases hx)⟩⟩, hdn, hF⟩, by rw [hn, h.n], hw, hdc, h.uok, h.good, h.blocks, by omega, by rw [hblk]; exact h.here, ?_, ?_⟩
  · intro v hv; rw [hc] at hv; exact h.old v hv
  · intro j hj; rw [hblk]; exact h.tail j hj

theorem TS.step {k : Nat} {d : DS} {u s : Su} (h : TS k d u) (hs : s.Ok) (hg : s.good = true) (hb : s.blocks = 16) (hsg : s.gen = u.gen + 1) (I : Int) (hI : I ≤ 9223372036854775807) (ks : List Int) :
    ∃ f d2, wrR (d.fuse I) s = (f, d2) ∧ d2.Ok ∧ 0 ≤ d2.dc ∧ d2.dc ≤ 2 * k + 4 ∧ d2.ws.length ≤ 1 ∧ ((TS (k + 1) (d2.crash ks (I % 3 - 1)) s) ∨ (f ≠ 0 ∧ TS (k + 1) (d2.crash ks (I % 3 - 1)) u)) := by
  have hn := h.n
  have hbn : s.blocks = ((d.fuse I).n : Int) := by rw [hb]; show (16 : Int) = (d.n : Int); omega
  have hdc := h.dc
  have hws := h.ws
  have hok := h.up.fit.1
  have hF1 : (d.fuse I).Ok := hok.fuse I hI
  have hh : s.gen % 2 < d.n := by omega
  have hsb := ok_vb (sblk_len hs)
  obtain ⟨hm, hhm⟩ : ∃ hm, s.gen % 2 = hm := ⟨_, rfl⟩
  have hm2 : (u.gen + 1) % 2 = hm := by omega
  rw [hhm] at hh
  have hwr : wrR (d.fuse I) s = if ((d.fuse I).write (hm : Int) ((sblk s).map vb)).1 = 0 then ((d.fuse I).write (hm : Int) ((sblk s).map vb)).2.sync else (d.fuse I).write (hm : Int) ((sblk s).map vb) := by
    unfold wrR; rw [if_pos ⟨hg, hbn⟩, hhm]
  have hdn := h.up.dn
  have hidx : idx d.ws = [] := by rw [hws]; rfl
  by_cases h0 : max I (-1) = 0
  · have e : (d.fuse I).write (hm : Int) ((sblk s).map vb) = (12, { d.fuse I with dn := true }) := by
      unfold DS.write
      rw [if_neg (by show ¬ ((hm : Int) < 0 ∨ (d.n : Int) ≤ hm); omega), if_pos (.inl h0)]
    refine ⟨12, { d.fuse I with dn := true }, by rw [hwr, e]; rfl, ⟨hF1.size, hF1.one, hF1.lw, hF1.lo, hF1.hi⟩, by show 0 ≤ d.dc; omega, by show d.dc ≤ _; omega, by show d.ws.length ≤ 1; rw [hws]; decide, .inr ⟨by decide, ?_⟩⟩
    refine h.stay rfl ?_ rfl rfl rfl ⟨by show 0 ≤ d.dc; omega, by show d.dc ≤ _; omega⟩
    show crashRow _ d.bl (keptOf ks (idx d.ws)) = d.bl
    rw [hidx]; rfl
  · have e : (d.fuse I).write (hm : Int) ((sblk s).map vb) = (0, { d.fuse I with ws := d.ws ++ [((hm : Int), (sblk s).map vb)], F := burnt (max I (-1)), dc := d.dc + 1 }) := by
      unfold DS.write
      rw [if_neg (by show ¬ ((hm : Int) < 0 ∨ (d.n : Int) ≤ hm); omega), if_neg (by show ¬ (max I (-1) = 0 ∨ d.dn = true); rw [hdn]; simp [h0])]
      rfl
    by_cases h1 : max I (-1) = 1
    · have hI1 : I = 1 := by omega
      subst hI1
      have e2 : wrR (d.fuse 1) s = (12, { d.fuse 1 with ws := [((hm : Int), (sblk s).map vb)], F := 0, dn := true, dc := d.dc + 1 }) := by
        rw [hwr, e, if_pos rfl, hws]
        unfold DS.sync
        rw [if_pos (.inl (show burnt (max 1 (-1)) = 0 from by decide))]
        rfl
      have oks : ({ d.fuse 1 with ws := [((hm : Int), (sblk s).map vb)], F := 0, dn := true, dc := d.dc + 1 } : DS).Ok :=
        ⟨hok.size, hok.one, fun x hx => by obtain rfl : x = ((hm : Int), (sblk s).map vb) := by simpa using hx
                                           exact ⟨hsb, by omega, by show (hm : Int) < (d.n : Int); omega⟩, (show (-9223372036854775808 : Int) ≤ 0 by decide), (show (0 : Int) ≤ 9223372036854775807 by decide)⟩
      refine ⟨12, _, e2, oks, by show 0 ≤ d.dc + 1; omega, by show d.dc + 1 ≤ _; omega, by show 1 ≤ 1; omega, ?_⟩
      have bw : ({ d.fuse 1 with ws := [((hm : Int), (sblk s).map vb)], F := 0, dn := true, dc := d.dc + 1 } : DS).Bw :=
        ⟨h.up.fit.2.bl, fun x hx => by obtain rfl : x = ((hm : Int), (sblk s).map vb) := by simpa using hx
                                       exact isB_brow⟩
      by_cases hk : isKept ks 0 = true
      · left
        have ecr : (({ d.fuse 1 with ws := [((hm : Int), (sblk s).map vb)], F := 0, dn := true, dc := d.dc + 1 } : DS).crash ks (1 % 3 - 1)).bl = over d.bl (hm * 128) (brow ((sblk s).take 64)) := by
          show crashRow (1 % 3 - 1) d.bl (keptOf ks [(0, ((hm : Int), (sblk s).map vb))]) = _
          unfold keptOf
          rw [List.filter_cons, if_pos hk]
          show over d.bl ((hm : Int).toNat * 128) (((sblk s).map vb).take 64).toArray = _
          rw [← List.map_take]; rfl
        have hup : (({ d.fuse 1 with ws := [((hm : Int), (sblk s).map vb)], F := 0, dn := true, dc := d.dc + 1 } : DS).crash ks (1 % 3 - 1)).Up := ⟨⟨oks.crash _ _, bw.crash oks _ _⟩, rfl, rfl⟩
        have hsz := hok.size
        have hsz2 : (brow ((sblk s).take 64)).size = 64 := by rw [size_brow, List.length_take, sblk_len hs]; rfl
        have hO := h.up.fit.2.block hok hh
        refine h.next hup hn rfl ⟨by show 0 ≤ d.dc + 1; omega, by show d.dc + 1 ≤ _; omega⟩ hs hg hb hsg ?_ ?_
        · rw [hm2]
          refine dsb_of ?_
          rw [block_nil rfl, ecr, blk_over_part (by rw [hsz, hn]; omega) (by omega), ← block_nil hws, hO.1]
          have ht := torn_same hs hO.2 (by rw [← hm2]; exact h.tail)
          conv => rhs; rw [← ht]
          unfold over brow
          simp [sblk_len hs]
        · refine dsb_of ?_
          rw [block_nil rfl, ecr, blk_over_other (by omega) (by rw [hsz2, hsz, hn]; omega) (by omega), ← block_nil hws]
          have := h.up.fit.2.block hok (i := u.gen % 2) (by omega)
          rw [this.1, h.here]
      · right
        refine ⟨by decide, h.stay rfl ?_ rfl rfl rfl ⟨by show 0 ≤ d.dc + 1; omega, by show d.dc + 1 ≤ _; omega⟩⟩
        show crashRow (1 % 3 - 1) d.bl (keptOf ks [(0, ((hm : Int), (sblk s).map vb))]) = _
        unfold keptOf
        rw [List.filter_cons, if_neg hk]; rfl
    · have hu1 : ({ d with F := max I (-1) } : DS).dn = false := hdn
      have hw := fun k => dsb_write (s := d.fuse I) hF1 (h.up.fit.2.fuse I) (i := hm) hh hdn h0 (sblk s) k
      have hwok : ((d.fuse I).write (hm : Int) ((sblk s).map vb)).2.Ok := hF1.write _ _ hsb
      have hwbw : ((d.fuse I).write (hm : Int) ((sblk s).map vb)).2.Bw := (h.up.fit.2.fuse I).write _ _
      have hwdc := write_dc (d.fuse I) (hm : Int) ((sblk s).map vb)
      have hsu := sync_up (hw 0).2.1 (by rw [(hw 0).2.2.1]; show burnt (max I (-1)) ≠ 0; unfold burnt; split <;> omega)
      have hsd := sync_dc ((d.fuse I).write (hm : Int) ((sblk s).map vb)).2
      have hsws : ((d.fuse I).write (hm : Int) ((sblk s).map vb)).2.sync.2.ws = [] := by
        unfold DS.sync
        rw [if_neg (by rw [(hw 0).2.1, (hw 0).2.2.1]; show ¬ (burnt (max I (-1)) = 0 ∨ false = true); unfold burnt; split <;> simp <;> omega)]
      refine ⟨0, ((d.fuse I).write (hm : Int) ((sblk s).map vb)).2.sync.2, ?_, hwok.sync, ?_, ?_, by rw [hsws]; decide, .inl ?_⟩
      · rw [hwr, if_pos (hw 0).1, ← hsu.1]
      · have : (d.fuse I).dc = d.dc := rfl
        omega
      · have : (d.fuse I).dc = d.dc := rfl
        omega
      · have hcb : ∀ k, k < 16 → dsb (((d.fuse I).write (hm : Int) ((sblk s).map vb)).2.sync.2.crash ks (I % 3 - 1)) k = if hm = k then sblk s else dsb d k := fun k hk => by
          have hnn : ((d.fuse I).write (hm : Int) ((sblk s).map vb)).2.n = 16 := by rw [hwdc.2.2.2]; exact hn
          have e3 := dsb_sync hwok (k := k) (by omega)
          have e4 := (hw k).2.2.2
          have e5 : dsb (d.fuse I) k = dsb d k := rfl
          rw [e5] at e4
          rw [← e4, ← e3]
          unfold dsb
          rw [block_nil rfl, block_nil hsws]
          show unb (blk (crashRow _ _ (keptOf ks (idx ((d.fuse I).write (hm : Int) ((sblk s).map vb)).2.sync.2.ws))) k) = _
          rw [hsws]; rfl
        refine h.next ⟨⟨hwok.sync.crash _ _, (hwbw.sync hwok).crash hwok.sync _ _⟩, rfl, rfl⟩ ?_ rfl ?_ hs hg hb hsg ?_ ?_
        · show ((d.fuse I).write (hm : Int) ((sblk s).map vb)).2.sync.2.n = 16
          rw [hsd.2.2.2, hwdc.2.2.2]; exact hn
        · show 0 ≤ ((d.fuse I).write (hm : Int) ((sblk s).map vb)).2.sync.2.dc ∧ ((d.fuse I).write (hm : Int) ((sblk s).map vb)).2.sync.2.dc ≤ _
          have : (d.fuse I).dc = d.dc := rfl
          omega
        · rw [hm2, hcb hm (by omega), if_pos rfl]
        · rw [hcb _ (by omega), if_neg (by omega)]; exact h.here
end Go.Proofs.YtdgnjpdjohibeaaDoor
