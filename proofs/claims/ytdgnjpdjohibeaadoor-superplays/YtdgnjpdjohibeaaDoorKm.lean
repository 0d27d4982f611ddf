/-
  What stands on a disk behind Write.
-/
import Derived.Test.YtdgnjpdjohibeaaDoorKl
set_option linter.all false
set_option maxRecDepth 100000
namespace Go.Proofs.YtdgnjpdjohibeaaDoor
open Go.RowKit Go.Sort Go.Shelf

theorem cand_of {s : DS} {i : Nat} {u : Su} (hd : dsb s i = sblk u) (hu : u.Ok) (hg : u.good = true) (hb : u.blocks = (s.n : Int)) (hi : u.gen % 2 = i) : cand s i = some u := by
  unfold cand
  rw [hd, decR_sblk hu hg, if_pos ⟨rfl, hi, hb⟩]
theorem cand_no {s : DS} {i : Nat} (hd : (decR (dsb s i)).2 ≠ 0) : cand s i = none := by
  unfold cand
  rw [if_neg (fun h => hd h.1)]
theorem cand_some {s : DS} {i : Nat} {u : Su} (h : cand s i = some u) : u.good = true ∧ u.gen % 2 = i ∧ u.blocks = (s.n : Int) ∧ dsb s i = sblk u := by
  unfold cand at h
  split at h
  · rename_i h1
    cases h
    rcases decR_cases (dsb s i) with ⟨h2, h3, h4⟩ | ⟨h2, h3⟩
    · rw [h2] at h1 ⊢
      exact ⟨h3, h1.2.1, h1.2.2, h4.symm⟩
    · rw [h2] at h1; cases h1.1
  · cases h
theorem decR_zero : decR (zb 128) = (su0, 11) := by
  unfold decR
  rw [if_neg]
  intro h
  have : (srd (zb 128)).good = false := by kernel_rfl
  rw [this] at h
  cases h.1
theorem sups_two (s : DS) : sups s = (cand s 0).toList ++ (cand s 1).toList := by
  have h0 : supsTo s 0 = [] := rfl
  have h1 := supsTo_succ s 0
  have h2 := supsTo_succ s 1
  rw [h0, List.nil_append] at h1
  rw [h1] at h2
  exact h2
theorem good_gen {u : Su} (h : u.good = true) : 1 ≤ u.gen := (good_bounds h).1
theorem newR_none {s : DS} (hd : s.dn = false) (h0 : cand s 0 = none) (h1 : cand s 1 = none) : newR s = (su0, 13) := by
  unfold newR
  rw [if_neg (by rw [hd]; simp), sups_two, h0, h1]
  rfl
theorem newR_one {s : DS} (hd : s.dn = false) {u : Su} (h : cand s 0 = some u ∧ cand s 1 = none ∨ cand s 0 = none ∧ cand s 1 = some u) : newR s = (u, 0) := by
  have hg : 1 ≤ u.gen := by rcases h with ⟨h, _⟩ | ⟨_, h⟩ <;> exact good_gen (cand_some h).1
  have hl : sups s = [u] := by rw [sups_two]; rcases h with ⟨h0, h1⟩ | ⟨h0, h1⟩ <;> rw [h0, h1] <;> rfl
  have hf : [u].foldl gr su0 = u := by show gr su0 u = u; unfold gr; rw [if_pos (by show 0 < u.gen; omega)]
  unfold newR
  rw [if_neg (by rw [hd]; simp), hl, hf, if_neg (by omega)]
theorem newR_both {s : DS} (hd : s.dn = false) {u v : Su} (h0 : cand s 0 = some u) (h1 : cand s 1 = some v) : newR s = (if u.gen < v.gen then v else u, 0) := by
  have hg := good_gen (cand_some h0).1
  have hg1 := good_gen (cand_some h1).1
  have hl : sups s = [u, v] := by rw [sups_two, h0, h1]; rfl
  have hf : [u, v].foldl gr su0 = if u.gen < v.gen then v else u := by
    show gr (gr su0 u) v = _
    have : gr su0 u = u := by unfold gr; rw [if_pos (by show 0 < u.gen; omega)]
    rw [this]; rfl
  unfold newR
  rw [if_neg (by rw [hd]; simp), hl, hf, if_neg (by split <;> omega)]
theorem dsb_write {s : DS} (hok : s.Ok) (hb : s.Bw) {i : Nat} (hi : i < s.n) (hd : s.dn = false) (hF : s.F ≠ 0) (L : List B) (k : Nat) : (s.write (i : Int) (L.map vb)).1 = 0 ∧ (s.write (i : Int) (L.map vb)).2.dn = false ∧ (s.write (i : Int) (L.map vb)).2.F = burnt s.F ∧ dsb (s.write (i : Int) (L.map vb)).2 k = if i = k then L else dsb s k := by
  have e : s.write (i : Int) (L.map vb) = (0, { s with ws := s.ws ++ [((i : Int), L.map vb)], F := burnt s.F, dc := s.dc + 1 }) := by
    unfold DS.write
    rw [if_neg (by omega), if_neg (by rw [hd]; simp [hF])]
  have h := write_block s i hi (L.map vb) k
  refine ⟨by rw [e], by rw [e]; exact hd, by rw [e], ?_⟩
  unfold dsb
  rw [h, e]
  by_cases hk : i = k
  · rw [if_pos ⟨rfl, hk⟩, if_pos hk]; exact unb_brow L
  · rw [if_neg (fun h => hk h.2), if_neg hk]
theorem dsb_sync {s : DS} (hok : s.Ok) {k : Nat} (hk : k < s.n) : dsb s.sync.2 k = dsb s k := by unfold dsb; rw [sync_block hok k hk]
theorem sync_up {s : DS} (hd : s.dn = false) (hF : s.F ≠ 0) : s.sync.1 = 0 ∧ s.sync.2.dn = false ∧ s.sync.2.F = burnt s.F := by
  have e : s.sync = (0, { s with bl := crashRow (-1) s.bl (idx s.ws), ws := [], F := burnt s.F, dc := s.dc + 1 }) := by
    unfold DS.sync
    rw [if_neg (by rw [hd]; simp [hF])]
  rw [e]; exact ⟨rfl, hd, rfl⟩
/-- Write on a disk that is up, with no fuse. -/
theorem wrR_up {s : DS} (hok : s.Ok) (hb : s.Bw) (hd : s.dn = false) (hF : s.F = -1) {u : Su} (hu : u.Ok) (hg : u.good = true) (hbl : u.blocks = (s.n : Int)) :
    (wrR s u).1 = 0 ∧ (wrR s u).2.dn = false ∧ (wrR s u).2.F = -1 ∧ (wrR s u).2.n = s.n ∧ ∀ k, k < s.n → dsb (wrR s u).2 k = if u.gen % 2 = k then sblk u else dsb s k := by
  have hn := good_bounds hg
  have hw := fun k => dsb_write hok hb (i := u.gen % 2) (by omega) hd (by omega) (sblk u) k
  have hwk := hok.write ((u.gen % 2 : Nat) : Int) ((sblk u).map vb) (ok_vb (sblk_len hu))
  have hwn := (write_dc s ((u.gen % 2 : Nat) : Int) ((sblk u).map vb)).2.2.2
  have hw0 := hw 0
  have hs := sync_up hw0.2.1 (by rw [hw0.2.2.1, hF]; decide)
  have e : wrR s u = (s.write ((u.gen % 2 : Nat) : Int) ((sblk u).map vb)).2.sync := by unfold wrR; rw [if_pos ⟨hg, hbl⟩, if_pos hw0.1]
  rw [e]
  refine ⟨hs.1, hs.2.1, by rw [hs.2.2, hw0.2.2.1, hF]; rfl, by rw [(sync_dc _).2.2.2, hwn], fun k hk => ?_⟩
  rw [dsb_sync hwk (by omega), (hw k).2.2.2]
end Go.Proofs.YtdgnjpdjohibeaaDoor
