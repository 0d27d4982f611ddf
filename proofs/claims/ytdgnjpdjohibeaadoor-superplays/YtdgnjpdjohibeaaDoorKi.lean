/-
  A disk whose blocks are bytes; the superblocks that stand on it, in plain mathematics.
-/
import Derived.Test.YtdgnjpdjohibeaaDoorKh
set_option linter.all false
set_option maxRecDepth 100000
namespace Go.Proofs.YtdgnjpdjohibeaaDoor
open Go.RowKit Go.Sort Go.Shelf

def IsB (v : Value) : Prop := ∃ b : B, v = vb b
def AllB (A : Array Value) : Prop := ∀ (j : Nat) (v : Value), A[j]? = some v → IsB v
/-- All of a state's bytes are bytes. -/
structure DS.Bw (s : DS) : Prop where
  bl : AllB s.bl
  ws : ∀ x ∈ s.ws, ∀ v ∈ x.2, IsB v
theorem isB_brow {L : List B} : ∀ v ∈ L.map vb, IsB v := fun v hv => by obtain ⟨b, _, rfl⟩ := List.mem_map.1 hv; exact ⟨b, rfl⟩
theorem isB_zero : IsB (.int .u8 0) := ⟨0, rfl⟩
theorem allB_zeros (n : Nat) : AllB (zeros n) := fun j u hu => by
  have := Array.mem_of_getElem? hu
  rw [zeros, Array.mem_replicate] at this
  rw [this.2]; exact isB_zero
theorem allB_over {row cs : Array Value} {o : Nat} (h : AllB row) (h' : AllB cs) (hf : o + cs.size ≤ row.size) : AllB (over row o cs) := fun j v hv => by
  rw [getElem?_over _ _ _ _ hf] at hv
  split at hv
  · exact h' _ _ hv
  · exact h _ _ hv
theorem allB_crashRow (t : Int) (n : Nat) (l : List (Nat × LW)) : ∀ (row : Array Value), row.size = n * 128 → (∀ y ∈ l, LwOk y.2 ∧ 0 ≤ y.2.1 ∧ y.2.1 < (n : Int)) → AllB row → (∀ y ∈ l, ∀ v ∈ y.2.2, IsB v) → AllB (crashRow t row l) := by
  induction l with
  | nil => intro row _ _ h _; exact h
  | cons y l ih =>
    intro row hs hok h hl
    have hy := hok y (by simp)
    have hf : y.2.1.toNat * 128 + (y.2.2.take (cutOf t y.1)).toArray.size ≤ row.size := by
      have hmul : (y.2.1.toNat + 1) * 128 ≤ n * 128 := Nat.mul_le_mul_right 128 (by omega)
      have := hy.1.1
      simp; omega
    show AllB (crashRow t (over row (y.2.1.toNat * 128) (y.2.2.take (cutOf t y.1)).toArray) l)
    refine ih _ (by rw [size_over hf]; exact hs) (fun z hz => hok z (by simp [hz])) (allB_over h (fun j v hv => ?_) hf) (fun z hz => hl z (by simp [hz]))
    have hv' : v ∈ y.2.2.take (cutOf t y.1) := by
      rw [List.getElem?_toArray] at hv
      exact List.mem_of_getElem? hv
    exact hl y (by simp) v (List.mem_of_mem_take hv')
theorem DS.Bw.new (n : Nat) : (DS.new n).Bw := ⟨allB_zeros n, fun x hx => by cases hx⟩
theorem DS.Bw.raw {s : DS} (h : s.Bw) (n : Int) : (s.raw n).Bw := ⟨h.bl, h.ws⟩
theorem DS.Bw.cap {s : DS} (h : s.Bw) : s.cap.Bw := ⟨h.bl, h.ws⟩
theorem DS.Bw.fuse {s : DS} (h : s.Bw) (n : Int) : (s.fuse n).Bw := ⟨h.bl, h.ws⟩
theorem DS.Bw.write {s : DS} (h : s.Bw) (i : Int) (L : List B) : (s.write i (L.map vb)).2.Bw := by
  unfold DS.write
  split
  · exact h
  · split
    · exact ⟨h.bl, h.ws⟩
    · refine ⟨h.bl, fun x hx u hu => ?_⟩
      rcases List.mem_append.1 hx with hx | hx
      · exact h.ws x hx u hu
      · obtain rfl : x = (i, L.map vb) := by simpa using hx
        exact isB_brow u hu
theorem DS.Bw.crash {s : DS} (h : s.Bw) (hok : s.Ok) (ks : List Int) (t : Int) : (s.crash ks t).Bw :=
  ⟨allB_crashRow t s.n _ _ hok.size (fun y hy => hok.lw y.2 (mem_idx (List.mem_filter.1 hy).1)) h.bl (fun y hy => h.ws y.2 (mem_idx (List.mem_filter.1 hy).1)), fun x hx => by cases hx⟩
theorem DS.Bw.sync {s : DS} (h : s.Bw) (hok : s.Ok) : s.sync.2.Bw := by
  unfold DS.sync
  split
  · exact ⟨h.bl, h.ws⟩
  · exact ⟨allB_crashRow (-1) s.n _ _ hok.size (fun y hy => hok.lw y.2 (mem_idx hy)) h.bl (fun y hy => h.ws y.2 (mem_idx hy)), fun x hx => by cases hx⟩
theorem wrR_bw {s : DS} (h : s.Bw) (hok : s.Ok) {u : Su} (hu : u.Ok) : (wrR s u).2.Bw := by
  have hw := h.write ((u.gen % 2 : Nat) : Int) (sblk u)
  have hk := hok.write ((u.gen % 2 : Nat) : Int) ((sblk u).map vb) (ok_vb (sblk_len hu))
  unfold wrR
  split
  · split
    · exact hw.sync hk
    · exact hw
  · exact h

/-- The bytes of a row. -/
def unb (A : Array Value) : List B := A.toList.map fun v => match v with | .int _ z => kb z | _ => 0
theorem kb_nb (b : B) : kb (nb b) = b := nb_inj (by rw [nb_kb]; have := nb_lt b; omega)
theorem unb_brow (L : List B) : unb (brow L) = L := by
  unfold unb brow
  simp only [List.map_map]
  conv => rhs; rw [← List.map_id L]
  apply List.map_congr_left
  intro b _
  exact kb_nb b
theorem brow_unb {A : Array Value} (h : AllB A) : brow (unb A) = A := by
  have : ∃ L : List B, A = brow L := by
    have : ∀ l : List Value, (∀ v ∈ l, IsB v) → ∃ L : List B, l = L.map vb := by
      intro l
      induction l with
      | nil => intro _; exact ⟨[], rfl⟩
      | cons v l ih =>
        intro hl
        obtain ⟨b, rfl⟩ := hl v (by simp)
        obtain ⟨L, rfl⟩ := ih (fun x hx => hl x (by simp [hx]))
        exact ⟨b :: L, rfl⟩
    obtain ⟨L, hL⟩ := this A.toList (fun v hv => by
      obtain ⟨j, hj, e⟩ := List.mem_iff_getElem.1 hv
      exact h j v (by rw [← e]; simp))
    exact ⟨L, by unfold brow; rw [← hL]⟩
  obtain ⟨L, rfl⟩ := this
  rw [unb_brow]
/-- The bytes of block i. -/
def dsb (s : DS) (i : Nat) : List B := unb (s.block i)
theorem DS.Bw.block {s : DS} (h : s.Bw) (hok : s.Ok) {i : Nat} (hi : i < s.n) : s.block i = brow (dsb s i) ∧ (dsb s i).length = 128 := by
  have hmul : (i + 1) * 128 ≤ s.n * 128 := Nat.mul_le_mul_right 128 (by omega)
  have hsz := hok.size
  have hb : AllB (s.block i) ∧ (s.block i).size = 128 := by
    unfold DS.block
    split
    · rename_i x hx
      have hm : x ∈ s.ws := by simpa using List.mem_of_find?_eq_some hx
      have hl := (hok.lw x hm).1.1
      refine ⟨fun j v hv => ?_, by simp [hl]⟩
      rw [List.getElem?_toArray] at hv
      exact h.ws x hm v (List.mem_of_getElem? hv)
    · refine ⟨fun j v hv => ?_, by rw [Array.size_extract]; omega⟩
      rw [Array.getElem?_extract] at hv
      split at hv
      · exact h.bl _ _ hv
      · cases hv
  have e := brow_unb hb.1
  refine ⟨e.symm, ?_⟩
  have := hb.2
  rw [← e, size_brow] at this
  exact this
theorem dsb_of {s : DS} {i : Nat} {L : List B} (h : s.block i = brow L) : dsb s i = L := by unfold dsb; rw [h, unb_brow]
theorem read_in {s : DS} (h : s.Bw) (hok : s.Ok) {i : Nat} (hi : i < s.n) (hd : s.dn = false) : s.read (i : Int) = (brow (dsb s i), 0) := by
  unfold DS.read
  rw [if_neg (by omega), if_neg (by rw [hd]; simp)]
  show (s.block i, 0) = _
  rw [(h.block hok hi).1]

/-- The superblock that stands in block i, if it belongs there. -/
def cand (s : DS) (i : Nat) : Option Su := if (decR (dsb s i)).2 = 0 ∧ (decR (dsb s i)).1.gen % 2 = i ∧ (decR (dsb s i)).1.blocks = (s.n : Int) then some (decR (dsb s i)).1 else none
def supsTo (s : DS) (i : Nat) : List Su := (List.range i).filterMap (cand s)
def sups (s : DS) : List Su := supsTo s 2
/-- The one of the two of the greater generation. -/
def gr (a u : Su) : Su := if a.gen < u.gen then u else a
/-- What Newest tells. -/
def newR (s : DS) : Su × Int := if s.dn = true then (su0, 12) else if ((sups s).foldl gr su0).gen = 0 then (su0, 13) else ((sups s).foldl gr su0, 0)
theorem supsTo_succ (s : DS) (i : Nat) : supsTo s (i + 1) = supsTo s i ++ (cand s i).toList := by
  unfold supsTo
  rw [List.range_succ, List.filterMap_append]
  cases h : cand s i <;> simp [h]
theorem sups_at {s : DS} {i : Nat} {u : Su} (hi : i < 2) (h : cand s i = some u) : ∃ rest, sups s = supsTo s i ++ u :: rest := by
  unfold sups
  rw [show (2 : Nat) = 1 + 1 from rfl, supsTo_succ]
  cases i with
  | zero =>
    rw [show (1 : Nat) = 0 + 1 from rfl, supsTo_succ, h]
    exact ⟨_, by simp; rfl⟩
  | succ i =>
    obtain rfl : i = 0 := by omega
    rw [h]
    exact ⟨[], by simp⟩
theorem cand_ok {s : DS} (hb : s.Bw) (hok : s.Ok) {i : Nat} (hi : i < s.n) {u : Su} (h : cand s i = some u) : u.Ok := by
  unfold cand at h
  split at h
  · cases h; exact decR_ok (hb.block hok hi).2
  · cases h
theorem foldl_ok {l : List Su} (hl : ∀ u ∈ l, u.Ok) : ∀ a : Su, a.Ok → (l.foldl gr a).Ok := by
  induction l with
  | nil => intro a h; exact h
  | cons u l ih =>
    intro a h
    refine ih (fun x hx => hl x (by simp [hx])) _ ?_
    unfold gr
    split
    · exact hl u (by simp)
    · exact h
theorem mem_supsTo {s : DS} {i : Nat} {u : Su} (h : u ∈ supsTo s i) : ∃ j, j < i ∧ cand s j = some u := by
  unfold supsTo at h
  obtain ⟨j, hj, e⟩ := List.mem_filterMap.1 h
  exact ⟨j, List.mem_range.1 hj, e⟩
theorem sups_ok {s : DS} (hb : s.Bw) (hok : s.Ok) (hn : 2 ≤ s.n) : ∀ u ∈ sups s, u.Ok := fun u hu => by
  obtain ⟨j, hj, e⟩ := mem_supsTo hu
  exact cand_ok hb hok (by omega) e
theorem newR_ok {s : DS} (hb : s.Bw) (hok : s.Ok) (hn : 2 ≤ s.n) : (newR s).1.Ok := by
  unfold newR
  split
  · exact su0_ok
  · split
    · exact su0_ok
    · exact foldl_ok (sups_ok hb hok hn) _ su0_ok

theorem Lies.kpx {B : Nat} {C : Nat → Prop} {w w' : World} {p gb : Nat} {s : DS} (h : Lies B C w p gb s) (hk : KpX C w w') : Lies B C w' p gb s := by
  obtain ⟨vl, hD, hB, hL, h1, h2, h3, h4, h5, h6, h7⟩ := h
  have hp : ¬ C p := fun hc => (h7 p hc).1 rfl
  have hg : ¬ C gb := fun hc => (h7 gb hc).2.1 rfl
  refine ⟨vl, hk.2 p _ _ _ hD hp, hk.2 gb _ _ _ hB hg, ?_, h1, h2, h3, h4, h5, h6, h7⟩
  obtain ⟨hl, ⟨rfl, h0⟩ | ⟨g, cap, cur, rfl, hb, hr, hn, hc, hs, ht⟩⟩ := hL
  · exact ⟨hl, .inl ⟨rfl, h0⟩⟩
  · exact ⟨hl, .inr ⟨g, cap, cur, rfl, hb, hk.2 g _ _ _ hr (fun hc' => (h7 g hc').2.2 rfl), hn, hc, hs, ht⟩⟩
theorem Tabs.kpx {S : Nat → Prop} {w w' : World} (h : Tabs w) (hk : KpX S w w') (h0 : ¬ S 0) (h1 : ¬ S 1) : Tabs w' :=
  ⟨fun j x hx => hk.cell (h.first j x hx) h0, fun j x hx => hk.cell (h.roots j x hx) h1⟩
theorem RoAt.kpx {S : Nat → Prop} {a w : World} {g : Nat} {t : TypeId} {cs : Array Value} (h : RoAt a g t cs) (hk : KpX S a w) (hs : ¬ S g) : RoAt w g t cs := ⟨hk.2 g _ _ _ h.row hs⟩
theorem read_at {B : Nat} {C : Nat → Prop} {w : World} {p gb : Nat} {s : DS} (h : Lies B C w p gb s) (hok : s.Ok) (hb : s.Bw) (hws : s.ws.length < 999999) {i : Nat} (hi : i < s.n) (hd : s.dn = false) {L : List YtdgnjpdjohibeaaDoor.B} (hL : dsb s i = L) :
    Calls Tryd.prog 56 #[.pointer (some ⟨p, 0, none⟩), .int .i64 (i : Int)] w fun e w' => e = .returned (.tuple #[.agg (brow L), .int .i64 0]) ∧ Keeps (fun _ => False) w w' := by
  have := read_ds h hok (by omega) (i : Int)
  rw [read_in hb hok hi hd, hL] at this
  exact this
end Go.Proofs.YtdgnjpdjohibeaaDoor
