/-
  The disk and the reference, side by side.
-/
import Derived.Test.YtokgnfniaeeloaaTd
set_option linter.all false
namespace Go.Proofs.Ytokgnfniaeeloaa
open Go.RowKit Go.Shelf

/-- The state that the disk has where the reference has s: its fuse is at the least -1. -/
def DS.cap (s : DS) : DS := { s with F := max s.F (-1) }

theorem cap_zero {F : Int} : max F (-1) = 0 ↔ F = 0 := by omega
theorem burnt_cap (F : Int) : burnt (max F (-1)) = max (burnt F) (-1) := by unfold burnt; split <;> split <;> omega

theorem cap_write (s : DS) (i : Int) (b : List Value) : s.cap.write i b = ((s.write i b).1, (s.write i b).2.cap) := by
  have hF : s.cap.F = max s.F (-1) := rfl
  have hn : s.cap.n = s.n := rfl
  have hdn : s.cap.dn = s.dn := rfl
  unfold DS.write
  by_cases h1 : i < 0 ∨ (s.n : Int) ≤ i
  · rw [if_pos (by rw [hn]; exact h1), if_pos h1]
  · rw [if_neg (by rw [hn]; exact h1), if_neg h1]
    by_cases h2 : s.F = 0 ∨ s.dn = true
    · rw [if_pos (by rw [hF, hdn, cap_zero]; exact h2), if_pos h2]; rfl
    · rw [if_neg (by rw [hF, hdn, cap_zero]; exact h2), if_neg h2]
      unfold DS.cap
      dsimp only
      rw [burnt_cap]

theorem cap_sync (s : DS) : s.cap.sync = (s.sync.1, s.sync.2.cap) := by
  have hF : s.cap.F = max s.F (-1) := rfl
  have hdn : s.cap.dn = s.dn := rfl
  unfold DS.sync
  by_cases h2 : s.F = 0 ∨ s.dn = true
  · rw [if_pos (by rw [hF, hdn, cap_zero]; exact h2), if_pos h2]; rfl
  · rw [if_neg (by rw [hF, hdn, cap_zero]; exact h2), if_neg h2]
    unfold DS.cap
    dsimp only
    rw [burnt_cap]

theorem cap_crash (s : DS) (ks : List Int) (t : Int) : s.cap.crash ks t = (s.crash ks t).cap := rfl
theorem cap_read (s : DS) (i : Int) : s.cap.read i = s.read i := rfl

def DS.raw (s : DS) (n : Int) : DS := { s with F := n }
theorem cap_fuse (s : DS) (n : Int) : s.cap.fuse n = (s.raw n).cap := rfl

theorem DS.Ok.cap {s : DS} (h : s.Ok) : s.cap.Ok := ⟨h.size, h.one, h.lw, by show _ ≤ max s.F (-1); have := h.lo; omega, by show max s.F (-1) ≤ _; have := h.hi; omega⟩
theorem DS.Ok.raw {s : DS} (h : s.Ok) (n : Int) (h0 : -9223372036854775808 ≤ n) (h1 : n ≤ 9223372036854775807) : (s.raw n).Ok := ⟨h.size, h.one, h.lw, h0, h1⟩

/-- All of a state's bytes are bytes. -/
structure DS.By (s : DS) : Prop where
  bl : AllByte s.bl
  ws : ∀ x ∈ s.ws, ∀ v ∈ x.2, ∃ z, v = .int .u8 z

theorem By.new (n : Nat) : (DS.new n).By := ⟨allByte_zeros n, fun x hx => by cases hx⟩
theorem DS.By.raw {s : DS} (h : s.By) (n : Int) : (s.raw n).By := ⟨h.bl, h.ws⟩
theorem DS.By.write {s : DS} (h : s.By) (i : Int) (v : Int) : (s.write i (fill v).toList).2.By := by
  unfold DS.write
  split
  · exact h
  · split
    · exact ⟨h.bl, h.ws⟩
    · refine ⟨h.bl, fun x hx u hu => ?_⟩
      rcases List.mem_append.1 hx with hx | hx
      · exact h.ws x hx u hu
      · obtain rfl : x = (i, (fill v).toList) := by simpa using hx
        rw [show (fill v).toList = List.replicate 128 (.int .u8 v) by simp [fill]] at hu
        exact ⟨v, List.eq_of_mem_replicate hu⟩

theorem allByte_crashRow (t : Int) (n : Nat) (l : List (Nat × LW)) : ∀ (row : Array Value), row.size = n * 128 → (∀ y ∈ l, LwOk y.2 ∧ 0 ≤ y.2.1 ∧ y.2.1 < (n : Int)) → AllByte row → (∀ y ∈ l, ∀ v ∈ y.2.2, ∃ z, v = .int .u8 z) → AllByte (crashRow t row l) := by
  induction l with
  | nil => intro row _ _ h _; exact h
  | cons y l ih =>
    intro row hs hok h hl
    have hy := hok y (by simp)
    have hf : y.2.1.toNat * 128 + (y.2.2.take (cutOf t y.1)).toArray.size ≤ row.size := by
      have hmul : (y.2.1.toNat + 1) * 128 ≤ n * 128 := Nat.mul_le_mul_right 128 (by omega)
      have := hy.1.1
      simp; omega
    show AllByte (crashRow t (over row (y.2.1.toNat * 128) (y.2.2.take (cutOf t y.1)).toArray) l)
    refine ih _ (by rw [size_over hf]; exact hs) (fun z hz => hok z (by simp [hz])) (allByte_over h (fun j v hv => ?_) hf) (fun z hz => hl z (by simp [hz]))
    have hv' : v ∈ y.2.2.take (cutOf t y.1) := by
      rw [List.getElem?_toArray] at hv
      exact List.mem_of_getElem? hv
    exact hl y (by simp) v (List.mem_of_mem_take hv')

theorem DS.By.crash {s : DS} (h : s.By) (hok : s.Ok) (ks : List Int) (t : Int) : (s.crash ks t).By :=
  ⟨allByte_crashRow t s.n _ _ hok.size (fun y hy => hok.lw y.2 (mem_idx (List.mem_filter.1 hy).1)) h.bl (fun y hy => h.ws y.2 (mem_idx (List.mem_filter.1 hy).1)), fun x hx => by cases hx⟩
theorem DS.By.sync {s : DS} (h : s.By) (hok : s.Ok) : s.sync.2.By := by
  unfold DS.sync
  split
  · exact ⟨h.bl, h.ws⟩
  · exact ⟨allByte_crashRow (-1) s.n _ _ hok.size (fun y hy => hok.lw y.2 (mem_idx hy)) h.bl (fun y hy => h.ws y.2 (mem_idx hy)), fun x hx => by cases hx⟩

theorem DS.By.read {s : DS} (h : s.By) (hok : s.Ok) (i : Int) : Bytes (s.read i).1 := by
  unfold DS.read
  split
  · exact bytes_fill 0
  · split
    · exact bytes_fill 0
    · rename_i h1 h2
      show Bytes (s.block i.toNat)
      have hmul : (i.toNat + 1) * 128 ≤ s.n * 128 := Nat.mul_le_mul_right 128 (by omega)
      have hsz := hok.size
      unfold DS.block
      split
      · rename_i x hx
        have hm : x ∈ s.ws := by simpa using List.mem_of_find?_eq_some hx
        have hl := (hok.lw x hm).1.1
        refine ⟨by simp [hl], fun j hj => ?_⟩
        rw [List.getElem?_toArray, List.getElem?_eq_getElem (by omega)]
        obtain ⟨z, hz⟩ := h.ws x hm _ (List.getElem_mem (show j < x.2.length by omega))
        exact ⟨z, by rw [hz]⟩
      · exact bytes_blk h.bl (by omega)

/-- The reference's blocks. -/
def Rs (p gb : Nat) (vr : Value) (k : Nat) : Prop := k = p ∨ k = gb ∨ vr.ownBlock = some k

/-- The disk lies at p, gb with the state s and the reference at p', gb' with the state r; they share nothing, all of it is at or beyond B, and none of X is among it. -/
structure Half (B : Nat) (X : Nat → Prop) (w : World) (p gb p' gb' : Nat) (s r : DS) : Prop where
  out : ∃ vr, Lies B (fun k => Rs p' gb' vr k ∨ X k) w p gb s ∧ RefAt w p' (.slice (some ⟨gb', 0, none⟩) r.n r.n) vr r.F r.dn r.dc ∧ w.heap[gb']? = some (.cells r.bl 37 (0, 0)) ∧ w.ownsRow 0 68 129 vr r.ws.length (flat r.ws) ∧
    p' ≠ gb' ∧ vr.ownBlock ≠ some p' ∧ vr.ownBlock ≠ some gb' ∧ B ≤ p' ∧ B ≤ gb' ∧ (∀ g, vr.ownBlock = some g → B ≤ g) ∧ (∀ k, X k → ¬ Rs p' gb' vr k)

section
variable {B : Nat} {X : Nat → Prop} {w : World} {p gb p' gb' : Nat} {s r : DS}

theorem Half.kept {w' : World} (h : Half B X w p gb p' gb' s r) (hk : Keeps (fun _ => False) w w') : Half B X w' p gb p' gb' s r := by
  obtain ⟨vr, hl, hR, hB, hL, h1⟩ := h.out
  exact ⟨vr, hl.kept hk, hR.kept hk (fun h => h), (hk.block gb' (Array.getElem?_eq_some_iff.1 hB).1 (fun h => h)).trans hB, ownsRow_keeps hL hk (fun _ _ h => h), h1⟩

theorem Half.ref_lt (h : Half B X w p gb p' gb' s r) : ∃ vr, Lies B (fun k => Rs p' gb' vr k ∨ X k) w p gb s ∧ (∀ k, Rs p' gb' vr k → k < w.heap.size) := by
  obtain ⟨vr, hl, hR, hB, hL, h1, h2, h3, h4, h5, h6, h7⟩ := h.out
  refine ⟨vr, hl, ?_⟩
  rintro k (rfl | rfl | e)
  · exact hR.lt
  · exact (Array.getElem?_eq_some_iff.1 hB).1
  · exact (hL.lt k e).2

theorem Half.more {X' : Nat → Prop} (h : Half B X w p gb p' gb' s r) (hX : ∀ k, X' k → X k ∨ w.heap.size ≤ k) : Half B X' w p gb p' gb' s r := by
  obtain ⟨vr, hl, hR, hB, hL, h1, h2, h3, h4, h5, h6, h7⟩ := h.out
  have hlt : ∀ k, Rs p' gb' vr k → k < w.heap.size := by
    rintro k (rfl | rfl | e)
    · exact hR.lt
    · exact (Array.getElem?_eq_some_iff.1 hB).1
    · exact (hL.lt k e).2
  refine ⟨vr, hl.more ?_, hR, hB, hL, h1, h2, h3, h4, h5, h6, fun k hk hr => ?_⟩
  · rintro k (e | e)
    · exact .inl (.inl e)
    · rcases hX k e with e | e
      · exact .inl (.inr e)
      · exact .inr e
  · rcases hX k hk with e | e
    · exact h7 k e hr
    · have := hlt k hr; omega

/-- What the disk's own contract gives. -/
theorem Half.disk (h : Half B X w p gb p' gb' s r) (hX : ∀ k, X k → k < w.heap.size) :
    ∃ C, Lies B C w p gb s ∧ (∀ k, C k → k < w.heap.size) ∧ ∀ w' s', Lies B C w' p gb s' → Keeps (Own1 B C) w w' → Half B X w' p gb p' gb' s' r ∧ Keeps (Own1 B X) w w' := by
  obtain ⟨vr, hl, hR, hB, hL, h1, h2, h3, h4, h5, h6, h7⟩ := h.out
  have hgl := (Array.getElem?_eq_some_iff.1 hB).1
  refine ⟨_, hl, ?_, fun w' s' hl' hk => ⟨⟨vr, hl', hR.kept hk (fun e => e.2 (.inl (.inl rfl))), (hk.block gb' hgl (fun e => e.2 (.inl (.inr (.inl rfl))))).trans hB, ownsRow_keeps hL hk (fun g e he => he.2 (.inl (.inr (.inr e)))), h1, h2, h3, h4, h5, h6, h7⟩, hk.mono (fun k _ e => ⟨e.1, fun x => e.2 (.inr x)⟩)⟩⟩
  rintro k ((rfl | rfl | e) | e)
  · exact hR.lt
  · exact hgl
  · exact (hL.lt k e).2
  · exact hX k e

/-- The reference moved in its own blocks; its loose writes may lie in a new one. -/
theorem Lies.moved {w' : World} {vr vr' : Value} (h : Lies B (fun k => Rs p' gb' vr k ∨ X k) w p gb s) (hk : Keeps (Rs p' gb' vr) w w') (hn : ∀ g, vr'.ownBlock = some g → vr.ownBlock = some g ∨ w.heap.size ≤ g) : Lies B (fun k => Rs p' gb' vr' k ∨ X k) w' p gb s := by
  have h1 : Lies B (fun k => (Rs p' gb' vr k ∨ X k) ∨ w.heap.size ≤ k) w p gb s := h.more (fun k e => e)
  have h2 := h1.keptC (hk.mono (fun k _ e => .inl (.inl e)))
  refine h2.more (fun k e => .inl ?_)
  rcases e with (e | e | e) | e
  · exact .inl (.inl (.inl e))
  · exact .inl (.inl (.inr (.inl e)))
  · rcases hn k e with e | e
    · exact .inl (.inl (.inr (.inr e)))
    · exact .inr e
  · exact .inl (.inr e)

/-- All that the reference's own contract has to give. -/
theorem Half.ref {w' : World} {vr vr' : Value} {r' : DS} (hl : Lies B (fun k => Rs p' gb' vr k ∨ X k) w p gb s) (hk : Keeps (Rs p' gb' vr) w w') (hn : ∀ g, vr'.ownBlock = some g → vr.ownBlock = some g ∨ w.heap.size ≤ g)
    (hX : ∀ k, X k → k < w.heap.size) (hBw : B ≤ w.heap.size) (hp : p' < w.heap.size) (hg : gb' < w.heap.size) (h1 : p' ≠ gb') (h2 : vr.ownBlock ≠ some p') (h3 : vr.ownBlock ≠ some gb') (h4 : B ≤ p') (h5 : B ≤ gb') (h6 : ∀ g, vr.ownBlock = some g → B ≤ g) (h7 : ∀ k, X k → ¬ Rs p' gb' vr k)
    (hR : RefAt w' p' (.slice (some ⟨gb', 0, none⟩) r'.n r'.n) vr' r'.F r'.dn r'.dc) (hB : w'.heap[gb']? = some (.cells r'.bl 37 (0, 0))) (hL : w'.ownsRow 0 68 129 vr' r'.ws.length (flat r'.ws)) :
    Half B X w' p gb p' gb' s r' ∧ Keeps (Own1 B X) w w' := by
  refine ⟨⟨vr', hl.moved hk hn, hR, hB, hL, h1, ?_, ?_, h4, h5, ?_, ?_⟩, hk.mono ?_⟩
  · intro e; rcases hn _ e with e | e; exact h2 e; omega
  · intro e; rcases hn _ e with e | e; exact h3 e; omega
  · intro g e; rcases hn _ e with e | e; exact h6 g e; omega
  · rintro k hx (e | e | e)
    · exact h7 k hx (.inl e)
    · exact h7 k hx (.inr (.inl e))
    · rcases hn _ e with e | e
      · exact h7 k hx (.inr (.inr e))
      · have := hX k hx; omega
  · rintro k _ (e | e | e)
    · exact ⟨by omega, fun x => h7 k x (.inl e)⟩
    · exact ⟨by omega, fun x => h7 k x (.inr (.inl e))⟩
    · exact ⟨h6 k e, fun x => h7 k x (.inr (.inr e))⟩

theorem rwrite_half (h : Half B X w p gb p' gb' s r) (hok : r.Ok) (hX : ∀ k, X k → k < w.heap.size) (hBw : B ≤ w.heap.size) (hdc : 0 ≤ r.dc ∧ r.dc < 1000000) (hws : r.ws.length < 1000000)
    (i : Int) (b : List Value) (hb : b.length = 128 ∧ ∀ v ∈ b, v.oneCell' = true) :
    Calls Try.prog 16 #[.pointer (some ⟨p', 0, none⟩), .int .i64 i, .agg b.toArray] w fun e w' => e = .returned (.int .i64 (r.write i b).1) ∧ Half B X w' p gb p' gb' s (r.write i b).2 ∧ Keeps (Own1 B X) w w' := by
  obtain ⟨vr, hl, hR, hB, hL, h1, h2, h3, h4, h5, h6, h7⟩ := h.out
  have hgl : gb' < w.heap.size := (Array.getElem?_eq_some_iff.1 hB).1
  have hpl := hR.lt
  unfold DS.write
  by_cases hin : 0 ≤ i ∧ i < (r.n : Int)
  · rw [if_neg (by omega)]
    by_cases hd : r.F = 0 ∨ r.dn = true
    · rw [if_pos hd]
      refine (rwrite_down w p' _ r.n r.n vr r.F r.dn r.dc hR i _ hin hd).mono ?_
      rintro e w' ⟨rfl, hR', hk⟩
      exact ⟨rfl, Half.ref hl (hk.mono (fun k _ e => .inl e)) (fun g e => .inl e) hX hBw hpl hgl h1 h2 h3 h4 h5 h6 h7 hR' ((hk.block gb' hgl (fun e => h1 e.symm)).trans hB) (ownsRow_keeps hL hk (fun g e he => h2 (by rw [e, he])))⟩
    · rw [if_neg hd]
      simp only [not_or, Bool.not_eq_true] at hd
      rw [hd.2] at hR
      refine (rwrite_goes w p' _ r.n r.n vr r.F r.dc hR r.ws.length (flat r.ws) hL h2 i b hb.1 hb.2 hin.1 hin.2 hd.1 hok.lo hok.hi hdc.1 hdc.2 hws).mono ?_
      rintro e w' ⟨rfl, g, cap, hR', hL', hg, hk⟩
      have hown : (Value.slice (some ⟨g, 0, none⟩) (r.ws.length + 1) cap).ownBlock = some g := rfl
      refine ⟨rfl, Half.ref (vr' := .slice (some ⟨g, 0, none⟩) (r.ws.length + 1) cap) hl (hk.mono (fun k _ e => by rcases e with e | e; exact .inl e; exact .inr (.inr e))) (fun g' e => by rw [hown] at e; cases e; exact hg) hX hBw hpl hgl h1 h2 h3 h4 h5 h6 h7 ?_ ?_ ?_⟩
      · dsimp only; rw [hd.2]; exact hR'
      · exact (hk.block gb' hgl (fun e => by rcases e with e | e; exact h1 e.symm; exact h3 e)).trans hB
      · dsimp only; rw [List.length_append, List.length_singleton, flat_snoc]; exact hL'
  · rw [if_pos (by omega)]
    refine (rwrite_out w p' _ r.n r.n vr r.F r.dn r.dc hR i _ hin).mono ?_
    rintro e w' ⟨rfl, hk⟩
    exact ⟨rfl, h.kept hk, hk.mono (fun _ _ h => h.elim)⟩

theorem rread_half (h : Half B X w p gb p' gb' s r) (hok : r.Ok) (hws : r.ws.length < 1000000) (i : Int) :
    Calls Try.prog 18 #[.pointer (some ⟨p', 0, none⟩), .int .i64 i] w fun e w' => e = .returned (.tuple #[.agg (r.read i).1, .int .i64 (r.read i).2]) ∧ Keeps (fun _ => False) w w' := by
  obtain ⟨vr, hl, hR, hB, hL, h1, h2, h3, h4, h5, h6, h7⟩ := h.out
  unfold DS.read
  by_cases hin : 0 ≤ i ∧ i < (r.n : Int)
  · rw [if_neg (by omega)]
    by_cases hd : r.dn = true
    · rw [if_pos hd]
      rw [hd] at hR
      exact rread_down w p' _ r.n r.n vr r.F r.dc hR i hin
    · rw [if_neg hd]
      simp only [Bool.not_eq_true] at hd
      rw [hd] at hR
      obtain ⟨j, hj⟩ := Int.eq_ofNat_of_zero_le hin.1
      subst hj
      exact rread_ok w p' gb' r.n vr r.F r.dc r.ws r.bl hR hB hok.size hok.one ⟨hL, fun x hx => (hok.lw x hx).1⟩ hws j (by omega)
  · rw [if_pos (by omega)]
    exact rread_out w p' _ r.n r.n vr r.F r.dn r.dc hR i hin

theorem rsync_half (h : Half B X w p gb p' gb' s r) (hok : r.Ok) (hX : ∀ k, X k → k < w.heap.size) (hBw : B ≤ w.heap.size) (hdc : 0 ≤ r.dc ∧ r.dc < 1000000) (hws : r.ws.length < 1000000) :
    Calls Try.prog 20 #[.pointer (some ⟨p', 0, none⟩)] w fun e w' => e = .returned (.int .i64 r.sync.1) ∧ Half B X w' p gb p' gb' s r.sync.2 ∧ Keeps (Own1 B X) w w' := by
  obtain ⟨vr, hl, hR, hB, hL, h1, h2, h3, h4, h5, h6, h7⟩ := h.out
  have hgl : gb' < w.heap.size := (Array.getElem?_eq_some_iff.1 hB).1
  have hpl := hR.lt
  unfold DS.sync
  by_cases hd : r.F = 0 ∨ r.dn = true
  · rw [if_pos hd]
    refine (rsync_down w p' _ vr r.F r.dn r.dc hR hd).mono ?_
    rintro e w' ⟨rfl, hR', hk⟩
    exact ⟨rfl, Half.ref hl (hk.mono (fun k _ e => .inl e)) (fun g e => .inl e) hX hBw hpl hgl h1 h2 h3 h4 h5 h6 h7 hR' ((hk.block gb' hgl (fun e => h1 e.symm)).trans hB) (ownsRow_keeps hL hk (fun g e he => h2 (by rw [e, he])))⟩
  · rw [if_neg hd]
    simp only [not_or, Bool.not_eq_true] at hd
    rw [hd.2] at hR
    refine (rsync_goes w p' gb' r.n vr r.F r.dc r.ws r.bl hR hB hok.size ⟨hL, fun x hx => (hok.lw x hx).1⟩ hws (fun x hx => (hok.lw x hx).2) h1 h3 h2 hd.1 hok.lo hok.hi hdc.1 hdc.2).mono ?_
    rintro e w' ⟨rfl, hR', hB', hk⟩
    exact ⟨rfl, Half.ref (vr' := .slice none 0 0) hl (hk.mono (fun k _ e => by rcases e with e | e; exact .inl e; exact .inr (.inl e))) (fun g e => by cases e) hX hBw hpl hgl h1 h2 h3 h4 h5 h6 h7 (by dsimp only; rw [hd.2]; exact hR') hB' (World.ownsRow_nil _ _ _ _)⟩

theorem rcrash_half (h : Half B X w p gb p' gb' s r) (hok : r.Ok) (hby : r.By) (hX : ∀ k, X k → k < w.heap.size) (hBw : B ≤ w.heap.size) (hws : r.ws.length < 1000000) (ka : Option Addr) (kc : Nat) (ks : List Int) (t : Int) (hK : KeepAt w ka ks) (hkl : ks.length ≤ 1000000) (hka : ks ≠ [] → ∀ b o, ka = some ⟨b, o, none⟩ → b ≠ gb') :
    Calls Try.prog 22 #[.pointer (some ⟨p', 0, none⟩), .slice ka ks.length kc, .int .i64 t] w fun e w' => e = .returned (.tuple #[]) ∧ Half B X w' p gb p' gb' s (r.crash ks t) ∧ Keeps (Own1 B X) w w' := by
  obtain ⟨vr, hl, hR, hB, hL, h1, h2, h3, h4, h5, h6, h7⟩ := h.out
  have hgl : gb' < w.heap.size := (Array.getElem?_eq_some_iff.1 hB).1
  have hpl := hR.lt
  refine (rcrash_any w p' gb' r.n vr r.F r.dc t r.dn r.ws r.bl ka kc ks hR hB hok.size ⟨hL, fun x hx => (hok.lw x hx).1⟩ hws (fun x hx => (hok.lw x hx).2) hby.ws hK hkl hka h1 h3).mono ?_
  rintro e w' ⟨rfl, hR', hB', hk⟩
  exact ⟨rfl, Half.ref (vr' := .slice none 0 0) hl (hk.mono (fun k _ e => by rcases e with e | e; exact .inl e; exact .inr (.inl e))) (fun g e => by cases e) hX hBw hpl hgl h1 h2 h3 h4 h5 h6 h7 hR' hB' (World.ownsRow_nil _ _ _ _)⟩

/-- The store of the reference's fuse. -/
theorem Half.fuse (h : Half B X w p gb p' gb' s r) (hX : ∀ k, X k → k < w.heap.size) (hBw : B ≤ w.heap.size) (n : Int) :
    Half B X (w.setCell ⟨p', 2, none⟩ (.int .i64 n)) p gb p' gb' s (r.raw n) ∧ Keeps (Own1 B X) w (w.setCell ⟨p', 2, none⟩ (.int .i64 n)) := by
  obtain ⟨vr, hl, hR, hB, hL, h1, h2, h3, h4, h5, h6, h7⟩ := h.out
  have hgl : gb' < w.heap.size := (Array.getElem?_eq_some_iff.1 hB).1
  have hk : Keeps (· = p') w (w.setCell ⟨p', 2, none⟩ (.int .i64 n)) := (Keeps.refl (· = p') w).setCell (p := ⟨p', 2, none⟩) (.inl rfl) _
  exact Half.ref hl (hk.mono (fun k _ e => .inl e)) (fun g e => .inl e) hX hBw hR.lt hgl h1 h2 h3 h4 h5 h6 h7 (hR.set2 n) ((hk.block gb' hgl (fun e => h1 e.symm)).trans hB) (ownsRow_keeps hL hk (fun g e he => h2 (by rw [e, he])))

/-- The reference's cells, as the law reads them. -/
theorem Half.cells (h : Half B X w p gb p' gb' s r) :
    ∃ la lc, w.cell? ⟨p', 0, none⟩ = some (.slice (some ⟨gb', 0, none⟩) r.n r.n) ∧ w.cell? ⟨p', 1, none⟩ = some (.slice la r.ws.length lc) ∧ w.cell? ⟨p', 2, none⟩ = some (.int .i64 r.F) ∧ w.cell? ⟨p', 3, none⟩ = some (.bool r.dn) ∧ w.cell? ⟨p', 4, none⟩ = some (.int .i64 r.dc) ∧
      (∀ j, w.frozen? ⟨p', j, none⟩ = false) ∧ w.heap[gb']? = some (.cells r.bl 37 (0, 0)) := by
  obtain ⟨vr, hl, hR, hB, hL, _⟩ := h.out
  obtain ⟨c0, c1, c2, c3, c4⟩ := hR.cells
  rcases hL.2 with ⟨rfl, h0⟩ | ⟨g, cap, cur, rfl, _⟩
  · exact ⟨none, 0, c0, by rw [h0]; exact c1, c2, c3, c4, fun j => hR.free j, hB⟩
  · exact ⟨_, _, c0, c1, c2, c3, c4, fun j => hR.free j, hB⟩

theorem Half.lies (h : Half B X w p gb p' gb' s r) : ∃ C, Lies B C w p gb s := by
  obtain ⟨vr, hl, _⟩ := h.out
  exact ⟨_, hl⟩

theorem Half.lt (h : Half B X w p gb p' gb' s r) : gb < w.heap.size ∧ gb' < w.heap.size ∧ B ≤ gb ∧ B ≤ gb' := by
  obtain ⟨vr, ⟨vl, _, hB1, _, _, _, _, _, q, _⟩, hR, hB, hL, h1, h2, h3, h4, h5, h6⟩ := h.out
  exact ⟨(Array.getElem?_eq_some_iff.1 hB1).1, (Array.getElem?_eq_some_iff.1 hB).1, q, h5⟩

/-! ### The disk's own, beside the reference; its state is the reference's, capped -/

theorem dwrite_half (h : Half B X w p gb p' gb' r.cap r) (hok : r.Ok) (hX : ∀ k, X k → k < w.heap.size) (hBw : B ≤ w.heap.size) (hdc : 0 ≤ r.dc ∧ r.dc < 1000000) (hws : r.ws.length < 1000000)
    (i : Int) (b : List Value) (hb : b.length = 128 ∧ ∀ v ∈ b, v.oneCell' = true) :
    Calls Try.prog 14 #[.pointer (some ⟨p, 0, none⟩), .int .i64 i, .agg b.toArray] w fun e w' => e = .returned (.int .i64 (r.write i b).1) ∧ Half B X w' p gb p' gb' (r.write i b).2.cap r ∧ Keeps (Own1 B X) w w' := by
  obtain ⟨C, hl, hC, hnext⟩ := h.disk hX
  refine (write_ds hl hok.cap hC hBw hdc hws i b hb).mono ?_
  rw [cap_write]
  rintro e w' ⟨rfl, hl', hk⟩
  exact ⟨rfl, hnext w' _ hl' hk⟩

theorem dread_half (h : Half B X w p gb p' gb' r.cap r) (hok : r.Ok) (hws : r.ws.length < 1000000) (i : Int) :
    Calls Try.prog 17 #[.pointer (some ⟨p, 0, none⟩), .int .i64 i] w fun e w' => e = .returned (.tuple #[.agg (r.read i).1, .int .i64 (r.read i).2]) ∧ Keeps (fun _ => False) w w' := by
  obtain ⟨C, hl⟩ := h.lies
  exact read_ds hl hok.cap hws i

theorem dsync_half (h : Half B X w p gb p' gb' r.cap r) (hok : r.Ok) (hX : ∀ k, X k → k < w.heap.size) (hdc : 0 ≤ r.dc ∧ r.dc < 1000000) (hws : r.ws.length < 1000000) :
    Calls Try.prog 19 #[.pointer (some ⟨p, 0, none⟩)] w fun e w' => e = .returned (.int .i64 r.sync.1) ∧ Half B X w' p gb p' gb' r.sync.2.cap r ∧ Keeps (Own1 B X) w w' := by
  obtain ⟨C, hl, hC, hnext⟩ := h.disk hX
  refine (sync_ds hl hok.cap hws hdc).mono ?_
  rw [cap_sync]
  rintro e w' ⟨rfl, hl', hk⟩
  exact ⟨rfl, hnext w' _ hl' hk⟩

theorem dcrash_half (h : Half B X w p gb p' gb' r.cap r) (hok : r.Ok) (hX : ∀ k, X k → k < w.heap.size) (hws : r.ws.length < 1000000) (ka : Option Addr) (kc : Nat) (ks : List Int) (t : Int) (hK : KeepAt w ka ks) (hka : ∀ b o, ka = some ⟨b, o, none⟩ → b ≠ gb) :
    Calls Try.prog 21 #[.pointer (some ⟨p, 0, none⟩), .slice ka ks.length kc, .int .i64 t] w fun e w' => e = .returned (.tuple #[]) ∧ Half B X w' p gb p' gb' (r.crash ks t).cap r ∧ Keeps (Own1 B X) w w' := by
  obtain ⟨C, hl, hC, hnext⟩ := h.disk hX
  refine (crash_ds hl hok.cap hws ka kc ks t hK hka).mono ?_
  rw [cap_crash]
  rintro e w' ⟨rfl, hl', hk⟩
  exact ⟨rfl, hnext w' _ hl' hk⟩

theorem dfuse_half (h : Half B X w p gb p' gb' r.cap r) (hX : ∀ k, X k → k < w.heap.size) (n : Int) :
    Calls Try.prog 23 #[.pointer (some ⟨p, 0, none⟩), .int .i64 n] w fun e w' => e = .returned (.tuple #[]) ∧ Half B X w' p gb p' gb' (r.raw n).cap r ∧ Keeps (Own1 B X) w w' := by
  obtain ⟨C, hl, hC, hnext⟩ := h.disk hX
  refine (fuse_ds hl n).mono ?_
  rw [cap_fuse]
  rintro e w' ⟨rfl, hl', hk⟩
  exact ⟨rfl, hnext w' _ hl' hk⟩

theorem dloose_half (h : Half B X w p gb p' gb' r.cap r) : Calls Try.prog 24 #[.pointer (some ⟨p, 0, none⟩)] w fun e w' => e = .returned (.int .i64 (r.ws.length : Int)) ∧ w' = w := by
  obtain ⟨C, hl⟩ := h.lies
  exact loose_ds (s := r.cap) hl
theorem dlen_half (h : Half B X w p gb p' gb' r.cap r) : Calls Try.prog 25 #[.pointer (some ⟨p, 0, none⟩)] w fun e w' => e = .returned (.int .i64 (r.n : Int)) ∧ w' = w := by
  obtain ⟨C, hl⟩ := h.lies
  exact len_ds (s := r.cap) hl
theorem ddown_half (h : Half B X w p gb p' gb' r.cap r) : Calls Try.prog 26 #[.pointer (some ⟨p, 0, none⟩)] w fun e w' => e = .returned (.bool r.dn) ∧ w' = w := by
  obtain ⟨C, hl⟩ := h.lies
  exact down_ds (s := r.cap) hl
theorem ddone_half (h : Half B X w p gb p' gb' r.cap r) : Calls Try.prog 27 #[.pointer (some ⟨p, 0, none⟩)] w fun e w' => e = .returned (.int .i64 r.dc) ∧ w' = w := by
  obtain ⟨C, hl⟩ := h.lies
  exact done_ds (s := r.cap) hl
end

/-- Both are new. -/
theorem half_new (n : Nat) {w w1 w2 : World} (hl : Lies w.heap.size none' w1 (w.heap.size + 1) w.heap.size (DS.new n)) (hs : w1.heap.size = w.heap.size + 2) (hk : Keeps (fun _ => False) w1 w2)
    (hR : RefAt w2 (w1.heap.size + 1) (.slice (some ⟨w1.heap.size, 0, none⟩) n n) (.slice none 0 0) (-1) false 0) (hB : w2.heap[w1.heap.size]? = some (.cells (zeros n) 37 (0, 0))) :
    Half w.heap.size (fun _ => False) w2 (w.heap.size + 1) w.heap.size (w1.heap.size + 1) w1.heap.size (DS.new n).cap (DS.new n) := by
  have h0 := hl.more (C' := fun k => Rs (w1.heap.size + 1) w1.heap.size (.slice none 0 0) k ∨ False) (fun k e => by
    rcases e with (e | e | e) | e
    · exact .inr (by omega)
    · exact .inr (by omega)
    · cases e
    · exact e.elim)
  exact ⟨_, h0.kept hk, hR, hB, World.ownsRow_nil _ _ _ _, by omega, by simp [Value.ownBlock], by simp [Value.ownBlock], by omega, by omega, by simp [Value.ownBlock], fun k h => h.elim⟩

end Go.Proofs.Ytokgnfniaeeloaa
