/-
  A disk's state as one thing, and what each method makes of it.
-/
import Derived.Test.YtokgnfniaeeloaaRo
import Derived.Test.YtokgnfniaeeloaaRj
set_option linter.all false
namespace Go.Proofs.Ytokgnfniaeeloaa
open Go.RowKit Go.Shelf

structure DS where
  n : Nat
  bl : Array Value
  ws : List LW
  F : Int
  dn : Bool
  dc : Int

/-- What has to be so of a state. -/
structure DS.Ok (s : DS) : Prop where
  size : s.bl.size = s.n * 128
  one : AllOne s.bl
  lw : ∀ x ∈ s.ws, LwOk x ∧ 0 ≤ x.1 ∧ x.1 < (s.n : Int)
  lo : -9223372036854775808 ≤ s.F
  hi : s.F ≤ 9223372036854775807

/-- The state s lies at p; its blocks lie at or beyond B, and none of C is among them. -/
def Lies (B : Nat) (C : Nat → Prop) (w : World) (p gb : Nat) (s : DS) : Prop :=
  ∃ vl, DiskAt w p (.slice (some ⟨gb, 0, none⟩) s.n s.n) vl s.F s.dn s.dc ∧ w.heap[gb]? = some (.cells s.bl 37 (0, 0)) ∧ w.ownsRow 0 65 129 vl s.ws.length (flat s.ws) ∧ p ≠ gb ∧ vl.ownBlock ≠ some p ∧ vl.ownBlock ≠ some gb ∧
    B ≤ p ∧ B ≤ gb ∧ (∀ g, vl.ownBlock = some g → B ≤ g) ∧ (∀ k, C k → k ≠ p ∧ k ≠ gb ∧ vl.ownBlock ≠ some k)

/-- What an operation may touch. -/
abbrev Own1 (B : Nat) (C : Nat → Prop) (k : Nat) : Prop := B ≤ k ∧ ¬ C k

theorem Lies.kept {B : Nat} {C : Nat → Prop} {w w' : World} {p gb : Nat} {s : DS} (h : Lies B C w p gb s) (hk : Keeps (fun _ => False) w w') : Lies B C w' p gb s := by
  obtain ⟨vl, hD, hB, hL, h1, h2, h3, h4⟩ := h
  exact ⟨vl, hD.kept hk (fun h => h), (hk.block gb (Array.getElem?_eq_some_iff.1 hB).1 (fun h => h)).trans hB, ownsRow_keeps hL hk (fun _ _ h => h), h1, h2, h3, h4⟩

/-- A block that was laid since is none of the disk's. -/
theorem Lies.more {B : Nat} {C C' : Nat → Prop} {w : World} {p gb : Nat} {s : DS} (h : Lies B C w p gb s) (hC : ∀ k, C' k → C k ∨ w.heap.size ≤ k) : Lies B C' w p gb s := by
  obtain ⟨vl, hD, hB, hL, h1, h2, h3, h4, h5, h6, h7⟩ := h
  refine ⟨vl, hD, hB, hL, h1, h2, h3, h4, h5, h6, fun k hk => ?_⟩
  rcases hC k hk with hk | hk
  · exact h7 k hk
  · refine ⟨?_, ?_, ?_⟩
    · rintro rfl; have := hD.lt; omega
    · rintro rfl; have := (Array.getElem?_eq_some_iff.1 hB).1; omega
    · intro e; have := (hL.lt k e).2; omega

theorem flat_snoc (ws : List LW) (x : LW) : flat (ws ++ [x]) = flat ws ++ lcells x := by simp [flat]

def DS.write (s : DS) (i : Int) (b : List Value) : Int × DS :=
  if i < 0 ∨ (s.n : Int) ≤ i then (1, s)
  else if s.F = 0 ∨ s.dn = true then (12, { s with dn := true })
  else (0, { s with ws := s.ws ++ [(i, b)], F := burnt s.F, dc := s.dc + 1 })

theorem burnt_lo {F : Int} (h : -9223372036854775808 ≤ F) : -9223372036854775808 ≤ burnt F := by unfold burnt; split <;> omega
theorem burnt_hi {F : Int} (h : F ≤ 9223372036854775807) : burnt F ≤ 9223372036854775807 := by unfold burnt; split <;> omega

theorem DS.Ok.write {s : DS} (h : s.Ok) (i : Int) (b : List Value) (hb : b.length = 128 ∧ ∀ v ∈ b, v.oneCell' = true) : (s.write i b).2.Ok := by
  unfold DS.write
  split
  · exact h
  · split
    · exact ⟨h.size, h.one, h.lw, h.lo, h.hi⟩
    · refine ⟨h.size, h.one, ?_, burnt_lo h.lo, burnt_hi h.hi⟩
      intro x hx
      rcases List.mem_append.1 hx with hx | hx
      · exact h.lw x hx
      · obtain rfl : x = (i, b) := by simpa using hx
        exact ⟨hb, by omega, by show i < (s.n : Int); omega⟩

theorem write_ds {B : Nat} {C : Nat → Prop} {w : World} {p gb : Nat} {s : DS} (h : Lies B C w p gb s) (hok : s.Ok) (hC : ∀ k, C k → k < w.heap.size) (hBw : B ≤ w.heap.size) (hdc : 0 ≤ s.dc ∧ s.dc < 1000000) (hws : s.ws.length < 1000000)
    (i : Int) (b : List Value) (hb : b.length = 128 ∧ ∀ v ∈ b, v.oneCell' = true) :
    Calls Try.prog 14 #[.pointer (some ⟨p, 0, none⟩), .int .i64 i, .agg b.toArray] w fun e w' => e = .returned (.int .i64 (s.write i b).1) ∧ Lies B C w' p gb (s.write i b).2 ∧ Keeps (Own1 B C) w w' := by
  have h0 := h
  obtain ⟨vl, hD, hB, hL, h1, h2, h3, h4, h5, h6, h7⟩ := h
  unfold DS.write
  by_cases hneg : i < 0
  · rw [if_pos (.inl hneg)]
    refine (write_neg w _ i _ hneg).mono ?_
    rintro e w' ⟨rfl, hk⟩
    exact ⟨rfl, h0.kept hk, hk.mono (fun _ _ h => h.elim)⟩
  · by_cases hbig : (s.n : Int) ≤ i
    · rw [if_pos (.inr hbig)]
      refine (write_out w p _ s.n s.n vl s.F s.dn s.dc hD i _ (by omega) hbig).mono ?_
      rintro e w' ⟨rfl, hk⟩
      exact ⟨rfl, h0.kept hk, hk.mono (fun _ _ h => h.elim)⟩
    · rw [if_neg (by omega)]
      by_cases hd : s.F = 0 ∨ s.dn = true
      · rw [if_pos hd]
        refine (write_down w p _ s.n s.n vl s.F s.dn s.dc hD i _ (by omega) (by omega) hd).mono ?_
        rintro e w' ⟨rfl, hD', hk⟩
        refine ⟨rfl, ⟨vl, hD', (hk.block gb (Array.getElem?_eq_some_iff.1 hB).1 (fun e => h1 e.symm)).trans hB, ownsRow_keeps hL hk (fun g e he => h2 (by rw [e, he])), h1, h2, h3, h4, h5, h6, h7⟩, hk.mono (fun k _ e => ⟨by omega, fun hc => (h7 k hc).1 e⟩)⟩
      · rw [if_neg hd]
        simp only [not_or, Bool.not_eq_true] at hd
        rw [hd.2] at hD
        refine (write_goes w p _ s.n s.n vl s.F s.dc hD s.ws.length (flat s.ws) hL h2 i b hb.1 hb.2 (by omega) (by omega) hd.1 hok.lo hok.hi hdc.1 hdc.2 hws).mono ?_
        rintro e w' ⟨rfl, g, cap, hD', hL', hg, hk⟩
        have hgb : gb < w.heap.size := (Array.getElem?_eq_some_iff.1 hB).1
        have hpw := hD.lt
        refine ⟨rfl, ⟨_, by rw [hd.2]; exact hD', (hk.block gb hgb ?_).trans hB, by rw [flat_snoc, List.length_append]; exact hL', h1, ?_, ?_, h4, h5, ?_, ?_⟩, hk.mono ?_⟩
        · rintro (e | e)
          · exact h1 e.symm
          · exact h3 e
        · intro e
          simp only [Value.ownBlock, Option.some.injEq] at e
          rcases hg with hg | hg
          · exact h2 (by rw [hg, e])
          · omega
        · intro e
          simp only [Value.ownBlock, Option.some.injEq] at e
          rcases hg with hg | hg
          · exact h3 (by rw [hg, e])
          · omega
        · intro g' e
          simp only [Value.ownBlock, Option.some.injEq] at e
          rcases hg with hg | hg
          · have := h6 g hg; omega
          · omega
        · intro k hc
          refine ⟨(h7 k hc).1, (h7 k hc).2.1, ?_⟩
          intro e
          simp only [Value.ownBlock, Option.some.injEq] at e
          have hkw := hC k hc
          rcases hg with hg | hg
          · exact (h7 k hc).2.2 (by rw [hg, e])
          · omega
        · intro k _ e
          rcases e with e | e
          · exact ⟨by omega, fun hc => (h7 k hc).1 e⟩
          · exact ⟨h6 k e, fun hc => (h7 k hc).2.2 e⟩

theorem LooseOf {w : World} {vl : Value} {s : DS} (hok : s.Ok) (hL : w.ownsRow 0 65 129 vl s.ws.length (flat s.ws)) : LooseAt w vl s.ws := ⟨hL, fun x hx => (hok.lw x hx).1⟩

/-- What stands in block i. -/
def DS.block (s : DS) (i : Nat) : Array Value :=
  match s.ws.reverse.find? (fun x => x.1 == (i : Int)) with
  | some x => x.2.toArray
  | none => s.bl.extract (i * 128) (i * 128 + 128)

def DS.read (s : DS) (i : Int) : Array Value × Int :=
  if i < 0 ∨ (s.n : Int) ≤ i then (fill 0, 1)
  else if s.dn = true then (fill 0, 12)
  else (s.block i.toNat, 0)

theorem block_of_val {s : DS} {i : Nat} {v : Array Value} (h : ReadVal s.ws s.bl i v) : v = s.block i := by
  unfold DS.block
  rcases h with ⟨pre, x, rest, hx, hp, hxi, rfl⟩ | ⟨hn, rfl⟩
  · have e : s.ws.reverse = (pre ++ x :: rest).map (·.2) := by
      rw [← hx, List.map_reverse]
      congr 1
      simp only [idx, List.map_map]
      have : ((fun x : Nat × LW => x.2) ∘ fun x : LW × Nat => (x.2, x.1)) = Prod.fst := by funext y; rfl
      rw [this]
      simp
    have hf : s.ws.reverse.find? (fun x => x.1 == (i : Int)) = some x.2 := by
      rw [e, List.map_append, List.find?_append]
      have h0 : (pre.map (·.2)).find? (fun x => x.1 == (i : Int)) = none := by
        rw [List.find?_eq_none]
        intro y hy
        obtain ⟨z, hz, rfl⟩ := List.mem_map.1 hy
        simpa using hp z hz
      rw [h0]
      simp [hxi]
    rw [hf]
  · have hf : s.ws.reverse.find? (fun x => x.1 == (i : Int)) = none := by
      rw [List.find?_eq_none]
      intro y hy
      simpa using hn y (by simpa using hy)
    rw [hf]

theorem read_ds {B : Nat} {C : Nat → Prop} {w : World} {p gb : Nat} {s : DS} (h : Lies B C w p gb s) (hok : s.Ok) (hws : s.ws.length < 1000000) (i : Int) :
    Calls Try.prog 17 #[.pointer (some ⟨p, 0, none⟩), .int .i64 i] w fun e w' => e = .returned (.tuple #[.agg (s.read i).1, .int .i64 (s.read i).2]) ∧ Keeps (fun _ => False) w w' := by
  obtain ⟨vl, hD, hB, hL, h1, h2, h3, h4, h5, h6, h7⟩ := h
  unfold DS.read
  by_cases hneg : i < 0
  · rw [if_pos (.inl hneg)]
    exact read_neg w _ i hneg
  · by_cases hbig : (s.n : Int) ≤ i
    · rw [if_pos (.inr hbig)]
      exact read_out w p _ s.n s.n vl s.F s.dn s.dc hD i (by omega) hbig
    · rw [if_neg (by omega)]
      by_cases hd : s.dn = true
      · rw [if_pos hd]
        rw [hd] at hD
        exact read_down w p _ s.n s.n vl s.F s.dc hD i (by omega) (by omega)
      · rw [if_neg hd]
        simp only [Bool.not_eq_true] at hd
        rw [hd] at hD
        obtain ⟨j, hj⟩ := Int.eq_ofNat_of_zero_le (show 0 ≤ i by omega)
        subst hj
        refine (read_ok w p gb s.n vl s.F s.dc s.ws s.bl hD hB hok.size hok.one (LooseOf hok hL) hws j (by omega)).mono ?_
        rintro e w' ⟨⟨v, rfl, hv⟩, hk⟩
        rw [block_of_val hv]
        exact ⟨rfl, hk⟩

theorem loose_ds {B : Nat} {C : Nat → Prop} {w : World} {p gb : Nat} {s : DS} (h : Lies B C w p gb s) :
    Calls Try.prog 24 #[.pointer (some ⟨p, 0, none⟩)] w fun e w' => e = .returned (.int .i64 (s.ws.length : Int)) ∧ w' = w := by
  obtain ⟨vl, hD, hB, hL, _⟩ := h
  rcases hL.2 with ⟨rfl, h0⟩ | ⟨g, cap, cur, rfl, _⟩
  · refine (loose_any w p _ _ _ _ _ _ _ hD).mono ?_
    rintro e w' ⟨rfl, hw⟩
    exact ⟨by rw [h0], hw⟩
  · exact loose_any w p _ _ _ _ _ _ _ hD

theorem len_ds {B : Nat} {C : Nat → Prop} {w : World} {p gb : Nat} {s : DS} (h : Lies B C w p gb s) :
    Calls Try.prog 25 #[.pointer (some ⟨p, 0, none⟩)] w fun e w' => e = .returned (.int .i64 (s.n : Int)) ∧ w' = w := by
  obtain ⟨vl, hD, _⟩ := h
  exact len_any w p _ _ _ _ _ _ _ hD

theorem down_ds {B : Nat} {C : Nat → Prop} {w : World} {p gb : Nat} {s : DS} (h : Lies B C w p gb s) :
    Calls Try.prog 26 #[.pointer (some ⟨p, 0, none⟩)] w fun e w' => e = .returned (.bool s.dn) ∧ w' = w := by
  obtain ⟨vl, hD, _⟩ := h
  exact down_any w p _ _ _ _ _ hD

theorem done_ds {B : Nat} {C : Nat → Prop} {w : World} {p gb : Nat} {s : DS} (h : Lies B C w p gb s) :
    Calls Try.prog 27 #[.pointer (some ⟨p, 0, none⟩)] w fun e w' => e = .returned (.int .i64 s.dc) ∧ w' = w := by
  obtain ⟨vl, hD, _⟩ := h
  exact done_any w p _ _ _ _ _ hD

def DS.fuse (s : DS) (n : Int) : DS := { s with F := max n (-1) }

theorem DS.Ok.fuse {s : DS} (h : s.Ok) (n : Int) (hn : n ≤ 9223372036854775807) : (s.fuse n).Ok :=
  ⟨h.size, h.one, h.lw, by show _ ≤ max n (-1); omega, by show max n (-1) ≤ _; omega⟩

theorem fuse_ds {B : Nat} {C : Nat → Prop} {w : World} {p gb : Nat} {s : DS} (h : Lies B C w p gb s) (n : Int) :
    Calls Try.prog 23 #[.pointer (some ⟨p, 0, none⟩), .int .i64 n] w fun e w' => e = .returned (.tuple #[]) ∧ Lies B C w' p gb (s.fuse n) ∧ Keeps (Own1 B C) w w' := by
  obtain ⟨vl, hD, hB, hL, h1, h2, h3, h4, h5, h6, h7⟩ := h
  refine (fuse_any w n p _ _ _ _ _ hD).mono ?_
  rintro e w' ⟨rfl, hD', hk⟩
  exact ⟨rfl, ⟨vl, hD', (hk.block gb (Array.getElem?_eq_some_iff.1 hB).1 (fun e => h1 e.symm)).trans hB, ownsRow_keeps hL hk (fun g e he => h2 (by rw [e, he])), h1, h2, h3, h4, h5, h6, h7⟩, hk.mono (fun k _ e => ⟨by omega, fun hc => (h7 k hc).1 e⟩)⟩

theorem allOne_over {row cs : Array Value} {o : Nat} (h : AllOne row) (h' : AllOne cs) : AllOne (over row o cs) := by
  unfold AllOne at *
  rw [Array.all_eq_true_iff_forall_mem] at *
  intro v hv
  simp only [over, List.mem_toArray, List.mem_append] at hv
  rcases hv with (hv | hv) | hv
  · exact h v (by simpa using List.mem_of_mem_take hv)
  · exact h' v (by simpa using hv)
  · exact h v (by simpa using List.mem_of_mem_drop hv)

theorem allOne_crashRow (t : Int) : ∀ (l : List (Nat × LW)) (row : Array Value), AllOne row → (∀ y ∈ l, LwOk y.2) → AllOne (crashRow t row l) := by
  intro l
  induction l with
  | nil => intro row h _; exact h
  | cons y l ih =>
    intro row h hl
    refine ih _ (allOne_over h ?_) (fun z hz => hl z (by simp [hz]))
    exact all_oneCell_toArray (fun v hv => (hl y (by simp)).2 v (List.mem_of_mem_take hv))

theorem mem_idx {ws : List LW} {y : Nat × LW} (h : y ∈ idx ws) : y.2 ∈ ws := by
  simp only [idx, List.mem_map] at h
  obtain ⟨⟨u, j⟩, hu, rfl⟩ := h
  exact List.fst_mem_of_mem_zipIdx hu

def DS.crash (s : DS) (ks : List Int) (t : Int) : DS := { s with bl := crashRow t s.bl (keptOf ks (idx s.ws)), ws := [], F := -1, dn := false }

theorem DS.Ok.crash {s : DS} (h : s.Ok) (ks : List Int) (t : Int) : (s.crash ks t).Ok :=
  ⟨size_crashRow t s.n _ _ h.size (fun y hy => h.lw y.2 (mem_idx (List.mem_filter.1 hy).1)), allOne_crashRow t _ _ h.one (fun y hy => (h.lw y.2 (mem_idx (List.mem_filter.1 hy).1)).1), (fun x hx => by cases hx), by show _ ≤ (-1 : Int); omega, by show (-1 : Int) ≤ _; omega⟩

theorem crash_ds {B : Nat} {C : Nat → Prop} {w : World} {p gb : Nat} {s : DS} (h : Lies B C w p gb s) (hok : s.Ok) (hws : s.ws.length < 1000000) (ka : Option Addr) (kc : Nat) (ks : List Int) (t : Int) (hK : KeepAt w ka ks) (hka : ∀ b o, ka = some ⟨b, o, none⟩ → b ≠ gb) :
    Calls Try.prog 21 #[.pointer (some ⟨p, 0, none⟩), .slice ka ks.length kc, .int .i64 t] w fun e w' => e = .returned (.tuple #[]) ∧ Lies B C w' p gb (s.crash ks t) ∧ Keeps (Own1 B C) w w' := by
  obtain ⟨vl, hD, hB, hL, h1, h2, h3, h4, h5, h6, h7⟩ := h
  refine (crash_any w p gb s.n vl s.F s.dc t s.dn s.ws s.bl ka kc ks hD hB hok.size (LooseOf hok hL) hws (fun x hx => (hok.lw x hx).2) hK hka h1 h3).mono ?_
  rintro e w' ⟨rfl, hD', hB', hk⟩
  refine ⟨rfl, ⟨_, hD', hB', World.ownsRow_nil _ _ _ _, h1, by simp [Value.ownBlock], by simp [Value.ownBlock], h4, h5, by simp [Value.ownBlock], fun k hc => ⟨(h7 k hc).1, (h7 k hc).2.1, by simp [Value.ownBlock]⟩⟩, hk.mono ?_⟩
  intro k _ e
  rcases e with e | e
  · exact ⟨by omega, fun hc => (h7 k hc).1 e⟩
  · exact ⟨by omega, fun hc => (h7 k hc).2.1 e⟩

def DS.sync (s : DS) : Int × DS :=
  if s.F = 0 ∨ s.dn = true then (12, { s with dn := true })
  else (0, { s with bl := crashRow (-1) s.bl (idx s.ws), ws := [], F := burnt s.F, dc := s.dc + 1 })

theorem DS.Ok.sync {s : DS} (h : s.Ok) : (s.sync).2.Ok := by
  unfold DS.sync
  split
  · exact ⟨h.size, h.one, h.lw, h.lo, h.hi⟩
  · exact ⟨size_crashRow (-1) s.n _ _ h.size (fun y hy => h.lw y.2 (mem_idx hy)), allOne_crashRow (-1) _ _ h.one (fun y hy => (h.lw y.2 (mem_idx hy)).1), (fun x hx => by cases hx), burnt_lo h.lo, burnt_hi h.hi⟩

theorem sync_ds {B : Nat} {C : Nat → Prop} {w : World} {p gb : Nat} {s : DS} (h : Lies B C w p gb s) (hok : s.Ok) (hws : s.ws.length < 1000000) (hdc : 0 ≤ s.dc ∧ s.dc < 1000000) :
    Calls Try.prog 19 #[.pointer (some ⟨p, 0, none⟩)] w fun e w' => e = .returned (.int .i64 s.sync.1) ∧ Lies B C w' p gb s.sync.2 ∧ Keeps (Own1 B C) w w' := by
  obtain ⟨vl, hD, hB, hL, h1, h2, h3, h4, h5, h6, h7⟩ := h
  unfold DS.sync
  by_cases hd : s.F = 0 ∨ s.dn = true
  · rw [if_pos hd]
    refine (sync_down w p _ vl s.F s.dn s.dc hD hd).mono ?_
    rintro e w' ⟨rfl, hD', hk⟩
    exact ⟨rfl, ⟨vl, hD', (hk.block gb (Array.getElem?_eq_some_iff.1 hB).1 (fun e => h1 e.symm)).trans hB, ownsRow_keeps hL hk (fun g e he => h2 (by rw [e, he])), h1, h2, h3, h4, h5, h6, h7⟩, hk.mono (fun k _ e => ⟨by omega, fun hc => (h7 k hc).1 e⟩)⟩
  · rw [if_neg hd]
    simp only [not_or, Bool.not_eq_true] at hd
    rw [hd.2] at hD
    refine (sync_goes w p gb s.n vl s.F s.dc s.ws s.bl hD hB hok.size (LooseOf hok hL) hws (fun x hx => (hok.lw x hx).2) h1 h3 h2 hd.1 hok.lo hok.hi hdc.1 hdc.2).mono ?_
    rintro e w' ⟨rfl, hD', hB', hk⟩
    refine ⟨rfl, ⟨_, by rw [hd.2]; exact hD', hB', World.ownsRow_nil _ _ _ _, h1, by simp [Value.ownBlock], by simp [Value.ownBlock], h4, h5, by simp [Value.ownBlock], fun k hc => ⟨(h7 k hc).1, (h7 k hc).2.1, by simp [Value.ownBlock]⟩⟩, hk.mono ?_⟩
    intro k _ e
    rcases e with e | e
    · exact ⟨by omega, fun hc => (h7 k hc).1 e⟩
    · exact ⟨by omega, fun hc => (h7 k hc).2.1 e⟩

def DS.new (n : Nat) : DS := { n := n, bl := zeros n, ws := [], F := -1, dn := false, dc := 0 }

theorem DS.Ok.new (n : Nat) : (DS.new n).Ok :=
  ⟨by simp [DS.new, zeros], by unfold AllOne; rw [Array.all_eq_true_iff_forall_mem]; intro v hv; rw [show (DS.new n).bl = Array.replicate (n * 128) (.int .u8 0) from rfl, Array.mem_replicate] at hv; rw [hv.2]; rfl, (fun x hx => by cases hx), by show _ ≤ (-1 : Int); omega, by show (-1 : Int) ≤ _; omega⟩

theorem new_ds (n : Nat) (w : World) (h : 16 ≤ n) (h2 : n ≤ 128) (C : Nat → Prop) (hC : ∀ k, C k → k < w.heap.size) :
    Calls Try.prog 12 #[.int .i64 n] w fun e w' => e = .returned (.tuple #[.pointer (some ⟨w.heap.size + 1, 0, none⟩), .int .i64 0]) ∧ Lies w.heap.size C w' (w.heap.size + 1) w.heap.size (DS.new n) ∧ w'.heap.size = w.heap.size + 2 ∧ Keeps (fun _ => False) w w' := by
  refine (new_yes n w h h2).mono ?_
  rintro e w' ⟨rfl, hD, hB, hs, hk⟩
  refine ⟨rfl, ⟨_, hD, hB, World.ownsRow_nil _ _ _ _, by omega, by simp [Value.ownBlock], by simp [Value.ownBlock], by omega, by omega, by simp [Value.ownBlock], fun k hc => ?_⟩, hs, hk⟩
  have := hC k hc
  exact ⟨by omega, by omega, by simp [Value.ownBlock]⟩

end Go.Proofs.Ytokgnfniaeeloaa
