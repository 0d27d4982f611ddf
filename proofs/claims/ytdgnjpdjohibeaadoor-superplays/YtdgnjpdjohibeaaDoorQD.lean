/-
  Packed texts: DRp, DRq, DRr, DSa, DSg, DSr, DSo.
-/
import Derived.Test.YtdgnjpdjohibeaaDoorQC
import Derived.OpenShut
import Derived.Lib.SmallJoins
import Derived.Deep.Slices
set_option linter.all false
set_option maxRecDepth 100000
namespace Go.Proofs.YtdgnjpdjohibeaaDoor

/-! DRp: A disk's state as one thing, and what each method makes of it. -/
section
open Go.RowKit Go.Shelf

structure DS where
  n : Nat
  bl : Array Value
  ws : List LW
  F : Int
  dn : Bool
  dc : Int

/-- What has to be so of a state. -/
structure DS.Ok (s : DS) : Prop where
  size : s.bl.size = s.n * 128
  one : AllOne s.bl
  lw : ∀ x ∈ s.ws, LwOk x ∧ 0 ≤ x.1 ∧ x.1 < (s.n : Int)
  lo : -9223372036854775808 ≤ s.F
  hi : s.F ≤ 9223372036854775807

/-- The state s lies at p; its blocks lie at or beyond B, and none of C is among them. -/
def Lies (B : Nat) (C : Nat → Prop) (w : World) (p gb : Nat) (s : DS) : Prop :=
  ∃ vl, DiskAt w p (.slice (some ⟨gb, 0, none⟩) s.n s.n) vl s.F s.dn s.dc ∧ w.heap[gb]? = some (.cells s.bl 30 (0, 0)) ∧ w.ownsRow 0 93 129 vl s.ws.length (dk_flat s.ws) ∧ p ≠ gb ∧ vl.ownBlock ≠ some p ∧ vl.ownBlock ≠ some gb ∧
    B ≤ p ∧ B ≤ gb ∧ (∀ g, vl.ownBlock = some g → B ≤ g) ∧ (∀ k, C k → k ≠ p ∧ k ≠ gb ∧ vl.ownBlock ≠ some k)

/-- What an operation may touch. -/
abbrev Own1 (B : Nat) (C : Nat → Prop) (k : Nat) : Prop := B ≤ k ∧ ¬ C k

theorem Lies.kept {B : Nat} {C : Nat → Prop} {w w' : World} {p gb : Nat} {s : DS} (h : Lies B C w p gb s) (hk : Keeps (fun _ => False) w w') : Lies B C w' p gb s := by
  obtain ⟨vl, hD, hB, hL, h1, h2, h3, h4⟩ := h
  exact ⟨vl, hD.kept hk (fun h => h), (hk.block gb (Array.getElem?_eq_some_iff.1 hB).1 (fun h => h)).trans hB, ownsRow_keeps hL hk (fun _ _ h => h), h1, h2, h3, h4⟩

/-- A block that was laid since is none of the disk's. -/
theorem Lies.more {B : Nat} {C C' : Nat → Prop} {w : World} {p gb : Nat} {s : DS} (h : Lies B C w p gb s) (hC : ∀ k, C' k → C k ∨ w.heap.size ≤ k) : Lies B C' w p gb s := by
  obtain ⟨vl, hD, hB, hL, h1, h2, h3, h4, h5, h6, h7⟩ := h
  refine ⟨vl, hD, hB, hL, h1, h2, h3, h4, h5, h6, fun k hk => ?_⟩
  rcases hC k hk with hk | hk
  · exact h7 k hk
  · refine ⟨?_, ?_, ?_⟩
    · rintro rfl; have := hD.lt; omega
    · rintro rfl; have := (Array.getElem?_eq_some_iff.1 hB).1; omega
    · intro e; have := (hL.lt k e).2; omega

theorem dk_flat_snoc (ws : List LW) (x : LW) : dk_flat (ws ++ [x]) = dk_flat ws ++ lcells x := by simp [dk_flat]

def DS.write (s : DS) (i : Int) (b : List Value) : Int × DS :=
  if i < 0 ∨ (s.n : Int) ≤ i then (1, s)
  else if s.F = 0 ∨ s.dn = true then (12, { s with dn := true })
  else (0, { s with ws := s.ws ++ [(i, b)], F := burnt s.F, dc := s.dc + 1 })

theorem burnt_lo {F : Int} (h : -9223372036854775808 ≤ F) : -9223372036854775808 ≤ burnt F := by unfold burnt; split <;> omega
theorem burnt_hi {F : Int} (h : F ≤ 9223372036854775807) : burnt F ≤ 9223372036854775807 := by unfold burnt; split <;> omega

theorem DS.Ok.write {s : DS} (h : s.Ok) (i : Int) (b : List Value) (hb : b.length = 128 ∧ ∀ v ∈ b, v.oneCell' = true) : (s.write i b).2.Ok := by
  unfold DS.write
  split
  · exact h
  · split
    · exact ⟨h.size, h.one, h.lw, h.lo, h.hi⟩
    · refine ⟨h.size, h.one, ?_, burnt_lo h.lo, burnt_hi h.hi⟩
      intro x hx
      rcases List.mem_append.1 hx with hx | hx
      · exact h.lw x hx
      · obtain rfl : x = (i, b) := by simpa using hx
        exact ⟨hb, by omega, by show i < (s.n : Int); omega⟩

theorem write_ds {B : Nat} {C : Nat → Prop} {w : World} {p gb : Nat} {s : DS} (h : Lies B C w p gb s) (hok : s.Ok) (hC : ∀ k, C k → k < w.heap.size) (hBw : B ≤ w.heap.size) (hdc : 0 ≤ s.dc ∧ s.dc < 1000000) (hws : s.ws.length < 1000000)
    (i : Int) (b : List Value) (hb : b.length = 128 ∧ ∀ v ∈ b, v.oneCell' = true) :
    Calls Tryd.prog 22 #[.pointer (some ⟨p, 0, none⟩), .int .i64 i, .agg b.toArray] w fun e w' => e = .returned (.int .i64 (s.write i b).1) ∧ Lies B C w' p gb (s.write i b).2 ∧ Keeps (Own1 B C) w w' := by
  have h0 := h
  obtain ⟨vl, hD, hB, hL, h1, h2, h3, h4, h5, h6, h7⟩ := h
  unfold DS.write
  by_cases hneg : i < 0
  · rw [if_pos (.inl hneg)]
    refine (write_neg w _ i _ hneg).mono ?_
    rintro e w' ⟨rfl, hk⟩
    exact ⟨rfl, h0.kept hk, hk.mono (fun _ _ h => h.elim)⟩
  · by_cases hbig : (s.n : Int) ≤ i
    · rw [if_pos (.inr hbig)]
      refine (write_out w p _ s.n s.n vl s.F s.dn s.dc hD i _ (by omega) hbig).mono ?_
      rintro e w' ⟨rfl, hk⟩
      exact ⟨rfl, h0.kept hk, hk.mono (fun _ _ h => h.elim)⟩
    · rw [if_neg (by omega)]
      by_cases hd : s.F = 0 ∨ s.dn = true
      · rw [if_pos hd]
        refine (write_down w p _ s.n s.n vl s.F s.dn s.dc hD i _ (by omega) (by omega) hd).mono ?_
        rintro e w' ⟨rfl, hD', hk⟩
        refine ⟨rfl, ⟨vl, hD', (hk.block gb (Array.getElem?_eq_some_iff.1 hB).1 (fun e => h1 e.symm)).trans hB, ownsRow_keeps hL hk (fun g e he => h2 (by rw [e, he])), h1, h2, h3, h4, h5, h6, h7⟩, hk.mono (fun k _ e => ⟨by omega, fun hc => (h7 k hc).1 e⟩)⟩
      · rw [if_neg hd]
        simp only [not_or, Bool.not_eq_true] at hd
        rw [hd.2] at hD
        refine (write_goes w p _ s.n s.n vl s.F s.dc hD s.ws.length (dk_flat s.ws) hL h2 i b hb.1 hb.2 (by omega) (by omega) hd.1 hok.lo hok.hi hdc.1 hdc.2 hws).mono ?_
        rintro e w' ⟨rfl, g, cap, hD', hL', hg, hk⟩
        have hgb : gb < w.heap.size := (Array.getElem?_eq_some_iff.1 hB).1
        have hpw := hD.lt
        refine ⟨rfl, ⟨_, by rw [hd.2]; exact hD', (hk.block gb hgb ?_).trans hB, by rw [dk_flat_snoc, List.length_append]; exact hL', h1, ?_, ?_, h4, h5, ?_, ?_⟩, hk.mono ?_⟩
        · rintro (e | e)
          · exact h1 e.symm
          · exact h3 e
        · intro e
          simp only [Value.ownBlock, Option.some.injEq] at e
          rcases hg with hg | hg
          · exact h2 (by rw [hg, e])
          · omega
        · intro e
          simp only [Value.ownBlock, Option.some.injEq] at e
          rcases hg with hg | hg
          · exact h3 (by rw [hg, e])
          · omega
        · intro g' e
          simp only [Value.ownBlock, Option.some.injEq] at e
          rcases hg with hg | hg
          · have := h6 g hg; omega
          · omega
        · intro k hc
          refine ⟨(h7 k hc).1, (h7 k hc).2.1, ?_⟩
          intro e
          simp only [Value.ownBlock, Option.some.injEq] at e
          have hkw := hC k hc
          rcases hg with hg | hg
          · exact (h7 k hc).2.2 (by rw [hg, e])
          · omega
        · intro k _ e
          rcases e with e | e
          · exact ⟨by omega, fun hc => (h7 k hc).1 e⟩
          · exact ⟨h6 k e, fun hc => (h7 k hc).2.2 e⟩

theorem LooseOf {w : World} {vl : Value} {s : DS} (hok : s.Ok) (hL : w.ownsRow 0 93 129 vl s.ws.length (dk_flat s.ws)) : LooseAt w vl s.ws := ⟨hL, fun x hx => (hok.lw x hx).1⟩

/-- What stands in block i. -/
def DS.block (s : DS) (i : Nat) : Array Value :=
  match s.ws.reverse.find? (fun x => x.1 == (i : Int)) with
  | some x => x.2.toArray
  | none => s.bl.extract (i * 128) (i * 128 + 128)

def DS.read (s : DS) (i : Int) : Array Value × Int :=
  if i < 0 ∨ (s.n : Int) ≤ i then (fill 0, 1)
  else if s.dn = true then (fill 0, 12)
  else (s.block i.toNat, 0)

theorem block_of_val {s : DS} {i : Nat} {v : Array Value} (h : ReadVal s.ws s.bl i v) : v = s.block i := by
  unfold DS.block
  rcases h with ⟨pre, x, rest, hx, hp, hxi, rfl⟩ | ⟨hn, rfl⟩
  · have e : s.ws.reverse = (pre ++ x :: rest).map (·.2) := by
      rw [← hx, List.map_reverse]
      congr 1
      simp only [idx, List.map_map]
      have : ((fun x : Nat × LW => x.2) ∘ fun x : LW × Nat => (x.2, x.1)) = Prod.fst := by funext y; rfl
      rw [this]
      simp
    have hf : s.ws.reverse.find? (fun x => x.1 == (i : Int)) = some x.2 := by
      rw [e, List.map_append, List.find?_append]
      have h0 : (pre.map (·.2)).find? (fun x => x.1 == (i : Int)) = none := by
        rw [List.find?_eq_none]
        intro y hy
        obtain ⟨z, hz, rfl⟩ := List.mem_map.1 hy
        simpa using hp z hz
      rw [h0]
      simp [hxi]
    rw [hf]
  · have hf : s.ws.reverse.find? (fun x => x.1 == (i : Int)) = none := by
      rw [List.find?_eq_none]
      intro y hy
      simpa using hn y (by simpa using hy)
    rw [hf]

theorem read_ds {B : Nat} {C : Nat → Prop} {w : World} {p gb : Nat} {s : DS} (h : Lies B C w p gb s) (hok : s.Ok) (hws : s.ws.length < 1000000) (i : Int) :
    Calls Tryd.prog 56 #[.pointer (some ⟨p, 0, none⟩), .int .i64 i] w fun e w' => e = .returned (.tuple #[.agg (s.read i).1, .int .i64 (s.read i).2]) ∧ Keeps (fun _ => False) w w' := by
  obtain ⟨vl, hD, hB, hL, h1, h2, h3, h4, h5, h6, h7⟩ := h
  unfold DS.read
  by_cases hneg : i < 0
  · rw [if_pos (.inl hneg)]
    exact read_neg w _ i hneg
  · by_cases hbig : (s.n : Int) ≤ i
    · rw [if_pos (.inr hbig)]
      exact read_out w p _ s.n s.n vl s.F s.dn s.dc hD i (by omega) hbig
    · rw [if_neg (by omega)]
      by_cases hd : s.dn = true
      · rw [if_pos hd]
        rw [hd] at hD
        exact read_down w p _ s.n s.n vl s.F s.dc hD i (by omega) (by omega)
      · rw [if_neg hd]
        simp only [Bool.not_eq_true] at hd
        rw [hd] at hD
        obtain ⟨j, hj⟩ := Int.eq_ofNat_of_zero_le (show 0 ≤ i by omega)
        subst hj
        refine (read_ok w p gb s.n vl s.F s.dc s.ws s.bl hD hB hok.size hok.one (LooseOf hok hL) hws j (by omega)).mono ?_
        rintro e w' ⟨⟨v, rfl, hv⟩, hk⟩
        rw [block_of_val hv]
        exact ⟨rfl, hk⟩

theorem len_ds {B : Nat} {C : Nat → Prop} {w : World} {p gb : Nat} {s : DS} (h : Lies B C w p gb s) :
    Calls Tryd.prog 39 #[.pointer (some ⟨p, 0, none⟩)] w fun e w' => e = .returned (.int .i64 (s.n : Int)) ∧ w' = w := by
  obtain ⟨vl, hD, _⟩ := h
  exact len_any w p _ _ _ _ _ _ _ hD

theorem down_ds {B : Nat} {C : Nat → Prop} {w : World} {p gb : Nat} {s : DS} (h : Lies B C w p gb s) :
    Calls Tryd.prog 47 #[.pointer (some ⟨p, 0, none⟩)] w fun e w' => e = .returned (.bool s.dn) ∧ w' = w := by
  obtain ⟨vl, hD, _⟩ := h
  exact down_any w p _ _ _ _ _ hD

def DS.fuse (s : DS) (n : Int) : DS := { s with F := max n (-1) }

theorem DS.Ok.fuse {s : DS} (h : s.Ok) (n : Int) (hn : n ≤ 9223372036854775807) : (s.fuse n).Ok :=
  ⟨h.size, h.one, h.lw, by show _ ≤ max n (-1); omega, by show max n (-1) ≤ _; omega⟩

theorem fuse_ds {B : Nat} {C : Nat → Prop} {w : World} {p gb : Nat} {s : DS} (h : Lies B C w p gb s) (n : Int) :
    Calls Tryd.prog 26 #[.pointer (some ⟨p, 0, none⟩), .int .i64 n] w fun e w' => e = .returned (.tuple #[]) ∧ Lies B C w' p gb (s.fuse n) ∧ Keeps (Own1 B C) w w' := by
  obtain ⟨vl, hD, hB, hL, h1, h2, h3, h4, h5, h6, h7⟩ := h
  refine (fuse_any w n p _ _ _ _ _ hD).mono ?_
  rintro e w' ⟨rfl, hD', hk⟩
  exact ⟨rfl, ⟨vl, hD', (hk.block gb (Array.getElem?_eq_some_iff.1 hB).1 (fun e => h1 e.symm)).trans hB, ownsRow_keeps hL hk (fun g e he => h2 (by rw [e, he])), h1, h2, h3, h4, h5, h6, h7⟩, hk.mono (fun k _ e => ⟨by omega, fun hc => (h7 k hc).1 e⟩)⟩

theorem allOne_over {row cs : Array Value} {o : Nat} (h : AllOne row) (h' : AllOne cs) : AllOne (over row o cs) := by
  unfold AllOne at *
  rw [Array.all_eq_true_iff_forall_mem] at *
  intro v hv
  simp only [over, List.mem_toArray, List.mem_append] at hv
  rcases hv with (hv | hv) | hv
  · exact h v (by simpa using List.mem_of_mem_take hv)
  · exact h' v (by simpa using hv)
  · exact h v (by simpa using List.mem_of_mem_drop hv)

theorem allOne_crashRow (t : Int) : ∀ (l : List (Nat × LW)) (row : Array Value), AllOne row → (∀ y ∈ l, LwOk y.2) → AllOne (crashRow t row l) := by
  intro l
  induction l with
  | nil => intro row h _; exact h
  | cons y l ih =>
    intro row h hl
    refine ih _ (allOne_over h ?_) (fun z hz => hl z (by simp [hz]))
    exact all_oneCell_toArray (fun v hv => (hl y (by simp)).2 v (List.mem_of_mem_take hv))

theorem mem_idx {ws : List LW} {y : Nat × LW} (h : y ∈ idx ws) : y.2 ∈ ws := by
  simp only [idx, List.mem_map] at h
  obtain ⟨⟨u, j⟩, hu, rfl⟩ := h
  exact List.fst_mem_of_mem_zipIdx hu

def DS.crash (s : DS) (ks : List Int) (t : Int) : DS := { s with bl := crashRow t s.bl (keptOf ks (idx s.ws)), ws := [], F := -1, dn := false }

theorem DS.Ok.crash {s : DS} (h : s.Ok) (ks : List Int) (t : Int) : (s.crash ks t).Ok :=
  ⟨size_crashRow t s.n _ _ h.size (fun y hy => h.lw y.2 (mem_idx (List.mem_filter.1 hy).1)), allOne_crashRow t _ _ h.one (fun y hy => (h.lw y.2 (mem_idx (List.mem_filter.1 hy).1)).1), (fun x hx => by cases hx), by show _ ≤ (-1 : Int); omega, by show (-1 : Int) ≤ _; omega⟩

theorem crash_ds {B : Nat} {C : Nat → Prop} {w : World} {p gb : Nat} {s : DS} (h : Lies B C w p gb s) (hok : s.Ok) (hws : s.ws.length < 1000000) (ka : Option Addr) (kc : Nat) (ks : List Int) (t : Int) (hK : KeepAt w ka ks) (hka : ∀ b o, ka = some ⟨b, o, none⟩ → b ≠ gb) :
    Calls Tryd.prog 24 #[.pointer (some ⟨p, 0, none⟩), .slice ka ks.length kc, .int .i64 t] w fun e w' => e = .returned (.tuple #[]) ∧ Lies B C w' p gb (s.crash ks t) ∧ Keeps (Own1 B C) w w' := by
  obtain ⟨vl, hD, hB, hL, h1, h2, h3, h4, h5, h6, h7⟩ := h
  refine (crash_any w p gb s.n vl s.F s.dc t s.dn s.ws s.bl ka kc ks hD hB hok.size (LooseOf hok hL) hws (fun x hx => (hok.lw x hx).2) hK hka h1 h3).mono ?_
  rintro e w' ⟨rfl, hD', hB', hk⟩
  refine ⟨rfl, ⟨_, hD', hB', World.ownsRow_nil _ _ _ _, h1, by simp [Value.ownBlock], by simp [Value.ownBlock], h4, h5, by simp [Value.ownBlock], fun k hc => ⟨(h7 k hc).1, (h7 k hc).2.1, by simp [Value.ownBlock]⟩⟩, hk.mono ?_⟩
  intro k _ e
  rcases e with e | e
  · exact ⟨by omega, fun hc => (h7 k hc).1 e⟩
  · exact ⟨by omega, fun hc => (h7 k hc).2.1 e⟩

def DS.sync (s : DS) : Int × DS :=
  if s.F = 0 ∨ s.dn = true then (12, { s with dn := true })
  else (0, { s with bl := crashRow (-1) s.bl (idx s.ws), ws := [], F := burnt s.F, dc := s.dc + 1 })

theorem DS.Ok.sync {s : DS} (h : s.Ok) : (s.sync).2.Ok := by
  unfold DS.sync
  split
  · exact ⟨h.size, h.one, h.lw, h.lo, h.hi⟩
  · exact ⟨size_crashRow (-1) s.n _ _ h.size (fun y hy => h.lw y.2 (mem_idx hy)), allOne_crashRow (-1) _ _ h.one (fun y hy => (h.lw y.2 (mem_idx hy)).1), (fun x hx => by cases hx), burnt_lo h.lo, burnt_hi h.hi⟩

theorem sync_ds {B : Nat} {C : Nat → Prop} {w : World} {p gb : Nat} {s : DS} (h : Lies B C w p gb s) (hok : s.Ok) (hws : s.ws.length < 1000000) (hdc : 0 ≤ s.dc ∧ s.dc < 1000000) :
    Calls Tryd.prog 41 #[.pointer (some ⟨p, 0, none⟩)] w fun e w' => e = .returned (.int .i64 s.sync.1) ∧ Lies B C w' p gb s.sync.2 ∧ Keeps (Own1 B C) w w' := by
  obtain ⟨vl, hD, hB, hL, h1, h2, h3, h4, h5, h6, h7⟩ := h
  unfold DS.sync
  by_cases hd : s.F = 0 ∨ s.dn = true
  · rw [if_pos hd]
    refine (sync_down w p _ vl s.F s.dn s.dc hD hd).mono ?_
    rintro e w' ⟨rfl, hD', hk⟩
    exact ⟨rfl, ⟨vl, hD', (hk.block gb (Array.getElem?_eq_some_iff.1 hB).1 (fun e => h1 e.symm)).trans hB, ownsRow_keeps hL hk (fun g e he => h2 (by rw [e, he])), h1, h2, h3, h4, h5, h6, h7⟩, hk.mono (fun k _ e => ⟨by omega, fun hc => (h7 k hc).1 e⟩)⟩
  · rw [if_neg hd]
    simp only [not_or, Bool.not_eq_true] at hd
    rw [hd.2] at hD
    refine (sync_goes w p gb s.n vl s.F s.dc s.ws s.bl hD hB hok.size (LooseOf hok hL) hws (fun x hx => (hok.lw x hx).2) h1 h3 h2 hd.1 hok.lo hok.hi hdc.1 hdc.2).mono ?_
    rintro e w' ⟨rfl, hD', hB', hk⟩
    refine ⟨rfl, ⟨_, by rw [hd.2]; exact hD', hB', World.ownsRow_nil _ _ _ _, h1, by simp [Value.ownBlock], by simp [Value.ownBlock], h4, h5, by simp [Value.ownBlock], fun k hc => ⟨(h7 k hc).1, (h7 k hc).2.1, by simp [Value.ownBlock]⟩⟩, hk.mono ?_⟩
    intro k _ e
    rcases e with e | e
    · exact ⟨by omega, fun hc => (h7 k hc).1 e⟩
    · exact ⟨by omega, fun hc => (h7 k hc).2.1 e⟩

def DS.new (n : Nat) : DS := { n := n, bl := zeros n, ws := [], F := -1, dn := false, dc := 0 }

theorem DS.Ok.new (n : Nat) : (DS.new n).Ok :=
  ⟨by simp [DS.new, zeros], by unfold AllOne; rw [Array.all_eq_true_iff_forall_mem]; intro v hv; rw [show (DS.new n).bl = Array.replicate (n * 128) (.int .u8 0) from rfl, Array.mem_replicate] at hv; rw [hv.2]; rfl, (fun x hx => by cases hx), by show _ ≤ (-1 : Int); omega, by show (-1 : Int) ≤ _; omega⟩

theorem new_ds (n : Nat) (w : World) (h : 16 ≤ n) (h2 : n ≤ 128) (C : Nat → Prop) (hC : ∀ k, C k → k < w.heap.size) :
    Calls Tryd.prog 18 #[.int .i64 n] w fun e w' => e = .returned (.tuple #[.pointer (some ⟨w.heap.size + 1, 0, none⟩), .int .i64 0]) ∧ Lies w.heap.size C w' (w.heap.size + 1) w.heap.size (DS.new n) ∧ w'.heap.size = w.heap.size + 2 ∧ Keeps (fun _ => False) w w' := by
  refine (new_yes n w h h2).mono ?_
  rintro e w' ⟨rfl, hD, hB, hs, hk⟩
  refine ⟨rfl, ⟨_, hD, hB, World.ownsRow_nil _ _ _ _, by omega, by simp [Value.ownBlock], by simp [Value.ownBlock], by omega, by omega, by simp [Value.ownBlock], fun k hc => ?_⟩, hs, hk⟩
  have := hC k hc
  exact ⟨by omega, by omega, by simp [Value.ownBlock]⟩
end

/-! DRq: Two blocks that are one are equal; parts of a row that was written over. -/
section
open Go.RowKit Go.Shelf

/-- 128 bytes. -/
def Bytes (A : Array Value) : Prop := A.size = 128 ∧ ∀ i : Nat, i < 128 → ∃ z, A[i]? = some (.int .u8 z)

theorem dk_run_equalIn_byte (d : Nat) (z : Int) (w : World) : (Op.equalIn (d + 1) 5 (.int .u8 z) (.int .u8 z)).run Tryd.prog w = .ok true w := by
  simp [Op.equalIn, Sem.run_bind, run_underlying Tryd.underlying5]

theorem dk_run_part5 (A : Array Value) (i : Nat) (z : Int) (h : A[i]? = some (.int .u8 z)) (w : World) : (Go.part 5 A i).run Tryd.prog w = .ok (.int .u8 z) w := by
  have hagg : (isAgg 5).run Tryd.prog w = .ok false w := by
    unfold isAgg
    rw [Sem.run_bind, run_underlying Tryd.underlying5 w]
    rfl
  unfold Go.part
  rw [Sem.run_bind, hagg]
  simp [h]

theorem run_equalIn_bytes (d : Nat) (A : Array Value) (h : Bytes A) (w : World) : (Op.equalIn (d + 1 + 1) 30 (.agg A) (.agg A)).run Tryd.prog w = .ok true w := by
  have hs : (sizeOf 5).run Tryd.prog w = .ok 1 w := by simp [go_sem]
  rw [Op.equalIn]
  simp only [Sem.run_bind, run_underlying Tryd.underlying30, Result.andThen_ok, hs]
  rw [Std.Legacy.Range.forIn_eq_forIn_range']
  have loop : ∀ l : List Nat, (∀ i ∈ l, i < 128) → Sem.run Tryd.prog (forIn l ((none, ()) : Option Bool × Unit) fun i _ => do
      let x ← Go.part 5 A (i * 1)
      let y ← Go.part 5 A (i * 1)
      let e ← Op.equalIn (d + 1) 5 x y
      if (!e) = true then pure (ForInStep.done (some false, ())) else pure (ForInStep.yield (none, ()))) w = .ok (none, ()) w := by
    intro l
    induction l with
    | nil => intro _; simp
    | cons i l ih =>
      intro hl
      obtain ⟨z, hz⟩ := h.2 i (hl i (by simp))
      have hp := dk_run_part5 A (i * 1) z (by rw [Nat.mul_one]; exact hz) w
      rw [List.forIn_cons]
      simp only [Sem.run_bind, hp, Result.andThen_ok, dk_run_equalIn_byte, Bool.not_true, Bool.false_eq_true, if_false, Sem.run_pure]
      exact ih (fun j hj => hl j (by simp [hj]))
  rw [loop _ (fun i hi => by simpa [List.mem_range'_1, Std.Legacy.Range.size] using hi)]
  simp

theorem eq_bytes {A : Array Value} (h : Bytes A) (w : World) : (Op.equalIn 10000 30 (.agg A) (.agg A)).run Tryd.prog w = .ok true w := run_equalIn_bytes 9998 A h w

theorem bytes_fill (v : Int) : Bytes (fill v) := ⟨size_fill v, fun i hi => ⟨v, by simp [fill, hi]⟩⟩

/-! ### Parts of a row that was written over -/

theorem getElem?_over (row cs : Array Value) (o j : Nat) (h : o + cs.size ≤ row.size) : (over row o cs)[j]? = if o ≤ j ∧ j < o + cs.size then cs[j - o]? else row[j]? := by
  unfold over
  simp only [List.getElem?_toArray, List.getElem?_append, List.length_append, List.length_take, Array.length_toList, List.getElem?_take, List.getElem?_drop, Array.getElem?_toList]
  by_cases h1 : j < o
  · have e1 : j < min o row.size + cs.size := by omega
    have e2 : j < min o row.size := by omega
    rw [if_pos e1, if_pos e2, if_pos h1, if_neg (by omega)]
  · by_cases h2 : j < o + cs.size
    · have e1 : j < min o row.size + cs.size := by omega
      have e2 : ¬ j < min o row.size := by omega
      rw [if_pos e1, if_neg e2, if_pos (by omega)]
      congr 1; omega
    · have e1 : ¬ j < min o row.size + cs.size := by omega
      rw [if_neg e1, if_neg (by omega)]
      congr 1; omega
end

/-! DRr: wakes. -/
section
open Go.RowKit Go.Shelf
attribute [local go_sem ↓] Go.wp_at_zero Go.wp_at_succ

theorem ok_fill (v : Int) : (fill v).toList.length = 128 ∧ ∀ u ∈ (fill v).toList, u.oneCell' = true :=
  ⟨by simp [size_fill], fun u hu => by rw [show (fill v).toList = List.replicate 128 (.int .u8 v) by simp [fill]] at hu; rw [List.eq_of_mem_replicate hu]; rfl⟩

theorem write_fill {B : Nat} {C : Nat → Prop} {w : World} {p gb : Nat} {s : DS} (h : Lies B C w p gb s) (hok : s.Ok) (hC : ∀ k, C k → k < w.heap.size) (hBw : B ≤ w.heap.size) (hdc : 0 ≤ s.dc ∧ s.dc < 1000000) (hws : s.ws.length < 1000000)
    (i v : Int) : Calls Tryd.prog 22 #[.pointer (some ⟨p, 0, none⟩), .int .i64 i, .agg (fill v)] w fun e w' => e = .returned (.int .i64 (s.write i (fill v).toList).1) ∧ Lies B C w' p gb (s.write i (fill v).toList).2 ∧ Keeps (Own1 B C) w w' := by
  have := write_ds h hok hC hBw hdc hws i (fill v).toList (ok_fill v)
  rwa [Array.toArray_toList] at this

/-- Nothing is protected. -/
abbrev none' : Nat → Prop := fun _ => False

def wk2 : DS := { n := 16, bl := zeros 16, ws := [(1, (fill 7).toList), (2, (fill 8).toList)], F := -1, dn := false, dc := 2 }

theorem wk_w1 : (DS.new 16).write 1 (fill 7).toList = (0, { n := 16, bl := zeros 16, ws := [(1, (fill 7).toList)], F := -1, dn := false, dc := 1 }) := by
  simp [DS.write, DS.new, burnt]
theorem wk_w2 : ({ n := 16, bl := zeros 16, ws := [(1, (fill 7).toList)], F := -1, dn := false, dc := 1 } : DS).write 2 (fill 8).toList = (0, wk2) := by
  simp [DS.write, burnt, wk2]
theorem wk_w3 : wk2.write 16 (fill 8).toList = (1, wk2) := by
  simp [DS.write, wk2]
theorem wk_ok1 : ({ n := 16, bl := zeros 16, ws := [(1, (fill 7).toList)], F := -1, dn := false, dc := 1 } : DS).Ok := by
  have := (DS.Ok.new 16).write 1 (fill 7).toList (ok_fill 7)
  rwa [wk_w1] at this
theorem wk_ok2 : wk2.Ok := by
  have := wk_ok1.write 2 (fill 8).toList (ok_fill 8)
  rwa [wk_w2] at this

theorem onKeep {w a b : World} (h : Keeps (fun _ => False) w a) (k : Keeps (Own1 w.heap.size none') a b) : Keeps (fun _ => False) w b := h.trans' k (fun _ e => .inr e.1)

def wk4 : DS := { wk2 with F := 0, dn := true }
theorem wk_f : wk2.fuse 0 = { wk2 with F := 0 } := rfl
theorem wk_s : ({ wk2 with F := 0 } : DS).sync = (12, wk4) := by simp [DS.sync, wk4]
theorem wk_ok3 : ({ wk2 with F := 0 } : DS).Ok := wk_ok2.fuse 0 (by omega)
theorem wk_ok4 : wk4.Ok := by
  have := wk_ok3.sync
  rwa [wk_s] at this
theorem wk_r4 : wk4.read 1 = (fill 0, 12) := by simp [DS.read, wk4, wk2]

def wk5 : DS := wk4.crash [1, 1] 1
theorem wk_ok5 : wk5.Ok := wk_ok4.crash _ _

theorem wk5_bl : wk5.bl = over (over (zeros 16) 128 (fill 7)) 256 ((fill 8).toList.take 64).toArray := by
  have hk : keptOf [1, 1] (idx [(1, (fill 7).toList), (2, (fill 8).toList)]) = [(0, (1, (fill 7).toList)), (1, (2, (fill 8).toList))] := by
    simp [idx, keptOf, isKept]
  show crashRow 1 (zeros 16) (keptOf [1, 1] (idx [(1, (fill 7).toList), (2, (fill 8).toList)])) = _
  rw [hk]
  have h7 : ((fill 7).toList.take 128).toArray = fill 7 := by rw [List.take_of_length_le (Nat.le_of_eq (ok_fill 7).1)]
  simp only [crashRow, crashStep, cutOf, List.foldl_cons, List.foldl_nil]
  rw [if_neg (by decide), if_pos (by decide), h7]
  rfl

theorem wk5_ws : wk5.ws = [] := rfl
theorem wk5_dn : wk5.dn = false := rfl
theorem wk5_n : wk5.n = 16 := rfl
theorem wk5_dc : wk5.dc = 2 := rfl

theorem size_f64 : ((fill 8).toList.take 64).toArray.size = 64 := by simp [size_fill]
theorem size_z16 : (zeros 16).size = 2048 := by simp [zeros]
theorem size_o1 : (over (zeros 16) 128 (fill 7)).size = 2048 := by rw [size_over (by rw [size_fill, size_z16]; omega), size_z16]

theorem wk5_at (j : Nat) : wk5.bl[j]? = if 256 ≤ j ∧ j < 320 then some (.int .u8 8) else if 128 ≤ j ∧ j < 256 then some (.int .u8 7) else if j < 2048 then some (.int .u8 0) else none := by
  rw [wk5_bl, getElem?_over _ _ _ _ (by rw [size_f64, size_o1]; omega), getElem?_over _ _ _ _ (by rw [size_fill, size_z16]; omega), size_f64, size_fill]
  simp only [Nat.reduceAdd]
  by_cases h1 : 256 ≤ j ∧ j < 320
  · simp only [if_pos h1]
    have h : j - 256 < 64 := by omega
    have h' : j - 256 < 128 := by omega
    rw [List.getElem?_toArray, List.getElem?_take, if_pos h, show (fill 8).toList = List.replicate 128 (.int .u8 8) by simp [fill], List.getElem?_replicate, if_pos h']
  · simp only [if_neg h1]
    by_cases h2 : 128 ≤ j ∧ j < 256
    · simp only [if_pos h2]
      have h : j - 128 < 128 := by omega
      simp [fill, h]
    · simp only [if_neg h2]
      by_cases h3 : j < 2048
      · simp [zeros, h3]
      · simp [zeros, h3]

theorem wk5_size : wk5.bl.size = 2048 := wk_ok5.size
theorem wk_r5 : wk5.read 1 = (fill 7, 0) := by
  have hb : wk5.block 1 = fill 7 := by
    unfold DS.block
    rw [wk5_ws]
    apply Array.ext_getElem?
    intro i
    simp only [List.reverse_nil, List.find?_nil, Array.getElem?_extract, wk5_size]
    by_cases hi : i < 128
    · rw [if_pos (by omega), wk5_at, if_neg (by omega), if_pos (by omega)]
      simp [fill, hi]
    · rw [if_neg (by omega)]
      simp [fill]; omega
  simp [DS.read, wk5_n, wk5_dn, hb]

def wkB : Array Value := wk5.block 2
theorem wk_r6 : wk5.read 2 = (wkB, 0) := by simp [DS.read, wk5_n, wk5_dn, wkB]
theorem wkB_at (i : Nat) (hi : i < 128) : wkB[i]? = some (.int .u8 (if i < 64 then 8 else 0)) := by
  unfold wkB DS.block
  rw [wk5_ws]
  simp only [List.reverse_nil, List.find?_nil, Array.getElem?_extract, wk5_size]
  rw [if_pos (by omega), wk5_at]
  by_cases h : i < 64
  · rw [if_pos (by omega), if_pos h]
  · rw [if_neg (by omega), if_neg (by omega), if_pos (by omega), if_neg h]
theorem wkB_size : wkB.size = 128 := by
  unfold wkB DS.block
  rw [wk5_ws]
  simp [wk5_size]
theorem wkB_one : wkB.all (·.oneCell') = true := by
  rw [Array.all_eq_true_iff_forall_mem]
  intro v hv
  obtain ⟨i, hi, e⟩ := Array.mem_iff_getElem.1 hv
  have := wkB_at i (by rw [wkB_size] at hi; exact hi)
  rw [Array.getElem?_eq_getElem hi, e] at this
  cases this
  rfl
end

/-! DSa: Steps in memory; Fair; Mod. -/
section
open Go.RowKit Go.Shelf

/-- One step, as it was handed in. -/
structure StepV where
  kind : Int
  i : Int
  v : Int
  ka : Option Addr
  kc : Nat
  ks : List Int

/-- A step's four cells lie in block b from o on. -/
structure StepAt (w : World) (b o : Nat) (x : StepV) : Prop where
  c0 : w.cell? ⟨b, o, none⟩ = some (.int .i64 x.kind)
  c1 : w.cell? ⟨b, o + 1, none⟩ = some (.int .i64 x.i)
  c2 : w.cell? ⟨b, o + 2, none⟩ = some (.int .u8 x.v)
  c3 : w.cell? ⟨b, o + 3, none⟩ = some (.slice x.ka x.ks.length x.kc)
  keep : KeepAt w x.ka x.ks
  hi : -9223372036854775808 ≤ x.i ∧ x.i ≤ 9223372036854775807
  hv : 0 ≤ x.v ∧ x.v ≤ 255

/-- The steps xs lie in the slice v. -/
def StepsAt (w : World) (v : Value) (xs : List StepV) : Prop :=
  ∃ a cap, v = .slice a xs.length cap ∧ ∀ j x, xs[j]? = some x → ∃ b o, a = some ⟨b, o, none⟩ ∧ StepAt w b (o + j * 4) x

theorem dk_cell_keeps {S : Nat → Prop} {w w' : World} (hk : Keeps S w w') {a : Addr} {v : Value} (hc : w.cell? a = some v) (hS : ¬ S a.block) : w'.cell? a = some v :=
  (World.cell?_of_block (hk.block a.block (World.block_lt_of_cell? w a hc) hS)).trans hc

theorem KeepAt.keeps {w w' : World} {ka : Option Addr} {ks : List Int} (h : KeepAt w ka ks) (hk : Keeps (fun _ => False) w w') : KeepAt w' ka ks := fun j x hx => by
  obtain ⟨b, o, e, hc, h0, h1⟩ := h j x hx
  exact ⟨b, o, e, dk_cell_keeps hk hc (fun h => h), h0, h1⟩

theorem StepAt.keeps {w w' : World} {b o : Nat} {x : StepV} (h : StepAt w b o x) (hk : Keeps (fun _ => False) w w') : StepAt w' b o x :=
  ⟨dk_cell_keeps hk h.c0 (fun h => h), dk_cell_keeps hk h.c1 (fun h => h), dk_cell_keeps hk h.c2 (fun h => h), dk_cell_keeps hk h.c3 (fun h => h), h.keep.keeps hk, h.hi, h.hv⟩

theorem StepsAt.keeps {w w' : World} {v : Value} {xs : List StepV} (h : StepsAt w v xs) (hk : Keeps (fun _ => False) w w') : StepsAt w' v xs := by
  obtain ⟨a, cap, e, hx⟩ := h
  exact ⟨a, cap, e, fun j x hj => by obtain ⟨b, o, ea, hs⟩ := hx j x hj; exact ⟨b, o, ea, hs.keeps hk⟩⟩

def fairB (xs : List StepV) : Bool := xs.all (fun x => decide (x.ks.length ≤ 300)) && decide (xs.length ≤ 200)

set_option maxHeartbeats 1000000 in
theorem fair_any (w : World) (v : Value) (xs : List StepV) (h : StepsAt w v xs) (hlen : xs.length ≤ 9223372036854775807) :
    Calls Tryd.prog 29 #[v] w fun e w' => e = .returned (.bool (fairB xs)) ∧ w' = w := by
  obtain ⟨a, cap, rfl, hx⟩ := h
  go_enter Tryd.func29, Tryd.ntmps29
  go_wp2
  go_loop [3] (fun i => ∃ k : Nat, k ≤ xs.length ∧ i = .int .i64 k ∧ (xs.take k).all (fun x => decide (x.ks.length ≤ 300)) = true) (fun i => xs.length - (intOf i).toNat)
  case atStart => exact ⟨0, Nat.zero_le _, rfl, by simp⟩
  case round =>
    obtain ⟨k, hk, rfl, hall⟩ := hrel
    by_cases hlt : k < xs.length
    · obtain ⟨b, o, rfl, hs⟩ := hx k xs[k] (by simp [hlt])
      have hlt' : (k : Int) < (xs.length : Int) := by omega
      have hk0 : (0 : Int) ≤ (k : Int) := by omega
      have c3 := hs.c3
      have hn : xs.take (k + 1) = xs.take k ++ [xs[k]] := by rw [List.take_succ_eq_append_getElem hlt]
      obtain ⟨x, hxk⟩ : ∃ x, xs[k] = x := ⟨_, rfl⟩
      rw [hxk] at c3 hn
      have Hn : Hid (xs.take (k + 1) = xs.take k ++ [x]) := hn
      have Hk : Hid (xs[k]? = some x) := show xs[k]? = some x by rw [List.getElem?_eq_getElem hlt, hxk]
      have Ha : Hid ((xs.take k).all (fun x => decide (x.ks.length ≤ 300)) = true) := hall
      clear hs hn hxk hall hx
      by_cases hl : x.ks.length ≤ 300
      · have hl' : ¬ (300 : Int) < (x.ks.length : Int) := by omega
        go_wp2
        go_round
        case rel =>
          refine ⟨k + 1, hlt, by go_num, ?_⟩
          rw [Hn.out, List.all_append, Ha.out]
          simp [hl]
        case measure => simp [intOf]; omega
      · have hl' : (300 : Int) < (x.ks.length : Int) := by omega
        go_wp2
        go_ret
        refine ⟨?_, rfl⟩
        have : fairB xs = false := by
          unfold fairB
          have hm : x ∈ xs := List.mem_of_getElem? Hk.out
          have : xs.all (fun x => decide (x.ks.length ≤ 300)) = false := by
            rw [List.all_eq_false]
            exact ⟨x, hm, by simpa using hl⟩
          rw [this]; rfl
        rw [this]
        rfl
    · obtain rfl : k = xs.length := by omega
      rw [List.take_length] at hall
      have Ha : Hid (xs.all (fun x => decide (x.ks.length ≤ 300)) = true) := hall
      clear hall hx
      go_wp2
      go_ret
      refine ⟨?_, rfl⟩
      unfold fairB
      rw [Ha.out]
      simp
      omega

theorem tmod_pos (k n : Int) (hn : 0 < n) : -n < k.tmod n ∧ k.tmod n < n ∧ (k.tmod n + n).tmod n = k % n := by
  rcases Int.le_total 0 k with h | h
  · rw [Int.tmod_eq_emod_of_nonneg h]
    have h1 := Int.emod_nonneg k (show n ≠ 0 by omega)
    have h2 := Int.emod_lt_of_pos k hn
    refine ⟨by omega, h2, ?_⟩
    rw [Int.tmod_eq_emod_of_nonneg (by omega), Int.add_emod_right, Int.emod_emod]
  · have e : k.tmod n = -((-k) % n) := by
      have : k.tmod n = -((-k).tmod n) := by rw [Int.neg_tmod, Int.neg_neg]
      rw [this, Int.tmod_eq_emod_of_nonneg (by omega)]
    have h1 := Int.emod_nonneg (-k) (show n ≠ 0 by omega)
    have h2 := Int.emod_lt_of_pos (-k) hn
    rw [e]
    refine ⟨by omega, by omega, ?_⟩
    rw [Int.tmod_eq_emod_of_nonneg (by omega)]
    have h3 := Int.emod_add_mul_ediv (-k) n
    have h4 : -((-k) % n) + n = k + n * ((-k) / n + 1) := by rw [Int.mul_add]; omega
    rw [h4, Int.add_mul_emod_self_left]

set_option maxHeartbeats 400000 in
theorem mod_any (w : World) (k n : Int) (hn : 0 < n) (hn2 : n < 1000000) (hk : -9223372036854775808 ≤ k) (hk2 : k ≤ 9223372036854775807) :
    Calls Tryd.prog 30 #[.int .i64 k, .int .i64 n] w fun e w' => e = .returned (.int .i64 (k % n)) ∧ w' = w := by
  obtain ⟨h1, h2, h3⟩ := tmod_pos k n hn
  have H3 : Hid (k.tmod n % n = k % n) := show _ = _ by rw [← h3, Int.tmod_eq_emod_of_nonneg (show 0 ≤ k.tmod n + n by omega), Int.add_emod_right]
  have hn1 : ¬ n < 1 := by omega
  have hn0 : n ≠ 0 := by omega
  clear h3
  go_enter Tryd.func30, Tryd.ntmps30
  go_wp2
  go_ret
  refine ⟨?_, rfl⟩
  rw [← H3.out]
  rfl
end

/-! DSg: What a block holds behind writes, syncs and crashes. -/
section
open Go.RowKit Go.Shelf

/-- Block k of a row of blocks. -/
def blk (row : Array Value) (k : Nat) : Array Value := row.extract (k * 128) (k * 128 + 128)

theorem getElem?_blk (row : Array Value) (k j : Nat) : (blk row k)[j]? = if j < 128 then row[k * 128 + j]? else none := by
  unfold blk
  rw [Array.getElem?_extract]
  by_cases h : j < 128
  · rw [if_pos h]
    split
    · rfl
    · rename_i h2
      simp
      omega
  · rw [if_neg h, if_neg (by omega)]

theorem blk_over_same {row cs : Array Value} {k : Nat} (h : k * 128 + 128 ≤ row.size) (hc : cs.size = 128) : blk (over row (k * 128) cs) k = cs := by
  apply Array.ext_getElem?
  intro j
  rw [getElem?_blk]
  by_cases hj : j < 128
  · rw [if_pos hj, getElem?_over _ _ _ _ (by omega), if_pos (by omega)]
    congr 1; omega
  · rw [if_neg hj]
    simp; omega

theorem blk_over_other {row cs : Array Value} {k i : Nat} (hk : k ≠ i) (h : i * 128 + cs.size ≤ row.size) (hc : cs.size ≤ 128) : blk (over row (i * 128) cs) k = blk row k := by
  apply Array.ext_getElem?
  intro j
  rw [getElem?_blk, getElem?_blk]
  by_cases hj : j < 128
  · rw [if_pos hj, if_pos hj, getElem?_over _ _ _ _ h, if_neg ?_]
    rcases Nat.lt_or_gt_of_ne hk with h1 | h1
    · have := Nat.mul_le_mul_right 128 (show k + 1 ≤ i from h1); omega
    · have := Nat.mul_le_mul_right 128 (show i + 1 ≤ k from h1); omega
  · rw [if_neg hj, if_neg hj]

theorem idx_snoc (ws : List LW) (x : LW) : idx (ws ++ [x]) = idx ws ++ [(ws.length, x)] := by
  simp [idx, List.zipIdx_append]

theorem crashRow_snoc (t : Int) (row : Array Value) (l : List (Nat × LW)) (y : Nat × LW) : crashRow t row (l ++ [y]) = crashStep t (crashRow t row l) y := by
  simp [crashRow]

/-- What stands in block k of the row bl with the loose writes ws over it. -/
def onTop (bl : Array Value) (ws : List LW) (k : Nat) : Array Value :=
  match ws.reverse.find? (fun x => x.1 == (k : Int)) with
  | some x => x.2.toArray
  | none => blk bl k

theorem block_onTop (s : DS) (k : Nat) : s.block k = onTop s.bl s.ws k := rfl

theorem onTop_snoc (bl : Array Value) (ws : List LW) (x : LW) (k : Nat) : onTop bl (ws ++ [x]) k = if x.1 = (k : Int) then x.2.toArray else onTop bl ws k := by
  unfold onTop
  rw [List.reverse_append, List.reverse_singleton, List.singleton_append, List.find?_cons]
  by_cases h : x.1 = (k : Int)
  · have : (x.1 == (k : Int)) = true := by simpa using h
    simp only [this, if_pos h]
  · have : (x.1 == (k : Int)) = false := by simpa using h
    simp only [this, if_neg h]

theorem blk_all {n : Nat} (bl : Array Value) (hbl : bl.size = n * 128) : ∀ (ws : List LW), (∀ x ∈ ws, LwOk x ∧ 0 ≤ x.1 ∧ x.1 < (n : Int)) → ∀ k, k < n → blk (crashRow (-1) bl (idx ws)) k = onTop bl ws k := by
  suffices H : ∀ (l : List LW) (ws : List LW), ws = l.reverse → (∀ x ∈ ws, LwOk x ∧ 0 ≤ x.1 ∧ x.1 < (n : Int)) → ∀ k, k < n → blk (crashRow (-1) bl (idx ws)) k = onTop bl ws k from
    fun ws => H ws.reverse ws (List.reverse_reverse ws).symm
  intro l
  induction l with
  | nil => intro ws e _ k _; rw [e]; rfl
  | cons x l ih0 =>
    intro ws0 e
    rw [List.reverse_cons] at e
    obtain ⟨ws, hws0⟩ : ∃ ws, l.reverse = ws := ⟨_, rfl⟩
    rw [hws0] at e
    subst e
    have ih := ih0 ws hws0.symm
    intro hok k hk
    have hx := hok x (by simp)
    have hws : ∀ y ∈ ws, LwOk y ∧ 0 ≤ y.1 ∧ y.1 < (n : Int) := fun y hy => hok y (by simp [hy])
    rw [idx_snoc, crashRow_snoc, onTop_snoc, ← ih hws k hk]
    have hsz : (crashRow (-1) bl (idx ws)).size = n * 128 := size_crashRow (-1) n _ _ hbl (fun y hy => hws y.2 (mem_idx hy))
    have hcut : cutOf (-1) ws.length = 128 := by unfold cutOf; rw [if_neg (by omega)]
    have htk : x.2.take 128 = x.2 := List.take_of_length_le (Nat.le_of_eq hx.1.1)
    show blk (over (crashRow (-1) bl (idx ws)) (x.1.toNat * 128) (x.2.take (cutOf (-1) ws.length)).toArray) k = _
    rw [hcut, htk]
    have hs : x.2.toArray.size = 128 := by simp [hx.1.1]
    have hmul : (x.1.toNat + 1) * 128 ≤ n * 128 := Nat.mul_le_mul_right 128 (by omega)
    by_cases h : x.1 = (k : Int)
    · have hk' : x.1.toNat = k := by omega
      rw [if_pos h, hk']
      rw [hk'] at hmul
      exact blk_over_same (by omega) hs
    · rw [if_neg h]
      exact blk_over_other (by omega) (by omega) (by omega)

theorem sync_block {s : DS} (h : s.Ok) (k : Nat) (hk : k < s.n) : s.sync.2.block k = s.block k := by
  unfold DS.sync
  split
  · rfl
  · show onTop (crashRow (-1) s.bl (idx s.ws)) [] k = onTop s.bl s.ws k
    exact blk_all s.bl h.size s.ws h.lw k hk

theorem write_block (s : DS) (i : Nat) (hi : i < s.n) (b : List Value) (k : Nat) : (s.write (i : Int) b).2.block k = if (s.write (i : Int) b).1 = 0 ∧ i = k then b.toArray else s.block k := by
  unfold DS.write
  rw [if_neg (by omega)]
  by_cases hd : s.F = 0 ∨ s.dn = true
  · rw [if_pos hd, if_neg (by simp)]; rfl
  · rw [if_neg hd]
    show onTop s.bl (s.ws ++ [((i : Int), b)]) k = _
    rw [onTop_snoc]
    by_cases h : i = k
    · rw [if_pos (by simp [h]), if_pos ⟨rfl, h⟩]
    · rw [if_neg (show ¬ ((i : Int) = (k : Int)) by omega), if_neg (by simp [h])]; rfl

/-- A block is stored into the midst of a row; the world behind is a letter. -/
theorem wpList_store_blk {ops : Array Oper} {rest : List Oper} {o : Oper} {a : Act} {w : World} {Q : Exit → Act → World → Prop} (hgd : o.guard = none) (x y : Operand) (ho : o.op = .store 30 x y)
    (g off : Nat) (hx : a.eval x = .pointer (some ⟨g, off, none⟩)) (new : Array Value) (hy : a.eval y = .agg new) (t : TypeId) (cur : Array Value) (hg : w.heap[g]? = some (.cells cur t (0, 0)))
    (hfit : off + 128 ≤ cur.size) (hs : new.size = 128) (h1 : AllOne new)
    (h : ∀ w', w'.heap[g]? = some (.cells (over cur off new) t (0, 0)) → Keeps (· = g) w w' → wpList Tryd.prog ops Q rest (a.put o.dst undef) w') : wpList Tryd.prog ops Q (o :: rest) a w :=
  wpList_plain hgd fun K hK => op_store37 x y ho g off new hx hy cur t hg hfit hs h1 (hK _ _ (h _ (setRow_heap w g _ _ _ _ hg) ((Keeps.refl (· = g) w).setRow (.inl rfl) _)))
end

/-! DSr: DiskReads: the walk. -/
section
open Go.RowKit Go.Shelf
attribute [local go_sem ↓] wp_build37

theorem blk_zeros (n k : Nat) (h : k < n) : blk (zeros n) k = fill 0 := by
  apply Array.ext_getElem?
  intro j
  rw [getElem?_blk]
  by_cases hj : j < 128
  · have : (k + 1) * 128 ≤ n * 128 := Nat.mul_le_mul_right 128 h
    rw [if_pos hj]
    unfold zeros fill
    rw [Array.getElem?_replicate, Array.getElem?_replicate, if_pos (by omega), if_pos hj]
  · rw [if_neg hj]; simp [fill]; omega

/-- Every byte of the state is a byte. -/
def AllByte (A : Array Value) : Prop := ∀ (j : Nat) (v : Value), A[j]? = some v → ∃ z, v = .int .u8 z

theorem bytes_blk {A : Array Value} {k : Nat} (h : AllByte A) (hs : k * 128 + 128 ≤ A.size) : Bytes (blk A k) := by
  refine ⟨by unfold blk; simp; omega, fun i hi => ?_⟩
  rw [getElem?_blk, if_pos hi]
  have hlt : k * 128 + i < A.size := by omega
  obtain ⟨z, hz⟩ := h _ _ (Array.getElem?_eq_getElem hlt)
  exact ⟨z, by rw [Array.getElem?_eq_getElem hlt, hz]⟩

theorem allByte_over {row cs : Array Value} {o : Nat} (h : AllByte row) (h' : AllByte cs) (hf : o + cs.size ≤ row.size) : AllByte (over row o cs) := fun j v hv => by
  rw [getElem?_over _ _ _ _ hf] at hv
  split at hv
  · exact h' _ _ hv
  · exact h _ _ hv

theorem allByte_fill (v : Int) : AllByte (fill v) := fun j u hu => by
  unfold fill at hu
  rw [Array.getElem?_replicate] at hu
  split at hu
  · cases hu; exact ⟨v, rfl⟩
  · cases hu

theorem allByte_zeros (n : Nat) : AllByte (zeros n) := fun j u hu => by
  unfold zeros at hu
  rw [Array.getElem?_replicate] at hu
  split at hu
  · cases hu; exact ⟨0, rfl⟩
  · cases hu

theorem op_load37 {op : Oper} {a : Act} {w : World} {K : Act → World → Prop} {Q : Exit → Act → World → Prop} (x : Operand) (ho : op.op = .load 30 x)
    (g o : Nat) (hx : a.eval x = .pointer (some ⟨g, o, none⟩)) (cs : Array Value) (hc : cellsAt w g o 128 = cs) (hn : cs.size = 128)
    (h : K (a.put op.dst (.agg cs)) w) : op.wp Tryd.prog a w K Q := by
  have hr := run_loadVar_mid (P := Tryd.prog) w g o 30 cs.toList _ (by rw [← hc]; exact rangeAt_cellsAt w g o 128) Tryd.underlying30 rfl (by rw [size37, Array.length_toList, hn])
  rw [Array.toArray_toList] at hr
  unfold Oper.wp execOp
  simp only [ho, hx, Instr.loadAt, Instr.sureAddr, Sem.run_bind, Sem.run_pure, Result.andThen_ok, hr]
  exact h

theorem wp_build37g {d : Option Tmp} {tt : TypeId} {ps : String} {af : Array Edge} {gd : Option (Nat × Bool)} {a : Act} {w : World} {K : Act → World → Prop} {Q : Exit → Act → World → Prop} :
    Oper.wp Tryd.prog { dst := d, op := .build 30 #[], type := tt, pos := ps, after := af, guard := gd } a w K Q = K (a.put d (.agg (fill 0))) w := by
  have := @wp_build37 d tt ps af a w K Q
  exact this

theorem wp_load37g {d : Option Tmp} {x : Operand} {tt : TypeId} {ps : String} {af : Array Edge} {gd : Option (Nat × Bool)} {a : Act} {w : World} {K : Act → World → Prop} {Q : Exit → Act → World → Prop}
    (h1 : a.eval x = .pointer (some ⟨(addrOf (a.eval x)).block, (addrOf (a.eval x)).off, none⟩)) (h2 : (cellsAt w (addrOf (a.eval x)).block (addrOf (a.eval x)).off 128).size = 128) :
    Oper.wp Tryd.prog { dst := d, op := .load 30 x, type := tt, pos := ps, after := af, guard := gd } a w K Q =
      K (a.put d (.agg (cellsAt w (addrOf (a.eval x)).block (addrOf (a.eval x)).off 128))) w := by
  have := @wp_load37 d x tt ps af a w K Q h1 h2
  exact this

structure Stop (P : Prop) : Prop where out : P

theorem Lies.keptC {B : Nat} {C : Nat → Prop} {w w' : World} {p gb : Nat} {s : DS} (h : Lies B C w p gb s) (hk : Keeps C w w') : Lies B C w' p gb s := by
  obtain ⟨vl, hD, hB, hL, h1, h2, h3, h4, h5, h6, h7⟩ := h
  exact ⟨vl, hD.kept hk (fun h => (h7 _ h).1 rfl), (hk.block gb (Array.getElem?_eq_some_iff.1 hB).1 (fun h => (h7 _ h).2.1 rfl)).trans hB, ownsRow_keeps hL hk (fun g e h => (h7 _ h).2.2 e), h1, h2, h3, h4, h5, h6, h7⟩

theorem sync_n (s : DS) : s.sync.2.n = s.n := by unfold DS.sync; split <;> rfl
theorem write_n (s : DS) (i : Int) (b : List Value) : (s.write i b).2.n = s.n := by 
  unfold DS.write
  split
  · rfl
  · split <;> rfl

attribute [local go_sem ↓] wp_build37g Go.wp_at_zero Go.wp_at_succ wp_load37g
attribute [local go_sem] addrOf cellsAt_drew
end

/-! DSo: DiskOrder: the walk. -/
section
open Go.RowKit Go.Shelf
attribute [local go_sem ↓] wp_build37

/-- m bytes v in a row from off on. -/
def paint (row : Array Value) (off : Nat) (v : Int) (m : Nat) : Array Value := over row off (Array.replicate m (.int .u8 v))

theorem size_paint {row : Array Value} {off : Nat} {v : Int} {m : Nat} (h : off + m ≤ row.size) : (paint row off v m).size = row.size := size_over (by simpa using h)

theorem paint_zero (row : Array Value) (off : Nat) (v : Int) (h : off ≤ row.size) : paint row off v 0 = row := by
  apply Array.ext_getElem?
  intro j
  unfold paint
  rw [getElem?_over _ _ _ _ (by simpa using h), if_neg (by simp)]

theorem paint_succ (row : Array Value) (off : Nat) (v : Int) (m : Nat) (h : off + m < row.size) : (paint row off v m).setIfInBounds (off + m) (.int .u8 v) = paint row off v (m + 1) := by
  apply Array.ext_getElem?
  intro j
  have hs := size_paint (row := row) (off := off) (v := v) (m := m) (by omega)
  rw [Array.getElem?_setIfInBounds, hs]
  unfold paint
  rw [getElem?_over _ _ _ _ (by simp; omega), getElem?_over _ _ _ _ (by simp; omega)]
  simp only [Array.size_replicate, Array.getElem?_replicate]
  by_cases e : off + m = j
  · subst e
    rw [if_pos rfl, if_pos h, if_pos (by omega), if_pos (by omega)]
  · rw [if_neg e]
    by_cases h1 : off ≤ j ∧ j < off + m
    · rw [if_pos h1, if_pos (by omega), if_pos (by omega), if_pos (by omega)]
    · rw [if_neg h1, if_neg (by omega)]

theorem take_fill (v : Int) (n : Nat) (h : n ≤ 128) : ((fill v).toList.take n).toArray = Array.replicate n (.int .u8 v) := by
  have e : (fill v).toList.take n = List.replicate n (.int .u8 v) := by
    unfold fill
    rw [Array.toList_replicate, List.take_replicate, Nat.min_eq_left h]
  rw [e]; simp

theorem allByte_paint {row : Array Value} {off : Nat} {v : Int} {m : Nat} (h : AllByte row) (hf : off + m ≤ row.size) : AllByte (paint row off v m) :=
  allByte_over h (fun j u hu => by rw [Array.getElem?_replicate] at hu; split at hu <;> simp at hu; exact ⟨v, hu.symm⟩) (by simpa using hf)

theorem blk_over_part {row cs : Array Value} {k : Nat} (h : k * 128 + 128 ≤ row.size) (hc : cs.size ≤ 128) : blk (over row (k * 128) cs) k = over (blk row k) 0 cs := by
  have hb : (blk row k).size = 128 := by unfold blk; simp; omega
  apply Array.ext_getElem?
  intro j
  rw [getElem?_blk]
  by_cases hj : j < 128
  · rw [if_pos hj, getElem?_over _ _ _ _ (by omega), getElem?_over _ _ _ _ (by omega)]
    by_cases h2 : j < cs.size
    · rw [if_pos (by omega), if_pos (by omega)]; congr 1; omega
    · rw [if_neg (by omega), if_neg (by omega), getElem?_blk, if_pos hj]
  · rw [if_neg hj, getElem?_over _ _ _ _ (by omega), if_neg (by omega), getElem?_blk, if_neg hj]

/-- What DiskOrder wants behind k of the two writes. -/
def wantO (t : Int) (ks vs : List Int) : Nat → Array Value
  | 0 => fill 0
  | k + 1 => if isKept ks k then paint (wantO t ks vs k) 0 (vs.getD k 0) (cutOf t k) else wantO t ks vs k

theorem cut_le (t : Int) (k : Nat) : cutOf t k ≤ 128 := by unfold cutOf; split <;> omega

theorem size_wantO (t : Int) (ks vs : List Int) : ∀ k, (wantO t ks vs k).size = 128
  | 0 => size_fill 0
  | k + 1 => by
    have ih := size_wantO t ks vs k
    have := cut_le t k
    unfold wantO
    split
    · rw [size_paint (by omega)]; exact ih
    · exact ih

theorem allByte_wantO (t : Int) (ks vs : List Int) : ∀ k, AllByte (wantO t ks vs k)
  | 0 => allByte_fill 0
  | k + 1 => by
    have ih := allByte_wantO t ks vs k
    have := cut_le t k
    have hs := size_wantO t ks vs k
    unfold wantO
    split
    · exact allByte_paint ih (by omega)
    · exact ih

theorem order_block (t : Int) (k0 k1 v0 v1 : Int) :
    blk (crashRow t (zeros 16) (keptOf [k0, k1] (idx [(3, (fill v0).toList), (3, (fill v1).toList)]))) 3 = wantO t [k0, k1] [v0, v1] 2 := by
  have e0 : keptOf [k0, k1] (idx [(3, (fill v0).toList), (3, (fill v1).toList)]) = (if isKept [k0, k1] 0 then [(0, ((3 : Int), (fill v0).toList))] else []) ++ (if isKept [k0, k1] 1 then [(1, ((3 : Int), (fill v1).toList))] else []) := by
    simp only [idx, keptOf, List.zipIdx_cons, List.zipIdx_nil, List.map_cons, List.map_nil, List.filter_cons, List.filter_nil]
    cases isKept [k0, k1] 0 <;> cases isKept [k0, k1] (0 + 1) <;> rfl
  have step : ∀ (row : Array Value) (i : Nat) (v : Int), row.size = 2048 → blk (crashStep t row (i, ((3 : Int), (fill v).toList))) 3 = paint (blk row 3) 0 v (cutOf t i) := fun row i v h => by
    show blk (over row (3 * 128) ((fill v).toList.take (cutOf t i)).toArray) 3 = _
    rw [take_fill v _ (cut_le t i), blk_over_part (by omega) (by simpa using cut_le t i)]
    rfl
  have hz : (zeros 16).size = 2048 := by simp [zeros]
  have hb : blk (zeros 16) 3 = fill 0 := blk_zeros 16 3 (by omega)
  have h1 : (crashStep t (zeros 16) (0, ((3 : Int), (fill v0).toList))).size = 2048 := by
    show (over (zeros 16) (3 * 128) ((fill v0).toList.take (cutOf t 0)).toArray).size = _
    rw [take_fill v0 _ (cut_le t 0), size_over (by simp [hz]; have := cut_le t 0; omega), hz]
  rw [e0]
  unfold wantO wantO wantO
  show _ = if isKept [k0, k1] 1 then paint (if isKept [k0, k1] 0 then paint (fill 0) 0 v0 (cutOf t 0) else fill 0) 0 v1 (cutOf t 1) else (if isKept [k0, k1] 0 then paint (fill 0) 0 v0 (cutOf t 0) else fill 0)
  cases isKept [k0, k1] 0 <;> cases isKept [k0, k1] 1
  · exact hb
  · show blk (crashStep t (zeros 16) (1, ((3 : Int), (fill v1).toList))) 3 = _
    rw [step _ _ _ hz, hb]; rfl
  · show blk (crashStep t (zeros 16) (0, ((3 : Int), (fill v0).toList))) 3 = _
    rw [step _ _ _ hz, hb]; rfl
  · show blk (crashStep t (crashStep t (zeros 16) (0, ((3 : Int), (fill v0).toList))) (1, ((3 : Int), (fill v1).toList))) 3 = _
    rw [step _ _ _ h1, step _ _ _ hz, hb]; rfl

attribute [local go_sem ↓] wp_build37g Go.wp_at_zero Go.wp_at_succ wp_load37g
attribute [local go_sem] addrOf cellsAt_drew

/-- A pair of bytes in a block. -/
def Two (w : World) (g : Nat) (a b : Int) : Prop := w.cell? ⟨g, 0, none⟩ = some (.int .u8 a) ∧ w.cell? ⟨g, 1, none⟩ = some (.int .u8 b)

theorem Two.keeps {F : Nat → Prop} {w w' : World} {g : Nat} {a b : Int} (h : Two w g a b) (hk : Keeps F w w') (hg : ¬ F g) : Two w' g a b :=
  ⟨dk_cell_keeps hk h.1 hg, dk_cell_keeps hk h.2 hg⟩
end

end Go.Proofs.YtdgnjpdjohibeaaDoor
