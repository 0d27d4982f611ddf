/-
  SuperPlays: what the disk and the reference do, beside each other.
-/
import Derived.Test.YtdgnjpdjohibeaaDoorPb
import Derived.Test.YtdgnjpdjohibeaaDoorPc
import Derived.Test.YtdgnjpdjohibeaaDoorKx
set_option linter.all false
set_option maxRecDepth 100000
namespace Go.Proofs.YtdgnjpdjohibeaaDoor
open Go.RowKit Go.Sort Go.Shelf

/-- A state behind k steps. -/
structure Pl (r : DS) (n k : Nat) : Prop where
  ok : r.Ok
  bw : r.Bw
  n : r.n = n
  dc : 0 ≤ r.dc ∧ r.dc ≤ 2 * (k : Int)
  ws : r.ws.length ≤ k
section
variable {r : DS} {n k : Nat}
theorem Pl.new (n : Nat) : Pl (DS.new n) n 0 := ⟨DS.Ok.new n, DS.Bw.new n, rfl, ⟨Int.le_refl _, Int.le_refl _⟩, Nat.le_refl _⟩
theorem Pl.write (h : Pl r n k) (i : Int) {L : List B} (hL : L.length = 128) : Pl (r.write i (L.map vb)).2 n (k + 1) := by
  have q := write_dc r i (L.map vb)
  have h1 := h.dc
  have h2 := h.ws
  exact ⟨h.ok.write i _ (ok_vb hL), h.bw.write i L, by rw [q.2.2.2, h.n], ⟨by omega, by omega⟩, by omega⟩
theorem Pl.wr (h : Pl r n k) {u : Su} (hu : u.Ok) : Pl (wrR r u).2 n (k + 1) := by
  have q := wrR_dc r u
  have h1 := h.dc
  have h2 := h.ws
  exact ⟨wrR_ok h.ok hu, wrR_bw h.bw h.ok hu, by rw [q.2.2.2, h.n], ⟨by omega, by omega⟩, by omega⟩
theorem Pl.crash (h : Pl r n k) (ks : List Int) (t : Int) : Pl (r.crash ks t) n (k + 1) := by
  have h1 := h.dc
  exact ⟨h.ok.crash ks t, h.bw.crash h.ok ks t, h.n, ⟨h1.1, by show r.dc ≤ _; omega⟩, Nat.zero_le _⟩
theorem Pl.raw (h : Pl r n k) (i : Int) (hi : -9223372036854775808 ≤ i ∧ i ≤ 9223372036854775807) : Pl (r.raw i) n (k + 1) := by
  have h1 := h.dc
  have h2 := h.ws
  exact ⟨h.ok.raw i hi.1 hi.2, h.bw.raw i, h.n, ⟨h1.1, by show r.dc ≤ _; omega⟩, by show r.ws.length ≤ _; omega⟩
theorem Pl.step (h : Pl r n k) : Pl r n (k + 1) := by
  have h1 := h.dc
  have h2 := h.ws
  exact ⟨h.ok, h.bw, h.n, ⟨h1.1, by omega⟩, by omega⟩
theorem DS.Bw.by (h : r.Bw) : r.By :=
  ⟨fun j v hv => by obtain ⟨b, rfl⟩ := h.bl j v hv; exact ⟨_, rfl⟩, fun x hx v hv => by obtain ⟨b, rfl⟩ := h.ws x hx v hv; exact ⟨_, rfl⟩⟩
end

theorem cap_wr (r : DS) (u : Su) : wrR r.cap u = ((wrR r u).1, (wrR r u).2.cap) := by
  unfold wrR
  have hn : r.cap.n = r.n := rfl
  rw [hn, cap_write]
  generalize r.write ((u.gen % 2 : Nat) : Int) ((sblk u).map vb) = q
  by_cases h : u.good = true ∧ u.blocks = (r.n : Int)
  · rw [if_pos h, if_pos h]
    by_cases h2 : q.1 = 0
    · rw [if_pos h2, if_pos h2]
      exact cap_sync _
    · rw [if_neg h2, if_neg h2]
  · rw [if_neg h, if_neg h]
theorem cap_dsb (r : DS) (i : Nat) : dsb r.cap i = dsb r i := rfl
theorem cap_cand (r : DS) (i : Nat) : cand r.cap i = cand r i := by
  have hn : r.cap.n = r.n := rfl
  unfold cand
  rw [cap_dsb, hn]
theorem cap_sups (r : DS) : sups r.cap = sups r := by
  unfold sups supsTo
  rw [show cand r.cap = cand r from funext (cap_cand r)]
theorem cap_new (r : DS) : newR r.cap = newR r := by
  have hn : r.cap.dn = r.dn := rfl
  unfold newR
  rw [cap_sups, hn]

section
variable {B : Nat} {X : Nat → Prop} {w : World} {p gb p' gb' n k : Nat} {s r rE : DS} {u : Su} {c : Int}

theorem Half.keptX {w' : World} (h : Half B X w p gb p' gb' s r) (hk : Keeps X w w') : Half B X w' p gb p' gb' s r := by
  obtain ⟨vr, hl, hR, hB, hL, h1, h2, h3, h4, h5, h6, h7⟩ := h.out
  exact ⟨vr, hl.keptC (hk.mono (fun k _ e => .inr e)), hR.kept hk (fun e => h7 _ e (.inl rfl)), (hk.block gb' (Array.getElem?_eq_some_iff.1 hB).1 (fun e => h7 _ e (.inr (.inl rfl)))).trans hB, ownsRow_keeps hL hk (fun g e he => h7 _ he (.inr (.inr e))), h1, h2, h3, h4, h5, h6, h7⟩

theorem dwr (hq : wrR r u = (c, rE)) (h : Half B X w p gb p' gb' r.cap r) (hT : Tabs w) (hP : Pl r n k) (hk : k ≤ 60) (hX : ∀ k, X k → k < w.heap.size) (hBw : B ≤ w.heap.size) (hu : u.Ok) :
    Calls Tryd.prog 20 #[.pointer (some ⟨p, 0, none⟩), .agg u.cells] w fun e w' => e = .returned (.int .i64 c) ∧ Half B X w' p gb p' gb' rE.cap r ∧ Keeps (Own1 B X) w w' := by
  obtain ⟨C, hl, hC, hnext⟩ := h.disk hX
  have h1 := hP.dc
  have h2 := hP.ws
  have h3 : 0 ≤ r.cap.dc ∧ r.cap.dc < 999999 := ⟨h1.1, by show r.dc < _; omega⟩
  have h4 : r.cap.ws.length < 999999 := by show r.ws.length < _; omega
  refine (writeP hl hT hP.ok.cap hC hBw h3 h4 u hu).mono ?_
  rw [cap_wr, hq]
  rintro e w' ⟨rfl, hl', hk⟩
  exact ⟨rfl, hnext w' _ hl' hk⟩
theorem rwr (hq : wrR r u = (c, rE)) (h : Half B X w p gb p' gb' s r) (hP : Pl r n k) (hk : k ≤ 60) (hX : ∀ k, X k → k < w.heap.size) (hBw : B ≤ w.heap.size) (hu : u.Ok) :
    Calls Tryd.prog 21 #[.pointer (some ⟨p', 0, none⟩), .agg u.cells] w fun e w' => e = .returned (.int .i64 c) ∧ Half B X w' p gb p' gb' s rE ∧ Keeps (Own1 B X) w w' := by
  have h1 := hP.dc
  have h2 := hP.ws
  have := rsw h hP.ok hX hBw ⟨h1.1, by omega⟩ (by omega) u hu
  rw [hq] at this
  exact this
theorem dwt {i : Int} {L : List YtdgnjpdjohibeaaDoor.B} (hq : r.write i (L.map vb) = (c, rE)) (hL : L.length = 128) (h : Half B X w p gb p' gb' r.cap r) (hP : Pl r n k) (hk : k ≤ 60) (hX : ∀ k, X k → k < w.heap.size) (hBw : B ≤ w.heap.size) :
    Calls Tryd.prog 22 #[.pointer (some ⟨p, 0, none⟩), .int .i64 i, .agg (brow L)] w fun e w' => e = .returned (.int .i64 c) ∧ Half B X w' p gb p' gb' rE.cap r ∧ Keeps (Own1 B X) w w' := by
  have h1 := hP.dc
  have h2 := hP.ws
  have := dwrite_half h hP.ok hX hBw ⟨h1.1, by omega⟩ (by omega) i (L.map vb) (ok_vb hL)
  rw [hq] at this
  exact this
theorem rwt {i : Int} {L : List YtdgnjpdjohibeaaDoor.B} (hq : r.write i (L.map vb) = (c, rE)) (hL : L.length = 128) (h : Half B X w p gb p' gb' s r) (hP : Pl r n k) (hk : k ≤ 60) (hX : ∀ k, X k → k < w.heap.size) (hBw : B ≤ w.heap.size) :
    Calls Tryd.prog 23 #[.pointer (some ⟨p', 0, none⟩), .int .i64 i, .agg (brow L)] w fun e w' => e = .returned (.int .i64 c) ∧ Half B X w' p gb p' gb' s rE ∧ Keeps (Own1 B X) w w' := by
  have h1 := hP.dc
  have h2 := hP.ws
  have := rwrite_half h hP.ok hX hBw ⟨h1.1, by omega⟩ (by omega) i (L.map vb) (ok_vb hL)
  rw [hq] at this
  exact this
theorem dcr {ks : List Int} {t : Int} (hq : r.crash ks t = rE) (h : Half B X w p gb p' gb' r.cap r) (hP : Pl r n k) (hk : k ≤ 60) (hX : ∀ k, X k → k < w.heap.size) (ka : Option Addr) (kc : Nat) (hK : KeepAt w ka ks) (hka : ∀ b o, ka = some ⟨b, o, none⟩ → b ≠ gb) :
    Calls Tryd.prog 24 #[.pointer (some ⟨p, 0, none⟩), .slice ka ks.length kc, .int .i64 t] w fun e w' => e = .returned (.tuple #[]) ∧ Half B X w' p gb p' gb' rE.cap r ∧ Keeps (Own1 B X) w w' := by
  have h2 := hP.ws
  have := dcrash_half h hP.ok hX (by omega) ka kc ks t hK hka
  rw [hq] at this
  exact this
theorem rcr {ks : List Int} {t : Int} (hq : r.crash ks t = rE) (h : Half B X w p gb p' gb' s r) (hP : Pl r n k) (hk : k ≤ 60) (hX : ∀ k, X k → k < w.heap.size) (hBw : B ≤ w.heap.size) (ka : Option Addr) (kc : Nat) (hK : KeepAt w ka ks) (hkl : ks.length ≤ 300) (hka : ks ≠ [] → ∀ b o, ka = some ⟨b, o, none⟩ → b ≠ gb') :
    Calls Tryd.prog 25 #[.pointer (some ⟨p', 0, none⟩), .slice ka ks.length kc, .int .i64 t] w fun e w' => e = .returned (.tuple #[]) ∧ Half B X w' p gb p' gb' s rE ∧ Keeps (Own1 B X) w w' := by
  have h2 := hP.ws
  have := rcrash_half h hP.ok hP.bw.by hX hBw (by omega) ka kc ks t hK (by omega) hka
  rw [hq] at this
  exact this
theorem dnw (hq : newR r = (u, c)) (h : Half B X w p gb p' gb' r.cap r) (hT : Tabs w) (hP : Pl r n k) (hk : k ≤ 61) (hn : 16 ≤ n) :
    Calls Tryd.prog 27 #[.pointer (some ⟨p, 0, none⟩)] w fun e w' => e = .returned (.tuple #[.agg u.cells, .int .i64 c]) ∧ Keeps (fun _ => False) w w' := by
  obtain ⟨C, hl⟩ := h.lies
  have h1 := hP.n
  have h2 := hP.ws
  have := newestP hl hT hP.ok.cap hP.bw.cap (by show 2 ≤ r.n; omega) (by show r.ws.length < _; omega)
  rw [cap_new, hq] at this
  exact this
theorem rnwt (hq : newR r = (u, c)) (h : Half B X w p gb p' gb' s r) (hP : Pl r n k) (hk : k ≤ 61) (hn : 16 ≤ n) :
    Calls Tryd.prog 28 #[.pointer (some ⟨p', 0, none⟩)] w fun e w' => e = .returned (.tuple #[.agg u.cells, .int .i64 c]) ∧ Keeps (fun _ => False) w w' := by
  have h1 := hP.n
  have h2 := hP.ws
  have := rnw h hP.ok hP.bw (by omega) (by omega)
  rw [hq] at this
  exact this
theorem Pl.newest (hq : newR r = (u, c)) (hP : Pl r n k) (hn : 16 ≤ n) : u.Ok := by
  have h1 := hP.n
  have := newR_ok hP.bw hP.ok (by omega)
  rw [hq] at this
  exact this
end

/-- On no disk. -/
theorem write_nilA (w : World) (i : Int) (b : Array Value) :
    Calls Tryd.prog 22 #[.pointer none, .int .i64 i, .agg b] w fun e w' => e = .returned (.int .i64 1) ∧ Keeps (fun _ => False) w w' := by
  by_cases hi : 0 ≤ i
  · exact write_nil w i b hi
  · have h0 : i < 0 := by omega
    go_enter Tryd.func22, Tryd.ntmps22
    go_wp2
    go_ret
    exact ⟨rfl, (Keeps.refl _ _).alloc _⟩

/-- A step in a block of its own. -/
structure StW (c : Nat) (x : Stp) where
  w : World
  ro : RoAt w c 53 x.cells
end Go.Proofs.YtdgnjpdjohibeaaDoor
