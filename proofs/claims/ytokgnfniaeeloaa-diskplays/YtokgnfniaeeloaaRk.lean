/-
  The iterator over the writes that are kept: it ranges over the iterator over all of them.
-/
import Derived.Test.YtokgnfniaeeloaaRh
set_option linter.all false
namespace Go.Proofs.Ytokgnfniaeeloaa
open Go.RowKit Go.Shelf
attribute [local go_sem] Oper.semAt_some

theorem writes_any (w : World) (po : Option Addr) : Calls Try.prog 33 #[.pointer po] w fun e w' => e = .returned (.func (.func 36) #[] #[.pointer (some ⟨w.heap.size, 0, none⟩)]) ∧ w' = w.alloc (.cells #[.pointer po] 25) := by
  go_enter Try.func33, Try.ntmps33
  go_wp2
  go_ret
  exact ⟨rfl, rfl⟩

theorem kept_any (w : World) (po : Option Addr) (ka : Option Addr) (kn kc : Nat) : Calls Try.prog 34 #[.pointer po, .slice ka kn kc] w fun e w' => e = .returned (.func (.func 37) #[] #[.pointer (some ⟨w.heap.size, 0, none⟩), .pointer (some ⟨w.heap.size + 1, 0, none⟩)]) ∧ w' = (w.alloc (.cells #[.pointer po] 25)).alloc (.cells #[.slice ka kn kc] 32) := by
  go_enter Try.func34, Try.ntmps34
  go_wp2
  go_ret
  exact ⟨rfl, rfl⟩

/-- The bytes ks lie in the slice at ka. -/
def KeepAt (w : World) (ka : Option Addr) (ks : List Int) : Prop := ∀ j x, ks[j]? = some x → ∃ b o, ka = some ⟨b, o, none⟩ ∧ w.cell? ⟨b, o + j, none⟩ = some (.int .u8 x) ∧ 0 ≤ x ∧ x ≤ 255

/-- Does keep save write k? -/
def isKept (ks : List Int) (k : Nat) : Bool := match ks[k]? with
  | some b => b % 2 == 1
  | none => false

def keptOf (ks : List Int) (l : List (Nat × LW)) : List (Nat × LW) := l.filter fun y => isKept ks y.1

theorem keptOf_snoc (ks : List Int) (l : List (Nat × LW)) (x : Nat × LW) : keptOf ks (l ++ [x]) = if isKept ks x.1 then keptOf ks l ++ [x] else keptOf ks l := by
  unfold keptOf
  rw [List.filter_append]
  by_cases h : isKept ks x.1 = true <;> simp [List.filter_cons, h]
theorem keptOf_split (ks : List Int) (l : List (Nat × LW)) (x : Nat × LW) (r : List (Nat × LW)) (h : isKept ks x.1 = true) : keptOf ks (l ++ x :: r) = keptOf ks l ++ x :: keptOf ks r := by
  simp [keptOf, List.filter_cons, h]
theorem idx_ge {ws : List LW} {pre r : List (Nat × LW)} (h : idx ws = pre ++ r) : ∀ y ∈ r, pre.length ≤ y.1 := by
  intro y hy
  obtain ⟨r1, r2, rfl⟩ := List.append_of_mem hy
  have h' : idx ws = (pre ++ r1) ++ y :: r2 := by rw [h]; simp
  have := (idx_split h').1
  rw [this]; simp
theorem keptOf_end {ws : List LW} {pre : List (Nat × LW)} {x : Nat × LW} {r : List (Nat × LW)} (ks : List Int) (h : idx ws = pre ++ x :: r) (hk : ks.length ≤ x.1) : keptOf ks (idx ws) = keptOf ks pre := by
  rw [h]
  have h0 : keptOf ks (x :: r) = [] := by
    unfold keptOf
    rw [List.filter_eq_nil_iff]
    intro y hy
    have h1 := idx_ge h y hy
    have h2 := (idx_split h).1
    have : ks[y.1]? = none := by simp; omega
    simp [isKept, this]
  have : keptOf ks (pre ++ x :: r) = keptOf ks pre ++ keptOf ks (x :: r) := by unfold keptOf; rw [List.filter_append]
  rw [this, h0, List.append_nil]

theorem KpX.cell {S : Nat → Prop} {W W' : World} (h : KpX S W W') {b o : Nat} {v : Value} (hc : W.cell? ⟨b, o, none⟩ = some v) (hS : ¬ S b) : W'.cell? ⟨b, o, none⟩ = some v := by
  cases hq : W.heap[b]? with
  | none => simp [World.cell?, hq] at hc
  | some ob =>
    cases ob with
    | cells cs t fr =>
      rw [cell_of_row W b o cs t fr hq] at hc
      rw [cell_of_row W' b o cs t fr (h.2 b cs t fr hq hS)]
      exact hc
    | _ => simp [World.cell?, hq] at hc

theorem KeepAt.kept {S : Nat → Prop} {W W' : World} {ka : Option Addr} {ks : List Int} (h : KeepAt W ka ks) (hk : KpX S W W') (hS : ∀ b o, ka = some ⟨b, o, none⟩ → ¬ S b) : KeepAt W' ka ks := fun j x hx => by
  obtain ⟨b, o, e, hc, h0, h1⟩ := h j x hx
  exact ⟨b, o, e, hk.cell hc (hS b o e), h0, h1⟩

theorem grown_kpx {B : Nat} {S : Nat → Prop} {W W' : World} {row : Option Nat} (hg : W.grownBy W' row) (hr : ∀ r, row = some r → B ≤ r ∧ ∃ o : Obj, W.heap[r]? = some o ∧ o.isCells = false) : KpX S W W' :=
  ⟨hg.size, fun _ _ _ _ e _ => own_cells hg hr e⟩

theorem round_any {n m l l' : Nat} {f : FuncId} {tmps : Array Value} {assign body : Code} {w : World} {R : Ending → World → Prop} (h : RoundIn Fence.wide n Try.prog l f tmps assign body w R) : RoundIn (Fence.wide.inRound l') m Try.prog l f tmps assign body w R :=
  ⟨trivial, fun c cs _ => h.2 c cs (room_wide _)⟩

set_option maxRecDepth 100000 in
set_option maxHeartbeats 1000000 in
theorem kept1 (S : Nat → Prop) (w : World) (bd bk p : Nat) (vb vl : Value) (F : Int) (dn : Bool) (dc : Int) (ws : List LW) (ka : Option Addr) (kc : Nat) (ks : List Int)
    (hbd : w.heap[bd]? = some (.cells #[.pointer (some ⟨p, 0, none⟩)] 25 (0, 0))) (hbk : w.heap[bk]? = some (.cells #[.slice ka ks.length kc] 32 (0, 0)))
    (hD : DiskAt w p vb vl F dn dc) (hL : LooseAt w vl ws) (hlen : ws.length < 1000000) (hS : ∀ g, vl.ownBlock = some g → ¬ S g) (hSk : ¬ S bk) (hSn : ∀ k, w.heap.size ≤ k → ¬ S k)
    (hK : KeepAt w ka ks) (hSa : ∀ b o, ka = some ⟨b, o, none⟩ → ¬ S b) :
    SeqO Try.prog 37 #[.pointer (some ⟨bd, 0, none⟩), .pointer (some ⟨bk, 0, none⟩)] encW (KpX S) (keptOf ks (idx ws)) w := by
  intro l n J Jx W hW hJ hJx hY h0
  have hbl : bd < w.heap.size := (Array.getElem?_eq_some_iff.1 hbd).1
  have hkl : bk < w.heap.size := (Array.getElem?_eq_some_iff.1 hbk).1
  have hbW : W.heap[bd]? = some (.cells #[.pointer (some ⟨p, 0, none⟩)] 25 (0, 0)) := (hW.block bd hbl).trans hbd
  have hkW : W.heap[bk]? = some (.cells #[.slice ka ks.length kc] 32 (0, 0)) := (hW.block bk hkl).trans hbk
  have hDW : DiskAt W p vb vl F dn dc := (hW.block p hD.lt).trans hD
  have hLW : LooseAt W vl ws := hL.kept ⟨hW.size, fun g e => hW.block g (hL.lt g e)⟩
  have cb : W.cell? ⟨bd, 0, none⟩ = some (.pointer (some ⟨p, 0, none⟩)) := by simp [World.cell?, hbW]
  refine callsIn_of_wp_marks Try.func37 rfl trivial ?_ rfl
  simp only [Try.ntmps37, List.size_toArray, List.length_cons, List.length_nil, Nat.reduceAdd, Nat.reduceSub, Array.replicate_succ, Array.replicate_zero, List.push_toArray, List.append_toArray, List.nil_append, List.cons_append]
  have hbl' : bd < W.heap.size := by have := hW.size; omega
  have cba : ∀ o, (W.alloc o).cell? ⟨bd, 0, none⟩ = some (.pointer (some ⟨p, 0, none⟩)) := fun o => by simp [World.cell?, Below.heap_alloc W o bd hbl', hbW]
  gi_wp2_with (refine ⟨trivial, (fun h => by cases h), ?_⟩; gi_at_call 33; refine (callsIn_wide.2 (writes_any _ (some ⟨p, 0, none⟩))).mono ?_; rintro e w' ⟨rfl, rfl⟩)
  obtain ⟨W2, hW2⟩ : ∃ W2, (W.alloc (.cells #[.func (.yield l) #[] #[]] 74)).alloc (.cells #[.pointer (some ⟨p, 0, none⟩)] 25) = W2 := ⟨_, rfl⟩
  rw [hW2]
  have k2 : Keeps (fun _ => False) W W2 := by rw [← hW2]; exact ((Keeps.refl _ _).alloc _).alloc _
  have s2 : W2.heap.size = W.heap.size + 2 := by rw [← hW2]; simp
  have y2 : W2.heap[W.heap.size]? = some (.cells #[.func (.yield l) #[] #[]] 74 (0, 0)) := by rw [← hW2]; exact heap_alloc2_old W _ _
  have x2 : W2.heap[W.heap.size + 1]? = some (.cells #[.pointer (some ⟨p, 0, none⟩)] 25 (0, 0)) := by rw [← hW2]; exact heap_alloc2_new W _ _
  have hL2 : LooseAt W2 vl ws := hLW.kept ⟨k2.size, fun g e => k2.block g (hLW.lt g e) (fun h => h)⟩
  have hD2 : DiskAt W2 p vb vl F dn dc := hDW.kept k2 (fun h => h)
  have hk2 : W2.heap[bk]? = some (.cells #[.slice ka ks.length kc] 32 (0, 0)) := (k2.block bk (by have := hW.size; omega) (fun h => h)).trans hkW
  have hK2 : KeepAt W2 ka ks := by
    have hwW : KpX S w W := ⟨hW.size, fun k cs t fr e _ => (hW.block k (Array.getElem?_eq_some_iff.1 e).1).trans e⟩
    exact (hK.kept hwW hSa).kept (k2.kpx (fun _ h => h.elim)) hSa
  have hJ2 : J [] W2 := by rw [← hW2]; exact hJ.alloc _ (hJ.alloc _ h0)
  have hSy : ¬ S W.heap.size := hSn _ hW.size
  clear hW2 cba cb hbW hkW hDW hLW
  refine range_law (gf := 36) (lb := #[.pointer (some ⟨W.heap.size + 1, 0, none⟩)]) rfl (enters_of Try.func36 (by kernel_rfl) rfl) (writes1 S W2 (W.heap.size + 1) p vb vl F dn dc ws x2 hD2 hL2 hlen hS) (fun h1 h2 => h1.trans h2) (fun W l o o' _ ho hc => KpX.putObj o' ho hc) (Below.refl _ _) (fun _ => rfl)
    (fun pre V => J (keptOf ks pre) V ∧ V.heap[W.heap.size]? = some (.cells #[.func (.yield l) #[] #[]] 74 (0, 0)) ∧ V.heap[bk]? = some (.cells #[.slice ka ks.length kc] 32 (0, 0)) ∧ KeepAt V ka ks ∧ W2.heap.size ≤ V.heap.size)
    (fun c pre V => c = .ret ∧ (J (keptOf ks (idx ws)) V ∨ ∃ pr x rest, keptOf ks (idx ws) = pr ++ x :: rest ∧ Jx (pr ++ [x]) V))
    ?hI ?hIx ⟨hJ2, y2, hk2, hK2, Nat.le_refl _⟩
    (fun pre x a' V => J (keptOf ks pre) V ∧ V.heap[W.heap.size]? = some (.cells #[.func (.yield l) #[] #[]] 74 (0, 0)) ∧ V.heap[bk]? = some (.cells #[.slice ka ks.length kc] 32 (0, 0)) ∧ KeepAt V ka ks ∧ W2.heap.size ≤ V.heap.size ∧ ∃ b, V.heap[b]? = some (.cells (lcells x.2).toArray 65 (0, 0)) ∧ a' = { tmps := #[Value.func (Fn.yield l) #[] #[], Value.pointer (some { block := bd, off := 0 }), Value.pointer (some { block := bk, off := 0 }), Value.pointer (some { block := W.heap.size, off := 0 }), .int .i64 (x.1 : Int), .pointer (some ⟨b, 0, none⟩), Value.pointer (some { block := p, off := 0 }), Value.func (Fn.func 36) #[] #[Value.pointer (some { block := W.heap.size + 1, off := 0 })], .int .i64 (x.1 : Int), .agg (lcells x.2).toArray, undef, undef, undef, undef, undef, undef, undef, undef, undef, undef, undef, undef, undef, undef, undef, undef, undef], defers := [] })
    ?hAx ?assign ?body ?done ?stop
  case hI =>
    rintro s A B row ⟨h1, h2, h3, h4, h5⟩ hg hr
    exact ⟨hJ _ A B row h1 hg (fun r e => ⟨by have := (hr r e).1; omega, (hr r e).2⟩), own_cells hg hr h2, own_cells hg hr h3, h4.kept (grown_kpx hg hr) hSa, Nat.le_trans h5 hg.size⟩
  case hIx =>
    rintro c s A B row ⟨h1, h2⟩ hg hr
    refine ⟨h1, ?_⟩
    rcases h2 with h2 | ⟨pr, x, rest, e, h2⟩
    · exact .inl (hJ _ A B row h2 hg (fun r e => ⟨by have := (hr r e).1; omega, (hr r e).2⟩))
    · exact .inr ⟨pr, x, rest, e, hJx _ A B row h2 hg (fun r e => ⟨by have := (hr r e).1; omega, (hr r e).2⟩)⟩
  case hAx =>
    rintro pre x a' _ A B row ⟨h1, h2, h3, h4, h5, b, h6, h7⟩ hg hr
    exact ⟨hJ _ A B row h1 hg (fun r e => ⟨by have := (hr r e).1; omega, (hr r e).2⟩), own_cells hg hr h2, own_cells hg hr h3, h4.kept (grown_kpx hg hr) hSa, Nat.le_trans h5 hg.size, b, own_cells hg hr h6, h7⟩
  case assign =>
    rintro l' pre x rest V K hx ⟨h1, h2, h3, h4, h5⟩ hK'
    have hok : LwOk x.2 := hL2.ok x.2 (by rw [(idx_split hx).2.1]; simp)
    have hsl : (lcells x.2).toArray.size = 129 := by simp [length_lcells hok]
    have hone : (lcells x.2).toArray.all (·.oneCell') = true := all_oneCell_toArray (one_lcells hok)
    have hi65 : (Try.prog.info? 65).map (·.size) = some (lcells x.2).toArray.size := by rw [hsl]; exact size65
    have hzs : wzero.size = (lcells x.2).toArray.size := by rw [hsl]; exact size_wzero
    have hz65 := zero65
    have HK : Hid (∀ a' W', _ → _ → _ → K a' W') := hK'
    clear hx hK' hok hsl hY
    simp only [encW]
    gi_wp2_with (refine wpListIn_store_row rfl 65 _ _ rfl V.heap.size rfl (lcells x.2).toArray rfl 65 wzero (heap_alloc2_x V _) hi65 hzs hone ?_; intro w1 n1 k1 z1)
    have k0 : Keeps (fun _ => False) V w1 := ((Keeps.refl _ _).alloc _).trans' k1 (fun k e => .inr (by omega))
    have kx : KpX S V w1 := k0.kpx (fun _ h => h.elim)
    refine HK.out _ _ (k0.from (fun _ _ h => h.elim)) kx ⟨?_, kx.2 _ _ _ _ h2 hSy, kx.2 _ _ _ _ h3 hSk, h4.kept kx hSa, Nat.le_trans h5 k0.size, V.heap.size, n1, rfl⟩
    exact hJ _ V w1 none h1 ⟨k0.os, k0.tape, k0.output, k0.size, fun k hk _ => k0.block k hk (fun h => h)⟩ (fun r e => by cases e)
  case body =>
    rintro l' pre x rest a' V hl hx ⟨h1, h2, h3, h4, h5, b, h6, rfl⟩
    have hok : LwOk x.2 := hL2.ok x.2 (by rw [(idx_split hx).2.1]; simp)
    have hsl : (lcells x.2).toArray.size = 129 := by simp [length_lcells hok]
    have cy : V.cell? ⟨W.heap.size, 0, none⟩ = some (.func (.yield l) #[] #[]) := by simp [World.cell?, h2]
    have ck : V.cell? ⟨bk, 0, none⟩ = some (.slice ka ks.length kc) := by simp [World.cell?, h3]
    have hce : cellsAt V b 0 129 = (lcells x.2).toArray := by rw [cellsAt, rowOf_of h6]; simp [← hsl]
    have he : encW x = #[.int .i64 (x.1 : Int), .agg (lcells x.2).toArray] := rfl
    by_cases hk : ks.length ≤ x.1
    · have hend := keptOf_end ks hx hk
      have hk' : (ks.length : Int) ≤ (x.1 : Int) := by omega
      have He : Hid (keptOf ks (idx ws) = keptOf ks pre) := hend
      clear hend hx hY hk he hok hsl hce
      gi_wp2
      refine ⟨KeepsFrom.refl _ _, rfl, .inl ?_⟩
      rw [He.out]
      exact h1
    · have hlt : x.1 < ks.length := by omega
      obtain ⟨kb, ko, rfl, hcell, hb0, hb1⟩ := h4 x.1 ks[x.1] (by simp [hlt])
      obtain ⟨z, hz⟩ : ∃ z, ks[x.1] = z := ⟨_, rfl⟩
      rw [hz] at hcell hb0 hb1
      have hik : isKept ks x.1 = (z % 2 == 1) := by simp [isKept, hlt, hz]
      have hk' : ¬ (ks.length : Int) ≤ (x.1 : Int) := by omega
      have hi0 : (0 : Int) ≤ (x.1 : Int) := by omega
      have hi1 : (x.1 : Int) < (ks.length : Int) := by omega
      by_cases ho : z % 2 = 1
      · have hob : (z % 2 == 1) = true := by simpa using ho
        rw [hob] at hik
        obtain ⟨fn, tmps, assign, body, hy, hR⟩ := hY (keptOf ks pre) x (keptOf ks rest) V (by rw [hx, keptOf_split _ _ _ _ hik]) h1
        rw [he] at hy
        have Hx : Hid (keptOf ks (idx ws) = keptOf ks pre ++ x :: keptOf ks rest) := show _ = _ by rw [hx, keptOf_split _ _ _ _ hik]
        have Hs : Hid (keptOf ks (pre ++ [x]) = keptOf ks pre ++ [x]) := show _ = _ by rw [keptOf_snoc, if_pos hik]
        clear hY hx hz hik ho he hok hk
        gi_wp2_with (refine opIn_load_cells 65 _ rfl b 0 rfl 129 (lcells x.2).toArray hce hsl _ Try.underlying65 rfl size65 ?_)
        refine ⟨fun h => by (cases h), (round_any hR).mono ?_⟩
        rintro e V3 ⟨hkf3, (⟨rfl, hJ3, hk3⟩ | ⟨rfl, hJx3⟩)⟩
        all_goals have hkf : KeepsFrom W2.heap.size V V3 := ⟨hkf3.size, fun k o hB hk ho => hkf3.same k o (by omega) hk ho⟩
        · gi_wp2
          refine ⟨hkf, hk3, ?_, hk3.2 _ _ _ _ h2 hSy, hk3.2 _ _ _ _ h3 hSk, h4.kept hk3 hSa, Nat.le_trans h5 hk3.1⟩
          rw [Hs.out]
          exact hJ3
        · gi_wp2
          exact ⟨hkf, rfl, .inr ⟨keptOf ks pre, x, keptOf ks rest, Hx.out, hJx3⟩⟩
      · have hob : (z % 2 == 1) = false := by simpa using ho
        rw [hob] at hik
        have Hs : Hid (keptOf ks (pre ++ [x]) = keptOf ks pre) := show _ = _ by rw [keptOf_snoc, if_neg (by simp [hik])]
        clear hY hx hz hik ho he hok hk
        gi_wp2
        refine ⟨fun _ h => (by cases h), ?_⟩
        gi_wp2
        refine ⟨KeepsFrom.refl _ _, KpX.refl _ _, ?_, h2, h3, h4, h5⟩
        rw [Hs.out]
        exact h1
  case done =>
    rintro D V hD' ⟨h1, h2⟩ hd
    clear hY
    gi_wp2
    refine ⟨by simp, .inl ⟨_, _, rfl, run_takeDeferred hd, ?_⟩⟩
    exact ⟨_, results_none rfl _ _ _, ⟨_, rfl⟩, .inl (hJ.putObj _ h1 (by omega) hd rfl)⟩
  case stop =>
    rintro D c pre x rest V hD' hx ⟨rfl, h1⟩ hd
    have H1 : Hid (J (keptOf ks (idx ws)) (V.putObj D (.deferred none)) ∨ ∃ pr x rest, keptOf ks (idx ws) = pr ++ x :: rest ∧ Jx (pr ++ [x]) (V.putObj D (.deferred none))) := by
      rcases h1 with h1 | ⟨pr, x, rest, e, h1⟩
      · exact .inl (hJ.putObj _ h1 (by omega) hd rfl)
      · exact .inr ⟨pr, x, rest, e, hJx.putObj _ h1 (by omega) hd rfl⟩
    clear hY h1 hx
    gi_wp2
    refine ⟨by simp, .inl ⟨_, _, rfl, run_takeDeferred hd, ?_⟩⟩
    exact ⟨_, results_none rfl _ _ _, ⟨_, rfl⟩, H1.out⟩

end Go.Proofs.Ytokgnfniaeeloaa
