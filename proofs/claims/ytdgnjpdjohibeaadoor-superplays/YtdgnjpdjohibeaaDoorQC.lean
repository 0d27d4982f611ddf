/-
  Packed texts: DRk, DRl, DRn, DRm, DRo, DRi, DRj.
-/
import Derived.Test.YtdgnjpdjohibeaaDoorQB
set_option linter.all false
set_option maxRecDepth 100000
namespace Go.Proofs.YtdgnjpdjohibeaaDoor

/-! DRk: The iterator over the writes that are kept: it ranges over the iterator over all of them. -/
section
open Go.RowKit Go.Shelf
attribute [local go_sem] Oper.semAt_some

theorem writes_any (w : World) (po : Option Addr) : Calls Tryd.prog 53 #[.pointer po] w fun e w' => e = .returned (.func (.func 61) #[] #[.pointer (some ⟨w.heap.size, 0, none⟩)]) ∧ w' = w.alloc (.cells #[.pointer po] 45) := by
  go_enter Tryd.func53, Tryd.ntmps53
  go_wp2
  go_ret
  exact ⟨rfl, rfl⟩

theorem kept_any (w : World) (po : Option Addr) (ka : Option Addr) (kn kc : Nat) : Calls Tryd.prog 46 #[.pointer po, .slice ka kn kc] w fun e w' => e = .returned (.func (.func 54) #[] #[.pointer (some ⟨w.heap.size, 0, none⟩), .pointer (some ⟨w.heap.size + 1, 0, none⟩)]) ∧ w' = (w.alloc (.cells #[.pointer po] 45)).alloc (.cells #[.slice ka kn kc] 51) := by
  go_enter Tryd.func46, Tryd.ntmps46
  go_wp2
  go_ret
  exact ⟨rfl, rfl⟩

/-- The bytes ks lie in the slice at ka. -/
def KeepAt (w : World) (ka : Option Addr) (ks : List Int) : Prop := ∀ j x, ks[j]? = some x → ∃ b o, ka = some ⟨b, o, none⟩ ∧ w.cell? ⟨b, o + j, none⟩ = some (.int .u8 x) ∧ 0 ≤ x ∧ x ≤ 255

/-- Does keep save write k? -/
def isKept (ks : List Int) (k : Nat) : Bool := match ks[k]? with
  | some b => b % 2 == 1
  | none => false

def keptOf (ks : List Int) (l : List (Nat × LW)) : List (Nat × LW) := l.filter fun y => isKept ks y.1

theorem keptOf_snoc (ks : List Int) (l : List (Nat × LW)) (x : Nat × LW) : keptOf ks (l ++ [x]) = if isKept ks x.1 then keptOf ks l ++ [x] else keptOf ks l := by
  unfold keptOf
  rw [List.filter_append]
  by_cases h : isKept ks x.1 = true <;> simp [List.filter_cons, h]
theorem keptOf_split (ks : List Int) (l : List (Nat × LW)) (x : Nat × LW) (r : List (Nat × LW)) (h : isKept ks x.1 = true) : keptOf ks (l ++ x :: r) = keptOf ks l ++ x :: keptOf ks r := by
  simp [keptOf, List.filter_cons, h]
theorem idx_ge {ws : List LW} {pre r : List (Nat × LW)} (h : idx ws = pre ++ r) : ∀ y ∈ r, pre.length ≤ y.1 := by
  intro y hy
  obtain ⟨r1, r2, rfl⟩ := List.append_of_mem hy
  have h' : idx ws = (pre ++ r1) ++ y :: r2 := by rw [h]; simp
  have := (idx_split h').1
  rw [this]; simp
theorem keptOf_end {ws : List LW} {pre : List (Nat × LW)} {x : Nat × LW} {r : List (Nat × LW)} (ks : List Int) (h : idx ws = pre ++ x :: r) (hk : ks.length ≤ x.1) : keptOf ks (idx ws) = keptOf ks pre := by
  rw [h]
  have h0 : keptOf ks (x :: r) = [] := by
    unfold keptOf
    rw [List.filter_eq_nil_iff]
    intro y hy
    have h1 := idx_ge h y hy
    have h2 := (idx_split h).1
    have : ks[y.1]? = none := by simp; omega
    simp [isKept, this]
  have : keptOf ks (pre ++ x :: r) = keptOf ks pre ++ keptOf ks (x :: r) := by unfold keptOf; rw [List.filter_append]
  rw [this, h0, List.append_nil]

theorem KeepAt.kept {S : Nat → Prop} {W W' : World} {ka : Option Addr} {ks : List Int} (h : KeepAt W ka ks) (hk : KpX S W W') (hS : ∀ b o, ka = some ⟨b, o, none⟩ → ¬ S b) : KeepAt W' ka ks := fun j x hx => by
  obtain ⟨b, o, e, hc, h0, h1⟩ := h j x hx
  exact ⟨b, o, e, hk.cell hc (hS b o e), h0, h1⟩

set_option maxRecDepth 100000 in
set_option maxHeartbeats 1000000 in
theorem kept1 (S : Nat → Prop) (w : World) (bd bk p : Nat) (vb vl : Value) (F : Int) (dn : Bool) (dc : Int) (ws : List LW) (ka : Option Addr) (kc : Nat) (ks : List Int)
    (hbd : w.heap[bd]? = some (.cells #[.pointer (some ⟨p, 0, none⟩)] 45 (0, 0))) (hbk : w.heap[bk]? = some (.cells #[.slice ka ks.length kc] 51 (0, 0)))
    (hD : DiskAt w p vb vl F dn dc) (hL : LooseAt w vl ws) (hlen : ws.length < 1000000) (hS : ∀ g, vl.ownBlock = some g → ¬ S g) (hSk : ¬ S bk) (hSn : ∀ k, w.heap.size ≤ k → ¬ S k)
    (hK : KeepAt w ka ks) (hSa : ∀ b o, ka = some ⟨b, o, none⟩ → ¬ S b) :
    SeqO Tryd.prog 54 #[.pointer (some ⟨bd, 0, none⟩), .pointer (some ⟨bk, 0, none⟩)] encW (KpX S) (keptOf ks (idx ws)) w := by
  intro l n J Jx W hW hJ hJx hY h0
  have hbl : bd < w.heap.size := (Array.getElem?_eq_some_iff.1 hbd).1
  have hkl : bk < w.heap.size := (Array.getElem?_eq_some_iff.1 hbk).1
  have hbW : W.heap[bd]? = some (.cells #[.pointer (some ⟨p, 0, none⟩)] 45 (0, 0)) := (hW.block bd hbl).trans hbd
  have hkW : W.heap[bk]? = some (.cells #[.slice ka ks.length kc] 51 (0, 0)) := (hW.block bk hkl).trans hbk
  have hDW : DiskAt W p vb vl F dn dc := (hW.block p hD.lt).trans hD
  have hLW : LooseAt W vl ws := hL.kept ⟨hW.size, fun g e => hW.block g (hL.lt g e)⟩
  have cb : W.cell? ⟨bd, 0, none⟩ = some (.pointer (some ⟨p, 0, none⟩)) := by simp [World.cell?, hbW]
  refine callsIn_of_wp_marks Tryd.func54 rfl trivial ?_ rfl
  simp only [Tryd.ntmps54, List.size_toArray, List.length_cons, List.length_nil, Nat.reduceAdd, Nat.reduceSub, Array.replicate_succ, Array.replicate_zero, List.push_toArray, List.append_toArray, List.nil_append, List.cons_append]
  have hbl' : bd < W.heap.size := by have := hW.size; omega
  have cba : ∀ o, (W.alloc o).cell? ⟨bd, 0, none⟩ = some (.pointer (some ⟨p, 0, none⟩)) := fun o => by simp [World.cell?, Below.heap_alloc W o bd hbl', hbW]
  gi_wp2_with (refine ⟨trivial, (fun h => by cases h), ?_⟩; gi_at_call 53; refine (callsIn_wide.2 (writes_any _ (some ⟨p, 0, none⟩))).mono ?_; rintro e w' ⟨rfl, rfl⟩)
  obtain ⟨W2, hW2⟩ : ∃ W2, (W.alloc (.cells #[.func (.yield l) #[] #[]] 107)).alloc (.cells #[.pointer (some ⟨p, 0, none⟩)] 45) = W2 := ⟨_, rfl⟩
  rw [hW2]
  have k2 : Keeps (fun _ => False) W W2 := by rw [← hW2]; exact ((Keeps.refl _ _).alloc _).alloc _
  have s2 : W2.heap.size = W.heap.size + 2 := by rw [← hW2]; simp
  have y2 : W2.heap[W.heap.size]? = some (.cells #[.func (.yield l) #[] #[]] 107 (0, 0)) := by rw [← hW2]; exact heap_alloc2_old W _ _
  have x2 : W2.heap[W.heap.size + 1]? = some (.cells #[.pointer (some ⟨p, 0, none⟩)] 45 (0, 0)) := by rw [← hW2]; exact heap_alloc2_new W _ _
  have hL2 : LooseAt W2 vl ws := hLW.kept ⟨k2.size, fun g e => k2.block g (hLW.lt g e) (fun h => h)⟩
  have hD2 : DiskAt W2 p vb vl F dn dc := hDW.kept k2 (fun h => h)
  have hk2 : W2.heap[bk]? = some (.cells #[.slice ka ks.length kc] 51 (0, 0)) := (k2.block bk (by have := hW.size; omega) (fun h => h)).trans hkW
  have hK2 : KeepAt W2 ka ks := by
    have hwW : KpX S w W := ⟨hW.size, fun k cs t fr e _ => (hW.block k (Array.getElem?_eq_some_iff.1 e).1).trans e⟩
    exact (hK.kept hwW hSa).kept (k2.kpx (fun _ h => h.elim)) hSa
  have hJ2 : J [] W2 := by rw [← hW2]; exact hJ.alloc _ (hJ.alloc _ h0)
  have hSy : ¬ S W.heap.size := hSn _ hW.size
  clear hW2 cba cb hbW hkW hDW hLW
  refine range_law (gf := 61) (lb := #[.pointer (some ⟨W.heap.size + 1, 0, none⟩)]) rfl (enters_of Tryd.func61 (by kernel_rfl) rfl) (writes1 S W2 (W.heap.size + 1) p vb vl F dn dc ws x2 hD2 hL2 hlen hS) (fun h1 h2 => h1.trans h2) (fun W l o o' _ ho hc => KpX.putObj o' ho hc) (Below.refl _ _) (fun _ => rfl)
    (fun pre V => J (keptOf ks pre) V ∧ V.heap[W.heap.size]? = some (.cells #[.func (.yield l) #[] #[]] 107 (0, 0)) ∧ V.heap[bk]? = some (.cells #[.slice ka ks.length kc] 51 (0, 0)) ∧ KeepAt V ka ks ∧ W2.heap.size ≤ V.heap.size)
    (fun c pre V => c = .ret ∧ (J (keptOf ks (idx ws)) V ∨ ∃ pr x rest, keptOf ks (idx ws) = pr ++ x :: rest ∧ Jx (pr ++ [x]) V))
    ?hI ?hIx ⟨hJ2, y2, hk2, hK2, Nat.le_refl _⟩
    (fun pre x a' V => J (keptOf ks pre) V ∧ V.heap[W.heap.size]? = some (.cells #[.func (.yield l) #[] #[]] 107 (0, 0)) ∧ V.heap[bk]? = some (.cells #[.slice ka ks.length kc] 51 (0, 0)) ∧ KeepAt V ka ks ∧ W2.heap.size ≤ V.heap.size ∧ ∃ b, V.heap[b]? = some (.cells (lcells x.2).toArray 93 (0, 0)) ∧ a' = { tmps := #[Value.func (Fn.yield l) #[] #[], Value.pointer (some { block := bd, off := 0 }), Value.pointer (some { block := bk, off := 0 }), Value.pointer (some { block := W.heap.size, off := 0 }), .int .i64 (x.1 : Int), .pointer (some ⟨b, 0, none⟩), Value.pointer (some { block := p, off := 0 }), Value.func (Fn.func 61) #[] #[Value.pointer (some { block := W.heap.size + 1, off := 0 })], .int .i64 (x.1 : Int), .agg (lcells x.2).toArray, undef, undef, undef, undef, undef, undef, undef, undef, undef, undef, undef, undef, undef, undef, undef, undef, undef], defers := [] })
    ?hAx ?assign ?body ?done ?stop
  case hI =>
    rintro s A B row ⟨h1, h2, h3, h4, h5⟩ hg hr
    exact ⟨hJ _ A B row h1 hg (fun r e => ⟨by have := (hr r e).1; omega, (hr r e).2⟩), own_cells hg hr h2, own_cells hg hr h3, h4.kept (grown_kpx hg hr) hSa, Nat.le_trans h5 hg.size⟩
  case hIx =>
    rintro c s A B row ⟨h1, h2⟩ hg hr
    refine ⟨h1, ?_⟩
    rcases h2 with h2 | ⟨pr, x, rest, e, h2⟩
    · exact .inl (hJ _ A B row h2 hg (fun r e => ⟨by have := (hr r e).1; omega, (hr r e).2⟩))
    · exact .inr ⟨pr, x, rest, e, hJx _ A B row h2 hg (fun r e => ⟨by have := (hr r e).1; omega, (hr r e).2⟩)⟩
  case hAx =>
    rintro pre x a' _ A B row ⟨h1, h2, h3, h4, h5, b, h6, h7⟩ hg hr
    exact ⟨hJ _ A B row h1 hg (fun r e => ⟨by have := (hr r e).1; omega, (hr r e).2⟩), own_cells hg hr h2, own_cells hg hr h3, h4.kept (grown_kpx hg hr) hSa, Nat.le_trans h5 hg.size, b, own_cells hg hr h6, h7⟩
  case assign =>
    rintro l' pre x rest V K hx ⟨h1, h2, h3, h4, h5⟩ hK'
    have hok : LwOk x.2 := hL2.ok x.2 (by rw [(idx_split hx).2.1]; simp)
    have hsl : (lcells x.2).toArray.size = 129 := by simp [length_lcells hok]
    have hone : (lcells x.2).toArray.all (·.oneCell') = true := all_oneCell_toArray (one_lcells hok)
    have hi65 : (Tryd.prog.info? 93).map (·.size) = some (lcells x.2).toArray.size := by rw [hsl]; exact size65
    have hzs : wzero.size = (lcells x.2).toArray.size := by rw [hsl]; exact size_wzero
    have hz65 := zero65
    have HK : Hid (∀ a' W', _ → _ → _ → K a' W') := hK'
    clear hx hK' hok hsl hY
    simp only [encW]
    gi_wp2_with (refine wpListIn_store_row rfl 93 _ _ rfl V.heap.size rfl (lcells x.2).toArray rfl 93 wzero (heap_alloc2_x V _) hi65 hzs hone ?_; intro w1 n1 k1 z1)
    have k0 : Keeps (fun _ => False) V w1 := ((Keeps.refl _ _).alloc _).trans' k1 (fun k e => .inr (by omega))
    have kx : KpX S V w1 := k0.kpx (fun _ h => h.elim)
    refine HK.out _ _ (k0.from (fun _ _ h => h.elim)) kx ⟨?_, kx.2 _ _ _ _ h2 hSy, kx.2 _ _ _ _ h3 hSk, h4.kept kx hSa, Nat.le_trans h5 k0.size, V.heap.size, n1, rfl⟩
    exact hJ _ V w1 none h1 ⟨k0.os, k0.tape, k0.output, k0.size, fun k hk _ => k0.block k hk (fun h => h)⟩ (fun r e => by cases e)
  case body =>
    rintro l' pre x rest a' V hl hx ⟨h1, h2, h3, h4, h5, b, h6, rfl⟩
    have hok : LwOk x.2 := hL2.ok x.2 (by rw [(idx_split hx).2.1]; simp)
    have hsl : (lcells x.2).toArray.size = 129 := by simp [length_lcells hok]
    have cy : V.cell? ⟨W.heap.size, 0, none⟩ = some (.func (.yield l) #[] #[]) := by simp [World.cell?, h2]
    have ck : V.cell? ⟨bk, 0, none⟩ = some (.slice ka ks.length kc) := by simp [World.cell?, h3]
    have hce : cellsAt V b 0 129 = (lcells x.2).toArray := by rw [cellsAt, rowOf_of h6]; simp [← hsl]
    have he : encW x = #[.int .i64 (x.1 : Int), .agg (lcells x.2).toArray] := rfl
    by_cases hk : ks.length ≤ x.1
    · have hend := keptOf_end ks hx hk
      have hk' : (ks.length : Int) ≤ (x.1 : Int) := by omega
      have He : Hid (keptOf ks (idx ws) = keptOf ks pre) := hend
      clear hend hx hY hk he hok hsl hce
      gi_wp2
      refine ⟨KeepsFrom.refl _ _, rfl, .inl ?_⟩
      rw [He.out]
      exact h1
    · have hlt : x.1 < ks.length := by omega
      obtain ⟨kb, ko, rfl, hcell, hb0, hb1⟩ := h4 x.1 ks[x.1] (by simp [hlt])
      obtain ⟨z, hz⟩ : ∃ z, ks[x.1] = z := ⟨_, rfl⟩
      rw [hz] at hcell hb0 hb1
      have hik : isKept ks x.1 = (z % 2 == 1) := by simp [isKept, hlt, hz]
      have hk' : ¬ (ks.length : Int) ≤ (x.1 : Int) := by omega
      have hi0 : (0 : Int) ≤ (x.1 : Int) := by omega
      have hi1 : (x.1 : Int) < (ks.length : Int) := by omega
      by_cases ho : z % 2 = 1
      · have hob : (z % 2 == 1) = true := by simpa using ho
        rw [hob] at hik
        obtain ⟨fn, tmps, assign, body, hy, hR⟩ := hY (keptOf ks pre) x (keptOf ks rest) V (by rw [hx, keptOf_split _ _ _ _ hik]) h1
        rw [he] at hy
        have Hx : Hid (keptOf ks (idx ws) = keptOf ks pre ++ x :: keptOf ks rest) := show _ = _ by rw [hx, keptOf_split _ _ _ _ hik]
        have Hs : Hid (keptOf ks (pre ++ [x]) = keptOf ks pre ++ [x]) := show _ = _ by rw [keptOf_snoc, if_pos hik]
        clear hY hx hz hik ho he hok hk
        gi_wp2_with (refine opIn_load_cells 93 _ rfl b 0 rfl 129 (lcells x.2).toArray hce hsl _ Tryd.underlying93 rfl size65 ?_)
        refine ⟨fun h => by (cases h), (round_any hR).mono ?_⟩
        rintro e V3 ⟨hkf3, (⟨rfl, hJ3, hk3⟩ | ⟨rfl, hJx3⟩)⟩
        all_goals have hkf : KeepsFrom W2.heap.size V V3 := ⟨hkf3.size, fun k o hB hk ho => hkf3.same k o (by omega) hk ho⟩
        · gi_wp2
          refine ⟨hkf, hk3, ?_, hk3.2 _ _ _ _ h2 hSy, hk3.2 _ _ _ _ h3 hSk, h4.kept hk3 hSa, Nat.le_trans h5 hk3.1⟩
          rw [Hs.out]
          exact hJ3
        · gi_wp2
          exact ⟨hkf, rfl, .inr ⟨keptOf ks pre, x, keptOf ks rest, Hx.out, hJx3⟩⟩
      · have hob : (z % 2 == 1) = false := by simpa using ho
        rw [hob] at hik
        have Hs : Hid (keptOf ks (pre ++ [x]) = keptOf ks pre) := show _ = _ by rw [keptOf_snoc, if_neg (by simp [hik])]
        clear hY hx hz hik ho he hok hk
        gi_wp2
        refine ⟨fun _ h => (by cases h), ?_⟩
        gi_wp2
        refine ⟨KeepsFrom.refl _ _, KpX.refl _ _, ?_, h2, h3, h4, h5⟩
        rw [Hs.out]
        exact h1
  case done =>
    rintro D V hD' ⟨h1, h2⟩ hd
    clear hY
    gi_wp2
    refine ⟨by simp, .inl ⟨_, _, rfl, run_takeDeferred hd, ?_⟩⟩
    exact ⟨_, results_none rfl _ _ _, ⟨_, rfl⟩, .inl (hJ.putObj _ h1 (by omega) hd rfl)⟩
  case stop =>
    rintro D c pre x rest V hD' hx ⟨rfl, h1⟩ hd
    have H1 : Hid (J (keptOf ks (idx ws)) (V.putObj D (.deferred none)) ∨ ∃ pr x rest, keptOf ks (idx ws) = pr ++ x :: rest ∧ Jx (pr ++ [x]) (V.putObj D (.deferred none))) := by
      rcases h1 with h1 | ⟨pr, x, rest, e, h1⟩
      · exact .inl (hJ.putObj _ h1 (by omega) hd rfl)
      · exact .inr ⟨pr, x, rest, e, hJx.putObj _ h1 (by omega) hd rfl⟩
    clear hY h1 hx
    gi_wp2
    refine ⟨by simp, .inl ⟨_, _, rfl, run_takeDeferred hd, ?_⟩⟩
    exact ⟨_, results_none rfl _ _ _, ⟨_, rfl⟩, H1.out⟩
end

/-! DRl: In the fenced walk, at the level of one operation: a long row loaded, stored into the midst of a block, copied. -/
section
open Go.RowKit Go.Shelf

theorem wpIn_at_zero {F : Fence} {n : Nat} {P : Program} {o : Oper} {l : List Oper} {h : 0 < (o :: l).toArray.size} {a : Act} {w : World} {K : Act → World → Prop} {Q : Exit → Act → World → Prop} :
    Oper.wpIn F n P ((o :: l).toArray[0]'h) a w K Q = Oper.wpIn F n P o a w K Q := rfl
theorem wpIn_at_succ {F : Fence} {n : Nat} {P : Program} {o : Oper} {l : List Oper} {j : Nat} {h : j + 1 < (o :: l).toArray.size} {a : Act} {w : World} {K : Act → World → Prop} {Q : Exit → Act → World → Prop} :
    Oper.wpIn F n P ((o :: l).toArray[j + 1]'h) a w K Q = Oper.wpIn F n P (l.toArray[j]'(by simpa using h)) a w K Q := rfl

/-- cs laid over the row from o on. -/
def over (row : Array Value) (o : Nat) (cs : Array Value) : Array Value := (row.toList.take o ++ cs.toList ++ row.toList.drop (o + cs.size)).toArray

theorem size_over {row cs : Array Value} {o : Nat} (h : o + cs.size ≤ row.size) : (over row o cs).size = row.size := by
  simp [over]; omega

/-- Block g may be written, and has n cells at least. -/
def RoomRow (w : World) (g n : Nat) : Prop := ∃ cs t, w.heap[g]? = some (.cells cs t (0, 0)) ∧ n ≤ cs.size
/-- n cells lie in block g from o on, each one cell. -/
def SrcRow (w : World) (g o n : Nat) : Prop := (cellsAt w g o n).size = n ∧ AllOne (cellsAt w g o n)

theorem wpIn_load37 {F : Fence} {m : Nat} {d : Option Tmp} {x : Operand} {tt : TypeId} {ps : String} {af : Array Edge} {a : Act} {w : World} {K : Act → World → Prop} {Q : Exit → Act → World → Prop}
    (h1 : a.eval x = .pointer (some ⟨(addrOf (a.eval x)).block, (addrOf (a.eval x)).off, none⟩)) (h2 : SrcRow w (addrOf (a.eval x)).block (addrOf (a.eval x)).off 128) :
    Oper.wpIn F m Tryd.prog { dst := d, op := .load 30 x, type := tt, pos := ps, after := af, guard := none } a w K Q =
      K (a.put d (.agg (cellsAt w (addrOf (a.eval x)).block (addrOf (a.eval x)).off 128))) w := by
  have hr := run_loadVar_mid (P := Tryd.prog) w (addrOf (a.eval x)).block (addrOf (a.eval x)).off 30 _ _ (rangeAt_cellsAt w _ _ 128) Tryd.underlying30 rfl (by rw [size37, Array.length_toList, h2.1])
  rw [Array.toArray_toList] at hr
  unfold Oper.wpIn
  rw [semAt_load _ _ _ 30 x rfl]
  unfold execOp
  dsimp only
  rw [h1]
  simp only [Instr.loadAt, Instr.sureAddr, Sem.run_bind, Sem.run_pure, Result.andThen_ok]
  simp only [addrOf] at hr ⊢
  rw [hr]
  simp [Oper.about, Oper.uponIn, Result.andThen]

theorem run_storeVar_over (w : World) (g o : Nat) (t ty : TypeId) (cur new : Array Value) (hg : w.heap[g]? = some (.cells cur t (0, 0))) (hi : (Tryd.prog.info? ty).map (·.size) = some new.size) (hfit : o + new.size ≤ cur.size) (h1 : AllOne new) :
    (storeVar ty ⟨g, o, none⟩ (.agg new)).run Tryd.prog w = .ok () (w.setRow g (over cur o new)) := by
  have hst := run_storeCells_at Tryd.prog g o t new.toList 0 cur w hg (by simpa using hfit) (fun v hv => (Array.all_eq_true_iff_forall_mem.1 h1) v (by simpa using hv))
  cases hq : Tryd.prog.info? ty with
  | none => simp [hq] at hi
  | some i =>
    have hs : new.size = i.size := by simp [hq] at hi; omega
    simp only [Nat.add_zero, Array.length_toList] at hst
    simp [storeVar, sizeOf, typeInfo, hq, Value.cells, hs]
    exact hst

theorem wpIn_store37 {F : Fence} {m : Nat} {d : Option Tmp} {x y : Operand} {tt : TypeId} {ps : String} {af : Array Edge} {a : Act} {w : World} {K : Act → World → Prop} {Q : Exit → Act → World → Prop}
    (h1 : a.eval x = .pointer (some ⟨(addrOf (a.eval x)).block, (addrOf (a.eval x)).off, none⟩)) (h2 : a.eval y = .agg (aggOf (a.eval y))) (h3 : (aggOf (a.eval y)).size = 128) (h4 : AllOne (aggOf (a.eval y))) (h5 : RoomRow w (addrOf (a.eval x)).block ((addrOf (a.eval x)).off + 128)) :
    Oper.wpIn F m Tryd.prog { dst := d, op := .store 30 x y, type := tt, pos := ps, after := af, guard := none } a w K Q =
      K (a.put d undef) (w.setRow (addrOf (a.eval x)).block (over (rowOf w (addrOf (a.eval x)).block) (addrOf (a.eval x)).off (aggOf (a.eval y)))) := by
  obtain ⟨cs, t, hg, hs⟩ := h5
  have hr := run_storeVar_over w (addrOf (a.eval x)).block (addrOf (a.eval x)).off t 30 cs (aggOf (a.eval y)) hg (by rw [h3]; exact size37) (by rw [h3]; exact hs) h4
  rw [← rowOf_of hg] at hr
  unfold Oper.wpIn
  rw [semAt_store _ _ _ 30 x y rfl]
  unfold execOp
  dsimp only
  rw [h1, h2]
  simp only [Instr.storeAt, Instr.sureAddr, Sem.run_bind, Sem.run_pure, Result.andThen_ok]
  simp only [addrOf, aggOf] at hr ⊢
  rw [hr]
  simp [Oper.about, Oper.uponIn, Result.andThen]

def slAddr : Value → Addr
  | .slice (some a) _ _ => a
  | _ => ⟨0, 0, none⟩
def slLen : Value → Nat
  | .slice _ n _ => n
  | _ => 0
def slCap : Value → Nat
  | .slice _ _ c => c
  | _ => 0

theorem wpIn_copy {F : Fence} {m : Nat} {d : Option Tmp} {x y : Operand} {tt : TypeId} {ps : String} {af : Array Edge} {a : Act} {w : World} {K : Act → World → Prop} {Q : Exit → Act → World → Prop}
    (h1 : a.eval x = .slice (some ⟨(slAddr (a.eval x)).block, (slAddr (a.eval x)).off, none⟩) (slLen (a.eval x)) (slCap (a.eval x)))
    (h2 : a.eval y = .slice (some ⟨(slAddr (a.eval y)).block, (slAddr (a.eval y)).off, none⟩) (slLen (a.eval y)) (slCap (a.eval y)))
    (h3 : slLen (a.eval y) = slLen (a.eval x)) (h4 : RoomRow w (slAddr (a.eval x)).block ((slAddr (a.eval x)).off + slLen (a.eval x)))
    (h5 : SrcRow w (slAddr (a.eval y)).block (slAddr (a.eval y)).off (slLen (a.eval y))) :
    Oper.wpIn F m Tryd.prog { dst := d, op := .call { callee := .builtin .copy, args := #[x, y], argTypes := #[51, 51] }, type := tt, pos := ps, after := af, guard := none } a w K Q =
      K (a.put d (goInt (slLen (a.eval y)))) (w.setRow (slAddr (a.eval x)).block (over (rowOf w (slAddr (a.eval x)).block) (slAddr (a.eval x)).off (cellsAt w (slAddr (a.eval y)).block (slAddr (a.eval y)).off (slLen (a.eval y))))) := by
  obtain ⟨cs, t, hg, hs⟩ := h4
  have hr := run_copy_row Tryd.prog w 51 51 tt 5 (slAddr (a.eval x)).block (slAddr (a.eval x)).off (slLen (a.eval x)) (slCap (a.eval x)) ⟨(slAddr (a.eval y)).block, (slAddr (a.eval y)).off, none⟩ (slLen (a.eval y)) (slCap (a.eval y)) cs t
    (cellsAt w (slAddr (a.eval y)).block (slAddr (a.eval y)).off (slLen (a.eval y))).toList Tryd.underlying51 size5 hg (by rw [Array.length_toList, h5.1, h3]; exact (Nat.min_self _).symm)
    (fun j v hv => by rw [Addr.add_mid]; exact rangeAt_cellsAt w _ _ _ j v hv) (by rw [Array.length_toList, h5.1, h3]; exact hs) (fun v hv => (Array.all_eq_true_iff_forall_mem.1 h5.2) v (by simpa using hv))
  rw [Array.length_toList] at hr
  have hlen := h5.1
  unfold Oper.wpIn
  rw [semAt_call _ _ _ _ rfl]
  unfold execOp
  simp only [resolve, invoke, builtin, Sem.run_bind, Sem.run_pure, Result.andThen_ok, List.map_toArray, List.map_cons, List.map_nil]
  rw [← h1, ← h2] at hr
  rw [hr]
  simp [Oper.about, resolve, Oper.uponIn, Result.andThen, Target.leads, hlen, over, rowOf_of hg]
end

/-! DRn: A region that draws its order, in a round: what is shown of it outside a round serves, where it holds no defer. -/
section
open Go.RowKit Go.Shelf

theorem op_copy {o : Oper} {a : Act} {w : World} {K : Act → World → Prop} {Q : Exit → Act → World → Prop} (x y : Operand) (ho : o.op = .call { callee := .builtin .copy, args := #[x, y], argTypes := #[51, 51] }) (g off len cap g2 o2 cap2 : Nat)
    (hx : a.eval x = .slice (some ⟨g, off, none⟩) len cap) (hy : a.eval y = .slice (some ⟨g2, o2, none⟩) len cap2) (cur : Array Value) (t : TypeId) (hg : w.heap[g]? = some (.cells cur t (0, 0))) (hfit : off + len ≤ cur.size) (hs : SrcRow w g2 o2 len)
    (h : K (a.put o.dst (goInt len)) (w.setRow g (over cur off (cellsAt w g2 o2 len)))) : o.wp Tryd.prog a w K Q := by
  have hr := run_copy_row Tryd.prog w 51 51 o.type 5 g off len cap ⟨g2, o2, none⟩ len cap2 cur t (cellsAt w g2 o2 len).toList Tryd.underlying51 size5 hg (by rw [Array.length_toList, hs.1]; exact (Nat.min_self _).symm)
    (fun j v hv => by rw [Addr.add_mid]; exact rangeAt_cellsAt w _ _ _ j v hv) (by rw [Array.length_toList, hs.1]; exact hfit) (fun v hv => (Array.all_eq_true_iff_forall_mem.1 hs.2) v (by simpa using hv))
  rw [Array.length_toList] at hr
  have hlen := hs.1
  unfold Oper.wp execOp
  simp only [ho, resolve, invoke, builtin, Sem.run_bind, Sem.run_pure, Result.andThen_ok, List.map_toArray, List.map_cons, List.map_nil, hx, hy, hr]
  rw [hlen] at hr ⊢
  rw [Oper.upon_value]
  simpa [over, hlen] using h
end

/-! DRm: Crash. -/
section
open Go.RowKit Go.Shelf
attribute [local go_sem] Oper.semAt_some
attribute [local go_sem ↓] wpIn_at_zero wpIn_at_succ wpIn_copy
attribute [local go_sem] addrOf aggOf slAddr slLen slCap

theorem crash_nil (w : World) (vk : Value) (t : Int) : Calls Tryd.prog 24 #[.pointer none, vk, .int .i64 t] w fun e w' => e = .returned (.tuple #[]) ∧ Keeps (fun _ => False) w w' := by
  refine (callsIn_wide (n := 9)).1 ?_
  refine callsIn_of_wp_marks Tryd.func24 rfl trivial ?_ rfl
  simp only [Tryd.ntmps24, List.size_toArray, List.length_cons, List.length_nil, Nat.reduceAdd, Nat.reduceSub, Array.replicate_succ, Array.replicate_zero, List.push_toArray, List.append_toArray, List.nil_append, List.cons_append]
  gi_wp2
  exact ⟨_, results_none rfl _ _ _, rfl, ((Keeps.refl _ _).alloc _).alloc _⟩

theorem allocs4 (w W : World) (A B C D : Obj) (h : (((w.alloc A).alloc B).alloc C).alloc D = W) :
    W.heap[w.heap.size]? = some A ∧ W.heap[w.heap.size + 1]? = some B ∧ W.heap[w.heap.size + 1 + 1]? = some C ∧ W.heap[w.heap.size + 1 + 1 + 1]? = some D ∧ W.heap.size = w.heap.size + 4 ∧ Keeps (fun _ => False) w W := by
  obtain ⟨W3, h3⟩ : ∃ W3, ((w.alloc A).alloc B).alloc C = W3 := ⟨_, rfl⟩
  obtain ⟨g0, g1, g2, hs, hk⟩ := allocs3 w W3 A B C h3
  rw [h3] at h
  subst h
  refine ⟨?_, ?_, ?_, ?_, by simp [hs], hk.alloc _⟩
  · rw [Below.heap_alloc _ _ _ (by omega)]; exact g0
  · rw [Below.heap_alloc _ _ _ (by omega)]; exact g1
  · rw [Below.heap_alloc _ _ _ (by omega)]; exact g2
  · rw [show w.heap.size + 1 + 1 + 1 = W3.heap.size by omega]; exact heap_alloc2_x W3 D

/-- How many bytes of a block come through. -/
def cutOf (t : Int) (k : Nat) : Nat := if (k : Int) = t then 64 else 128
def crashStep (t : Int) (row : Array Value) (y : Nat × LW) : Array Value := over row (y.2.1.toNat * 128) (y.2.2.take (cutOf t y.1)).toArray
def crashRow (t : Int) (row : Array Value) (l : List (Nat × LW)) : Array Value := l.foldl (crashStep t) row

theorem size_crashRow (t : Int) (n : Nat) : ∀ (l : List (Nat × LW)) (row : Array Value), row.size = n * 128 → (∀ y ∈ l, LwOk y.2 ∧ 0 ≤ y.2.1 ∧ y.2.1 < (n : Int)) → (crashRow t row l).size = n * 128 := by
  intro l
  induction l with
  | nil => intro row h _; exact h
  | cons y l ih =>
    intro row h hl
    refine ih _ ?_ (fun z hz => hl z (by simp [hz]))
    obtain ⟨h1, h2, h3⟩ := hl y (by simp)
    unfold crashStep
    rw [size_over]
    · exact h
    · have hc : cutOf t y.1 ≤ 128 := by unfold cutOf; split <;> omega
      have : (y.2.1.toNat + 1) * 128 ≤ n * 128 := Nat.mul_le_mul_right 128 (by omega)
      simp
      omega

set_option maxRecDepth 100000 in
set_option maxHeartbeats 1000000 in
theorem crash_any (w : World) (p gb n : Nat) (vl : Value) (F dc t : Int) (dn : Bool) (ws : List LW) (bl : Array Value) (ka : Option Addr) (kc : Nat) (ks : List Int)
    (hD : DiskAt w p (.slice (some ⟨gb, 0, none⟩) n n) vl F dn dc) (hB : w.heap[gb]? = some (.cells bl 30 (0, 0))) (hbl : bl.size = n * 128)
    (hL : LooseAt w vl ws) (hlen : ws.length < 1000000) (hpl : ∀ x ∈ ws, 0 ≤ x.1 ∧ x.1 < (n : Int)) (hK : KeepAt w ka ks) (hka : ∀ b o, ka = some ⟨b, o, none⟩ → b ≠ gb) (hpg : p ≠ gb) (hlg : vl.ownBlock ≠ some gb) :
    Calls Tryd.prog 24 #[.pointer (some ⟨p, 0, none⟩), .slice ka ks.length kc, .int .i64 t] w fun e w' => e = .returned (.tuple #[]) ∧
      DiskAt w' p (.slice (some ⟨gb, 0, none⟩) n n) (.slice none 0 0) (-1) false dc ∧ w'.heap[gb]? = some (.cells (crashRow t bl (keptOf ks (idx ws))) 30 (0, 0)) ∧ Keeps (fun k => k = p ∨ k = gb) w w' := by
  refine (callsIn_wide (n := 9)).1 ?_
  refine callsIn_of_wp_marks Tryd.func24 rfl trivial ?_ rfl
  simp only [Tryd.ntmps24, List.size_toArray, List.length_cons, List.length_nil, Nat.reduceAdd, Nat.reduceSub, Array.replicate_succ, Array.replicate_zero, List.push_toArray, List.append_toArray, List.nil_append, List.cons_append]
  gi_wp2_with (refine ⟨trivial, ?_⟩; gi_at_call 46; refine (callsIn_wide.2 (kept_any _ (some ⟨p, 0, none⟩) ka ks.length kc)).mono ?_; rintro e w' ⟨rfl, rfl⟩)
  obtain ⟨W4, hW4⟩ : ∃ W4, (((w.alloc (.cells #[.pointer (some ⟨p, 0, none⟩)] 45)).alloc (.cells #[.int .i64 t] 3)).alloc (.cells #[.pointer (some ⟨p, 0, none⟩)] 45)).alloc (.cells #[.slice ka ks.length kc] 51) = W4 := ⟨_, rfl⟩
  rw [hW4]
  obtain ⟨g0, g1, g2, g3, hsz, k4⟩ := allocs4 w W4 _ _ _ _ hW4
  clear hW4
  have hD4 : DiskAt W4 p (.slice (some ⟨gb, 0, none⟩) n n) vl F dn dc := hD.kept k4 (fun h => h)
  have hgl : gb < w.heap.size := (Array.getElem?_eq_some_iff.1 hB).1
  have hB4 : W4.heap[gb]? = some (.cells bl 30 (0, 0)) := (k4.block gb hgl (fun h => h)).trans hB
  have hL4 : LooseAt W4 vl ws := hL.kept ⟨k4.size, fun g e => k4.block g (hL.lt g e) (fun h => h)⟩
  have hK4 : KeepAt W4 ka ks := hK.kept (S := (· = gb)) (k4.kpx (fun _ h => h.elim)) hka
  have hin : ∀ pre x rest, keptOf ks (idx ws) = pre ++ x :: rest → x.2 ∈ ws := fun pre x rest hx => by
    have hm : x ∈ keptOf ks (idx ws) := by rw [hx]; simp
    have hm2 : x ∈ idx ws := (List.mem_filter.1 hm).1
    simp only [idx, List.mem_map] at hm2
    obtain ⟨⟨u, j⟩, hu, rfl⟩ := hm2
    exact List.fst_mem_of_mem_zipIdx hu
  have hrow : ∀ pre x rest, keptOf ks (idx ws) = pre ++ x :: rest → (crashRow t bl pre).size = n * 128 := fun pre x rest hx => by
    refine size_crashRow t n pre bl hbl (fun y hy => ?_)
    obtain ⟨p1, p2, rfl⟩ := List.append_of_mem hy
    have hm : y.2 ∈ ws := hin p1 y (p2 ++ x :: rest) (by rw [hx]; simp)
    exact ⟨hL.ok _ hm, hpl _ hm⟩
  refine range_law (gf := 54) (lb := #[.pointer (some ⟨w.heap.size + 1 + 1, 0, none⟩), .pointer (some ⟨w.heap.size + 1 + 1 + 1, 0, none⟩)]) rfl (enters_of Tryd.func54 (by kernel_rfl) rfl)
    (kept1 (· = gb) W4 (w.heap.size + 1 + 1) (w.heap.size + 1 + 1 + 1) p _ vl F dn dc ws ka kc ks g2 g3 hD4 hL4 hlen (fun g e h => hlg (by rw [e, h])) (by omega) (by intro k hk; omega) hK4 hka) (fun h1 h2 => h1.trans h2) (fun W l o o' _ ho hc => KpX.putObj o' ho hc) (Below.refl _ _) (fun _ => rfl)
    (fun pre V => V.heap[gb]? = some (.cells (crashRow t bl pre) 30 (0, 0)) ∧ Keeps (· = gb) W4 V) (fun _ _ _ => False) ?hI ?hIx ⟨hB4, Keeps.refl _ _⟩
    (fun pre x a' V => (V.heap[gb]? = some (.cells (crashRow t bl pre) 30 (0, 0)) ∧ Keeps (· = gb) W4 V) ∧ ∃ b, W4.heap.size ≤ b ∧ V.heap[b]? = some (.cells (lcells x.2).toArray 93 (0, 0)) ∧ a' = { tmps := #[Value.pointer (some { block := p, off := 0 }), Value.slice ka ks.length kc, Value.int IntKind.i64 t, Value.pointer (some { block := w.heap.size, off := 0 }), undef, Value.pointer (some { block := w.heap.size + 1, off := 0 }), .int .i64 (x.1 : Int), .pointer (some ⟨b, 0, none⟩), undef, Value.pointer (some { block := p, off := 0 }), Value.bool false, Value.pointer (some { block := p, off := 0 }), Value.slice ka ks.length kc, Value.func (Fn.func 54) #[] #[Value.pointer (some { block := w.heap.size + 1 + 1, off := 0 }), Value.pointer (some { block := w.heap.size + 1 + 1 + 1, off := 0 })], .int .i64 (x.1 : Int), .agg (lcells x.2).toArray, undef, undef, undef, undef, undef, undef, undef, undef, undef, undef, undef, undef, undef, undef, undef, undef, undef, undef, undef, undef, undef, undef, undef, undef, undef], defers := [] })
    ?hAx ?assign ?body ?done ?stop
  case hI =>
    rintro s A B row ⟨h1, h2⟩ hg hr
    exact ⟨own_cells hg hr h1, own_keeps hg hr h2 (Nat.le_refl _)⟩
  case hIx => exact fun c s A B row h _ _ => h
  case hAx =>
    rintro pre x a' _ A B row ⟨⟨h1, h2⟩, b, h3, h4, h5⟩ hg hr
    exact ⟨⟨own_cells hg hr h1, own_keeps hg hr h2 (Nat.le_refl _)⟩, b, h3, own_cells hg hr h4, h5⟩
  case assign =>
    rintro l' pre x rest V K hx ⟨h1, h2⟩ hK'
    have hok : LwOk x.2 := hL4.ok x.2 (hin _ _ _ hx)
    have hsl : (lcells x.2).toArray.size = 129 := by simp [length_lcells hok]
    have hone : (lcells x.2).toArray.all (·.oneCell') = true := all_oneCell_toArray (one_lcells hok)
    have hi65 : (Tryd.prog.info? 93).map (·.size) = some (lcells x.2).toArray.size := by rw [hsl]; exact size65
    have hzs : wzero.size = (lcells x.2).toArray.size := by rw [hsl]; exact size_wzero
    have hz65 := zero65
    have HK : Hid (∀ a' W', _ → _ → _ → K a' W') := hK'
    clear hx hK' hok hsl hin hrow
    simp only [encW]
    gi_wp2_with (refine wpListIn_store_row rfl 93 _ _ rfl V.heap.size rfl (lcells x.2).toArray rfl 93 wzero (heap_alloc2_x V _) hi65 hzs hone ?_; intro w1 n1 k1 z1)
    have k0 : Keeps (fun _ => False) V w1 := ((Keeps.refl _ _).alloc _).trans' k1 (fun k e => .inr (by omega))
    refine HK.out _ _ (k0.from (fun _ _ h => h.elim)) (k0.kpx (fun _ h => h.elim)) ⟨⟨?_, h2.trans (k0.mono (fun _ _ h => h.elim))⟩, V.heap.size, h2.size, n1, rfl⟩
    exact (k0.block gb (Array.getElem?_eq_some_iff.1 h1).1 (fun h => h)).trans h1
  case body =>
    rintro l' pre x rest a' V hl hx ⟨⟨h1, h2⟩, b, h3, h4, rfl⟩
    have hm := hin _ _ _ hx
    have hok : LwOk x.2 := hL4.ok x.2 hm
    obtain ⟨q0, q1⟩ := hpl _ hm
    obtain ⟨i, hi⟩ := Int.eq_ofNat_of_zero_le q0
    have hiN : i < n := by omega
    have hsR := hrow _ _ _ hx
    have e0 : V.heap[w.heap.size]? = some (.cells #[.pointer (some ⟨p, 0, none⟩)] 45 (0, 0)) := (h2.block _ (by omega) (by omega)).trans g0
    have e1 : V.heap[w.heap.size + 1]? = some (.cells #[.int .i64 t] 3 (0, 0)) := (h2.block _ (by omega) (by omega)).trans g1
    have eD := hD4.kept h2 hpg
    have c0 : V.cell? ⟨w.heap.size, 0, none⟩ = some (.pointer (some ⟨p, 0, none⟩)) := by simp [World.cell?, e0]
    have c1 : V.cell? ⟨w.heap.size + 1, 0, none⟩ = some (.int .i64 t) := by simp [World.cell?, e1]
    have cp := eD.cells.1
    have cx : V.cell? ⟨b, 0, none⟩ = some (.int .i64 (i : Int)) := by simp [World.cell?, h4, lcells, hi]
    have hi0 : (0 : Int) ≤ (i : Int) := by omega
    have hi1 : (i : Int) < (n : Int) := by omega
    have hmul : (i + 1) * 128 ≤ n * 128 := Nat.mul_le_mul_right 128 hiN
    have src : ∀ m, m ≤ 128 → cellsAt V b 1 m = (x.2.2.take m).toArray := fun m hm => by
      rw [cellsAt, rowOf_of h4]
      apply Array.toList_inj.1
      simp [lcells]
    have srcOk : ∀ m, m ≤ 128 → SrcRow V.drew b 1 m := fun m hm => by
      have e : cellsAt V.drew b 1 m = (x.2.2.take m).toArray := src m hm
      refine ⟨by rw [e]; simp [hok.1]; omega, ?_⟩
      rw [e]
      exact all_oneCell_toArray (fun v hv => hok.2 v (List.mem_of_mem_take hv))
    have room : ∀ m, m ≤ 128 → RoomRow V.drew gb (i * 128 + m) := fun m hm => ⟨_, 30, h1, by rw [hsR]; omega⟩
    have fin : ∀ m, m = cutOf t x.1 → ∀ a3 : Act, ownPostG W4.heap.size (KpX (· = gb)) (fun pre V => V.heap[gb]? = some (.cells (crashRow t bl pre) 30 (0, 0)) ∧ Keeps (· = gb) W4 V) (fun _ _ _ => False) (pre ++ [x]) V .normal a3 (V.drew.setRow gb (over (crashRow t bl pre) (i * 128) (cellsAt V.drew b 1 m))) := fun m hmc a3 => by
      have hm128 : m ≤ 128 := by rw [hmc]; unfold cutOf; split <;> omega
      have kk : Keeps (· = gb) V (V.drew.setRow gb (over (crashRow t bl pre) (i * 128) (cellsAt V.drew b 1 m))) := ((Keeps.refl (· = gb) V).drew).setRow (.inl rfl) _
      refine ⟨kk.from (fun k _ e => ⟨_, 30, (0, 0), e ▸ h1⟩), kk.kpx (fun k e => .inl e), ?_, h2.trans kk⟩
      rw [setRow_heap V.drew gb _ _ _ _ h1]
      have e2 : cellsAt V.drew b 1 m = (x.2.2.take m).toArray := src m hm128
      rw [e2, hmc]
      simp [crashRow, crashStep, hi]
    have hbg : b ≠ gb := by omega
    have sgb : w.heap.size ≠ gb := by omega
    have fit : ∀ m, m ≤ 128 → i * 128 + m ≤ (crashRow t bl pre).size := fun m hm => by rw [hsR]; omega
    have kS : Hid (∀ X, (V.drew.setRow gb X).cell? ⟨w.heap.size, 0, none⟩ = some (.pointer (some ⟨p, 0, none⟩)) ∧ (V.drew.setRow gb X).cell? ⟨p, 0, none⟩ = some (.slice (some ⟨gb, 0, none⟩) n n) ∧ (V.drew.setRow gb X).cell? ⟨b, 0, none⟩ = some (.int .i64 (i : Int))) := fun X =>
      ⟨(World.cell?_of_block (w := V) (setRow_other V.drew gb _ X sgb)).trans c0, (World.cell?_of_block (w := V) (setRow_other V.drew gb _ X hpg)).trans cp, (World.cell?_of_block (w := V) (setRow_other V.drew gb _ X hbg)).trans cx⟩
    by_cases ht : (x.1 : Int) = t
    · have htb : ((x.1 : Int) == t) = true := by simpa using ht
      have s64 := srcOk 64 (by omega)
      have ft64 := fit 64 (by omega)
      have f64 : Hid _ := fin 64 (by simp [cutOf, ht])
      clear fin src srcOk room fit hx ht hin hrow hpl hok hi hm q0 q1 hD hB hbl hL hK hka hmul hsR
      gi_wp2
      have hS0 : V.drew.cell? ⟨w.heap.size, 0, none⟩ = some (.pointer (some ⟨p, 0, none⟩)) ∧ V.drew.cell? ⟨p, 0, none⟩ = some (.slice (some ⟨gb, 0, none⟩) n n) ∧ V.drew.cell? ⟨b, 0, none⟩ = some (.int .i64 (i : Int)) := ⟨c0, cp, cx⟩
      refine region_round (fun w' => w'.cell? ⟨w.heap.size, 0, none⟩ = some (.pointer (some ⟨p, 0, none⟩)) ∧ w'.cell? ⟨p, 0, none⟩ = some (.slice (some ⟨gb, 0, none⟩) n n) ∧ w'.cell? ⟨b, 0, none⟩ = some (.int .i64 (i : Int))) (by kernel_rfl) (by kernel_rfl) (by rintro ⟨_, _, h⟩; exact h) ?_
      refine wpAnyH_take (i := 0) (v := (.pointer (some ⟨p, 0, none⟩))) rfl (by kernel_rfl) (by kernel_rfl) (by kernel_rfl) (fun _ _ _ h => h) (Or.inl ⟨by rfl, ?_⟩) hS0 ?_
      · intro w' hSw; obtain ⟨s0, s1, s2⟩ := hSw; go_simp
      try simp only [Act.put, List.setIfInBounds_toArray, List.set_cons_zero, List.set_cons_succ]
      refine wpAnyH_take (i := 1) (v := (.pointer (some ⟨p, 0, none⟩))) rfl (by kernel_rfl) (by kernel_rfl) (by kernel_rfl) (fun _ _ _ h => h) (Or.inl ⟨by rfl, ?_⟩) hS0 ?_
      · intro w' hSw; obtain ⟨s0, s1, s2⟩ := hSw; go_simp
      try simp only [Act.put, List.setIfInBounds_toArray, List.set_cons_zero, List.set_cons_succ]
      refine wpAnyH_take (i := 2) (v := (.pointer (some ⟨p, 0, none⟩))) rfl (by kernel_rfl) (by kernel_rfl) (by kernel_rfl) (fun _ _ _ h => h) (Or.inl ⟨by rfl, ?_⟩) hS0 ?_
      · intro w' hSw; obtain ⟨s0, s1, s2⟩ := hSw; go_simp
      try simp only [Act.put, List.setIfInBounds_toArray, List.set_cons_zero, List.set_cons_succ]
      refine wpAnyH_take (i := 3) (v := (.slice (some ⟨gb, 0, none⟩) n n)) rfl (by kernel_rfl) (by kernel_rfl) (by kernel_rfl) (fun _ _ _ h => h) (Or.inl ⟨by rfl, ?_⟩) hS0 ?_
      · intro w' hSw; obtain ⟨s0, s1, s2⟩ := hSw; go_simp
      try simp only [Act.put, List.setIfInBounds_toArray, List.set_cons_zero, List.set_cons_succ]
      refine wpAnyH_take (i := 4) (v := (.pointer (some ⟨b, 0, none⟩))) rfl (by kernel_rfl) (by kernel_rfl) (by kernel_rfl) (fun _ _ _ h => h) (Or.inl ⟨by rfl, ?_⟩) hS0 ?_
      · intro w' hSw; obtain ⟨s0, s1, s2⟩ := hSw; go_simp
      try simp only [Act.put, List.setIfInBounds_toArray, List.set_cons_zero, List.set_cons_succ]
      refine wpAnyH_take (i := 5) (v := (.int .i64 (i : Int))) rfl (by kernel_rfl) (by kernel_rfl) (by kernel_rfl) (fun _ _ _ h => h) (Or.inl ⟨by rfl, ?_⟩) hS0 ?_
      · intro w' hSw; obtain ⟨s0, s1, s2⟩ := hSw; go_simp
      try simp only [Act.put, List.setIfInBounds_toArray, List.set_cons_zero, List.set_cons_succ]
      refine wpAnyH_take (i := 6) (v := (.pointer (some ⟨gb, i * 128, none⟩))) rfl (by kernel_rfl) (by kernel_rfl) (by kernel_rfl) (fun _ _ _ h => h) (Or.inl ⟨by rfl, ?_⟩) hS0 ?_
      · intro w' hSw; obtain ⟨s0, s1, s2⟩ := hSw; go_simp
      try simp only [Act.put, List.setIfInBounds_toArray, List.set_cons_zero, List.set_cons_succ]
      refine wpAnyH_take (i := 7) (v := (.int .i64 64)) rfl (by kernel_rfl) (by kernel_rfl) (by kernel_rfl) (fun _ _ _ h => h) (Or.inl ⟨by rfl, ?_⟩) hS0 ?_
      · intro w' hSw; obtain ⟨s0, s1, s2⟩ := hSw; go_simp
      try simp only [Act.put, List.setIfInBounds_toArray, List.set_cons_zero, List.set_cons_succ]
      refine wpAnyH_take (i := 8) (v := (.slice (some ⟨gb, i * 128, none⟩) 64 128)) rfl (by kernel_rfl) (by kernel_rfl) (by kernel_rfl) (fun _ _ _ h => h) (Or.inl ⟨by rfl, ?_⟩) hS0 ?_
      · intro w' hSw; obtain ⟨s0, s1, s2⟩ := hSw; go_simp
      try simp only [Act.put, List.setIfInBounds_toArray, List.set_cons_zero, List.set_cons_succ]
      refine wpAnyH_take (i := 9) (v := (.pointer (some ⟨b, 1, none⟩))) rfl (by kernel_rfl) (by kernel_rfl) (by kernel_rfl) (fun _ _ _ h => h) (Or.inl ⟨by rfl, ?_⟩) hS0 ?_
      · intro w' hSw; obtain ⟨s0, s1, s2⟩ := hSw; go_simp
      try simp only [Act.put, List.setIfInBounds_toArray, List.set_cons_zero, List.set_cons_succ]
      refine wpAnyH_take (i := 10) (v := (.int .i64 64)) rfl (by kernel_rfl) (by kernel_rfl) (by kernel_rfl) (fun _ _ _ h => h) (Or.inl ⟨by rfl, ?_⟩) hS0 ?_
      · intro w' hSw; obtain ⟨s0, s1, s2⟩ := hSw; go_simp
      try simp only [Act.put, List.setIfInBounds_toArray, List.set_cons_zero, List.set_cons_succ]
      refine wpAnyH_take (i := 11) (v := (.slice (some ⟨b, 1, none⟩) 64 128)) rfl (by kernel_rfl) (by kernel_rfl) (by kernel_rfl) (fun _ _ _ h => h) (Or.inl ⟨by rfl, ?_⟩) hS0 ?_
      · intro w' hSw; obtain ⟨s0, s1, s2⟩ := hSw; go_simp
      try simp only [Act.put, List.setIfInBounds_toArray, List.set_cons_zero, List.set_cons_succ]
      refine wpAnyH_ready (rs := [12]) (by kernel_rfl) (by simp) ?_
      refine AllReadyH.cons rfl (fun K hK => ?_) AllReadyH.nil
      rw [if_pos (by rfl)]
      refine op_copy (.tmp 27) (.tmp 30) rfl gb (i * 128) 64 128 b 1 128 (by simp [Act.eval]) (by simp [Act.eval]) (crashRow t bl pre) 30 h1 ft64 s64 ?_
      refine hK.out _ _ (kS.out _) (fun _ => wpAnyH_done (by kernel_rfl) ?_ _)
      clear hsz
      gi_wp2
      exact f64.out _
    · have htb : ((x.1 : Int) == t) = false := by simpa using ht
      have s128 := srcOk 128 (by omega)
      have ft128 := fit 128 (by omega)
      have f128 : Hid _ := fin 128 (by simp [cutOf, ht])
      clear fin src srcOk room fit hx ht hin hrow hpl hok hi hm q0 q1 hD hB hbl hL hK hka hmul hsR
      gi_wp2
      have hS0 : V.drew.cell? ⟨w.heap.size, 0, none⟩ = some (.pointer (some ⟨p, 0, none⟩)) ∧ V.drew.cell? ⟨p, 0, none⟩ = some (.slice (some ⟨gb, 0, none⟩) n n) ∧ V.drew.cell? ⟨b, 0, none⟩ = some (.int .i64 (i : Int)) := ⟨c0, cp, cx⟩
      refine region_round (fun w' => w'.cell? ⟨w.heap.size, 0, none⟩ = some (.pointer (some ⟨p, 0, none⟩)) ∧ w'.cell? ⟨p, 0, none⟩ = some (.slice (some ⟨gb, 0, none⟩) n n) ∧ w'.cell? ⟨b, 0, none⟩ = some (.int .i64 (i : Int))) (by kernel_rfl) (by kernel_rfl) (by rintro ⟨_, _, h⟩; exact h) ?_
      refine wpAnyH_take (i := 0) (v := (.pointer (some ⟨p, 0, none⟩))) rfl (by kernel_rfl) (by kernel_rfl) (by kernel_rfl) (fun _ _ _ h => h) (Or.inl ⟨by rfl, ?_⟩) hS0 ?_
      · intro w' hSw; obtain ⟨s0, s1, s2⟩ := hSw; go_simp
      try simp only [Act.put, List.setIfInBounds_toArray, List.set_cons_zero, List.set_cons_succ]
      refine wpAnyH_take (i := 1) (v := (.pointer (some ⟨p, 0, none⟩))) rfl (by kernel_rfl) (by kernel_rfl) (by kernel_rfl) (fun _ _ _ h => h) (Or.inl ⟨by rfl, ?_⟩) hS0 ?_
      · intro w' hSw; obtain ⟨s0, s1, s2⟩ := hSw; go_simp
      try simp only [Act.put, List.setIfInBounds_toArray, List.set_cons_zero, List.set_cons_succ]
      refine wpAnyH_take (i := 2) (v := (.pointer (some ⟨p, 0, none⟩))) rfl (by kernel_rfl) (by kernel_rfl) (by kernel_rfl) (fun _ _ _ h => h) (Or.inl ⟨by rfl, ?_⟩) hS0 ?_
      · intro w' hSw; obtain ⟨s0, s1, s2⟩ := hSw; go_simp
      try simp only [Act.put, List.setIfInBounds_toArray, List.set_cons_zero, List.set_cons_succ]
      refine wpAnyH_take (i := 3) (v := (.slice (some ⟨gb, 0, none⟩) n n)) rfl (by kernel_rfl) (by kernel_rfl) (by kernel_rfl) (fun _ _ _ h => h) (Or.inl ⟨by rfl, ?_⟩) hS0 ?_
      · intro w' hSw; obtain ⟨s0, s1, s2⟩ := hSw; go_simp
      try simp only [Act.put, List.setIfInBounds_toArray, List.set_cons_zero, List.set_cons_succ]
      refine wpAnyH_take (i := 4) (v := (.pointer (some ⟨b, 0, none⟩))) rfl (by kernel_rfl) (by kernel_rfl) (by kernel_rfl) (fun _ _ _ h => h) (Or.inl ⟨by rfl, ?_⟩) hS0 ?_
      · intro w' hSw; obtain ⟨s0, s1, s2⟩ := hSw; go_simp
      try simp only [Act.put, List.setIfInBounds_toArray, List.set_cons_zero, List.set_cons_succ]
      refine wpAnyH_take (i := 5) (v := (.int .i64 (i : Int))) rfl (by kernel_rfl) (by kernel_rfl) (by kernel_rfl) (fun _ _ _ h => h) (Or.inl ⟨by rfl, ?_⟩) hS0 ?_
      · intro w' hSw; obtain ⟨s0, s1, s2⟩ := hSw; go_simp
      try simp only [Act.put, List.setIfInBounds_toArray, List.set_cons_zero, List.set_cons_succ]
      refine wpAnyH_take (i := 6) (v := (.pointer (some ⟨gb, i * 128, none⟩))) rfl (by kernel_rfl) (by kernel_rfl) (by kernel_rfl) (fun _ _ _ h => h) (Or.inl ⟨by rfl, ?_⟩) hS0 ?_
      · intro w' hSw; obtain ⟨s0, s1, s2⟩ := hSw; go_simp
      try simp only [Act.put, List.setIfInBounds_toArray, List.set_cons_zero, List.set_cons_succ]
      refine wpAnyH_take (i := 7) (v := (.int .i64 128)) rfl (by kernel_rfl) (by kernel_rfl) (by kernel_rfl) (fun _ _ _ h => h) (Or.inl ⟨by rfl, ?_⟩) hS0 ?_
      · intro w' hSw; obtain ⟨s0, s1, s2⟩ := hSw; go_simp
      try simp only [Act.put, List.setIfInBounds_toArray, List.set_cons_zero, List.set_cons_succ]
      refine wpAnyH_take (i := 8) (v := (.slice (some ⟨gb, i * 128, none⟩) 128 128)) rfl (by kernel_rfl) (by kernel_rfl) (by kernel_rfl) (fun _ _ _ h => h) (Or.inl ⟨by rfl, ?_⟩) hS0 ?_
      · intro w' hSw; obtain ⟨s0, s1, s2⟩ := hSw; go_simp
      try simp only [Act.put, List.setIfInBounds_toArray, List.set_cons_zero, List.set_cons_succ]
      refine wpAnyH_take (i := 9) (v := (.pointer (some ⟨b, 1, none⟩))) rfl (by kernel_rfl) (by kernel_rfl) (by kernel_rfl) (fun _ _ _ h => h) (Or.inl ⟨by rfl, ?_⟩) hS0 ?_
      · intro w' hSw; obtain ⟨s0, s1, s2⟩ := hSw; go_simp
      try simp only [Act.put, List.setIfInBounds_toArray, List.set_cons_zero, List.set_cons_succ]
      refine wpAnyH_take (i := 10) (v := (.int .i64 128)) rfl (by kernel_rfl) (by kernel_rfl) (by kernel_rfl) (fun _ _ _ h => h) (Or.inl ⟨by rfl, ?_⟩) hS0 ?_
      · intro w' hSw; obtain ⟨s0, s1, s2⟩ := hSw; go_simp
      try simp only [Act.put, List.setIfInBounds_toArray, List.set_cons_zero, List.set_cons_succ]
      refine wpAnyH_take (i := 11) (v := (.slice (some ⟨b, 1, none⟩) 128 128)) rfl (by kernel_rfl) (by kernel_rfl) (by kernel_rfl) (fun _ _ _ h => h) (Or.inl ⟨by rfl, ?_⟩) hS0 ?_
      · intro w' hSw; obtain ⟨s0, s1, s2⟩ := hSw; go_simp
      try simp only [Act.put, List.setIfInBounds_toArray, List.set_cons_zero, List.set_cons_succ]
      refine wpAnyH_ready (rs := [12]) (by kernel_rfl) (by simp) ?_
      refine AllReadyH.cons rfl (fun K hK => ?_) AllReadyH.nil
      rw [if_pos (by rfl)]
      refine op_copy (.tmp 27) (.tmp 30) rfl gb (i * 128) 128 128 b 1 128 (by simp [Act.eval]) (by simp [Act.eval]) (crashRow t bl pre) 30 h1 ft128 s128 ?_
      refine hK.out _ _ (kS.out _) (fun _ => wpAnyH_done (by kernel_rfl) ?_ _)
      clear hsz
      gi_wp2
      exact f128.out _
  case done =>
    rintro D V hD' ⟨h1, h2⟩ hd
    have e0 : V.heap[w.heap.size]? = some (.cells #[.pointer (some ⟨p, 0, none⟩)] 45 (0, 0)) := (h2.block _ (by omega) (by omega)).trans g0
    have eD := hD4.kept h2 hpg
    have c0 : V.cell? ⟨w.heap.size, 0, none⟩ = some (.pointer (some ⟨p, 0, none⟩)) := by simp [World.cell?, e0]
    obtain ⟨d0, d1, d2, d3, d4⟩ := eD.cells
    have f1 := eD.free 1
    have f2 := eD.free 2
    have f3 := eD.free 3
    have hpl' : p ≠ w.heap.size := by have := hD.lt; omega
    clear hin hrow
    gi_wp2
    obtain ⟨V3, hV3⟩ : ∃ V3, ((V.setCell ⟨p, 1, none⟩ (.slice none 0 0)).setCell ⟨p, 2, none⟩ (.int .i64 (-1))).setCell ⟨p, 3, none⟩ (.bool false) = V3 := ⟨_, rfl⟩
    rw [hV3]
    have kp : Keeps (· = p) V V3 := by rw [← hV3]; exact (((Keeps.refl _ _).at 1 _).at 2 _).at 3 _
    have dp : DiskAt V3 p (.slice (some ⟨gb, 0, none⟩) n n) (.slice none 0 0) (-1) false dc := by rw [← hV3]; exact ((eD.set1 _).set2 _).set3 _
    have hp4 := hD.lt
    have hd3 : V3.heap[D]? = some (.deferred (some [])) := (kp.block D (Array.getElem?_eq_some_iff.1 hd).1 (by omega)).trans hd
    refine ⟨by simp, .inl ⟨_, _, rfl, run_takeDeferred hd3, ?_⟩⟩
    have kD : Keeps (fun k => k = p ∨ k = gb) W4 (V3.putObj D (.deferred none)) := ((h2.mono (fun k _ e => .inr e)).trans (kp.mono (fun k _ e => .inl e))).grown (grownBy_putObj' _ D _) (fun k e => by cases e; exact .inr hD')
    refine ⟨_, results_none rfl _ _ _, rfl, ?_, ?_, (k4.mono (fun _ _ h => h.elim)).trans kD⟩
    · exact (World.putObj_heap_other (by omega)).trans dp
    · rw [World.putObj_heap_other (by omega)]
      exact (kp.block gb (Array.getElem?_eq_some_iff.1 h1).1 (fun e => hpg e.symm)).trans h1
  case stop =>
    rintro D c pre x rest V hD' hx h hd
    exact h.elim
end

/-! DRo: Sync. -/
section
open Go.RowKit Go.Shelf
attribute [local go_sem] Oper.semAt_some

theorem sync_nil (w : World) : Calls Tryd.prog 41 #[.pointer none] w fun e w' => e = .returned (.int .i64 1) ∧ Keeps (fun _ => False) w w' := by
  refine (callsIn_wide (n := 9)).1 ?_
  refine callsIn_of_wp_marks Tryd.func41 rfl trivial ?_ rfl
  simp only [Tryd.ntmps41, List.size_toArray, List.length_cons, List.length_nil, Nat.reduceAdd, Nat.reduceSub, Array.replicate_succ, Array.replicate_zero, List.push_toArray, List.append_toArray, List.nil_append, List.cons_append]
  gi_wp2
  exact ⟨_, results_tmp rfl _ _ _, rfl, (Keeps.refl _ _).alloc _⟩

theorem sync_down (w : World) (p : Nat) (vb vl : Value) (F : Int) (dn : Bool) (dc : Int) (hD : DiskAt w p vb vl F dn dc) (hd : F = 0 ∨ dn = true) :
    Calls Tryd.prog 41 #[.pointer (some ⟨p, 0, none⟩)] w fun e w' => e = .returned (.int .i64 12) ∧ DiskAt w' p vb vl F true dc ∧ Keeps (· = p) w w' := by
  refine (callsIn_wide (n := 9)).1 ?_
  refine callsIn_of_wp_marks Tryd.func41 rfl trivial ?_ rfl
  simp only [Tryd.ntmps41, List.size_toArray, List.length_cons, List.length_nil, Nat.reduceAdd, Nat.reduceSub, Array.replicate_succ, Array.replicate_zero, List.push_toArray, List.append_toArray, List.nil_append, List.cons_append]
  gi_wp2_with (refine ⟨trivial, ?_⟩; gi_at_call 43; refine (callsIn_wide.2 (burn_down _ p vb vl F dn dc (hD.alloc _) hd)).mono ?_; rintro e w1 ⟨rfl, hD1, hK1⟩)
  exact ⟨_, results_tmp rfl _ _ _, rfl, hD1, ((Keeps.refl _ _).alloc _).trans hK1⟩

theorem op_store37 {o : Oper} {a : Act} {w : World} {K : Act → World → Prop} {Q : Exit → Act → World → Prop} (x y : Operand) (ho : o.op = .store 30 x y) (g off : Nat) (new : Array Value)
    (hx : a.eval x = .pointer (some ⟨g, off, none⟩)) (hy : a.eval y = .agg new) (cur : Array Value) (t : TypeId) (hg : w.heap[g]? = some (.cells cur t (0, 0))) (hfit : off + 128 ≤ cur.size) (hs : new.size = 128) (h1 : AllOne new)
    (h : K (a.put o.dst undef) (w.setRow g (over cur off new))) : o.wp Tryd.prog a w K Q := by
  have hr := run_storeVar_over w g off t 30 cur new hg (by rw [hs]; exact size37) (by rw [hs]; exact hfit) h1
  unfold Oper.wp execOp
  simp only [ho, hx, hy, Instr.storeAt, Instr.sureAddr, Sem.run_bind, Sem.run_pure, Result.andThen_ok, hr]
  exact h

theorem held_store37 {md : Region.Mode} {ops : Array Oper} {Q : Exit → Act → World → Prop} {S : World → Prop} {fuel : Nat} {listed : Array Bool} {a : Act} {w : World} {i : Nat} {o : Oper} (hr : Region.ready md ops listed = [i]) (ho : ops[i]? = some o) (hgd : o.guard = none)
    (x y : Operand) (hop : o.op = .store 30 x y) (g off : Nat) (new : Array Value) (hx : a.eval x = .pointer (some ⟨g, off, none⟩)) (hy : a.eval y = .agg new) (cur : Array Value) (t : TypeId) (hg : w.heap[g]? = some (.cells cur t (0, 0))) (hfit : off + 128 ≤ cur.size) (hs : new.size = 128) (h1 : AllOne new)
    (hS : S (w.setRow g (over cur off new))) (h : wpAnyH Tryd.prog md ops Q S fuel (listed.setIfInBounds i true) (a.put o.dst undef) (w.setRow g (over cur off new))) : wpAnyH Tryd.prog md ops Q S (fuel + 1) listed a w := by
  refine wpAnyH_ready hr (by simp) (AllReadyH.cons ho (fun K hK => ?_) AllReadyH.nil)
  have hw : Region.wanted o (yielded ops a.tmps) = true := by simp [Region.wanted, hgd]
  rw [if_pos hw]
  exact op_store37 x y hop g off new hx hy cur t hg hfit hs h1 (hK.out _ _ hS (fun _ => h))

set_option maxRecDepth 100000 in
set_option maxHeartbeats 1000000 in
theorem sync_goes (w : World) (p gb n : Nat) (vl : Value) (F dc : Int) (ws : List LW) (bl : Array Value)
    (hD : DiskAt w p (.slice (some ⟨gb, 0, none⟩) n n) vl F false dc) (hB : w.heap[gb]? = some (.cells bl 30 (0, 0))) (hbl : bl.size = n * 128)
    (hL : LooseAt w vl ws) (hlen : ws.length < 1000000) (hpl : ∀ x ∈ ws, 0 ≤ x.1 ∧ x.1 < (n : Int)) (hpg : p ≠ gb) (hlg : vl.ownBlock ≠ some gb) (hlp : vl.ownBlock ≠ some p)
    (hF : F ≠ 0) (hlo : -9223372036854775808 ≤ F) (hhi : F ≤ 9223372036854775807) (hd0 : 0 ≤ dc) (hd1 : dc < 1000000) :
    Calls Tryd.prog 41 #[.pointer (some ⟨p, 0, none⟩)] w fun e w' => e = .returned (.int .i64 0) ∧
      DiskAt w' p (.slice (some ⟨gb, 0, none⟩) n n) (.slice none 0 0) (burnt F) false (dc + 1) ∧ w'.heap[gb]? = some (.cells (crashRow (-1) bl (idx ws)) 30 (0, 0)) ∧ Keeps (fun k => k = p ∨ k = gb) w w' := by
  refine (callsIn_wide (n := 9)).1 ?_
  refine callsIn_of_wp_marks Tryd.func41 rfl trivial ?_ rfl
  simp only [Tryd.ntmps41, List.size_toArray, List.length_cons, List.length_nil, Nat.reduceAdd, Nat.reduceSub, Array.replicate_succ, Array.replicate_zero, List.push_toArray, List.append_toArray, List.nil_append, List.cons_append]
  have hpw := hD.lt
  have hgl : gb < w.heap.size := (Array.getElem?_eq_some_iff.1 hB).1
  have hvl := hL.lt
  gi_wp2_with (first | (refine ⟨trivial, ?_⟩; gi_at_call 43; refine (callsIn_wide.2 (burn_goes _ p _ vl F dc (hD.alloc _) hF hlo hhi hd0 hd1)).mono ?_; rintro e w1 ⟨rfl, hD1, hK1⟩; have b1 : w1.heap[w.heap.size]? = some (.cells #[.pointer (some ⟨p, 0, none⟩)] 45 (0, 0)) := (hK1.block _ (by simp) (by omega)).trans (heap_alloc2_x w _); have cb1 : w1.cell? ⟨w.heap.size, 0, none⟩ = some (.pointer (some ⟨p, 0, none⟩)) := (by simp [World.cell?, b1])) | (refine ⟨trivial, ?_⟩; gi_at_call 53; refine (callsIn_wide.2 (writes_any w1 (some ⟨p, 0, none⟩))).mono ?_; rintro e w' ⟨rfl, rfl⟩))
  obtain ⟨W4, hW4⟩ : ∃ W4, w1.alloc (.cells #[.pointer (some ⟨p, 0, none⟩)] 45) = W4 := ⟨_, rfl⟩
  rw [hW4]
  have hs1 := hK1.size
  simp only [World.size_alloc] at hs1
  have k4 : Keeps (· = p) w W4 := by rw [← hW4]; exact (((Keeps.refl _ _).alloc _).trans hK1).alloc _
  have g2 : W4.heap[w1.heap.size]? = some (.cells #[.pointer (some ⟨p, 0, none⟩)] 45 (0, 0)) := by rw [← hW4]; exact heap_alloc2_x w1 _
  have g0 : W4.heap[w.heap.size]? = some (.cells #[.pointer (some ⟨p, 0, none⟩)] 45 (0, 0)) := by rw [← hW4]; exact (Below.heap_alloc w1 _ _ (by omega)).trans b1
  have hsz : W4.heap.size = w1.heap.size + 1 := by rw [← hW4]; simp
  have hD4 : DiskAt W4 p (.slice (some ⟨gb, 0, none⟩) n n) vl (burnt F) false (dc + 1) := by rw [← hW4]; exact hD1.alloc _
  have hB4 : W4.heap[gb]? = some (.cells bl 30 (0, 0)) := (k4.block gb hgl (fun e => hpg e.symm)).trans hB
  have hL4 : LooseAt W4 vl ws := hL.kept ⟨k4.size, fun g e => k4.block g (hL.lt g e) (fun h => hlp (by rw [e, h]))⟩
  clear hW4 hK1 hD1 b1 cb1
  have hin : ∀ pre x rest, idx ws = pre ++ x :: rest → x.2 ∈ ws := fun pre x rest hx => by rw [(idx_split hx).2.1]; simp
  have hrow : ∀ pre x rest, idx ws = pre ++ x :: rest → (crashRow (-1) bl pre).size = n * 128 := fun pre x rest hx => by
    refine size_crashRow (-1) n pre bl hbl (fun y hy => ?_)
    obtain ⟨p1, p2, rfl⟩ := List.append_of_mem hy
    have hm : y.2 ∈ ws := hin p1 y (p2 ++ x :: rest) (by rw [hx]; simp)
    exact ⟨hL.ok _ hm, hpl _ hm⟩
  refine range_law (gf := 61) (lb := #[.pointer (some ⟨w1.heap.size, 0, none⟩)]) rfl (enters_of Tryd.func61 (by kernel_rfl) rfl)
    (writes1 (· = gb) W4 w1.heap.size p _ vl (burnt F) false (dc + 1) ws g2 hD4 hL4 hlen (fun g e h => hlg (by rw [e, h]))) (fun h1 h2 => h1.trans h2) (fun W l o o' _ ho hc => KpX.putObj o' ho hc) (Below.refl _ _) (fun _ => rfl)
    (fun pre V => V.heap[gb]? = some (.cells (crashRow (-1) bl pre) 30 (0, 0)) ∧ Keeps (· = gb) W4 V) (fun _ _ _ => False) ?hI ?hIx ⟨hB4, Keeps.refl _ _⟩
    (fun pre x a' V => (V.heap[gb]? = some (.cells (crashRow (-1) bl pre) 30 (0, 0)) ∧ Keeps (· = gb) W4 V) ∧ ∃ b, W4.heap.size ≤ b ∧ V.heap[b]? = some (.cells (lcells x.2).toArray 93 (0, 0)) ∧ a' = { tmps := #[Value.pointer (some { block := p, off := 0 }), Value.pointer (some { block := w.heap.size, off := 0 }), Value.int IntKind.i64 0, Value.int IntKind.i64 0, undef, .pointer (some ⟨b, 0, none⟩), Value.pointer (some { block := p, off := 0 }), Value.bool false, Value.pointer (some { block := p, off := 0 }), Value.int IntKind.i64 0, Value.int IntKind.i64 0, Value.bool false, undef, Value.pointer (some { block := p, off := 0 }), Value.func (Fn.func 61) #[] #[Value.pointer (some { block := w1.heap.size, off := 0 })], .int .i64 (x.1 : Int), .agg (lcells x.2).toArray, undef, undef, undef, undef, undef, undef, undef, undef, undef, undef, undef, undef], defers := [] })
    ?hAx ?assign ?body ?done ?stop
  case hI =>
    rintro s A B row ⟨h1, h2⟩ hg hr
    exact ⟨own_cells hg hr h1, own_keeps hg hr h2 (Nat.le_refl _)⟩
  case hIx => exact fun c s A B row h _ _ => h
  case hAx =>
    rintro pre x a' _ A B row ⟨⟨h1, h2⟩, b, h3, h4, h5⟩ hg hr
    exact ⟨⟨own_cells hg hr h1, own_keeps hg hr h2 (Nat.le_refl _)⟩, b, h3, own_cells hg hr h4, h5⟩
  case assign =>
    rintro l' pre x rest V K hx ⟨h1, h2⟩ hK'
    have hok : LwOk x.2 := hL4.ok x.2 (hin _ _ _ hx)
    have hsl : (lcells x.2).toArray.size = 129 := by simp [length_lcells hok]
    have hone : (lcells x.2).toArray.all (·.oneCell') = true := all_oneCell_toArray (one_lcells hok)
    have hi65 : (Tryd.prog.info? 93).map (·.size) = some (lcells x.2).toArray.size := by rw [hsl]; exact size65
    have hzs : wzero.size = (lcells x.2).toArray.size := by rw [hsl]; exact size_wzero
    have hz65 := zero65
    have HK : Hid (∀ a' W', _ → _ → _ → K a' W') := hK'
    clear hx hK' hok hsl hin hrow
    simp only [encW]
    gi_wp2_with (refine wpListIn_store_row rfl 93 _ _ rfl V.heap.size rfl (lcells x.2).toArray rfl 93 wzero (heap_alloc2_x V _) hi65 hzs hone ?_; intro w1 n1 k1 z1)
    have k0 : Keeps (fun _ => False) V w1 := ((Keeps.refl _ _).alloc _).trans' k1 (fun k e => .inr (by omega))
    refine HK.out _ _ (k0.from (fun _ _ h => h.elim)) (k0.kpx (fun _ h => h.elim)) ⟨⟨?_, h2.trans (k0.mono (fun _ _ h => h.elim))⟩, V.heap.size, h2.size, n1, rfl⟩
    exact (k0.block gb (Array.getElem?_eq_some_iff.1 h1).1 (fun h => h)).trans h1
  case body =>
    rintro l' pre x rest a' V hl hx ⟨⟨h1, h2⟩, b, h3, h4, rfl⟩
    have hm := hin _ _ _ hx
    have hok : LwOk x.2 := hL4.ok x.2 hm
    obtain ⟨q0, q1⟩ := hpl _ hm
    obtain ⟨i, hi⟩ := Int.eq_ofNat_of_zero_le q0
    have hiN : i < n := by omega
    have hsR := hrow _ _ _ hx
    have e0 : V.heap[w.heap.size]? = some (.cells #[.pointer (some ⟨p, 0, none⟩)] 45 (0, 0)) := (h2.block _ (by omega) (by omega)).trans g0
    have eD := hD4.kept h2 hpg
    have c0 : V.cell? ⟨w.heap.size, 0, none⟩ = some (.pointer (some ⟨p, 0, none⟩)) := by simp [World.cell?, e0]
    have cp := eD.cells.1
    have cx : V.cell? ⟨b, 0, none⟩ = some (.int .i64 (i : Int)) := by simp [World.cell?, h4, lcells, hi]
    have hi0 : (0 : Int) ≤ (i : Int) := by omega
    have hi1 : (i : Int) < (n : Int) := by omega
    have hmul : (i + 1) * 128 ≤ n * 128 := Nat.mul_le_mul_right 128 hiN
    have rx : V.rangeAt b 1 x.2.2 := fun j v hv => by
      rw [cell_of_row V b (1 + j) _ _ _ h4, Nat.add_comm 1 j]
      simpa [lcells] using hv
    have hi37 : (Tryd.prog.info? 30).map (·.size) = some x.2.2.length := by rw [hok.1]; exact size37
    have hsz2 : x.2.2.toArray.size = 128 := by simp [hok.1]
    have hone : AllOne x.2.2.toArray := all_oneCell_toArray hok.2
    have hbg : b ≠ gb := by omega
    have sgb : w.heap.size ≠ gb := by omega
    have fit : i * 128 + 128 ≤ (crashRow (-1) bl pre).size := by rw [hsR]; omega
    have kS : Hid (∀ X, (V.drew.setRow gb X).cell? ⟨w.heap.size, 0, none⟩ = some (.pointer (some ⟨p, 0, none⟩)) ∧ (V.drew.setRow gb X).cell? ⟨p, 0, none⟩ = some (.slice (some ⟨gb, 0, none⟩) n n) ∧ (V.drew.setRow gb X).cell? ⟨b, 0, none⟩ = some (.int .i64 (i : Int)) ∧ (V.drew.setRow gb X).rangeAt b 1 x.2.2) := fun X =>
      ⟨(World.cell?_of_block (w := V) (setRow_other V.drew gb _ X sgb)).trans c0, (World.cell?_of_block (w := V) (setRow_other V.drew gb _ X hpg)).trans cp, (World.cell?_of_block (w := V) (setRow_other V.drew gb _ X hbg)).trans cx, fun j v hv => (World.cell?_of_block (w := V) (a := ⟨b, 1 + j, none⟩) (setRow_other V.drew gb _ X hbg)).trans (rx j v hv)⟩
    have fin : Hid (∀ a3 : Act, ownPostG W4.heap.size (KpX (· = gb)) (fun pre V => V.heap[gb]? = some (.cells (crashRow (-1) bl pre) 30 (0, 0)) ∧ Keeps (· = gb) W4 V) (fun _ _ _ => False) (pre ++ [x]) V .normal a3 (V.drew.setRow gb (over (crashRow (-1) bl pre) (i * 128) x.2.2.toArray))) := fun a3 => by
      have kk : Keeps (· = gb) V (V.drew.setRow gb (over (crashRow (-1) bl pre) (i * 128) x.2.2.toArray)) := ((Keeps.refl (· = gb) V).drew).setRow (.inl rfl) _
      refine ⟨kk.from (fun k _ e => ⟨_, 30, (0, 0), e ▸ h1⟩), kk.kpx (fun k e => .inl e), ?_, h2.trans kk⟩
      rw [setRow_heap V.drew gb _ _ _ _ h1]
      have hcut : cutOf (-1) x.1 = 128 := by unfold cutOf; rw [if_neg (by omega)]
      simp [crashRow, crashStep, hi, hcut, List.take_of_length_le (Nat.le_of_eq hok.1)]
    have hS0 : V.drew.cell? ⟨w.heap.size, 0, none⟩ = some (.pointer (some ⟨p, 0, none⟩)) ∧ V.drew.cell? ⟨p, 0, none⟩ = some (.slice (some ⟨gb, 0, none⟩) n n) ∧ V.drew.cell? ⟨b, 0, none⟩ = some (.int .i64 (i : Int)) ∧ V.drew.rangeAt b 1 x.2.2 := ⟨c0, cp, cx, rx⟩
    clear hx hin hrow hpl hok hi hm q0 q1 hD hB hbl hL hmul hsR
    gi_wp2
    refine region_round (fun w' => w'.cell? ⟨w.heap.size, 0, none⟩ = some (.pointer (some ⟨p, 0, none⟩)) ∧ w'.cell? ⟨p, 0, none⟩ = some (.slice (some ⟨gb, 0, none⟩) n n) ∧ w'.cell? ⟨b, 0, none⟩ = some (.int .i64 (i : Int)) ∧ w'.rangeAt b 1 x.2.2) (by kernel_rfl) (by kernel_rfl) (by rintro ⟨_, _, h⟩; exact h) ?_
    refine wpAnyH_take (i := 0) (v := (.pointer (some ⟨p, 0, none⟩))) rfl (by kernel_rfl) (by kernel_rfl) (by kernel_rfl) (fun _ _ _ h => h) (Or.inl ⟨by rfl, ?_⟩) hS0 ?_
    · intro w' hSw; obtain ⟨s0, s1, s2, s3⟩ := hSw; go_simp
    try simp only [Act.put, List.setIfInBounds_toArray, List.set_cons_zero, List.set_cons_succ]
    refine wpAnyH_take (i := 1) (v := (.pointer (some ⟨p, 0, none⟩))) rfl (by kernel_rfl) (by kernel_rfl) (by kernel_rfl) (fun _ _ _ h => h) (Or.inl ⟨by rfl, ?_⟩) hS0 ?_
    · intro w' hSw; obtain ⟨s0, s1, s2, s3⟩ := hSw; go_simp
    try simp only [Act.put, List.setIfInBounds_toArray, List.set_cons_zero, List.set_cons_succ]
    refine wpAnyH_take (i := 2) (v := (.pointer (some ⟨p, 0, none⟩))) rfl (by kernel_rfl) (by kernel_rfl) (by kernel_rfl) (fun _ _ _ h => h) (Or.inl ⟨by rfl, ?_⟩) hS0 ?_
    · intro w' hSw; obtain ⟨s0, s1, s2, s3⟩ := hSw; go_simp
    try simp only [Act.put, List.setIfInBounds_toArray, List.set_cons_zero, List.set_cons_succ]
    refine wpAnyH_take (i := 3) (v := (.slice (some ⟨gb, 0, none⟩) n n)) rfl (by kernel_rfl) (by kernel_rfl) (by kernel_rfl) (fun _ _ _ h => h) (Or.inl ⟨by rfl, ?_⟩) hS0 ?_
    · intro w' hSw; obtain ⟨s0, s1, s2, s3⟩ := hSw; go_simp
    try simp only [Act.put, List.setIfInBounds_toArray, List.set_cons_zero, List.set_cons_succ]
    refine wpAnyH_take (i := 4) (v := (.pointer (some ⟨b, 0, none⟩))) rfl (by kernel_rfl) (by kernel_rfl) (by kernel_rfl) (fun _ _ _ h => h) (Or.inl ⟨by rfl, ?_⟩) hS0 ?_
    · intro w' hSw; obtain ⟨s0, s1, s2, s3⟩ := hSw; go_simp
    try simp only [Act.put, List.setIfInBounds_toArray, List.set_cons_zero, List.set_cons_succ]
    refine wpAnyH_take (i := 5) (v := (.int .i64 (i : Int))) rfl (by kernel_rfl) (by kernel_rfl) (by kernel_rfl) (fun _ _ _ h => h) (Or.inl ⟨by rfl, ?_⟩) hS0 ?_
    · intro w' hSw; obtain ⟨s0, s1, s2, s3⟩ := hSw; go_simp
    try simp only [Act.put, List.setIfInBounds_toArray, List.set_cons_zero, List.set_cons_succ]
    refine wpAnyH_take (i := 6) (v := (.pointer (some ⟨b, 1, none⟩))) rfl (by kernel_rfl) (by kernel_rfl) (by kernel_rfl) (fun _ _ _ h => h) (Or.inl ⟨by rfl, ?_⟩) hS0 ?_
    · intro w' hSw; obtain ⟨s0, s1, s2, s3⟩ := hSw; go_simp
    try simp only [Act.put, List.setIfInBounds_toArray, List.set_cons_zero, List.set_cons_succ]
    refine wpAnyH_take (i := 7) (v := .agg x.2.2.toArray) rfl (by kernel_rfl) (by kernel_rfl) (by kernel_rfl) (fun _ _ _ h => h) (yieldsIf_load_mid (by rfl) 30 (.tmp 23) rfl b 1 (by simp [Act.eval]) x.2.2 _ (fun w' h => h.2.2.2) Tryd.underlying30 rfl hi37) hS0 ?_
    try simp only [Act.put, List.setIfInBounds_toArray, List.set_cons_zero, List.set_cons_succ]
    refine wpAnyH_take (i := 8) (v := (.pointer (some ⟨gb, i * 128, none⟩))) rfl (by kernel_rfl) (by kernel_rfl) (by kernel_rfl) (fun _ _ _ h => h) (Or.inl ⟨by rfl, ?_⟩) hS0 ?_
    · intro w' hSw; obtain ⟨s0, s1, s2, s3⟩ := hSw; go_simp
    try simp only [Act.put, List.setIfInBounds_toArray, List.set_cons_zero, List.set_cons_succ]
    refine held_store37 (i := 9) (by kernel_rfl) rfl rfl (.tmp 25) (.tmp 24) rfl gb (i * 128) x.2.2.toArray (by simp [Act.eval]) (by simp [Act.eval]) (crashRow (-1) bl pre) 30 h1 fit hsz2 hone (kS.out _) (wpAnyH_done (by kernel_rfl) ?_ _)
    clear hsz
    gi_wp2
    exact fin.out _
  case done =>
    rintro D V hD' ⟨h1, h2⟩ hd
    have e0 : V.heap[w.heap.size]? = some (.cells #[.pointer (some ⟨p, 0, none⟩)] 45 (0, 0)) := (h2.block _ (by omega) (by omega)).trans g0
    have eD := hD4.kept h2 hpg
    have c0 : V.cell? ⟨w.heap.size, 0, none⟩ = some (.pointer (some ⟨p, 0, none⟩)) := by simp [World.cell?, e0]
    have d1 := eD.cells.2.1
    have f1 := eD.free 1
    clear hin hrow
    gi_wp2
    obtain ⟨V3, hV3⟩ : ∃ V3, V.setCell ⟨p, 1, none⟩ (.slice none 0 0) = V3 := ⟨_, rfl⟩
    rw [hV3]
    have kp : Keeps (· = p) V V3 := by rw [← hV3]; exact (Keeps.refl _ _).at 1 _
    have dp : DiskAt V3 p (.slice (some ⟨gb, 0, none⟩) n n) (.slice none 0 0) (burnt F) false (dc + 1) := by rw [← hV3]; exact eD.set1 _
    have hd3 : V3.heap[D]? = some (.deferred (some [])) := (kp.block D (Array.getElem?_eq_some_iff.1 hd).1 (by omega)).trans hd
    refine ⟨by simp, .inl ⟨_, _, rfl, run_takeDeferred hd3, ?_⟩⟩
    have kD : Keeps (fun k => k = p ∨ k = gb) W4 (V3.putObj D (.deferred none)) := ((h2.mono (fun k _ e => .inr e)).trans (kp.mono (fun k _ e => .inl e))).grown (grownBy_putObj' _ D _) (fun k e => by cases e; exact .inr hD')
    refine ⟨_, results_tmp rfl _ _ _, rfl, ?_, ?_, (k4.mono (fun _ _ h => .inl h)).trans kD⟩
    · exact (World.putObj_heap_other (by omega)).trans dp
    · rw [World.putObj_heap_other (by omega)]
      exact (kp.block gb (Array.getElem?_eq_some_iff.1 h1).1 (fun e => hpg e.symm)).trans h1
  case stop =>
    rintro D c pre x rest V hD' hx h hd
    exact h.elim
end

/-! DRi: The iterator over a slice of loose writes from its end. -/
section
open Go.RowKit Go.Shelf
attribute [local go_sem] Oper.semAt_some

theorem idx_back {ws : List LW} {pre : List (Nat × LW)} {x : Nat × LW} {rest : List (Nat × LW)} (h : (idx ws).reverse = pre ++ x :: rest) :
    x.1 + 1 + pre.length = ws.length ∧ ws = ws.take x.1 ++ x.2 :: ws.drop (x.1 + 1) := by
  have h' : idx ws = rest.reverse ++ x :: pre.reverse := by
    have := congrArg List.reverse h
    simpa using this
  obtain ⟨h1, h2, h3⟩ := idx_split h'
  have hl : (idx ws).length = ws.length := by simp [idx]
  have hl' := congrArg List.length h'
  simp at hl' h1 h2 h3
  rw [h1]
  exact ⟨by omega, by simpa using h2⟩

set_option maxRecDepth 100000 in
set_option maxHeartbeats 1000000 in
theorem backward1 (S : Nat → Prop) (w : World) (bx : Nat) (vl : Value) (ws : List LW) (hbx : w.heap[bx]? = some (.cells #[vl] 86 (0, 0)))
    (hL : LooseAt w vl ws) (hlen : ws.length < 1000000) (hS : ∀ g, vl.ownBlock = some g → ¬ S g) (hSb : ¬ S bx) :
    SeqO Tryd.prog 68 #[.pointer (some ⟨bx, 0, none⟩)] encW (KpX S) (idx ws).reverse w := by
  intro l n J Jx W hW hJ hJx hY h0
  have hbl : bx < w.heap.size := (Array.getElem?_eq_some_iff.1 hbx).1
  have hbW : W.heap[bx]? = some (.cells #[vl] 86 (0, 0)) := (hW.block bx hbl).trans hbx
  have hLW : LooseAt W vl ws := hL.kept ⟨hW.size, fun g e => hW.block g (hL.lt g e)⟩
  have cb : W.cell? ⟨bx, 0, none⟩ = some vl := by simp [World.cell?, hbW]
  rcases hLW.form with ⟨rfl, rfl⟩ | ⟨g, cap, cur, rfl, hg, hpart⟩
  · refine callsIn_of_wp Tryd.func68 rfl trivial ?_ rfl
    simp only [Tryd.ntmps68, List.size_toArray, List.length_cons, List.length_nil, Nat.reduceAdd, Nat.reduceSub, Array.replicate_succ, Array.replicate_zero, List.push_toArray, List.append_toArray, List.nil_append, List.cons_append]
    gi_wp2
    gi_loopw [3] (fun i wr => i = .int .i64 (-1) ∧ J [] wr) (fun _ _ => 0)
    case atStart => exact ⟨rfl, h0⟩
    case round =>
      obtain ⟨rfl, hj⟩ := hrel
      gi_wp2
      go_end0
      exact ⟨⟨_, rfl⟩, .inl hj⟩
  · refine callsIn_of_wp Tryd.func68 rfl trivial ?_ rfl
    simp only [Tryd.ntmps68, List.size_toArray, List.length_cons, List.length_nil, Nat.reduceAdd, Nat.reduceSub, Array.replicate_succ, Array.replicate_zero, List.push_toArray, List.append_toArray, List.nil_append, List.cons_append]
    gi_wp2
    gi_loopw [3] (fun i wr => ∃ pre rest, ∃ j : Nat, (idx ws).reverse = pre ++ rest ∧ j + pre.length = ws.length ∧ i = .int .i64 ((j : Int) - 1) ∧ J pre wr ∧ wr.heap[g]? = some (.cells cur 93 (0, 0)) ∧ wr.heap[bx]? = some (.cells #[.slice (some ⟨g, 0, none⟩) ws.length cap] 86 (0, 0))) (fun i _ => (intOf i + 1).toNat)
    case atStart => exact ⟨[], (idx ws).reverse, ws.length, rfl, by simp, rfl, h0, hg, hbW⟩
    case round =>
      obtain ⟨pre, rest, j, hx, hjl, rfl, hj, hgr, hbr⟩ := hrel
      have hil : (idx ws).reverse.length = ws.length := by simp [idx]
      cases rest with
      | nil =>
        have hj0 : j = 0 := by
          have := congrArg List.length hx
          simp at this hil; omega
        subst hj0
        have Hx : Hid ((idx ws).reverse = pre ++ []) := hx
        clear hx hil hjl
        gi_wp2
        go_end0
        refine ⟨⟨_, rfl⟩, .inl ?_⟩
        rw [Hx.out, List.append_nil]
        exact hj
      | cons x rest =>
        obtain ⟨hx1, hx2⟩ := idx_back hx
        obtain rfl : j = x.1 + 1 := by omega
        rw [show (((x.1 + 1 : Nat) : Int) - 1) = (x.1 : Int) by omega]
        have hlt' : (x.1 : Int) < (ws.length : Int) := by omega
        have hp0 : (0 : Int) ≤ (x.1 : Int) := by omega
        have hce : cellsAt wr g (x.1 * 129) 129 = (lcells x.2).toArray := by
          rw [cellsAt, rowOf_of hgr]
          have := hpart (ws.take x.1) x.2 _ hx2
          rwa [List.length_take, Nat.min_eq_left (by omega)] at this
        have hok : LwOk x.2 := hL.ok x.2 (by rw [hx2]; simp)
        have hsl : (lcells x.2).toArray.size = 129 := by simp [length_lcells hok]
        have cbr : wr.cell? ⟨bx, 0, none⟩ = some (.slice (some ⟨g, 0, none⟩) ws.length cap) := by simp [World.cell?, hbr]
        obtain ⟨fn, tmps, assign, body, hy, hR⟩ := hY pre x rest wr hx hj
        have he : encW x = #[.int .i64 (x.1 : Int), .agg (lcells x.2).toArray] := rfl
        rw [he] at hy
        have Hx : Hid ((idx ws).reverse = pre ++ x :: rest) := hx
        have Hjl : Hid (x.1 + 1 + pre.length = ws.length) := hx1
        clear hx hx1 hx2 hil hjl he hY hpart hbx hbW cb h0 hok
        gi_wp2_with (refine wpListIn_load_cells rfl 93 _ rfl g (x.1 * 129) rfl 129 (lcells x.2).toArray hce hsl _ Tryd.underlying93 rfl size65 ?_)
        refine ⟨fun h => by (cases h), hR.mono ?_⟩
        rintro e W3 ⟨hkf3, (⟨rfl, hJ3, hk3⟩ | ⟨rfl, hJx3⟩)⟩
        · gi_wp2
          go_roundw
          case rel => exact ⟨pre ++ [x], rest, x.1, by simp [Hx.out], by have := Hjl.out; simp; omega, by simp, hJ3, hk3.2 g _ _ _ hgr (hS g rfl), hk3.2 bx _ _ _ hbr hSb⟩
          case measure => simp [intOf]
        · gi_wp2
          refine bodyPost_ret (results_none rfl _ _ _) rfl ?_
          exact ⟨⟨_, rfl⟩, .inr ⟨pre, x, rest, Hx.out, hJx3⟩⟩
end

/-! DRj: Read, where it comes to the loop. -/
section
open Go.RowKit Go.Shelf
attribute [local go_sem] Oper.semAt_some
attribute [local go_sem ↓] Go.wp_at_zero Go.wp_at_succ wp_load37 wp_store37
attribute [local go_sem] addrOf aggOf cellsAt_drew

theorem back_any (w : World) (vl : Value) (h1 : vl.oneCell' = true) : Calls Tryd.prog 62 #[vl] w fun e w' => e = .returned (.func (.func 68) #[] #[.pointer (some ⟨w.heap.size, 0, none⟩)]) ∧ w' = w.alloc (.cells #[vl] 86) := by
  have hc : vl.cells = #[vl] := by cases vl <;> first | rfl | simp [Value.oneCell'] at h1
  go_enter Tryd.func62, Tryd.ntmps62
  go_wp2
  go_ret
  exact ⟨rfl, rfl⟩

/-- What is read of block i: the last loose write's, else what lasts. -/
def ReadVal (ws : List LW) (bl : Array Value) (i : Nat) (v : Array Value) : Prop :=
  (∃ pre x rest, (idx ws).reverse = pre ++ x :: rest ∧ (∀ y ∈ pre, y.2.1 ≠ (i : Int)) ∧ x.2.1 = (i : Int) ∧ v = x.2.2.toArray) ∨
  ((∀ y ∈ ws, y.1 ≠ (i : Int)) ∧ v = bl.extract (i * 128) (i * 128 + 128))

set_option maxRecDepth 100000 in
set_option maxHeartbeats 1000000 in
theorem read_ok (w : World) (p gb n : Nat) (vl : Value) (F dc : Int) (ws : List LW) (bl : Array Value) (hD : DiskAt w p (.slice (some ⟨gb, 0, none⟩) n n) vl F false dc) (hB : w.heap[gb]? = some (.cells bl 30 (0, 0))) (hbl : bl.size = n * 128) (h1b : bl.all (·.oneCell') = true)
    (hL : LooseAt w vl ws) (hlen : ws.length < 1000000) (i : Nat) (hi : i < n) :
    Calls Tryd.prog 56 #[.pointer (some ⟨p, 0, none⟩), .int .i64 (i : Int)] w fun e w' => (∃ v, e = .returned (.tuple #[.agg v, .int .i64 0]) ∧ ReadVal ws bl i v) ∧ Keeps (fun _ => False) w w' := by
  refine (callsIn_wide (n := 9)).1 ?_
  refine callsIn_of_wp_marks Tryd.func56 rfl trivial ?_ rfl
  simp only [Tryd.ntmps56, List.size_toArray, List.length_cons, List.length_nil, Nat.reduceAdd, Nat.reduceSub, Array.replicate_succ, Array.replicate_zero, List.push_toArray, List.append_toArray, List.nil_append, List.cons_append]
  have hz := zero37
  have h0 : ¬ (i : Int) < 0 := by omega
  have h0b : decide ((i : Int) < 0) = false := by simp
  have hn' : ¬ (n : Int) ≤ (i : Int) := by omega
  have hnb : decide ((n : Int) ≤ (i : Int)) = false := by simpa using hi
  have hv1 : vl.oneCell' = true := by rcases hL.form with ⟨rfl, _⟩ | ⟨g, cap, cur, rfl, _⟩ <;> rfl
  gi_wp2
  obtain ⟨W0, hW0⟩ : ∃ W0, ((w.alloc (.cells #[.int .i64 (i : Int)] 3)).alloc (.cells (fill 0) 30)).alloc (.cells #[.int .i64 0] 31) = W0 := ⟨_, rfl⟩
  rw [hW0]
  obtain ⟨g0, g1, g2, hsz, hK⟩ := allocs3 w W0 _ _ _ hW0
  clear hW0
  have c0 : W0.cell? ⟨w.heap.size, 0, none⟩ = some (.int .i64 (i : Int)) := by simp [World.cell?, g0]
  have hD0 : DiskAt W0 p (.slice (some ⟨gb, 0, none⟩) n n) vl F false dc := hD.kept hK (fun h => h)
  have c3 := hD0.cells.2.2.2.1
  have c1 := hD0.cells.2.1
  refine wpIn_wide.2 ?_
  go_quiet ((go_at_call 39; exact Calls.quiet_of_same (len_any _ p _ n n vl F false dc (by simpa [DiskAt] using hD0))))
  obtain ⟨W1, hW1⟩ : ∃ W1, W0.drewN nq = W1 := ⟨_, rfl⟩
  rw [hW1]
  have hh : W1.heap = W0.heap := by rw [← hW1]; rfl
  have c0 : W1.cell? ⟨w.heap.size, 0, none⟩ = some (.int .i64 (i : Int)) := by simp [World.cell?, hh, g0]
  have hD1 : DiskAt W1 p (.slice (some ⟨gb, 0, none⟩) n n) vl F false dc := by unfold DiskAt; rw [hh]; exact hD0
  have c3 := hD1.cells.2.2.2.1
  have c1 := hD1.cells.2.1
  have hK1 : Keeps (fun _ => False) w W1 := by rw [← hW1]; exact hK.drewN _
  gi_wp2_with (refine ⟨trivial, ?_⟩; gi_at_call 62; refine (callsIn_wide.2 (back_any W1 vl hv1)).mono ?_; rintro e w' ⟨rfl, rfl⟩)
  obtain ⟨W2, hW2⟩ : ∃ W2, W1.alloc (.cells #[vl] 86) = W2 := ⟨_, rfl⟩
  rw [hW2]
  have hs1 : W1.heap.size = w.heap.size + 3 := by rw [hh]; exact hsz
  have hs2 : W2.heap.size = w.heap.size + 4 := by rw [← hW2]; simp [hs1]
  have hbx : W2.heap[w.heap.size + 3]? = some (.cells #[vl] 86 (0, 0)) := by rw [← hW2, ← hs1]; exact heap_alloc2_x W1 _
  have hK2 : Keeps (fun _ => False) w W2 := by rw [← hW2]; exact hK1.alloc _
  have b0 : W2.heap[w.heap.size]? = some (.cells #[.int .i64 (i : Int)] 3 (0, 0)) := by rw [← hW2, Below.heap_alloc _ _ _ (by omega), hh]; exact g0
  have b1 : W2.heap[w.heap.size + 1]? = some (.cells (fill 0) 30 (0, 0)) := by rw [← hW2, Below.heap_alloc _ _ _ (by omega), hh]; exact g1
  have b2 : W2.heap[w.heap.size + 1 + 1]? = some (.cells #[.int .i64 0] 31 (0, 0)) := by rw [← hW2, Below.heap_alloc _ _ _ (by omega), hh]; exact g2
  have hL2 : LooseAt W2 vl ws := hL.kept ⟨hK2.size, fun g e => hK2.block g (hL.lt g e) (fun h => h)⟩
  have hD2 : DiskAt W2 p (.slice (some ⟨gb, 0, none⟩) n n) vl F false dc := hD.kept hK2 (fun h => h)
  have hB2 : W2.heap[gb]? = some (.cells bl 30 (0, 0)) := (hK2.block gb (Array.getElem?_eq_some_iff.1 hB).1 (fun h => h)).trans hB
  have hvlt : ∀ g, vl.ownBlock = some g → g < w.heap.size := hL.lt
  clear hW2 hW1 hh hD0 hD1 c0 c1 c3 g0 g1 g2 hK hK1
  refine range_law (gf := 68) (lb := #[.pointer (some ⟨w.heap.size + 3, 0, none⟩)]) rfl (enters_of Tryd.func68 (by kernel_rfl) rfl) (backward1 (fun _ => False) W2 (w.heap.size + 3) vl ws hbx hL2 hlen (fun _ _ h => h) (fun h => h)) ?hKt ?hKb (Below.refl _ _) (fun _ => rfl)
    (fun pre W => (∀ y ∈ pre, y.2.1 ≠ (i : Int)) ∧ Keeps (fun _ => False) W2 W)
    (fun c pre W => c = .ret ∧ ∃ pr x, pre = pr ++ [x] ∧ (∀ y ∈ pr, y.2.1 ≠ (i : Int)) ∧ x.2.1 = (i : Int) ∧ W.heap[w.heap.size + 1]? = some (.cells x.2.2.toArray 30 (0, 0)) ∧ W.heap[w.heap.size + 1 + 1]? = some (.cells #[.int .i64 0] 31 (0, 0)) ∧ Keeps (fun k => k = w.heap.size + 1 ∨ k = w.heap.size + 1 + 1) W2 W)
    ?hI ?hIx ⟨by simp, Keeps.refl _ _⟩
    (fun pre x a' W => (∀ y ∈ pre, y.2.1 ≠ (i : Int)) ∧ Keeps (fun _ => False) W2 W ∧ ∃ b u14 u15, W2.heap.size ≤ b ∧ W.heap[b]? = some (.cells (lcells x.2).toArray 93 (0, 0)) ∧ a' = { tmps := #[Value.pointer (some { block := p, off := 0 }), Value.int IntKind.i64 ↑i, undef, Value.pointer (some { block := w.heap.size, off := 0 }), Value.pointer (some { block := w.heap.size + 1, off := 0 }), Value.pointer (some { block := w.heap.size + 1 + 1, off := 0 }), undef, .pointer (some ⟨b, 0, none⟩), Value.int IntKind.i64 ↑i, Value.bool false, Value.bool false, Value.int IntKind.i64 ↑i, Value.pointer (some { block := p, off := 0 }), Value.int IntKind.i64 ↑n, u14, u15, undef, Value.pointer (some { block := p, off := 0 }), Value.pointer (some { block := p, off := 0 }), Value.pointer (some { block := p, off := 3 }), Value.bool false, undef, Value.pointer (some { block := p, off := 0 }), Value.pointer (some { block := p, off := 0 }), Value.pointer (some { block := p, off := 1 }), vl, .func (.func 68) #[] #[.pointer (some ⟨w.heap.size + 3, 0, none⟩)], .int .i64 (x.1 : Int), .agg (lcells x.2).toArray, undef, undef, undef, undef, undef, undef, undef, undef, undef, undef, undef, undef, undef], defers := [] }) ?hAx ?assign ?body ?done ?stop
  case hKt => exact fun h1 h2 => h1.trans h2
  case hKb => exact fun W l o o' _ ho hc => KpX.putObj o' ho hc
  case hI =>
    rintro s A B row ⟨h1, h2⟩ hg hr
    exact ⟨h1, own_keeps hg hr h2 (Nat.le_refl _)⟩
  case hIx =>
    rintro c s A B row ⟨h1, pr, x, h2, h3, h4, h5, h6, h7⟩ hg hr
    exact ⟨h1, pr, x, h2, h3, h4, own_cells hg hr h5, own_cells hg hr h6, own_keeps hg hr h7 (Nat.le_refl _)⟩
  case hAx =>
    rintro pre x a' _ A B row ⟨h1, h2, b, u14, u15, h3, h4, h5⟩ hg hr
    exact ⟨h1, own_keeps hg hr h2 (Nat.le_refl _), b, u14, u15, h3, own_cells hg hr h4, h5⟩
  case assign =>
    rintro l pre x rest W K hx ⟨h1, h2⟩ hK'
    have hok : LwOk x.2 := hL2.ok x.2 (by rw [(idx_back hx).2]; simp)
    have hsl : (lcells x.2).toArray.size = 129 := by simp [length_lcells hok]
    have hone : (lcells x.2).toArray.all (·.oneCell') = true := all_oneCell_toArray (one_lcells hok)
    have hi65 : (Tryd.prog.info? 93).map (·.size) = some (lcells x.2).toArray.size := by rw [hsl]; exact size65
    have hzs : wzero.size = (lcells x.2).toArray.size := by rw [hsl]; exact size_wzero
    have hz65 := zero65
    have Hx : Hid ((idx ws).reverse = pre ++ x :: rest) := hx
    have HK : Hid (∀ a' W', _ → _ → _ → K a' W') := hK'
    clear hx hK' hok hsl
    simp only [encW]
    gi_wp2_with (refine wpListIn_store_row rfl 93 _ _ rfl W.heap.size rfl (lcells x.2).toArray rfl 93 wzero (heap_alloc2_x W _) hi65 hzs hone ?_; intro w1 n1 k1 z1)
    have k0 : Keeps (fun _ => False) W w1 := ((Keeps.refl _ _).alloc _).trans' k1 (fun k e => .inr (by omega))
    refine HK.out _ _ (k0.from (fun _ _ h => h.elim)) (k0.kpx (fun _ h => h.elim)) ⟨h1, h2.trans k0, W.heap.size, _, _, h2.size, n1, rfl⟩
  case body =>
    rintro l pre x rest a' W hl hx ⟨h1, h2, b, u14, u15, h3, h4, rfl⟩
    have hok : LwOk x.2 := hL2.ok x.2 (by rw [(idx_back hx).2]; simp)
    have e0 : W.heap[w.heap.size]? = some (.cells #[.int .i64 (i : Int)] 3 (0, 0)) := (h2.block _ (by omega) (fun h => h)).trans b0
    have e1 : W.heap[w.heap.size + 1]? = some (.cells (fill 0) 30 (0, 0)) := (h2.block _ (by omega) (fun h => h)).trans b1
    have e2 : W.heap[w.heap.size + 1 + 1]? = some (.cells #[.int .i64 0] 31 (0, 0)) := (h2.block _ (by omega) (fun h => h)).trans b2
    have c0 : W.cell? ⟨w.heap.size, 0, none⟩ = some (.int .i64 (i : Int)) := by simp [World.cell?, e0]
    have cx : W.cell? ⟨b, 0, none⟩ = some (.int .i64 x.2.1) := by simp [World.cell?, h4, lcells]
    by_cases hc : x.2.1 = (i : Int)
    · have hcb : (x.2.1 == (i : Int)) = true := by simpa using hc
      have hce : cellsAt W b 1 128 = x.2.2.toArray := by
        rw [cellsAt, rowOf_of h4]
        apply Array.toList_inj.1
        simp [lcells, List.take_of_length_le (Nat.le_of_eq hok.1)]
      have hsl : x.2.2.toArray.size = 128 := by simp [hok.1]
      have hone : x.2.2.toArray.all (·.oneCell') = true := all_oneCell_toArray hok.2
      have hi37 : (Tryd.prog.info? 30).map (·.size) = some x.2.2.toArray.size := by rw [hsl]; exact size37
      have hzs : (fill 0).size = x.2.2.toArray.size := by rw [hsl]; exact size_fill 0
      have Hx : Hid ((idx ws).reverse = pre ++ x :: rest) := hx
      have Hc : Hid (x.2.1 = (i : Int)) := hc
      clear hx hc hok
      gi_wp2_with (first | (refine wpListIn_load_cells rfl 30 _ rfl b 1 rfl 128 x.2.2.toArray hce hsl _ Tryd.underlying30 rfl size37 ?_) | (refine wpListIn_store_row rfl 30 _ _ rfl (w.heap.size + 1) rfl x.2.2.toArray rfl 30 (fill 0) e1 hi37 hzs hone ?_; intro w1 n1 k1 z1; have n2 : w1.heap[w.heap.size + 1 + 1]? = some (.cells #[.int .i64 0] 31 (0, 0)) := (k1.block _ (Array.getElem?_eq_some_iff.1 e2).1 (by omega)).trans e2; have c2 : w1.cell? ⟨w.heap.size + 1 + 1, 0, none⟩ = some (.int .i64 0) := (by simp [World.cell?, n2]); have f2 := frozen_of_row w1 _ 0 _ _ n2))
      have kk : Keeps (fun k => k = w.heap.size + 1 ∨ k = w.heap.size + 1 + 1) W (w1.setCell ⟨w.heap.size + 1 + 1, 0, none⟩ (.int .i64 0)) := (k1.mono (fun k _ e => .inl e)).setCell (p := ⟨w.heap.size + 1 + 1, 0, none⟩) (.inl (.inr rfl)) _
      refine ⟨kk.from (fun k hk e => by omega), rfl, pre, x, rfl, h1, Hc.out, ?_, ?_, (h2.mono (fun _ _ h => h.elim)).trans kk⟩
      · rw [heap_setCell_other _ _ _ _ (by simp)]; exact n1
      · rw [heap_setCell_same _ _ _ _ _ _ n2]; rfl
    · have hcb : (x.2.1 == (i : Int)) = false := by simpa using hc
      have Hc : Hid (x.2.1 ≠ (i : Int)) := hc
      clear hc hx hok
      gi_wp2
      refine ⟨KeepsFrom.refl _ _, KpX.refl _ _, ?_, h2⟩
      intro y hy
      rcases List.mem_append.1 hy with hy | hy
      · exact h1 y hy
      · obtain rfl : y = x := by simpa using hy
        exact Hc.out
  case done =>
    rintro D W hD' ⟨h1, h2⟩ hd
    have e0 : W.heap[w.heap.size]? = some (.cells #[.int .i64 (i : Int)] 3 (0, 0)) := (h2.block _ (by omega) (fun h => h)).trans b0
    have e1 : W.heap[w.heap.size + 1]? = some (.cells (fill 0) 30 (0, 0)) := (h2.block _ (by omega) (fun h => h)).trans b1
    have e2 : W.heap[w.heap.size + 1 + 1]? = some (.cells #[.int .i64 0] 31 (0, 0)) := (h2.block _ (by omega) (fun h => h)).trans b2
    have eB : W.heap[gb]? = some (.cells bl 30 (0, 0)) := (h2.block _ (Array.getElem?_eq_some_iff.1 hB2).1 (fun h => h)).trans hB2
    have eD : DiskAt W p (.slice (some ⟨gb, 0, none⟩) n n) vl F false dc := hD2.kept h2 (fun h => h)
    have c0 : W.cell? ⟨w.heap.size, 0, none⟩ = some (.int .i64 (i : Int)) := by simp [World.cell?, e0]
    have c2 : W.cell? ⟨w.heap.size + 1 + 1, 0, none⟩ = some (.int .i64 0) := by simp [World.cell?, e2]
    have f2 := frozen_of_row W _ 0 _ _ e2
    have cp := eD.cells.1
    have hi0 : (0 : Int) ≤ (i : Int) := by omega
    have hi1 : (i : Int) < (n : Int) := by omega
    obtain ⟨X, hX⟩ : ∃ X, X = bl.extract (i * 128) (i * 128 + 128) := ⟨_, rfl⟩
    have hXs : X.size = 128 := by
      have : (i + 1) * 128 ≤ n * 128 := Nat.mul_le_mul_right 128 hi
      rw [hX]; simp; omega
    have hX1 : X.all (·.oneCell') = true := by
      rw [Array.all_eq_true_iff_forall_mem] at h1b ⊢
      intro v hv
      rw [hX] at hv
      obtain ⟨j, hj, e⟩ := Array.mem_iff_getElem.1 hv
      rw [Array.getElem_extract] at e
      exact h1b v (e ▸ Array.getElem_mem _)
    have hX2 : AllOne X := hX1
    have hca : cellsAt W gb (i * 128) 128 = X := by rw [cellsAt, rowOf_of eB, hX]
    have fr : FreeRow W.drew (w.heap.size + 1) 128 := ⟨fill 0, 30, e1, size_fill 0⟩
    obtain ⟨W5, hW5⟩ : ∃ W5, W.drew.setRow (w.heap.size + 1) X = W5 := ⟨_, rfl⟩
    have k5 : Keeps (· = w.heap.size + 1) W W5 := by rw [← hW5]; exact ((Keeps.refl (· = w.heap.size + 1) W).drew).setRow (.inl rfl) _
    have n1 : W5.heap[w.heap.size + 1]? = some (.cells X 30 (0, 0)) := by rw [← hW5]; exact setRow_heap W.drew _ _ _ _ _ e1
    have n2 : W5.heap[w.heap.size + 1 + 1]? = some (.cells #[.int .i64 0] 31 (0, 0)) := (k5.block _ (Array.getElem?_eq_some_iff.1 e2).1 (by omega)).trans e2
    have c2' : W5.cell? ⟨w.heap.size + 1 + 1, 0, none⟩ = some (.int .i64 0) := by simp [World.cell?, n2]
    have f2' := frozen_of_row W5 _ 0 _ _ n2
    have HX : Hid (X = bl.extract (i * 128) (i * 128 + 128)) := hX
    clear hX
    gi_wp2
    refine wpIn_wide.2 ?_
    refine wp_region_noPanic ?_
    go_region_law (fail)
    all_goals refine NoPanic.normal ?_
    all_goals gi_wp2
    all_goals
      have hd5 : (W5.setCell ⟨w.heap.size + 1 + 1, 0, none⟩ (.int .i64 0)).heap[D]? = some (.deferred (some [])) := by
        rw [heap_setCell_other _ _ _ _ (by simp; omega)]
        exact (k5.block D (Array.getElem?_eq_some_iff.1 hd).1 (by omega)).trans hd
      refine ⟨by simp, .inl ⟨_, _, rfl, run_takeDeferred hd5, ?_⟩⟩
      have d1 : ((W5.setCell ⟨w.heap.size + 1 + 1, 0, none⟩ (.int .i64 0)).putObj D (.deferred none)).heap[w.heap.size + 1]? = some (.cells X 30 (0, 0)) := by
        rw [World.putObj_heap_other (by omega), heap_setCell_other _ _ _ _ (by simp)]; exact n1
      have d2 : ((W5.setCell ⟨w.heap.size + 1 + 1, 0, none⟩ (.int .i64 0)).putObj D (.deferred none)).heap[w.heap.size + 1 + 1]? = some (.cells #[.int .i64 0] 31 (0, 0)) := by
        rw [World.putObj_heap_other (by omega), heap_setCell_same _ _ _ _ _ _ n2]; rfl
      refine ⟨_, results_two_cells rfl _ _ (w.heap.size + 1) (w.heap.size + 1 + 1) X _ 30 31 rfl rfl (run_loadVar_row _ _ 30 30 _ (0, 0) _ d1 Tryd.underlying30 rfl (by rw [hXs]; exact size37)) (load_one _ _ _ _ d2), ⟨_, rfl, .inr ⟨?_, HX.out⟩⟩, ?_⟩
      · intro y hy
        obtain ⟨j, hj, e⟩ := List.mem_iff_getElem.1 hy
        refine h1 (j, y) (List.mem_reverse.2 ?_)
        simp only [idx, List.mem_map]
        exact ⟨(y, j), by rw [← e]; exact List.mk_mem_zipIdx_iff_getElem?.2 (by simp [hj]), rfl⟩
      · have kk : Keeps (fun k => k = w.heap.size + 1 ∨ k = w.heap.size + 1 + 1) W2 (W5.setCell ⟨w.heap.size + 1 + 1, 0, none⟩ (.int .i64 0)) := ((h2.mono (fun _ _ h => h.elim)).trans (k5.mono (fun k _ e => .inl e))).setCell (p := ⟨w.heap.size + 1 + 1, 0, none⟩) (.inl (.inr rfl)) _
        exact hK2.trans' (kk.grown (grownBy_putObj' _ D _) (fun k e => by cases e; exact .inr hD')) (fun k e => .inr (by omega))
  case stop =>
    rintro D c pre x rest W hD' hx ⟨rfl, pr, y, hp, h3, h4, h5, h6, h7⟩ hd
    obtain ⟨rfl, rfl⟩ : pre = pr ∧ x = y := by simpa using List.append_inj' hp rfl
    have hok : LwOk x.2 := hL2.ok x.2 (by rw [(idx_back hx).2]; simp)
    have hsl : x.2.2.toArray.size = 128 := by simp [hok.1]
    have hi37 : (Tryd.prog.info? 30).map (·.size) = some x.2.2.toArray.size := by rw [hsl]; exact size37
    gi_wp2
    refine ⟨by simp, .inl ⟨_, _, rfl, run_takeDeferred hd, ?_⟩⟩
    have d1 : (W.putObj D (.deferred none)).heap[w.heap.size + 1]? = some (.cells x.2.2.toArray 30 (0, 0)) := (World.putObj_heap_other (by omega)).trans h5
    have d2 : (W.putObj D (.deferred none)).heap[w.heap.size + 1 + 1]? = some (.cells #[.int .i64 0] 31 (0, 0)) := (World.putObj_heap_other (by omega)).trans h6
    refine ⟨_, results_two_cells rfl _ _ (w.heap.size + 1) (w.heap.size + 1 + 1) x.2.2.toArray _ 30 31 rfl rfl (run_loadVar_row _ _ 30 30 _ (0, 0) _ d1 Tryd.underlying30 rfl hi37) (load_one _ _ _ _ d2), ⟨_, rfl, .inl ⟨pre, x, rest, hx, h3, h4, rfl⟩⟩, ?_⟩
    refine (hK2.trans' (h7.grown (grownBy_putObj' W D _) (fun k e => by cases e; exact .inr hD')) (fun k e => .inr (by omega)))
end

end Go.Proofs.YtdgnjpdjohibeaaDoor
