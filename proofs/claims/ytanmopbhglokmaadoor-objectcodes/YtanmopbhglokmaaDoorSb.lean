
/-
  stir: the walk.
-/
import Derived.Test.YtanmopbhglokmaaDoorSa
set_option linter.all false
namespace Go.Proofs.YtanmopbhglokmaaDoor
open Go.RowKit

/-- A whole row is stored over a row that is known whole; the world behind it is a letter. -/
theorem wpList_store_row {ops : Array Oper} {rest : List Oper} {o : Oper} {a : Act} {w : World} {Q : Exit → Act → World → Prop} (hgd : o.guard = none) (hdst : o.dst = none) (ty : TypeId) (x y : Operand) (ho : o.op = .store ty x y)
    (g : Nat) (hx : a.eval x = .pointer (some ⟨g, 0, none⟩)) (new : Array Value) (hy : a.eval y = .agg new) (t : TypeId) (old : Array Value) (hg : w.heap[g]? = some (.cells old t (0, 0)))
    (hi : (Tryd.prog.info? ty).map (·.size) = some new.size) (hs : old.size = new.size) (h1 : new.all (·.oneCell') = true)
    (h : ∀ w', w'.heap[g]? = some (.cells new t (0, 0)) → Keeps (· = g) w w' → w'.heap.size = w.heap.size → wpList Tryd.prog ops Q rest a w') : wpList Tryd.prog ops Q (o :: rest) a w :=
  wpList_store_all hgd ty x y ho g hx new hy t old hg hi hs h1 (by rw [hdst]; exact h _ (setRow_heap w g _ _ _ _ hg) ((Keeps.refl (· = g) w).setRow (.inl rfl) _) (by simp))

set_option maxRecDepth 100000 in
set_option maxHeartbeats 4000000 in
theorem stir20 (w : World) (p b o c : Nat) (s : St) (rest : List B) (t : Int) (blk : List B) (hS : StAt w p s.toL rest t) (hT : Tabs w) (hp : 1 < p) (hn : blk.length = 64) (hc : 64 ≤ c) (hl : BytesAt w b o blk) :
    Calls Tryd.prog 31 #[.pointer (some ⟨p, 0, none⟩), .slice (some ⟨b, o, none⟩) 64 c] w fun e w' => e = .returned (.tuple #[]) ∧ StAt w' p (s.comp blk).toL rest t ∧ Keeps (· = p) w w' := by
  have hz := zero57
  have hs1 : (Tryd.prog.info? 80).map (·.size) = some (wrow (sw blk 64)).size := by rw [size_wrow, sw_len]; exact size57
  have hs2 : (wrow (pad [])).size = (wrow (sw blk 64)).size := by rw [size_wrow, size_wrow, sw_len]; rfl
  have hone := wrow_one (sw blk 64)
  go_enter Tryd.func31, Tryd.ntmps31
  go_wp2_with (first | (go_at_call 36; refine (spread26 _ b o c blk hn hc hl).mono ?_; rintro e w1 ⟨rfl, hk1⟩) | (refine wpList_store_row rfl rfl 80 _ _ rfl w1.heap.size rfl (wrow (sw blk 64)) rfl 80 (wrow (pad [])) (heap_alloc_new _ _) hs1 hs2 hone ?_; intro w2 g2 hk2 hz2))
  have hk02 : Keeps (fun _ => False) w w2 := (hk1.alloc _).trans' hk2 (fun i e => .inr (by have := hk1.size; omega))
  have hS2 := hS.keeps hk02 (fun h => h)
  have hT2 := hT.keeps hk02 (fun h => h) (fun h => h)
  have hcw : ∀ j, j < 64 → w2.cell? ⟨w1.heap.size, j, none⟩ = some (.int .u32 (nw ((sw blk 64).getD j 0))) := fun j hj => by
    rw [cell_of_row w2 _ j _ _ _ g2, wrow_get]
    have : j < (sw blk 64).length := by rw [sw_len]; exact hj
    simp [this, vw]
  have hck : ∀ j, j < 64 → w2.cell? ⟨1, j, none⟩ = some (.int .u32 (nw (kk.getD j 0))) := fun j hj => by
    have : j < kk.length := hj
    exact hT2.roots j _ (by simp [this])
  have hlw := sw_len blk 64
  have hpq : p < w1.heap.size := Nat.lt_of_lt_of_le (lt_of_row hS.row) hk1.size
  have Hcomp : Hid (s.comp blk = s.plus (rd (sw blk 64) s 64)) := rfl
  have Hst : Hid (StAt w2 p s.toL rest t ∧ Keeps (fun _ => False) w w2 ∧ ∀ j, j < 64 → w2.cell? ⟨1, j, none⟩ = some (.int .u32 (nw (kk.getD j 0)))) := ⟨hS2, hk02, hck⟩
  have a0 := hS2.word 0 (by omega)
  have a1 := hS2.word 1 (by omega)
  have a2 := hS2.word 2 (by omega)
  have a3 := hS2.word 3 (by omega)
  have a4 := hS2.word 4 (by omega)
  have a5 := hS2.word 5 (by omega)
  have a6 := hS2.word 6 (by omega)
  have a7 := hS2.word 7 (by omega)
  clear hz hs1 hs2 hone hS hT hl hn hc hk1 hk2 hz2 g2 hS2 hT2 hk02
  generalize sw blk 64 = ws at *
  simp only [St.toL, List.getD_cons_zero, List.getD_cons_succ] at a0 a1 a2 a3 a4 a5 a6 a7
  go_quiet (fail)
  go_wp2
  go_quiet (fail)
  go_wp2
  go_loopw [5, 6, 7, 8, 9, 10, 11, 12, 60] (fun xa xb xc xd xe xf xg xh i wr => ∃ (k : Nat) (v : St), k ≤ 64 ∧ Hid (rd ws s k = v) ∧ i = .int .i64 k ∧ xa = .int .u32 (nw v.a) ∧ xb = .int .u32 (nw v.b) ∧ xc = .int .u32 (nw v.c) ∧ xd = .int .u32 (nw v.d) ∧ xe = .int .u32 (nw v.e) ∧ xf = .int .u32 (nw v.f) ∧ xg = .int .u32 (nw v.g) ∧ xh = .int .u32 (nw v.h) ∧ Drawn w2 wr) (fun _ _ _ _ _ _ _ _ i _ => 64 - (intOf i).toNat)
  case atStart => exact ⟨0, s, by omega, rfl, rfl, rfl, rfl, rfl, rfl, rfl, rfl, rfl, rfl, ((Drawn.refl _).drewN _).drewN _⟩
  case round =>
    obtain ⟨k, v, hk, Hv, rfl, rfl, rfl, rfl, rfl, rfl, rfl, rfl, rfl, hD⟩ := hrel
    by_cases hlt : k < 64
    · have hlt' : (k : Int) < 64 := by omega
      have hc1 := hD.cell (hck k hlt)
      have hc2 := hD.cell (hcw k hlt)
      have Hnx : Hid (rd ws s (k + 1) = v.step (kk.getD k 0) (ws.getD k 0)) := by
        show _ = _
        rw [rd_succ ws s k hlw hlt, Hv.out]
      generalize kk.getD k 0 = K at *
      generalize ws.getD k 0 = X at *
      have ba := nw_lt v.a
      have bb := nw_lt v.b
      have bc := nw_lt v.c
      have bd := nw_lt v.d
      have be := nw_lt v.e
      have bf := nw_lt v.f
      have bg := nw_lt v.g
      have bh := nw_lt v.h
      have bK := nw_lt K
      have bX := nw_lt X
      clear hck hcw hlw a0 a1 a2 a3 a4 a5 a6 a7
      go_wp2
      go_quiet ((go_at_call 37; exact Calls.quiet_of_same (turn27i _ _ _ (by decide) (by decide))))
      go_wp2_with (go_at_call 37; refine (turn27i _ _ _ (by decide) (by decide)).mono ?_; rintro e w' ⟨rfl, rfl⟩)
      go_roundw
      case rel =>
        simp only [show (if IntKind.u32.signed = true then (-1 : Int) else IntKind.u32.max) = 4294967295 from rfl, bs1_nw, ch_nw, bs0_nw, maj_nw, add5_nw, add_nw]
        exact ⟨k + 1, v.step K X, by omega, Hnx, by go_num, rfl, rfl, rfl, rfl, rfl, rfl, rfl, rfl, hD.drewN _⟩
      case measure => simp [intOf]; omega
    · obtain rfl : k = 64 := by omega
      have hS2 : StAt wr p (mixd s.toL v.toL 0) rest t := by rw [mixd_zero]; exact Hst.out.1.keeps (S := fun _ => False) hD.keeps (fun h => h)
      have hkw : Keeps (· = p) w wr := (Hst.out.2.1.mono (fun _ _ h => h.elim)).none hD.keeps
      have Hc : Hid (s.comp blk = s.plus v) := by show _ = _; rw [Hcomp.out, Hv.out]
      have hix := index40 v
      clear hck hcw hlw a0 a1 a2 a3 a4 a5 a6 a7 Hst Hcomp Hv hD
      go_wp2
      go_loopw [132] (fun i wq => ∃ (j : Nat), j ≤ 8 ∧ i = .int .i64 j ∧ StAt wq p (mixd s.toL v.toL j) rest t ∧ Keeps (· = p) w wq) (fun i _ => 8 - (intOf i).toNat)
      case atStart => exact ⟨0, by omega, rfl, hS2, hkw⟩
      case round =>
        clear hS2 hkw
        obtain ⟨j, hj, rfl, hSj, hkj⟩ := hrel
        by_cases hlt : j < 8
        · have hlt' : (j : Int) < 8 := by omega
          have hi := fun w => hix j hlt w
          have hc := hSj.word j hlt
          have hf := hSj.free j
          rw [mixd_get s v j hlt] at hc
          have hset := mixd_set s v j hlt
          have Hset : Hid ((mixd s.toL v.toL j).set j (s.toL.getD j 0 + v.toL.getD j 0) = mixd s.toL v.toL (j + 1)) := hset
          clear hix hset
          generalize s.toL.getD j 0 = X at *
          generalize v.toL.getD j 0 = Y at *
          have bX := nw_lt X
          have bY := nw_lt Y
          go_wp2
          refine region_tail 11 (by kernel_rfl) (by kernel_rfl) ?_
          simp only [List.take_succ_cons, List.take_zero]
          iterate 11 (go_big_quiet_step (fail))
          refine wpQuiet_nil ?_
          simp only [List.drop_succ_cons, List.drop_zero]
          go_wp2
          rw [add_nw]
          have hn := hSj.setWord j hlt (X + Y)
          rw [Hset.out] at hn
          exact ⟨⟨j + 1, by omega, by go_num, hn.keeps (S := fun _ => False) (Keeps.refl _ _).drew (fun h => h), (hkj.setCell (p := ⟨p, j, none⟩) (.inl rfl) _).drew⟩, by simp [intOf]; omega⟩
        · obtain rfl : j = 8 := by omega
          go_wp2
          go_end0
          rw [mixd_all, ← Hc.out] at hSj
          exact ⟨rfl, hSj, hkj⟩

end Go.Proofs.YtanmopbhglokmaaDoor
