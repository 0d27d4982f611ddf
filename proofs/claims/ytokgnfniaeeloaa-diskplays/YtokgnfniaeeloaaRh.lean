/-
  The iterators over the loose writes.
-/
import Derived.Test.YtokgnfniaeeloaaRg
set_option linter.all false
namespace Go.Proofs.Ytokgnfniaeeloaa
open Go.RowKit Go.Shelf
attribute [local go_sem] Oper.semAt_some

/-- What a round must keep: the block of the loose writes. -/
def KpL (vl : Value) (W W' : World) : Prop := W.heap.size ≤ W'.heap.size ∧ ∀ g, vl.ownBlock = some g → W'.heap[g]? = W.heap[g]?

theorem LooseAt.kept {vl : Value} {W W' : World} {ws : List LW} (h : LooseAt W vl ws) (hk : KpL vl W W') : LooseAt W' vl ws := by
  refine ⟨⟨h.owns.1, ?_⟩, h.ok⟩
  rcases h.owns.2 with hn | ⟨g, cap, cur, rfl, hb, hg, rest⟩
  · exact .inl hn
  · exact .inr ⟨g, cap, cur, rfl, hb, (hk.2 g rfl).trans hg, rest⟩

theorem LooseAt.lt {vl : Value} {W : World} {ws : List LW} (h : LooseAt W vl ws) : ∀ g, vl.ownBlock = some g → g < W.heap.size := fun g e => (h.owns.lt g e).2

/-- What a round that goes on keeps: every block of cells but those of S. -/
def KpX (S : Nat → Prop) (W W' : World) : Prop := W.heap.size ≤ W'.heap.size ∧ ∀ k cs t fr, W.heap[k]? = some (.cells cs t fr) → ¬ S k → W'.heap[k]? = some (.cells cs t fr)

theorem KpX.refl (S : Nat → Prop) (W : World) : KpX S W W := ⟨Nat.le_refl _, fun _ _ _ _ h _ => h⟩
theorem KpX.trans {S : Nat → Prop} {A B C : World} (h : KpX S A B) (k : KpX S B C) : KpX S A C := ⟨Nat.le_trans h.1 k.1, fun j cs t fr e hs => k.2 j cs t fr (h.2 j cs t fr e hs) hs⟩
theorem KpX.putObj {S : Nat → Prop} {W : World} {l : Nat} {o : Obj} (o' : Obj) (h : W.heap[l]? = some o) (hc : o.isCells = false) : KpX S W (W.putObj l o') :=
  ⟨by simp, fun k cs t fr e _ => (World.putObj_heap_other (by rintro rfl; rw [e] at h; cases h; simp [Obj.isCells] at hc)).trans e⟩
theorem Keeps.kpx {S T : Nat → Prop} {W W' : World} (h : Keeps T W W') (hT : ∀ k, T k → S k ∨ W.heap.size ≤ k) : KpX S W W' :=
  ⟨h.size, fun k cs t fr e hs => (h.block k (Array.getElem?_eq_some_iff.1 e).1 (fun ht => by rcases hT k ht with h1 | h1; exact hs h1; have := (Array.getElem?_eq_some_iff.1 e).1; omega)).trans e⟩

set_option maxRecDepth 100000 in
set_option maxHeartbeats 1000000 in
theorem writes1 (S : Nat → Prop) (w : World) (bx p : Nat) (vb vl : Value) (F : Int) (dn : Bool) (dc : Int) (ws : List LW) (hbx : w.heap[bx]? = some (.cells #[.pointer (some ⟨p, 0, none⟩)] 25 (0, 0)))
    (hD : DiskAt w p vb vl F dn dc) (hL : LooseAt w vl ws) (hlen : ws.length < 1000000) (hS : ∀ g, vl.ownBlock = some g → ¬ S g) :
    SeqO Try.prog 36 #[.pointer (some ⟨bx, 0, none⟩)] encW (KpX S) (idx ws) w := by
  intro l n J Jx W hW hJ hJx hY h0
  have hbl : bx < w.heap.size := (Array.getElem?_eq_some_iff.1 hbx).1
  have hbW : W.heap[bx]? = some (.cells #[.pointer (some ⟨p, 0, none⟩)] 25 (0, 0)) := (hW.block bx hbl).trans hbx
  have hDW : DiskAt W p vb vl F dn dc := (hW.block p hD.lt).trans hD
  have hLW : LooseAt W vl ws := hL.kept ⟨hW.size, fun g e => hW.block g (hL.lt g e)⟩
  have cb : W.cell? ⟨bx, 0, none⟩ = some (.pointer (some ⟨p, 0, none⟩)) := by simp [World.cell?, hbW]
  obtain ⟨c0, c1, c2, c3, c4⟩ := hDW.cells
  clear c0 c2 c3 c4
  rcases hLW.form with ⟨rfl, rfl⟩ | ⟨g, cap, cur, rfl, hg, hpart⟩
  · refine callsIn_of_wp Try.func36 rfl trivial ?_ rfl
    simp only [Try.ntmps36, List.size_toArray, List.length_cons, List.length_nil, Nat.reduceAdd, Nat.reduceSub, Array.replicate_succ, Array.replicate_zero, List.push_toArray, List.append_toArray, List.nil_append, List.cons_append]
    gi_wp2
    gi_loopw [10] (fun i wr => i = .int .i64 0 ∧ J [] wr) (fun _ _ => 0)
    case atStart => exact ⟨rfl, h0⟩
    case round =>
      obtain ⟨rfl, hj⟩ := hrel
      gi_wp2
      go_end0
      exact ⟨⟨_, rfl⟩, .inl hj⟩
  · refine callsIn_of_wp Try.func36 rfl trivial ?_ rfl
    simp only [Try.ntmps36, List.size_toArray, List.length_cons, List.length_nil, Nat.reduceAdd, Nat.reduceSub, Array.replicate_succ, Array.replicate_zero, List.push_toArray, List.append_toArray, List.nil_append, List.cons_append]
    gi_wp2
    gi_loopw [10] (fun i wr => ∃ pre rest, idx ws = pre ++ rest ∧ i = .int .i64 (pre.length : Int) ∧ J pre wr ∧ wr.heap[g]? = some (.cells cur 65 (0, 0)) ∧ W.heap.size ≤ wr.heap.size) (fun i _ => ws.length - (intOf i).toNat)
    case atStart => exact ⟨[], idx ws, rfl, rfl, h0, hg, Nat.le_refl _⟩
    case round =>
      obtain ⟨pre, rest, hx, rfl, hj, hgr, hsz⟩ := hrel
      have hil : (idx ws).length = ws.length := by simp [idx]
      cases rest with
      | nil =>
        have hpl : pre.length = ws.length := by rw [← hil, hx]; simp
        have hnl : ¬ (pre.length : Int) < (ws.length : Int) := by omega
        have Hx : Hid (idx ws = pre ++ []) := hx
        clear hx hil hpl
        gi_wp2
        go_end0
        refine ⟨⟨_, rfl⟩, .inl ?_⟩
        rw [Hx.out, List.append_nil]
        exact hj
      | cons x rest =>
        obtain ⟨hx1, hx2, hlt⟩ := idx_split hx
        have hlt' : (pre.length : Int) < (ws.length : Int) := by omega
        have hp0 : (0 : Int) ≤ (pre.length : Int) := by omega
        have hce : cellsAt wr g (pre.length * 129) 129 = (lcells x.2).toArray := by
          rw [cellsAt, rowOf_of hgr]
          have := hpart (ws.take pre.length) x.2 _ hx2
          rwa [List.length_take, Nat.min_eq_left (by omega)] at this
        have hok : LwOk x.2 := hL.ok x.2 (by rw [hx2]; simp)
        have hsl : (lcells x.2).toArray.size = 129 := by simp [length_lcells hok]
        have hone : (lcells x.2).toArray.all (·.oneCell') = true := all_oneCell_toArray (one_lcells hok)
        have hi65 : (Try.prog.info? 65).map (·.size) = some (lcells x.2).toArray.size := by rw [hsl]; exact size65
        have hz := zero65
        have Hx : Hid (idx ws = pre ++ x :: rest) := hx
        have Hx1 : Hid (x.1 = pre.length) := hx1
        have Hx2 : Hid (ws = ws.take pre.length ++ x.2 :: ws.drop (pre.length + 1)) := hx2
        clear hx hx1 hx2 hil
        have he : Hid (encW x = #[.int .i64 (pre.length : Int), .agg (lcells x.2).toArray]) := show encW x = _ by simp [encW, Hx1.out]
        have hY1 : Hid (∀ w1, J pre w1 → _) := fun w1 hj1 => hY pre x rest w1 Hx.out hj1
        have hzs : wzero.size = (lcells x.2).toArray.size := by rw [hsl]; exact size_wzero
        clear hY hpart hbx hbW hD hDW hLW c1 cb hok h0
        gi_wp2_with (first | (refine wpListIn_load_cells rfl 65 _ rfl g (pre.length * 129) rfl 129 (lcells x.2).toArray hce hsl _ Try.underlying65 rfl size65 ?_) | (refine wpListIn_load_cells rfl 65 _ rfl wr.heap.size 0 rfl 129 (lcells x.2).toArray hce1 hsl _ Try.underlying65 rfl size65 ?_) | (refine wpListIn_store_row rfl 65 _ _ rfl wr.heap.size rfl (lcells x.2).toArray rfl 65 wzero (heap_alloc2_x wr _) hi65 hzs hone ?_; intro w1 n1 k1 z1; have k0 : Keeps (fun _ => False) wr w1 := ((Keeps.refl _ _).alloc _).trans' k1 (fun k e => .inr (by omega)); have hj1 : J pre w1 := hJ pre wr w1 none hj ⟨k0.os, k0.tape, k0.output, k0.size, fun k hk _ => k0.block k hk (fun h => h)⟩ (fun r e => by cases e); obtain ⟨fn, tmps, assign, body, hy, hR⟩ := hY1.out w1 hj1; rw [he.out] at hy; have hce1 : cellsAt w1 wr.heap.size 0 129 = (lcells x.2).toArray := (by rw [cellsAt, rowOf_of n1]; simp [← hsl]); have hg1 : w1.heap[g]? = some (.cells cur 65 (0, 0)) := (k0.block g (Array.getElem?_eq_some_iff.1 hgr).1 (fun h => h)).trans hgr))
        refine ⟨fun h => by (cases h), hR.mono ?_⟩
        rintro e W3 ⟨hkf3, (⟨rfl, hJ3, hk3⟩ | ⟨rfl, hJx3⟩)⟩
        · gi_wp2
          go_roundw
          case rel => exact ⟨pre ++ [x], rest, by simp [Hx.out], by simp, hJ3, hk3.2 g _ _ _ hg1 (hS g rfl), by have := hk3.1; have := k0.size; omega⟩
          case measure => simp [intOf]; omega
        · gi_wp2
          refine bodyPost_ret (results_none rfl _ _ _) rfl ?_
          exact ⟨⟨_, rfl⟩, .inr ⟨pre, x, rest, Hx.out, hJx3⟩⟩

end Go.Proofs.Ytokgnfniaeeloaa
