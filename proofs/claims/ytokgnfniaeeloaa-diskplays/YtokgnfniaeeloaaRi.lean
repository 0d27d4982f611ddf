/-
  The iterator over a slice of loose writes from its end.
-/
import Derived.Test.YtokgnfniaeeloaaRh
set_option linter.all false
namespace Go.Proofs.Ytokgnfniaeeloaa
open Go.RowKit Go.Shelf
attribute [local go_sem] Oper.semAt_some

theorem idx_back {ws : List LW} {pre : List (Nat × LW)} {x : Nat × LW} {rest : List (Nat × LW)} (h : (idx ws).reverse = pre ++ x :: rest) :
    x.1 + 1 + pre.length = ws.length ∧ ws = ws.take x.1 ++ x.2 :: ws.drop (x.1 + 1) := by
  have h' : idx ws = rest.reverse ++ x :: pre.reverse := by
    have := congrArg List.reverse h
    simpa using this
  obtain ⟨h1, h2, h3⟩ := idx_split h'
  have hl : (idx ws).length = ws.length := by simp [idx]
  have hl' := congrArg List.length h'
  simp at hl' h1 h2 h3
  rw [h1]
  exact ⟨by omega, by simpa using h2⟩

set_option maxRecDepth 100000 in
set_option maxHeartbeats 1000000 in
theorem backward1 (S : Nat → Prop) (w : World) (bx : Nat) (vl : Value) (ws : List LW) (hbx : w.heap[bx]? = some (.cells #[vl] 61 (0, 0)))
    (hL : LooseAt w vl ws) (hlen : ws.length < 1000000) (hS : ∀ g, vl.ownBlock = some g → ¬ S g) (hSb : ¬ S bx) :
    SeqO Try.prog 35 #[.pointer (some ⟨bx, 0, none⟩)] encW (KpX S) (idx ws).reverse w := by
  intro l n J Jx W hW hJ hJx hY h0
  have hbl : bx < w.heap.size := (Array.getElem?_eq_some_iff.1 hbx).1
  have hbW : W.heap[bx]? = some (.cells #[vl] 61 (0, 0)) := (hW.block bx hbl).trans hbx
  have hLW : LooseAt W vl ws := hL.kept ⟨hW.size, fun g e => hW.block g (hL.lt g e)⟩
  have cb : W.cell? ⟨bx, 0, none⟩ = some vl := by simp [World.cell?, hbW]
  rcases hLW.form with ⟨rfl, rfl⟩ | ⟨g, cap, cur, rfl, hg, hpart⟩
  · refine callsIn_of_wp Try.func35 rfl trivial ?_ rfl
    simp only [Try.ntmps35, List.size_toArray, List.length_cons, List.length_nil, Nat.reduceAdd, Nat.reduceSub, Array.replicate_succ, Array.replicate_zero, List.push_toArray, List.append_toArray, List.nil_append, List.cons_append]
    gi_wp2
    gi_loopw [3] (fun i wr => i = .int .i64 (-1) ∧ J [] wr) (fun _ _ => 0)
    case atStart => exact ⟨rfl, h0⟩
    case round =>
      obtain ⟨rfl, hj⟩ := hrel
      gi_wp2
      go_end0
      exact ⟨⟨_, rfl⟩, .inl hj⟩
  · refine callsIn_of_wp Try.func35 rfl trivial ?_ rfl
    simp only [Try.ntmps35, List.size_toArray, List.length_cons, List.length_nil, Nat.reduceAdd, Nat.reduceSub, Array.replicate_succ, Array.replicate_zero, List.push_toArray, List.append_toArray, List.nil_append, List.cons_append]
    gi_wp2
    gi_loopw [3] (fun i wr => ∃ pre rest, ∃ j : Nat, (idx ws).reverse = pre ++ rest ∧ j + pre.length = ws.length ∧ i = .int .i64 ((j : Int) - 1) ∧ J pre wr ∧ wr.heap[g]? = some (.cells cur 65 (0, 0)) ∧ wr.heap[bx]? = some (.cells #[.slice (some ⟨g, 0, none⟩) ws.length cap] 61 (0, 0))) (fun i _ => (intOf i + 1).toNat)
    case atStart => exact ⟨[], (idx ws).reverse, ws.length, rfl, by simp, rfl, h0, hg, hbW⟩
    case round =>
      obtain ⟨pre, rest, j, hx, hjl, rfl, hj, hgr, hbr⟩ := hrel
      have hil : (idx ws).reverse.length = ws.length := by simp [idx]
      cases rest with
      | nil =>
        have hj0 : j = 0 := by
          have := congrArg List.length hx
          simp at this hil; omega
        subst hj0
        have Hx : Hid ((idx ws).reverse = pre ++ []) := hx
        clear hx hil hjl
        gi_wp2
        go_end0
        refine ⟨⟨_, rfl⟩, .inl ?_⟩
        rw [Hx.out, List.append_nil]
        exact hj
      | cons x rest =>
        obtain ⟨hx1, hx2⟩ := idx_back hx
        obtain rfl : j = x.1 + 1 := by omega
        rw [show (((x.1 + 1 : Nat) : Int) - 1) = (x.1 : Int) by omega]
        have hlt' : (x.1 : Int) < (ws.length : Int) := by omega
        have hp0 : (0 : Int) ≤ (x.1 : Int) := by omega
        have hce : cellsAt wr g (x.1 * 129) 129 = (lcells x.2).toArray := by
          rw [cellsAt, rowOf_of hgr]
          have := hpart (ws.take x.1) x.2 _ hx2
          rwa [List.length_take, Nat.min_eq_left (by omega)] at this
        have hok : LwOk x.2 := hL.ok x.2 (by rw [hx2]; simp)
        have hsl : (lcells x.2).toArray.size = 129 := by simp [length_lcells hok]
        have cbr : wr.cell? ⟨bx, 0, none⟩ = some (.slice (some ⟨g, 0, none⟩) ws.length cap) := by simp [World.cell?, hbr]
        obtain ⟨fn, tmps, assign, body, hy, hR⟩ := hY pre x rest wr hx hj
        have he : encW x = #[.int .i64 (x.1 : Int), .agg (lcells x.2).toArray] := rfl
        rw [he] at hy
        have Hx : Hid ((idx ws).reverse = pre ++ x :: rest) := hx
        have Hjl : Hid (x.1 + 1 + pre.length = ws.length) := hx1
        clear hx hx1 hx2 hil hjl he hY hpart hbx hbW cb h0 hok
        gi_wp2_with (refine wpListIn_load_cells rfl 65 _ rfl g (x.1 * 129) rfl 129 (lcells x.2).toArray hce hsl _ Try.underlying65 rfl size65 ?_)
        refine ⟨fun h => by (cases h), hR.mono ?_⟩
        rintro e W3 ⟨hkf3, (⟨rfl, hJ3, hk3⟩ | ⟨rfl, hJx3⟩)⟩
        · gi_wp2
          go_roundw
          case rel => exact ⟨pre ++ [x], rest, x.1, by simp [Hx.out], by have := Hjl.out; simp; omega, by simp, hJ3, hk3.2 g _ _ _ hgr (hS g rfl), hk3.2 bx _ _ _ hbr hSb⟩
          case measure => simp [intOf]
        · gi_wp2
          refine bodyPost_ret (results_none rfl _ _ _) rfl ?_
          exact ⟨⟨_, rfl⟩, .inr ⟨pre, x, rest, Hx.out, hJx3⟩⟩

end Go.Proofs.Ytokgnfniaeeloaa
