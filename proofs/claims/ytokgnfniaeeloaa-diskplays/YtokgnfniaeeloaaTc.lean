/-
  The reference's Read.
-/
import Derived.Test.YtokgnfniaeeloaaTb
set_option linter.all false
namespace Go.Proofs.Ytokgnfniaeeloaa
open Go.RowKit Go.Shelf

/-- The reference's loose writes ws lie in the slice vl. -/
structure RLoose (w : World) (vl : Value) (ws : List LW) : Prop where
  owns : w.ownsRow 0 68 129 vl ws.length (flat ws)
  ok : ∀ x ∈ ws, LwOk x

theorem RLoose.at {w : World} {vl : Value} {ws : List LW} (h : RLoose w vl ws) (k : Nat) (hk : k < ws.length) :
    ∃ g cap cur, vl = .slice (some ⟨g, 0, none⟩) ws.length cap ∧ w.heap[g]? = some (.cells cur 68 (0, 0)) ∧ w.cell? ⟨g, k * 129, none⟩ = some (.int .i64 ws[k].1) ∧ cellsAt w g (k * 129 + 1) 128 = ws[k].2.toArray ∧ k * 129 + 129 ≤ cur.size := by
  rcases h.owns.2 with ⟨rfl, h0⟩ | ⟨g, cap, cur, rfl, hb, hg, hn, hm, hs, ht⟩
  · omega
  · have hws : ws = ws.take k ++ ws[k] :: ws.drop (k + 1) := by
      rw [List.getElem_cons_drop, List.take_append_drop]
    have hok : LwOk ws[k] := h.ok _ (List.getElem_mem hk)
    have hp := flat_part h.ok (ws.take k) ws[k] (ws.drop (k + 1)) hws
    rw [List.length_take, Nat.min_eq_left (by omega)] at hp
    rw [← ht, List.drop_take, List.take_take] at hp
    have hmul : (k + 1) * 129 ≤ ws.length * 129 := Nat.mul_le_mul_right 129 hk
    rw [Nat.min_eq_left (by omega)] at hp
    have hlen : (List.take 129 (List.drop (k * 129) cur.toList)).length = 129 := by rw [hp]; exact length_lcells hok
    have hsz : k * 129 + 129 ≤ cur.size := by simp at hlen; omega
    refine ⟨g, cap, cur, rfl, hg, ?_, ?_, hsz⟩
    · rw [cell_of_row w g _ _ _ _ hg]
      have h0 : (List.take 129 (List.drop (k * 129) cur.toList))[0]? = some (.int .i64 ws[k].1) := by rw [hp]; rfl
      rw [List.getElem?_take, if_pos (by omega), List.getElem?_drop, Nat.add_zero] at h0
      simpa using h0
    · rw [cellsAt, rowOf_of hg]
      apply Array.toList_inj.1
      have h1 : (List.take 129 (List.drop (k * 129) cur.toList)).drop 1 = ws[k].2 := by rw [hp]; rfl
      rw [← h1]
      simp [List.drop_take]

theorem find_rev {ws : List LW} {i : Int} {j : Nat} (hj : j < ws.length) (he : ws[j].1 = i) (hd : ∀ y ∈ ws.drop (j + 1), y.1 ≠ i) : ws.reverse.find? (fun x => x.1 == i) = some ws[j] := by
  have hws : ws = ws.take j ++ ws[j] :: ws.drop (j + 1) := by
    rw [List.getElem_cons_drop, List.take_append_drop]
  have hr : ws.reverse = (ws.drop (j + 1)).reverse ++ (ws[j] :: (ws.take j).reverse) := by
    conv => lhs; rw [hws]
    simp
  rw [hr, List.find?_append]
  have h0 : (ws.drop (j + 1)).reverse.find? (fun x => x.1 == i) = none := by
    rw [List.find?_eq_none]
    intro y hy
    simpa using hd y (by simpa using hy)
  rw [h0, List.find?_cons]
  simp [he]

theorem results_cell_tmp {fn : Func} {p q : Tmp} {t1 : TypeId} (h : fn.results = #[.cell p t1, .tmp q]) (tmps : Array Value) (w : World) (g1 : Nat) (cs : Array Value) (u : Value)
    (hp : tmps.getD p undef = .pointer (some ⟨g1, 0, none⟩)) (hq : tmps.getD q undef = u)
    (r1 : (loadVar t1 ⟨g1, 0, none⟩).run Try.prog w = .ok (.agg cs) w) :
    (results fn tmps).run Try.prog w = .ok (.tuple #[.agg cs, u]) w := by
  have hp' : tmps[p]?.getD undef = .pointer (some ⟨g1, 0, none⟩) := by simpa using hp
  have hq' : tmps[q]?.getD undef = u := by simpa using hq
  simp [results, h, hp', hq', asAddr, r1]

attribute [local go_sem ↓] Go.wp_at_zero Go.wp_at_succ wp_build37 wp_load37
attribute [local go_sem] addrOf cellsAt_drew

set_option maxRecDepth 100000 in
set_option maxHeartbeats 1000000 in
theorem rread_out (w : World) (p : Nat) (a : Option Addr) (n c : Nat) (vl : Value) (F : Int) (dn : Bool) (dc : Int) (hD : RefAt w p (.slice a n c) vl F dn dc) (i : Int) (hi : ¬ (0 ≤ i ∧ i < (n : Int))) :
    Calls Try.prog 18 #[.pointer (some ⟨p, 0, none⟩), .int .i64 i] w fun e w' => e = .returned (.tuple #[.agg (fill 0), .int .i64 1]) ∧ Keeps (fun _ => False) w w' := by
  have hdec : decide (0 ≤ i ∧ i < (n : Int)) = false := decide_eq_false hi
  clear hi
  have hz := zero37
  have hs1 : (Try.prog.info? 37).map (·.size) = some (fill 0).size := by rw [size_fill]; exact size37
  have hone := fill_one 0
  go_enter Try.func18, Try.ntmps18
  go_wp2_with (first | (go_at_call 30; refine (has_any _ p a n c vl F dn dc (hD.alloc _) i).mono ?_; rw [hdec]; rintro e w' ⟨rfl, rfl⟩) | (refine wpList_store_row rfl 37 _ _ rfl w.heap.size rfl (fill 0) rfl 37 (fill 0) (heap_alloc2_x w _) hs1 rfl hone ?_; intro w8 n8 k8))
  refine bodyPost_ret (v := .tuple #[.agg (fill 0), .int .i64 1]) (results_cell_tmp rfl _ _ w.heap.size (fill 0) (.int .i64 1) rfl rfl ?_) rfl ⟨rfl, ((Keeps.refl _ _).alloc _).trans' k8 (fun k e => .inr (by omega))⟩
  exact run_loadVar_row _ _ _ _ _ _ _ n8 Try.underlying37 rfl hs1

set_option maxRecDepth 100000 in
set_option maxHeartbeats 1000000 in
theorem rread_down (w : World) (p : Nat) (a : Option Addr) (n c : Nat) (vl : Value) (F : Int) (dc : Int) (hD : RefAt w p (.slice a n c) vl F true dc) (i : Int) (hi : 0 ≤ i ∧ i < (n : Int)) :
    Calls Try.prog 18 #[.pointer (some ⟨p, 0, none⟩), .int .i64 i] w fun e w' => e = .returned (.tuple #[.agg (fill 0), .int .i64 12]) ∧ Keeps (fun _ => False) w w' := by
  have hdec : decide (0 ≤ i ∧ i < (n : Int)) = true := decide_eq_true hi
  clear hi
  have hz := zero37
  have hs1 : (Try.prog.info? 37).map (·.size) = some (fill 0).size := by rw [size_fill]; exact size37
  have hone := fill_one 0
  have c3 := (hD.alloc (.cells (fill 0) 37)).cells.2.2.2.1
  go_enter Try.func18, Try.ntmps18
  go_wp2_with (first | (go_at_call 30; refine (has_any _ p a n c vl F true dc (hD.alloc _) i).mono ?_; rw [hdec]; rintro e w' ⟨rfl, rfl⟩) | (refine wpList_store_row rfl 37 _ _ rfl w.heap.size rfl (fill 0) rfl 37 (fill 0) (heap_alloc2_x w _) hs1 rfl hone ?_; intro w8 n8 k8))
  refine bodyPost_ret (v := .tuple #[.agg (fill 0), .int .i64 12]) (results_cell_tmp rfl _ _ w.heap.size (fill 0) (.int .i64 12) rfl rfl ?_) rfl ⟨rfl, ((Keeps.refl _ _).alloc _).trans' k8 (fun k e => .inr (by omega))⟩
  exact run_loadVar_row _ _ _ _ _ _ _ n8 Try.underlying37 rfl hs1

theorem RLoose.keeps {S : Nat → Prop} {w w' : World} {vl : Value} {ws : List LW} (h : RLoose w vl ws) (hk : Keeps S w w') (hS : ∀ g, vl.ownBlock = some g → ¬ S g) : RLoose w' vl ws :=
  ⟨ownsRow_keeps h.owns hk hS, h.ok⟩

theorem RLoose.len {w : World} {vl : Value} {ws : List LW} (h : RLoose w vl ws) : ∃ a c, vl = .slice a ws.length c := by
  rcases h.owns.2 with ⟨rfl, h0⟩ | ⟨g, cap, cur, rfl, _⟩
  · exact ⟨none, 0, by rw [h0]⟩
  · exact ⟨_, _, rfl⟩

set_option maxRecDepth 100000 in
set_option maxHeartbeats 1000000 in
theorem rread_ok (w : World) (p gb n : Nat) (vl : Value) (F dc : Int) (ws : List LW) (bl : Array Value) (hD : RefAt w p (.slice (some ⟨gb, 0, none⟩) n n) vl F false dc) (hB : w.heap[gb]? = some (.cells bl 37 (0, 0))) (hbl : bl.size = n * 128) (h1b : bl.all (·.oneCell') = true)
    (hL : RLoose w vl ws) (hlen : ws.length < 1000000) (i : Nat) (hi : i < n) :
    Calls Try.prog 18 #[.pointer (some ⟨p, 0, none⟩), .int .i64 (i : Int)] w fun e w' => e = .returned (.tuple #[.agg (onTop bl ws i), .int .i64 0]) ∧ Keeps (fun _ => False) w w' := by
  have hdec : decide (0 ≤ (i : Int) ∧ (i : Int) < (n : Int)) = true := by simp; omega
  have hz := zero37
  obtain ⟨va, vc, rfl⟩ := hL.len
  go_enter Try.func18, Try.ntmps18
  go_wp2_with fail
  refine (has_any _ p _ n n _ F false dc (hD.alloc _) (i : Int)).mono ?_
  rw [hdec]
  rintro e w' ⟨rfl, rfl⟩
  clear hz hdec
  obtain ⟨W, hW⟩ : ∃ W, w.alloc (.cells (fill 0) 37) = W := ⟨_, rfl⟩
  rw [hW]
  have kW : Keeps (fun _ => False) w W := by rw [← hW]; exact (Keeps.refl _ _).alloc _
  have gW : W.heap[w.heap.size]? = some (.cells (fill 0) 37 (0, 0)) := by rw [← hW]; exact heap_alloc2_x w _
  have hDW := hD.kept kW (fun h => h)
  have c1 := hDW.cells.2.1
  have c3 := hDW.cells.2.2.2.1
  clear hW
  have hlb : (0 : Int) ≤ (ws.length : Int) := by omega
  have hlc : (ws.length : Int) < 1000000 := by omega
  go_wp2
  go_loopw [6] (fun j wr => ∃ (k : Nat), k ≤ ws.length ∧ j = .int .i64 ((k : Int) - 1) ∧ (∀ y ∈ ws.drop k, y.1 ≠ (i : Int)) ∧ wr = W) (fun j _ => (intOf j + 1).toNat)
  case atStart => exact ⟨ws.length, Nat.le_refl _, rfl, by simp, rfl⟩
  case round =>
    obtain ⟨k, hk, rfl, hnone, rfl⟩ := hrel
    by_cases hk0 : k = 0
    · subst hk0
      have hB' : wr.heap[gb]? = some (.cells bl 37 (0, 0)) := (kW.block gb (Array.getElem?_eq_some_iff.1 hB).1 (fun h => h)).trans hB
      have hmul : (i + 1) * 128 ≤ n * 128 := Nat.mul_le_mul_right 128 hi
      have hv : onTop bl ws i = blk bl i := by
        unfold onTop
        rw [List.find?_eq_none.2 (fun y hy => by simpa using hnone y (by simpa using hy))]
      obtain ⟨A, hA⟩ : ∃ A, blk bl i = A := ⟨_, rfl⟩
      have hcB : cellsAt wr gb (i * 128) 128 = A := by rw [cellsAt, rowOf_of hB']; exact hA
      have hsA : A.size = 128 := by rw [← hA]; unfold blk; simp; omega
      have ho1 : AllOne A := by
        unfold AllOne at *
        rw [Array.all_eq_true_iff_forall_mem] at h1b ⊢
        intro v hv
        rw [← hA] at hv
        unfold blk at hv
        obtain ⟨j, hj, e⟩ := Array.mem_iff_getElem.1 hv
        rw [Array.getElem_extract] at e
        exact h1b v (e ▸ Array.getElem_mem _)
      have hs1 : (Try.prog.info? 37).map (·.size) = some A.size := by rw [hsA]; exact size37
      have hz1 : (fill 0).size = A.size := by rw [hsA]; exact size_fill 0
      rw [hA] at hv
      have Hv : Hid (onTop bl ws i = A) := hv
      clear hA hv hnone c3
      have c0 := hDW.cells.1
      have hi0 : (0 : Int) ≤ (i : Int) := by omega
      have hin : (i : Int) < (n : Int) := by omega
      rw [show (((0 : Nat) : Int) - 1) = -1 from rfl]
      go_wp2_with (refine wpList_store_row rfl 37 _ _ rfl w.heap.size rfl A rfl 37 (fill 0) gW hs1 hz1 ho1 ?_; intro w8 n8 k8)
      refine bodyPost_ret (v := .tuple #[.agg A, .int .i64 0]) (results_cell_tmp rfl _ _ w.heap.size A (.int .i64 0) rfl rfl ?_) rfl ⟨by rw [Hv.out], kW.trans' k8 (fun k e => .inr (by omega))⟩
      exact run_loadVar_row _ _ _ _ _ _ _ n8 Try.underlying37 rfl hs1
    · obtain ⟨j, rfl⟩ : ∃ j, k = j + 1 := ⟨k - 1, by omega⟩
      have hj : j < ws.length := by omega
      obtain ⟨g, cap, cur, he, hg, hcI, hcB, hsz⟩ := (hL.keeps kW (fun _ _ h => h)).at j hj
      cases he
      rw [show (((j + 1 : Nat) : Int) - 1) = (j : Int) by omega]
      have hj0 : (0 : Int) ≤ (j : Int) := by omega
      have hjl : (j : Int) < (ws.length : Int) := by omega
      obtain ⟨x, hx⟩ : ∃ x, ws[j] = x := ⟨_, rfl⟩
      have hok : LwOk x := by rw [← hx]; exact hL.ok _ (List.getElem_mem hj)
      rw [hx] at hcI hcB
      by_cases hc : x.1 = (i : Int)
      · have hv : onTop bl ws i = x.2.toArray := by
          unfold onTop
          rw [find_rev hj (by rw [hx]; exact hc) hnone, hx]
        have hcb : (x.1 == (i : Int)) = true := by simpa using hc
        have hsA : x.2.toArray.size = 128 := by simp [hok.1]
        have hs1 : (Try.prog.info? 37).map (·.size) = some x.2.toArray.size := by rw [hsA]; exact size37
        have hz1 : (fill 0).size = x.2.toArray.size := by rw [hsA]; exact size_fill 0
        have ho1 : x.2.toArray.all (·.oneCell') = true := all_oneCell_toArray hok.2
        have Hv : Hid (onTop bl ws i = x.2.toArray) := hv
        clear hnone hv c3 hc
        go_wp2_with (refine wpList_store_row rfl 37 _ _ rfl w.heap.size rfl x.2.toArray rfl 37 (fill 0) gW hs1 hz1 ho1 ?_; intro w8 n8 k8)
        refine bodyPost_ret (v := .tuple #[.agg x.2.toArray, .int .i64 0]) (results_cell_tmp rfl _ _ w.heap.size x.2.toArray (.int .i64 0) rfl rfl ?_) rfl ⟨by rw [Hv.out], kW.trans' k8 (fun k e => .inr (by omega))⟩
        exact run_loadVar_row _ _ _ _ _ _ _ n8 Try.underlying37 rfl hs1
      · have hcb : (x.1 == (i : Int)) = false := by simpa using hc
        have Hn : Hid (∀ y ∈ ws.drop j, y.1 ≠ (i : Int)) := fun y hy => by
          rw [← List.getElem_cons_drop hj, hx] at hy
          rcases List.mem_cons.1 hy with rfl | hy
          · exact hc
          · exact hnone y hy
        clear hnone hc
        go_wp2
        go_roundw
        case rel => exact ⟨j, by omega, by go_num, Hn.out, by first | rfl | trivial⟩
        case measure => simp [intOf] <;> omega

end Go.Proofs.Ytokgnfniaeeloaa
