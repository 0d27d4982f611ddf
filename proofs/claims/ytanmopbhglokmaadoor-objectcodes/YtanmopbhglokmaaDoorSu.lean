
/-
  Sum, Of, Check.
-/
import Derived.Test.YtanmopbhglokmaaDoorEb
set_option linter.all false
namespace Go.Proofs.YtanmopbhglokmaaDoor
open Go.RowKit

theorem info44 : (Tryd.prog.info? 69).map (fun i => (i.zero, i.size)) = some (some (.agg (stRow [0, 0, 0, 0, 0, 0, 0, 0] (zb 64) 0)), 73) := by kernel_rfl
theorem zero44 (w : World) : (zeroValue 69).run Tryd.prog w = .ok (.agg (stRow [0, 0, 0, 0, 0, 0, 0, 0] (zb 64) 0)) w := (zero_of_info info44).1 w
theorem size44 : (Tryd.prog.info? 69).map (·.size) = some 73 := (zero_of_info info44).2

def h0row : Array Value := #[.int .u32 (nw h0.a), .int .u32 (nw h0.b), .int .u32 (nw h0.c), .int .u32 (nw h0.d), .int .u32 (nw h0.e), .int .u32 (nw h0.f), .int .u32 (nw h0.g), .int .u32 (nw h0.h)]
theorem build44 (w : World) : (Instr.build 69 #[(0, .agg h0row)]).run Tryd.prog w = .ok (.agg (stRow h0.toL (zb 64) 0)) w := by kernel_rfl

theorem wpList_build44 {ops : Array Oper} {rest : List Oper} {o : Oper} {a : Act} {w : World} {Q : Exit → Act → World → Prop} (hgd : o.guard = none) (x : Operand) (ho : o.op = .build 69 #[(0, x)]) (hx : a.eval x = .agg h0row)
    (h : wpList Tryd.prog ops Q rest (a.put o.dst (.agg (stRow h0.toL (zb 64) 0))) w) : wpList Tryd.prog ops Q (o :: rest) a w := by
  refine wpList_plain hgd fun K hK => ?_
  unfold Oper.wp execOp
  simp only [ho, hx, List.map_toArray, List.map_cons, List.map_nil, build44, Sem.run_bind, Result.andThen_ok, Sem.run_pure]
  exact hK _ _ h

theorem stRow_one (h : List W) (rest : List B) (t : Int) : (stRow h rest t).all (·.oneCell') = true := by
  rw [Array.all_eq_true_iff_forall_mem]
  intro x hx
  simp [stRow] at hx
  rcases hx with ⟨a, _, rfl⟩ | ⟨a, _, rfl⟩ | rfl <;> rfl

theorem first8 {w : World} (hT : Tabs w) : w.cell? ⟨0, 0, none⟩ = some (.int .u32 (nw h0.a)) ∧ w.cell? ⟨0, 1, none⟩ = some (.int .u32 (nw h0.b)) ∧ w.cell? ⟨0, 2, none⟩ = some (.int .u32 (nw h0.c)) ∧ w.cell? ⟨0, 3, none⟩ = some (.int .u32 (nw h0.d)) ∧
    w.cell? ⟨0, 4, none⟩ = some (.int .u32 (nw h0.e)) ∧ w.cell? ⟨0, 5, none⟩ = some (.int .u32 (nw h0.f)) ∧ w.cell? ⟨0, 6, none⟩ = some (.int .u32 (nw h0.g)) ∧ w.cell? ⟨0, 7, none⟩ = some (.int .u32 (nw h0.h)) :=
  ⟨hT.first 0 _ rfl, hT.first 1 _ rfl, hT.first 2 _ rfl, hT.first 3 _ rfl, hT.first 4 _ rfl, hT.first 5 _ rfl, hT.first 6 _ rfl, hT.first 7 _ rfl⟩

theorem has_new {w : World} {p : Nat} (g : w.heap[p]? = some (.cells (stRow h0.toL (zb 64) 0) 69 (0, 0))) : Has w p [] :=
  ⟨zb 64, ⟨g, rfl, zb_len _⟩, rfl⟩

set_option maxRecDepth 100000 in
set_option maxHeartbeats 4000000 in
theorem sum8 (w : World) (a : Option Addr) (n c : Nat) (l : List B) (hT : Tabs w) (hl : SlB w a n c l) (hn : n < 900000) :
    Calls Tryd.prog 24 #[.slice a n c] w fun e w' => e = .returned (.agg (brow (sha l))) ∧ Keeps (fun _ => False) w w' := by
  have hz := zero24
  have hz4 := zero44
  have hal : Keeps (fun _ => False) w (w.alloc (.cells (brow (zb 32)) 60)) := (Keeps.refl _ _).alloc _
  have hT1 := hT.keeps hal (fun h => h) (fun h => h)
  have hsz := hT.size
  obtain ⟨c0, c1, c2, c3, c4, c5, c6, c7⟩ := first8 hT1
  have hs1 : (Tryd.prog.info? 69).map (·.size) = some (stRow h0.toL (zb 64) 0).size := by rw [size_stRow rfl (zb_len _)]; exact size44
  have hs2 : (stRow [0, 0, 0, 0, 0, 0, 0, 0] (zb 64) 0).size = (stRow h0.toL (zb 64) 0).size := rfl
  have hone := stRow_one h0.toL (zb 64) 0
  have hs3 : (Tryd.prog.info? 60).map (·.size) = some (brow (sha l)).size := by rw [size_brow, sha_len]; exact size24
  have hs4 : (brow (zb 32)).size = (brow (sha l)).size := by rw [size_brow, size_brow, sha_len, zb_len]
  have hone2 := brow_one (sha l)
  have hne : 0 < n → ∀ b o, a = some ⟨b, o, none⟩ → b ≠ w.heap.size + 1 := fun h0 b o e => by
    obtain ⟨b', o', e', hc⟩ := hl.at_ 0 _ (List.getElem?_eq_getElem (by have := hl.len; omega))
    rw [e] at e'; cases e'
    have := World.block_lt_of_cell? w _ hc
    dsimp only at this
    omega
  go_enter Tryd.func24, Tryd.ntmps24
  go_wp2_with (first | (refine wpList_build44 rfl _ rfl rfl ?_) | (refine wpList_store_row rfl rfl 69 _ _ rfl (w.heap.size + 1) rfl _ rfl 69 _ (heap_alloc2_new w _ _) hs1 hs2 hone ?_; intro w1 g1 hk1 hz1; have hk01 := (hal.alloc _).trans' hk1 (fun i e => .inr (by omega)); have hT2 := hT.keeps hk01 (fun h => h) (fun h => h); have hl2 := hl.keeps hk01 (fun _ _ _ _ h => h); have hsz2 : w.heap.size + 2 = w1.heap.size := (by rw [hz1]; simp)) | (go_at_call 28; refine (add16 _ (w.heap.size + 1) a n c [] l (has_new g1) hT2 (by omega) hl2 hne (by simp) (by omega)).mono ?_; rintro e w2 ⟨rfl, hH2, hk2⟩; rw [List.nil_append] at hH2; have hT3 := hT2.keeps hk2 (by omega) (by omega)) | (go_at_call 29; refine (end17 _ (w.heap.size + 1) l hH2 hT3 (by omega) (by rw [hl.len]; omega)).mono ?_; rintro e w3 ⟨rfl, hk3⟩; have g0 := ((hk3.block w.heap.size (by have := hk2.size; omega) (by omega)).trans (hk2.block w.heap.size (by omega) (by omega))).trans ((hk1.block w.heap.size (by simp; omega) (by omega)).trans (heap_alloc2_old w _ _))) | (refine wpList_store_all rfl 60 _ _ rfl w.heap.size rfl (brow (sha l)) rfl 60 (brow (zb 32)) g0 hs3 hs4 hone2 ?_))
  refine bodyPost_ret (v := .agg (brow (sha l))) ?_ rfl ⟨rfl, ((hk01.trans' hk2 (fun i e => .inr (by omega))).trans' hk3 (fun i e => .inr (by omega))).setRow (.inr (Nat.le_refl _)) _⟩
  exact results_cell_row rfl _ _ w.heap.size 60 (brow (sha l)) (0, 0) _ rfl (setRow_heap w3 _ _ _ _ _ g0) Tryd.underlying60 rfl hs3

end Go.Proofs.YtanmopbhglokmaaDoor
