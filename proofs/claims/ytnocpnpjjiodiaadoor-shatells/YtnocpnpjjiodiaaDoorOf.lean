/-
  Of, Check.
-/
import Derived.Test.YtnocpnpjjiodiaaDoorSu
set_option linter.all false
namespace Go.Proofs.YtnocpnpjjiodiaaDoor
open Go.RowKit

/-- A kind's byte. -/
def kb (k : Int) : B := BitVec.ofInt 8 k
theorem nb_kb (k : Int) : nb (kb k) = k % 256 := by
  unfold nb kb
  rw [BitVec.toNat_ofInt]
  have : (0 : Int) ≤ k % 256 := Int.emod_nonneg _ (by decide)
  omega
theorem slb_one {w : World} {q : Nat} (x : B) (c : Nat) (hc : 1 ≤ c) (h : w.cell? ⟨q, 0, none⟩ = some (.int .u8 (nb x))) : SlB w (some ⟨q, 0, none⟩) 1 c [x] :=
  ⟨rfl, hc, fun j y hy => by
    cases j with
    | zero => simp at hy; subst hy; exact ⟨q, 0, rfl, h⟩
    | succ j => simp at hy⟩

theorem buildSlice1 (x : Int) (w : World) : (Instr.buildSlice 22 1 #[(0, .int .u8 x)]).run Tryd.prog w = .ok (.slice (some ⟨w.heap.size, 0, none⟩) 1 1) (w.alloc (.cells #[.int .u8 x] 5)) := by kernel_rfl
theorem buildSlice0 (w : World) : (Instr.buildSlice 22 0 #[]).run Tryd.prog w = .ok (.slice (some ⟨w.heap.size, 0, none⟩) 0 0) (w.alloc (.cells #[] 5)) := by kernel_rfl

theorem wpList_buildSlice1 {ops : Array Oper} {rest : List Oper} {o : Oper} {a : Act} {w : World} {Q : Exit → Act → World → Prop} (hgd : o.guard = none) (x : Operand) (ho : o.op = .buildSlice 22 1 #[(0, x)]) (y : Int) (hx : a.eval x = .int .u8 y)
    (h : wpList Tryd.prog ops Q rest (a.put o.dst (.slice (some ⟨w.heap.size, 0, none⟩) 1 1)) (w.alloc (.cells #[.int .u8 y] 5))) : wpList Tryd.prog ops Q (o :: rest) a w := by
  refine wpList_plain hgd fun K hK => ?_
  unfold Oper.wp execOp
  simp only [ho, hx, List.map_toArray, List.map_cons, List.map_nil, buildSlice1, Sem.run_bind, Result.andThen_ok, Sem.run_pure]
  exact hK _ _ h

theorem cell_new1 (w : World) (v : Value) (t : TypeId) : (w.alloc (.cells #[v] t)).cell? ⟨w.heap.size, 0, none⟩ = some v := by
  rw [cell_of_row _ _ 0 _ _ _ (heap_alloc_new _ _)]; rfl
theorem keeps_alloc (w : World) (o : Obj) : Keeps (fun _ => False) w (w.alloc o) := (Keeps.refl _ _).alloc _

set_option maxRecDepth 100000 in
set_option maxHeartbeats 4000000 in
theorem of10 (w : World) (k : Int) (a : Option Addr) (n c : Nat) (l : List B) (hT : Tabs w) (hl : SlB w a n c l) (hn : n < 800000) :
    Calls Tryd.prog 10 #[.int .i64 k, .slice a n c] w fun e w' => e = .returned (.agg (brow (sha (kb k :: l)))) ∧ Keeps (fun _ => False) w w' := by
  have hz := zero24
  have hz4 := zero44
  have hal : Keeps (fun _ => False) w (w.alloc (.cells (brow (zb 32)) 24)) := (Keeps.refl _ _).alloc _
  have hT1 := hT.keeps hal (fun h => h) (fun h => h)
  have hsz := hT.size
  obtain ⟨c0, c1, c2, c3, c4, c5, c6, c7⟩ := first8 hT1
  have hs1 : (Tryd.prog.info? 44).map (·.size) = some (stRow h0.toL (zb 64) 0).size := by rw [size_stRow rfl (zb_len _)]; exact size44
  have hs2 : (stRow [0, 0, 0, 0, 0, 0, 0, 0] (zb 64) 0).size = (stRow h0.toL (zb 64) 0).size := rfl
  have hone := stRow_one h0.toL (zb 64) 0
  have hs3 : (Tryd.prog.info? 24).map (·.size) = some (brow (sha (kb k :: l))).size := by rw [size_brow, sha_len]; exact size24
  have hs4 : (brow (zb 32)).size = (brow (sha (kb k :: l))).size := by rw [size_brow, size_brow, sha_len, zb_len]
  have hone2 := brow_one (sha (kb k :: l))
  have hne : 0 < n → ∀ b o, a = some ⟨b, o, none⟩ → b ≠ w.heap.size + 1 := fun h0 b o e => by
    obtain ⟨b', o', e', hc⟩ := hl.at_ 0 _ (List.getElem?_eq_getElem (by have := hl.len; omega))
    rw [e] at e'; cases e'
    have := World.block_lt_of_cell? w _ hc
    dsimp only at this
    omega
  go_enter Tryd.func10, Tryd.ntmps10
  go_wp2_with (first | (refine wpList_buildSlice1 rfl _ rfl _ rfl ?_) | (refine wpList_build44 rfl _ rfl rfl ?_) | (refine wpList_store_row rfl rfl 44 _ _ rfl (w.heap.size + 1) rfl _ rfl 44 _ (heap_alloc2_new w _ _) hs1 hs2 hone ?_; intro w1 g1 hk1 hz1; have hk01 := (hal.alloc _).trans' hk1 (fun i e => .inr (by omega)); have hT2 := hT.keeps hk01 (fun h => h) (fun h => h); have hl2 := hl.keeps hk01 (fun _ _ _ _ h => h); have hsz2 : w.heap.size + 2 ≤ w1.heap.size := (by rw [hz1]; simp); have gz := (hk1.block w.heap.size (by simp; omega) (by omega)).trans (heap_alloc2_old w _ _); clear hz1) | (go_at_call 16; refine (add16 _ (w.heap.size + 1) a n c [kb k] l hH2 hT3 (by omega) hl3 hne (by simp) (by omega)).mono ?_; rintro e w3 ⟨rfl, hH3, hk3⟩; have hT4 := hT3.keeps hk3 (by omega) (by omega)) | (go_at_call 16; have hkA := keeps_alloc w1 (.cells #[.int .u8 (k % 256)] 5); refine (add16 _ (w.heap.size + 1) _ 1 1 [] [kb k] (has_new (hkA.row g1 (fun h => h))) (hT2.keeps hkA (fun h => h) (fun h => h)) (by omega) (slb_one (kb k) 1 (by omega) (by rw [nb_kb]; exact cell_new1 _ _ _)) (by rintro _ _ _ ⟨⟩; omega) (by simp) (by omega)).mono ?_; rintro e w2 ⟨rfl, hH2, hk2⟩; rw [List.nil_append] at hH2; have hT3 := (hT2.keeps hkA (fun h => h) (fun h => h)).keeps hk2 (by omega) (by omega); have hl3 := (hl2.keeps hkA (fun _ _ _ _ h => h)).keeps hk2 hne) | (go_at_call 17; refine (end17 _ (w.heap.size + 1) (kb k :: l) hH3 hT4 (by omega) (by have := hl.len; simp; omega)).mono ?_; rintro e w4 ⟨rfl, hk4⟩; have hk14 : Keeps (· = w.heap.size + 1) w1 w4 := ((hkA.mono (fun _ _ h => h.elim)).trans hk2).trans (hk3.trans hk4); have g0 := hk14.row gz (by omega)) | (refine wpList_store_all rfl 24 _ _ rfl w.heap.size rfl (brow (sha (kb k :: l))) rfl 24 (brow (zb 32)) g0 hs3 hs4 hone2 ?_))
  refine bodyPost_ret (v := .agg (brow (sha (kb k :: l)))) ?_ rfl ⟨rfl, (hk01.trans' hk14 (fun i e => .inr (by omega))).setRow (.inr (Nat.le_refl _)) _⟩
  exact results_cell_row rfl _ _ w.heap.size 24 (brow (sha (kb k :: l))) (0, 0) _ rfl (setRow_heap w4 _ _ _ _ _ g0) Tryd.underlying24 rfl hs3


end Go.Proofs.YtnocpnpjjiodiaaDoor
