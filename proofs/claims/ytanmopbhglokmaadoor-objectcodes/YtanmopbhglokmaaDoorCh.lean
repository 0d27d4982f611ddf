
/-
  Check.
-/
import Derived.Test.YtanmopbhglokmaaDoorLe
set_option linter.all false
namespace Go.Proofs.YtanmopbhglokmaaDoor
open Go.RowKit

theorem four (l : List B) (h : 4 ≤ l.length) : ∃ a b c d t, l = a :: b :: c :: d :: t := by
  match l, h with
  | a :: b :: c :: d :: t, _ => exact ⟨a, b, c, d, t, rfl⟩

theorem arrayAt27 (g : Nat) (w : World) : (Instr.arrayAt 41 (.slice (some ⟨g, 0, none⟩) 4 32)).run Tryd.prog w = .ok (.pointer (some ⟨g, 0, none⟩)) w := by kernel_rfl

set_option maxRecDepth 100000 in
set_option maxHeartbeats 1000000 in
theorem check7 (w : World) (a : Option Addr) (n c : Nat) (l : List B) (hT : Tabs w) (hl : SlB w a n c l) (hn : n < 900000) :
    Calls Tryd.prog 17 #[.slice a n c] w fun e w' => e = .returned (.agg (brow ((sha l).take 4))) ∧ Keeps (fun _ => False) w w' := by
  have hz := zero24
  have har := arrayAt27
  obtain ⟨d0, d1, d2, d3, t, hD⟩ := four (sha l) (by rw [sha_len]; omega)
  have hs3 : (Tryd.prog.info? 60).map (·.size) = some (brow (sha l)).size := by rw [size_brow, sha_len]; exact size24
  have hs4 : (brow (zb 32)).size = (brow (sha l)).size := by rw [size_brow, size_brow, sha_len, zb_len]
  have hone2 := brow_one (sha l)
  have HD : Hid (sha l = d0 :: d1 :: d2 :: d3 :: t) := hD
  clear hD
  go_enter Tryd.func17, Tryd.ntmps17
  go_wp2_with (first | (go_at_call 24; have hka := keeps_alloc w (.cells #[.int .u8 0, .int .u8 0, .int .u8 0, .int .u8 0] 41); refine (sum8 _ a n c l (hT.keeps hka (fun h => h) (fun h => h)) (hl.keeps hka (fun _ _ _ _ h => h)) hn).mono ?_; rintro e w1 ⟨rfl, hk1⟩; have g0 := hk1.row (heap_alloc_new w _) (fun h => h); have hlt := lt_of_row g0; have hk01 := hka.none hk1) | (refine wpList_store_row rfl rfl 60 _ _ rfl w1.heap.size rfl (brow (sha l)) rfl 60 (brow (zb 32)) (heap_alloc_new w1 _) hs3 hs4 hone2 ?_; intro w2 g2 hk2 hz2; clear hz2; have g02 := hk2.row ((keeps_alloc w1 (.cells (brow (zb 32)) 60)).row g0 (fun h => h)) (by omega); rw [HD.out] at g2; have k0 : w2.cell? ⟨w1.heap.size, 0, none⟩ = some (.int .u8 (nb d0)) := (cell_of_row w2 _ 0 _ _ _ g2); have k1 : w2.cell? ⟨w1.heap.size, 1, none⟩ = some (.int .u8 (nb d1)) := (cell_of_row w2 _ 1 _ _ _ g2); have k2 : w2.cell? ⟨w1.heap.size, 2, none⟩ = some (.int .u8 (nb d2)) := (cell_of_row w2 _ 2 _ _ _ g2); have k3 : w2.cell? ⟨w1.heap.size, 3, none⟩ = some (.int .u8 (nb d3)) := (cell_of_row w2 _ 3 _ _ _ g2)) | (refine wpList_store_all rfl 41 _ _ rfl w.heap.size rfl (brow [d0, d1, d2, d3]) rfl 41 _ g02 (by kernel_rfl) rfl (brow_one _) ?_))
  refine bodyPost_ret (v := .agg (brow ((sha l).take 4))) ?_ rfl ⟨rfl, (((hk01.alloc _).trans' hk2 (fun i e => .inr (by omega)))).setRow (.inr (Nat.le_refl _)) _⟩
  have e4 : (sha l).take 4 = [d0, d1, d2, d3] := by rw [HD.out]; rfl
  rw [e4]
  exact results_cell_row rfl _ _ w.heap.size 41 (brow [d0, d1, d2, d3]) (0, 0) _ rfl (setRow_heap w2 _ _ _ _ _ g02) Tryd.underlying41 rfl (by kernel_rfl)

end Go.Proofs.YtanmopbhglokmaaDoor
