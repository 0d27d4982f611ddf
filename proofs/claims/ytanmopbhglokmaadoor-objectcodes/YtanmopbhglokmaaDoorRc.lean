
/-
  The reference: Of, Check.
-/
import Derived.Test.YtanmopbhglokmaaDoorRs
set_option linter.all false
namespace Go.Proofs.YtanmopbhglokmaaDoor
open Go.RowKit Go.Sort

theorem own_mod (w : World) (k : Int) : OwnB (w.alloc (.cells #[.int .u8 (k % 256)] 5)) w.heap.size (.slice (some ⟨w.heap.size, 0, none⟩) 1 1) [kb k] := by
  have h := own_kb w (k % 256) (by omega)
  rwa [show kb (k % 256) = kb k from nb_inj (by rw [nb_kb, nb_kb]; omega)] at h

theorem rsum_to {L X : List B} (hX : Hid (sha L = X)) (w : World) (a : Option Addr) (n c : Nat) (hl : SlB w a n c L) (hnc : a = none → c = 0) (hn : n < 800000) :
    Calls Tryd.prog 27 #[.slice a n c] w fun e w' => e = .returned (.agg (brow X)) ∧ Keeps (fun _ => False) w w' := by
  rw [← hX.out]; exact sum9 w a n c L hl hnc hn

set_option maxRecDepth 100000 in
set_option maxHeartbeats 1000000 in
theorem check13 {X C : List B} (w : World) (a : Option Addr) (n c : Nat) (l : List B) (hl : SlB w a n c l) (hnc : a = none → c = 0) (hn : n < 700000) (HX : Hid (sha l = X)) (HC : Hid (X.take 4 = C)) :
    Calls Tryd.prog 21 #[.slice a n c] w fun e w' => ∃ a' n' c', e = .returned (.slice a' n' c') ∧ SlB w' a' n' c' C ∧ Keeps (fun _ => False) w w' := by
  have hz := zero24
  have lX : X.length = 32 := by rw [← HX.out]; exact sha_len _
  have hs3 : (Tryd.prog.info? 60).map (·.size) = some (brow X).size := by rw [size_brow, lX]; exact size24
  have hs4 : (brow (zb 32)).size = (brow X).size := by rw [size_brow, size_brow, lX, zb_len]
  have hone2 := brow_one X
  go_enter Tryd.func21, Tryd.ntmps21
  go_wp2_with (first | (go_at_call 27; refine (rsum_to HX _ _ _ _ hl hnc (by omega)).mono ?_; rintro e w1 ⟨rfl, hk1⟩) | (refine wpList_store_row rfl rfl 60 _ _ rfl w1.heap.size rfl (brow X) rfl 60 (brow (zb 32)) (heap_alloc_new w1 _) hs3 hs4 hone2 ?_; intro w2 g2 hk2 hz2; clear hz2; have k2 : Keeps (fun _ => False) w w2 := (hk1.alloc _).trans' hk2 (fun i e => .inr (by have := hk1.size; omega)); have sC : SlB w2 (some ⟨w1.heap.size, 0, none⟩) 4 32 C := (by have := SlB.ofRow g2 0 4 32 (by rw [lX]; omega) (by omega); rwa [List.drop_zero, HC.out] at this); have o2 := own_nil w2; have k3 := keeps_alloc w2 (.cells #[] 5)) | (refine wpList_buildSlice0 rfl rfl ?_) | (refine wpList_app rfl _ _ rfl w2.heap.size _ [] rfl o2 _ 4 32 C rfl (sC.keeps k3 (fun _ _ _ _ h => h)) (fun e => by cases e) (by simp) (by simp) ?_; intro v' w3 O3 hk3; obtain ⟨a', n', c', rfl, hs3', _, _⟩ := O3.slice))
  go_ret
  exact ⟨_, _, _, rfl, hs3', (k2.alloc _).trans' hk3 (fun i e => .inr (by have := k2.size; omega))⟩

end Go.Proofs.YtanmopbhglokmaaDoor
