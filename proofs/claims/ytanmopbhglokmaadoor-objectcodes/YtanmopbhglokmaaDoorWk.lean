/-
  wakes.
-/
import Derived.Test.YtanmopbhglokmaaDoorBd
set_option linter.all false
namespace Go.Proofs.YtanmopbhglokmaaDoor
open Go.RowKit Go.Sort

theorem body11_fr (w : World) (hT : Tabs w) (a : Option Addr) (n c : Nat) {k : Int} {l L : List B} (hL : Hid (fr k l = L)) (hk : 1 ≤ k ∧ k ≤ 6) (hl : l.length ≤ 1000) (h : SlB w a (n * 128) (c * 128) L) :
    Calls Tryd.prog 11 #[.slice a n c] w fun e w' => ∃ a' c', e = .returned (.tuple #[.int .i64 k, .slice a' l.length c', .int .i64 0]) ∧ SlB w' a' l.length c' l ∧ (a' = none → c' = 0) ∧ Keeps (fun _ => False) w w' := by
  refine (body11 w hT a n c L h).mono fun e w' ⟨h1, h2⟩ => ?_
  have ho := fr_obj k l hk.1 hk.2 hl
  rw [hL.out] at ho
  have e1 : kindOf L = k := by rw [← hL.out, fr_kind]; omega
  have e2 : lnOf L = l.length := by rw [← hL.out, fr_ln k l (by omega)]
  have e3 : bodyOf L = l := by rw [← hL.out, fr_body k l (by omega)]
  rcases h1.out with ⟨_, a', c', he, hs, hnc⟩ | ⟨hno, _⟩
  · rw [e1, e2] at he
    rw [e2, e3] at hs
    exact ⟨a', c', he, hs, hnc, h2⟩
  · exact absurd ho hno
theorem body11_not (w : World) (hT : Tabs w) (a : Option Addr) (n c : Nat) {L : List B} (hno : ¬ IsObj L) (h : SlB w a (n * 128) (c * 128) L) :
    Calls Tryd.prog 11 #[.slice a n c] w fun e w' => e = .returned (.tuple #[.int .i64 0, .slice none 0 0, .int .i64 11]) ∧ Keeps (fun _ => False) w w' := by
  refine (body11 w hT a n c L h).mono fun e w' ⟨h1, h2⟩ => ?_
  rcases h1.out with ⟨ho, _⟩ | ⟨_, he⟩
  · exact absurd ho hno
  · exact ⟨he, h2⟩

def ab : List B := [97, 98]
theorem buildAB (w : World) : (Instr.buildSlice 22 2 #[(0, .int .u8 97), (1, .int .u8 98)]).run Tryd.prog w = .ok (.slice (some ⟨w.heap.size, 0, none⟩) 2 2) (w.alloc (.cells (brow ab) 5)) := by kernel_rfl
theorem make1 (w : World) : (Instr.makeSlice 23 (.int .i64 1) (.int .i64 1)).run Tryd.prog w = .ok (.slice (some ⟨w.heap.size, 0, none⟩) 1 1) (w.alloc (.cells (brow (zb 128)) 40)) := by kernel_rfl
theorem zb_not : ¬ IsObj (zb 128) := fun h => by have := h.k1; simp [kindOf, nb, zb, List.replicate] at this
theorem slb_ab {w1 : World} {q : Nat} (g : ∃ fr, w1.heap[q]? = some (.cells (brow ab) 5 fr)) : SlB w1 (some ⟨q, 0, none⟩) 2 2 ab := by
  obtain ⟨fr, g⟩ := g; exact slb_box g

theorem frAB : ∃ x y z u, fr 3 ab = [kb 3, kb 0, kb 2, 97, 98, x, y, z, u] ++ zb 119 := by
  obtain ⟨a, b, c, d, t, h⟩ := four (sha (txt 3 ab)) (by rw [sha_len]; omega)
  have e : chk 3 ab = [kb 3, kb 0, kb 2, 97, 98, a, b, c, d] := by unfold chk; rw [h]; rfl
  refine ⟨a, b, c, d, ?_⟩
  unfold fr padB
  rw [e]; rfl

end Go.Proofs.YtanmopbhglokmaaDoor
