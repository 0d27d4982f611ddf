/-
  join: the bytes of all blocks.
-/
import Derived.Test.YtanmopbhglokmaaDoorHd
set_option linter.all false
namespace Go.Proofs.YtanmopbhglokmaaDoor
open Go.RowKit Go.Sort

theorem wpList_load_mid {ops : Array Oper} {rest : List Oper} {o : Oper} {a : Act} {w : World} {Q : Exit → Act → World → Prop} (hgd : o.guard = none) (x : Operand) (ho : o.op = .load 40 x) (g off : Nat) (hx : a.eval x = .pointer (some ⟨g, off, none⟩)) (l : List B) (hc : w.rangeAt g off (brow l).toList)
    (hl : l.length = 128) (h : wpList Tryd.prog ops Q rest (a.put o.dst (.agg (brow l))) w) : wpList Tryd.prog ops Q (o :: rest) a w :=
  wpList_load_want (by unfold Region.wanted; rw [hgd]) 40 x ho g off hx (brow l) hc Tryd.underlying40 rfl (size40_of hl) h

theorem blk_snoc (L : List B) (i : Nat) : L.take ((i + 1) * 128) = L.take (i * 128) ++ blk L i := by
  rw [Nat.add_mul, Nat.one_mul, List.take_add]; rfl

set_option maxRecDepth 100000 in
set_option maxHeartbeats 1000000 in
theorem join23 (w : World) (a : Option Addr) (n c : Nat) (L : List B) (h : SlB w a (n * 128) (c * 128) L) (hn : n ≤ 1000) :
    Calls Tryd.prog 23 #[.slice a n c] w fun e w' => ∃ v, e = .returned v ∧ OwnB w' w.heap.size v L ∧ Keeps (fun _ => False) w w' := by
  have hl := h.len
  have Hl : Hid (L.length = n * 128) := hl
  have hn' : (n : Int) ≤ 1000 := by omega
  have hz := zero40
  clear hl
  go_enter Tryd.func23, Tryd.ntmps23
  go_wp2_with (refine wpList_make_b rfl _ _ rfl rfl (n * 128) _ rfl (by omega) (by omega) ?_; intro w1 O1 k1)
  go_loopw [3, 12] (fun v t wr => ∃ i : Nat, i ≤ n ∧ t = .int .i64 i ∧ OwnB wr w.heap.size v (L.take (i * 128)) ∧ Keeps (fun _ => False) w wr) (fun _ t _ => n - (intOf t).toNat)
  case atStart => exact ⟨0, by omega, rfl, by simpa using O1, k1⟩
  case round =>
    clear O1 k1
    obtain ⟨i, hi, rfl, O, hk⟩ := hrel
    by_cases hlt : i < n
    · have hlt' : (i : Int) < (n : Int) := by omega
      have hi0 : (0 : Int) ≤ (i : Int) := by omega
      obtain ⟨b, o, rfl, lb, hr⟩ := (h.keeps hk (fun _ _ _ _ h => h)).blk i hlt
      have hr0 := hr wr (Keeps.refl _ _)
      have Hs := blk_snoc L i
      have HS : Hid (L.take ((i + 1) * 128) = L.take (i * 128) ++ blk L i) := Hs
      have Hq : Hid ((L.take (i * 128)).length ≤ 128000) := by show _ ≤ _; rw [List.length_take]; omega
      obtain ⟨x, hx⟩ : ∃ x, blk L i = x := ⟨_, rfl⟩
      rw [hx] at lb hr0 HS
      have sx := size40_of lb
      have sz : (brow (zb 128)).size = (brow x).size := by rw [size_brow, size_brow, lb, zb_len]
      have ox := brow_one x
      obtain ⟨a3, n3, c3, rfl, _⟩ := O.slice
      clear hr Hs hx
      go_wp2_with (first
        | (refine wpList_load_mid rfl _ rfl b (o + i * 128) rfl x hr0 lb ?_)
        | (refine wpList_store_row rfl rfl 40 _ _ rfl wr.heap.size rfl (brow x) rfl 40 (brow (zb 128)) (heap_alloc_new wr _) sx sz ox ?_; intro w2 g2 k2 z2; have k02 := keeps_new5 k2; have O2 := O.keeps k02 (fun _ _ h => h.elim); have K2 := hk.trans k02; have s2 : SlB w2 (some ⟨wr.heap.size, 0, none⟩) 128 128 x := (by have := slb_box g2; rwa [lb] at this); clear z2 k2 g2)
        | (refine wpList_app rfl _ _ rfl w.heap.size _ _ rfl O2 _ 128 128 x rfl s2 (fun e => by cases e) (by have := Hq.out; omega) (by have := K2.size; omega) ?_; intro v3 w3 O3 k3; rw [← HS.out] at O3))
      exact ⟨⟨i + 1, by omega, by go_num, O3, K2.trans' k3 (fun i e => .inr e)⟩, by simp [intOf]; omega⟩
    · obtain rfl : i = n := by omega
      rw [List.take_of_length_le (by have := Hl.out; omega)] at O
      go_wp2
      go_ret
      exact ⟨_, rfl, O, hk⟩

end Go.Proofs.YtanmopbhglokmaaDoor
