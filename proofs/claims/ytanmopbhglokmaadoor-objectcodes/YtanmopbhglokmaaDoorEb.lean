
/-
  end: the walk.
-/
import Derived.Test.YtanmopbhglokmaaDoorEa
set_option linter.all false
namespace Go.Proofs.YtanmopbhglokmaaDoor
open Go.RowKit

def zb (n : Nat) : List B := List.replicate n 0
theorem zb_len (n : Nat) : (zb n).length = n := by simp [zb]
theorem info54 : (Tryd.prog.info? 77).map (fun i => (i.zero, i.size)) = some (some (.agg (brow (zb 72))), 72) := by kernel_rfl
theorem zero54 (w : World) : (zeroValue 77).run Tryd.prog w = .ok (.agg (brow (zb 72))) w := (zero_of_info info54).1 w
theorem info24 : (Tryd.prog.info? 60).map (fun i => (i.zero, i.size)) = some (some (.agg (brow (zb 32))), 32) := by kernel_rfl
theorem zero24 (w : World) : (zeroValue 60).run Tryd.prog w = .ok (.agg (brow (zb 32))) w := (zero_of_info info24).1 w
theorem size24 : (Tryd.prog.info? 60).map (·.size) = some 32 := (zero_of_info info24).2

theorem put21' (w : World) (g o n c x : Nat) (l : List B) (ty : TypeId) (X : Int) (hX : X = (x : Int)) (hg : w.heap[g]? = some (.cells (brow l) ty (0, 0))) (hn : o + n ≤ l.length) (hm : n ≤ 64) (hx : x < 18446744073709551616) :
    Calls Tryd.prog 32 #[.slice (some ⟨g, o, none⟩) n c, .int .u64 X] w fun e w' => e = .returned (.tuple #[]) ∧ w'.heap[g]? = some (.cells (brow (ov l o (beN n x))) ty (0, 0)) ∧ Keeps (· = g) w w' := by
  subst hX; exact put21 w g o n c x l ty hg hn hm hx

theorem SlB.ofRow {w : World} {g : Nat} {l : List B} {ty : TypeId} {fr : Nat × Nat} (hg : w.heap[g]? = some (.cells (brow l) ty fr)) (o k c : Nat) (hk : o + k ≤ l.length) (hc : k ≤ c) : SlB w (some ⟨g, o, none⟩) k c ((l.drop o).take k) := by
  refine ⟨by simp; omega, hc, fun j x hx => ⟨g, o, rfl, ?_⟩⟩
  rw [List.getElem?_take] at hx
  split at hx
  · rw [List.getElem?_drop] at hx
    rw [cell_of_row w g (o + j) _ _ _ hg, brow_get, hx]; rfl
  · cases hx

theorem tail_row : (brow (zb 72)).setIfInBounds 0 (.int .u8 128) = brow (128 :: zb 71) := by
  have := brow_set (zb 72) 0 128
  exact this
theorem tail_take (T N : Nat) (hN : plen T = N) : (ov (128 :: zb 71) N (beN 8 (T * 8))).take (N + 8) = padd T := by
  have h1 := plen_pos T
  have h2 := plen_le T
  have := ov_take (128 :: zb 71) (beN 8 (T * 8)) N (by simp [zb_len]; omega)
  rw [beN_len] at this
  rw [this]
  unfold padd
  rw [hN]
  obtain ⟨M, rfl⟩ : ∃ M, N = M + 1 := ⟨N - 1, by omega⟩
  simp only [List.take_succ_cons, zb, List.take_replicate, Nat.add_sub_cancel]
  rw [Nat.min_eq_left (by omega)]

/-- The state behind the padding. -/
def fin (bs : List B) : St := hashN (bs ++ padd bs.length) ((bs.length + plen bs.length + 8) / 64)
theorem sha_fin (bs : List B) : sha bs = (fin bs).dig := rfl
theorem has_fin {w : World} {p : Nat} {bs : List B} (h : Has w p (bs ++ padd bs.length)) : ∃ rest t, StAt w p (fin bs).toL rest t := by
  obtain ⟨rest, hS, _⟩ := h.out
  have e : (bs ++ padd bs.length).length = bs.length + plen bs.length + 8 := by simp [padd_len]; omega
  rw [e] at hS
  exact ⟨rest, _, hS⟩

/-- 32 bytes: those of the first i words, then zeros. -/
def digP (s : St) (i : Nat) : List B := (s.toL.take i).flatMap (fun x => beN 4 x.toNat) ++ zb (32 - 4 * i)
theorem digP_all (s : St) : digP s 8 = s.dig := by simp [digP, St.dig, zb]; rw [List.take_of_length_le (by rw [toL_len]; omega)]
theorem flat_len (l : List W) : (l.flatMap fun x => beN 4 x.toNat).length = 4 * l.length := by
  induction l with
  | nil => rfl
  | cons x l ih => simp [ih, beN_len]; omega
theorem digP_len (s : St) (i : Nat) (hi : i ≤ 8) : (digP s i).length = 32 := by
  simp only [digP, List.length_append, flat_len, zb_len, List.length_take, toL_len]; omega
theorem digP_ov (s : St) (i : Nat) (hi : i < 8) : ov (digP s i) (4 * i) (beN 4 (s.toL.getD i 0).toNat) = digP s (i + 1) := by
  have hl : ((s.toL.take i).flatMap fun x => beN 4 x.toNat).length = 4 * i := by rw [flat_len]; simp [toL_len]; omega
  unfold ov
  rw [beN_len]
  have e1 : (digP s i).take (4 * i) = (s.toL.take i).flatMap fun x => beN 4 x.toNat := by
    unfold digP; rw [← hl, List.take_left]
  have e2 : (digP s i).drop (4 * i + 4) = zb (32 - 4 * (i + 1)) := by
    unfold digP
    rw [List.drop_append, hl, List.drop_eq_nil_of_le (by omega)]
    simp [zb]; omega
  have e3 : s.toL.take (i + 1) = s.toL.take i ++ [s.toL.getD i 0] := by
    rw [List.take_succ_eq_append_getElem (by rw [toL_len]; exact hi), List.getD_eq_getElem?_getD, List.getElem?_eq_getElem (by rw [toL_len]; exact hi)]; rfl
  rw [e1, e2]
  unfold digP
  rw [e3]
  simp

theorem words8 {w : World} {p : Nat} {v : St} {rest : List B} {t : Int} (h : StAt w p v.toL rest t) :
    w.cell? ⟨p, 0, none⟩ = some (.int .u32 (nw v.a)) ∧ w.cell? ⟨p, 1, none⟩ = some (.int .u32 (nw v.b)) ∧ w.cell? ⟨p, 2, none⟩ = some (.int .u32 (nw v.c)) ∧ w.cell? ⟨p, 3, none⟩ = some (.int .u32 (nw v.d)) ∧
    w.cell? ⟨p, 4, none⟩ = some (.int .u32 (nw v.e)) ∧ w.cell? ⟨p, 5, none⟩ = some (.int .u32 (nw v.f)) ∧ w.cell? ⟨p, 6, none⟩ = some (.int .u32 (nw v.g)) ∧ w.cell? ⟨p, 7, none⟩ = some (.int .u32 (nw v.h)) :=
  ⟨h.word 0 (by omega), h.word 1 (by omega), h.word 2 (by omega), h.word 3 (by omega), h.word 4 (by omega), h.word 5 (by omega), h.word 6 (by omega), h.word 7 (by omega)⟩
theorem fin_at {w : World} {p T N : Nat} {bs : List B} {v : St} (hT : bs.length = T) (hN : plen T = N) (hv : fin bs = v) (h : Has w p (bs ++ ((ov (128 :: zb 71) N (beN 8 (T * 8))).drop 0).take (N + 8))) : ∃ rest t, StAt w p v.toL rest t := by
  rw [List.drop_zero, tail_take T N hN, ← hT] at h
  rw [← hv]
  exact has_fin h

theorem slice24 (q k : Nat) (hk : k < 8) (w : World) : (Instr.sliceAt 60 (.pointer (some ⟨q, 0, none⟩)) (some (.int .i64 (4 * (k : Int)))) (some (.int .i64 (4 * ((k : Int) + 1)))) none).run Tryd.prog w = .ok (.slice (some ⟨q, 4 * k, none⟩) 4 (32 - 4 * k)) w := by
  have h1 := run_sliceAt_array_lh (P := Tryd.prog) w 60 ⟨q, 0, none⟩ Tryd.underlying60 .i64 .i64 (4 * (k : Int)) (4 * ((k : Int) + 1)) (by omega) (by omega) (by rw [show Tryd.prog.arrayLen 60 = 32 by kernel_rfl]; omega)
  rw [h1]
  have e1 : (4 * (k : Int)).toNat = 4 * k := by omega
  have e2 : (4 * ((k : Int) + 1)).toNat = 4 * k + 4 := by omega
  have e3 : Tryd.prog.arrayLen 60 = 32 := by kernel_rfl
  have e4 : (sizeOf (Tryd.prog.elem 60)).run Tryd.prog w = .ok 1 w := by kernel_rfl
  rw [e1, e2, e3, e4]
  simp only [Result.andThen_ok, slicedAt]
  rw [if_neg (by omega), Addr_add]
  simp

set_option maxRecDepth 100000 in
set_option maxHeartbeats 4000000 in
theorem end17 (w : World) (p : Nat) (bs : List B) (hH : Has w p bs) (hT : Tabs w) (hp : 1 < p) (hb : bs.length < 900000) :
    Calls Tryd.prog 29 #[.pointer (some ⟨p, 0, none⟩)] w fun e w' => e = .returned (.agg (brow (sha bs))) ∧ Keeps (· = p) w w' := by
  have hz := zero54
  have hz2 := zero24
  obtain ⟨rest, hS, hr⟩ := hH.out
  have ht := hS.total
  have hpl := lt_of_row hS.row
  obtain ⟨T, hbl⟩ : ∃ T, bs.length = T := ⟨_, rfl⟩
  rw [hbl] at ht hb
  have Hbl : Hid (bs.length = T) := hbl
  obtain ⟨H, hHe⟩ : ∃ H, T % 64 = H := ⟨_, rfl⟩
  have HH : Hid (T % 64 = H) := hHe
  have hTH : (T : Int) % 64 = (H : Int) := by omega
  have hH64 : H < 64 := by omega
  obtain ⟨N, hNe⟩ : ∃ N, plen T = N := ⟨_, rfl⟩
  have HN : Hid (plen T = N) := hNe
  have hN1 : 0 < N := by rw [← hNe]; exact plen_pos T
  have hN2 : N ≤ 64 := by rw [← hNe]; exact plen_le T
  have hNN : (1 : Int) + (119 - (H : Int)) % 64 = (N : Int) := by unfold plen at hNe; omega
  have h72 : (N : Int) + 8 ≤ 72 := by omega
  have h73 : (N : Int) ≤ (N : Int) + 8 := by omega
  have h74 : (0 : Int) ≤ (N : Int) + 8 := by omega
  obtain ⟨v, hve⟩ : ∃ v, fin bs = v := ⟨_, rfl⟩
  have Hv : Hid (fin bs = v) := hve
  clear hbl hHe hNe hr hS hve
  go_enter Tryd.func29, Tryd.ntmps29
  go_wp2_with (first | (go_at_call 32; refine (put21' _ (w.heap.size + 1) N 8 _ (T * 8) (128 :: zb 71) 77 _ (by rw [Int.natCast_mul]; rfl) (by rw [← tail_row]; exact heap_alloc2_new w _ _) (by simp [zb_len]; omega) (by omega) (by omega)).mono ?_; rintro e w1 ⟨rfl, g1, hk1⟩; have hk01 : Keeps (· = p) w w1 := ((((Keeps.refl _ _).alloc _).alloc _).trans' hk1 (fun i e => .inr (by omega))); have hsl := SlB.ofRow g1 0 (N + 8) 72 (by rw [ov_len _ _ _ (by simp [beN_len, zb_len]; omega)]; simp [zb_len]; omega) (by omega); have hHas := hH.keeps ((((Keeps.refl (fun _ => False) _).alloc _).alloc _).trans' hk1 (fun i e => .inr (by omega))) (fun h => h)) | (go_at_call 28; refine (add16 _ p _ _ _ bs _ hHas (hT.keeps hk01 (by omega) (by omega)) hp hsl (by rintro _ _ _ ⟨⟩; omega) (by rw [Hbl.out]; omega) (by omega)).mono ?_; rintro e w2 ⟨rfl, hH2, hk2⟩; obtain ⟨rest2, t2, hS2⟩ := fin_at Hbl.out HN.out Hv.out hH2; obtain ⟨a0, a1, a2, a3, a4, a5, a6, a7⟩ := words8 (hS2.keeps ((Keeps.refl (fun _ => False) w2).alloc (.cells (brow (zb 32)) 60)) (fun h => h))))
  have hK2 : Keeps (· = p) w (w2.alloc (.cells (brow (zb 32)) 60)) := (hk01.trans hk2).alloc _
  have hq0 : w.heap.size < w2.heap.size := by have h1 := hk1.size; have h2 := hk2.size; simp at h1; omega
  have g0 : (w2.alloc (.cells (brow (zb 32)) 60)).heap[w.heap.size]? = some (.cells (brow (zb 32)) 60 (0, 0)) := by
    rw [Below.heap_alloc w2 _ _ hq0, hk2.block _ (by have := hk1.size; simp at this; omega) (by omega), hk1.block _ (by simp; omega) (by omega)]
    exact heap_alloc2_old w _ _
  have g6 : (w2.alloc (.cells (brow (zb 32)) 60)).heap[w2.heap.size]? = some (.cells (brow (digP v 0)) 60 (0, 0)) := heap_alloc_new _ _
  generalize w2.alloc (.cells (brow (zb 32)) 60) = w3 at *
  generalize hq6 : w2.heap.size = q6 at *
  have hix := index40 v
  clear a0 a1 a2 a3 a4 a5 a6 a7 hk2 hk1 hk01 hsl hHas hH2 hS2 g1 hz hz2 ht hT hH h72 h73 h74 hNN hTH
  go_loopw [38] (fun i wr => ∃ k : Nat, k ≤ 8 ∧ i = .int .i64 k ∧ wr.heap[w.heap.size]? = some (.cells (brow (zb 32)) 60 (0, 0)) ∧ wr.heap[q6]? = some (.cells (brow (digP v k)) 60 (0, 0)) ∧ Keeps (· = p) w wr) (fun i _ => 8 - (intOf i).toNat)
  case atStart => exact ⟨0, by omega, rfl, g0, g6, hK2⟩
  case round =>
    clear g0 g6 hK2
    obtain ⟨k, hk, rfl, g0, g6, hK⟩ := hrel
    by_cases hlt : k < 8
    · have hlt' : (k : Int) < 8 := by omega
      have hi := fun w => hix k hlt w
      have hov := digP_ov v k hlt
      have hdl := digP_len v k hk
      generalize v.toL.getD k 0 = x at *
      have Hov : Hid (ov (digP v k) (4 * k) (beN 4 x.toNat) = digP v (k + 1)) := hov
      have hsl := slice24 q6 k hlt
      clear hix hov
      go_wp2_with (go_at_call 33; refine (put22 _ q6 (4 * k) 4 _ x.toNat (digP v k) 60 g6 (by rw [hdl]; omega) (by omega) x.isLt).mono ?_; rintro e w4 ⟨rfl, g4, hk4⟩)
      go_roundw
      case rel => 
        rw [Hov.out] at g4
        exact ⟨k + 1, by omega, by go_num, (hk4.block _ (lt_of_row g0) (by omega)).trans g0, g4, hK.trans' hk4 (fun i e => .inr (by omega))⟩
      case measure => simp [intOf]; omega
    · obtain rfl : k = 8 := by omega
      rw [digP_all, ← Hv.out, ← sha_fin] at g6
      have hs1 : (Tryd.prog.info? 60).map (·.size) = some (brow (sha bs)).size := by rw [size_brow, sha_len]; exact size24
      have hs2 : (brow (zb 32)).size = (brow (sha bs)).size := by rw [size_brow, size_brow, sha_len, zb_len]
      have hone := brow_one (sha bs)
      go_wp2_with (first | (refine wpList_load_row rfl 60 _ rfl q6 rfl 60 (brow (sha bs)) (0, 0) _ g6 Tryd.underlying60 rfl hs1 ?_) | (refine wpList_store_all rfl 60 _ _ rfl w.heap.size rfl (brow (sha bs)) rfl 60 (brow (zb 32)) g0 hs1 hs2 hone ?_))
      refine bodyPost_ret (v := .agg (brow (sha bs))) ?_ rfl ⟨rfl, hK.setRow (.inr (Nat.le_refl _)) _⟩
      exact results_cell_row rfl _ _ w.heap.size 60 (brow (sha bs)) (0, 0) _ rfl (setRow_heap wr _ _ _ _ _ g0) Tryd.underlying60 rfl hs1

end Go.Proofs.YtanmopbhglokmaaDoor
