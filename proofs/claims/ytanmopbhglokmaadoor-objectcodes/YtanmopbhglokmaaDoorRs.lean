
/-
  The reference: Sum.
-/
import Derived.Test.YtanmopbhglokmaaDoorRb
import Derived.Test.YtanmopbhglokmaaDoorOh
set_option linter.all false
namespace Go.Proofs.YtanmopbhglokmaaDoor
open Go.RowKit Go.Sort

theorem own_nil (w : World) : OwnB (w.alloc (.cells #[] 5)) w.heap.size (.slice (some ⟨w.heap.size, 0, none⟩) 0 0) [] :=
  OwnB.row (t := 5) (l := []) (heap_alloc_new w _) (Nat.le_refl _) (by simp)
theorem OwnB.keeps {S : Nat → Prop} {w w' : World} {base : Nat} {v : Value} {l : List B} (h : OwnB w base v l) (hk : Keeps S w w') (hS : ∀ i, i < w.heap.size → S i → i < base) : OwnB w' base v l := by
  obtain ⟨h1, h2⟩ := h.owns
  refine ⟨h1, ?_⟩
  rcases h2 with h2 | ⟨g, cap, cur, rfl, hb, hg, h3⟩
  · exact .inl h2
  · exact .inr ⟨g, cap, cur, rfl, hb, hk.row hg (fun hs => by have := hS g (lt_of_row hg) hs; omega), h3⟩
theorem wpList_buildSlice0 {ops : Array Oper} {rest : List Oper} {o : Oper} {a : Act} {w : World} {Q : Exit → Act → World → Prop} (hgd : o.guard = none) (ho : o.op = .buildSlice 22 0 #[])
    (h : wpList Tryd.prog ops Q rest (a.put o.dst (.slice (some ⟨w.heap.size, 0, none⟩) 0 0)) (w.alloc (.cells #[] 5))) : wpList Tryd.prog ops Q (o :: rest) a w := by
  refine wpList_plain hgd fun K hK => ?_
  unfold Oper.wp execOp
  simp only [ho, List.map_toArray, List.map_nil, buildSlice0, Sem.run_bind, Result.andThen_ok, Sem.run_pure]
  exact hK _ _ h
theorem slb_new (w : World) (x : B) (k : Int) (h : nb x = k) : SlB (w.alloc (.cells #[.int .u8 k] 5)) (some ⟨w.heap.size, 0, none⟩) 1 1 [x] := by subst h; exact slb_one x 1 (by omega) (cell_new1 _ _ _)
theorem own_step {w : World} {base : Nat} {v : Value} {l : List B} (o : Obj) (h : OwnB w base v l) : OwnB (w.alloc o) base v l :=
  h.keeps (S := fun _ => False) (keeps_alloc w _) (fun _ _ h => h.elim)

/-- While it grows: the result's block stands ahead of the row's, all else is as it was. -/
structure Gr (q : Nat) (w V : World) (v : Value) (l : List B) : Prop where
  g : V.heap[q]? = some (.cells (brow (zb 32)) 60 (0, 0))
  own : OwnB V (q + 1) v l
  keeps : Keeps (fun _ => False) w V
theorem Gr.next {q : Nat} {w V V' : World} {v v' : Value} {l l' : List B} {o : Obj} (h : Gr q w V v l) (hq : w.heap.size = q) (ho : OwnB V' (q + 1) v' l') (hk : Keeps (fun k => q + 1 ≤ k) (V.alloc o) V') : Gr q w V' v' l' :=
  ⟨hk.row ((keeps_alloc V o).row h.g (fun h => h)) (by omega), ho, (h.keeps.alloc o).trans' hk (fun i e => .inr (by omega))⟩
theorem gr_first {w w1 : World} {v1 : Value} {l : List B} (hk1 : Keeps (fun k => w.heap.size + 1 ≤ k) ((w.alloc (.cells (brow (zb 32)) 60)).alloc (.cells #[] 5)) w1) (O1 : OwnB w1 (w.heap.size + 1) v1 ([] ++ l)) : Gr w.heap.size w w1 v1 l := by
  refine ⟨hk1.row (heap_alloc2_old w _ _) (by omega), O1, ?_⟩
  exact (((Keeps.refl (fun _ => False) w).alloc _).alloc _).trans' hk1 (fun i e => .inr (by omega))
theorem Gr.size {q : Nat} {w V : World} {v : Value} {l : List B} (h : Gr q w V v l) : q + 1 ≤ V.heap.size := by have := lt_of_row h.g; omega

/-- The padding ahead of the length: the bit and m zeros. -/
def bitz (m : Nat) : List B := 128 :: List.replicate m 0
theorem bitz_len (m : Nat) : (bitz m).length = m + 1 := by simp [bitz]
theorem bitz_snoc (m : Nat) : bitz m ++ [0] = bitz (m + 1) := by simp [bitz, List.replicate_succ']

theorem len_byte (x j : Nat) (hj : j < 8) : (beN 8 x)[j]? = some (BitVec.ofNat 8 (x / 256 ^ (7 - j))) := by
  simp [beN, hj]
theorem len_int (n j : Nat) (hj : j < 8) : nb (BitVec.ofNat 8 (n * 8 / 256 ^ (7 - j))) = (n : Int) * 8 / 2 ^ (56 - 8 * j) % 256 := by
  rw [nb_ofNat, show (256 : Nat) = 2 ^ 8 from rfl, ← Nat.pow_mul, show 8 * (7 - j) = 56 - 8 * j by omega, Int.natCast_ediv, Int.natCast_mul, Int.natCast_pow]
  rfl
theorem len_take (x j : Nat) (hj : j < 8) : (beN 8 x).take (j + 1) = (beN 8 x).take j ++ [BitVec.ofNat 8 (x / 256 ^ (7 - j))] := by
  rw [List.take_succ, len_byte x j hj]; rfl
theorem padd_is (l : List B) (n m : Nat) (h : m + 1 = plen n) : l ++ bitz m ++ (beN 8 (n * 8)).take 8 = l ++ padd n := by
  rw [List.take_of_length_le (by rw [beN_len]; omega), List.append_assoc]
  unfold padd bitz
  rw [← h, Nat.add_sub_cancel]

/-- While block after block is taken in. -/
structure S3 (q q6 b o : Nat) (w V : World) (PP : List B) (s : St) : Prop where
  g : V.heap[q]? = some (.cells (brow (zb 32)) 60 (0, 0))
  g6 : V.heap[q6]? = some (.cells (wrow s.toL) 73 (0, 0))
  by_ : BytesAt V b o PP
  keeps : Keeps (fun _ => False) w V
theorem S3.drew {q q6 b o : Nat} {w V : World} {PP : List B} {s : St} (h : S3 q q6 b o w V PP s) : S3 q q6 b o w V.drew PP s := ⟨h.g, h.g6, h.by_.keeps (S := fun _ => False) ((Keeps.refl _ _).drew) (fun h => h), h.keeps.drew⟩
theorem S3.next {q q6 b o : Nat} {w V V1 V2 : World} {PP : List B} {s s' : St} (h : S3 q q6 b o w V PP s) (hq : q < q6) (hb : b ≠ q6) (hw : w.heap.size ≤ q6) (k1 : Keeps (fun _ => False) V V1) (k2 : Keeps (· = q6) V1 V2) (g : V2.heap[q6]? = some (.cells (wrow s'.toL) 73 (0, 0))) : S3 q q6 b o w V2 PP s' :=
  ⟨k2.row (k1.row h.g (fun h => h)) (by omega), g, (h.by_.keeps k1 (fun h => h)).keeps k2 hb, (h.keeps.trans k1).trans' k2 (fun i e => .inr (by omega))⟩
theorem words_to {s s' : St} {blk : List B} (h : Hid (s.comp blk = s')) (w : World) (b o c : Nat) (hn : blk.length = 64) (hc : 64 ≤ c) (hl : BytesAt w b o blk) :
    Calls Tryd.prog 30 #[.agg (wrow s.toL), .slice (some ⟨b, o, none⟩) 64 c] w fun e w' => e = .returned (.agg (wrow s'.toL)) ∧ Keeps (fun _ => False) w w' := by
  rw [← h.out]; exact words18 w s b o c blk hn hc hl
theorem wrange {V : World} {g : Nat} {l : List W} {t : TypeId} {fr : Nat × Nat} (h : V.heap[g]? = some (.cells (wrow l) t fr)) : V.rangeAt g 0 (wrow l).toList := fun j v hv => by
  rw [cell_of_row V _ _ _ _ _ h, Nat.zero_add]
  simpa [wrow] using hv

/-- The first m bytes of the hash, then zeros. -/
def dg (s : St) (m : Nat) : List B := s.dig.take m ++ zb (32 - m)
theorem dg_len (s : St) (m : Nat) (hm : m ≤ 32) : (dg s m).length = 32 := by simp [dg, dig_len, zb_len]; omega
theorem dg_all (s : St) : dg s 32 = s.dig := by unfold dg; rw [List.take_of_length_le (by rw [dig_len]; omega)]; exact List.append_nil _
theorem dg_set (s : St) (m : Nat) (hm : m < 32) (x : B) (hx : s.dig[m]? = some x) : (dg s m).set m x = dg s (m + 1) := by
  unfold dg zb
  have h1 : (s.dig.take m).length = m := by rw [List.length_take, dig_len]; omega
  rw [List.set_append_right _ _ (by omega), h1, Nat.sub_self, show 32 - m = (32 - (m + 1)) + 1 by omega, List.replicate_succ, List.set_cons_zero, List.take_succ, hx]
  simp
theorem dig_at (s : St) (i j : Nat) (hi : i < 8) (hj : j < 4) : s.dig[4 * i + j]? = some (BitVec.ofNat 8 ((s.toL.getD i 0).toNat / 256 ^ (3 - j))) := by
  obtain rfl | rfl | rfl | rfl | rfl | rfl | rfl | rfl : i = 0 ∨ i = 1 ∨ i = 2 ∨ i = 3 ∨ i = 4 ∨ i = 5 ∨ i = 6 ∨ i = 7 := by omega
  all_goals
    obtain rfl | rfl | rfl | rfl : j = 0 ∨ j = 1 ∨ j = 2 ∨ j = 3 := by omega
    all_goals rfl
theorem dig_int (x : W) (j : Nat) (hj : j < 4) : nb (BitVec.ofNat 8 (x.toNat / 256 ^ (3 - j))) = nw x / 2 ^ (24 - 8 * j) % 256 := by
  rw [nb_ofNat, show (256 : Nat) = 2 ^ 8 from rfl, ← Nat.pow_mul, show 8 * (3 - j) = 24 - 8 * j by omega, Int.natCast_ediv, Int.natCast_pow]
  rfl
structure S4 (q q8 q9 : Nat) (w V : World) (s : St) (m : Nat) : Prop where
  g : V.heap[q]? = some (.cells (brow (zb 32)) 60 (0, 0))
  g8 : V.heap[q8]? = some (.cells (wrow s.toL) 64 (0, 0))
  g9 : V.heap[q9]? = some (.cells (brow (dg s m)) 60 (0, 0))
  keeps : Keeps (fun _ => False) w V
theorem S4.next {q q8 q9 m : Nat} {w V : World} {s : St} (h : S4 q q8 q9 w V s m) (h1 : q < q9) (h2 : q8 < q9) (hw : w.heap.size ≤ q9) (hm : m < 32) (x : B) (hx : s.dig[m]? = some x) : S4 q q8 q9 w (V.setCell ⟨q9, m, none⟩ (.int .u8 (nb x))) s (m + 1) := by
  refine ⟨?_, ?_, ?_, h.keeps.setCell (p := ⟨q9, m, none⟩) (.inr hw) _⟩
  · rw [heap_setCell_other _ _ _ _ (by dsimp only; omega)]; exact h.g
  · rw [heap_setCell_other _ _ _ _ (by dsimp only; omega)]; exact h.g8
  · rw [heap_setCell_same V _ m _ _ _ h.g9, brow_set, dg_set s m hm x hx]

set_option maxRecDepth 100000 in
set_option maxHeartbeats 4000000 in
theorem sum9 (w : World) (a : Option Addr) (n c : Nat) (l : List B) (hl : SlB w a n c l) (hnc : a = none → c = 0) (hn : n < 800000) :
    Calls Tryd.prog 27 #[.slice a n c] w fun e w' => e = .returned (.agg (brow (sha l))) ∧ Keeps (fun _ => False) w w' := by
  have hz := zero24
  have hlen := hl.len
  have k1 := keeps_alloc w (.cells (brow (zb 32)) 60)
  have k2 := k1.alloc (.cells #[] 5)
  have o1 := own_nil (w.alloc (.cells (brow (zb 32)) 60))
  have g1 : ((w.alloc (.cells (brow (zb 32)) 60)).alloc (.cells #[] 5)).heap[w.heap.size]? = some (.cells (brow (zb 32)) 60 (0, 0)) := heap_alloc2_old w _ _
  rw [show (w.alloc (.cells (brow (zb 32)) 60)).heap.size = w.heap.size + 1 by simp] at o1
  go_enter Tryd.func27, Tryd.ntmps27
  go_wp2_with (first | (refine wpList_buildSlice0 rfl rfl ?_) | (refine wpList_app rfl _ _ rfl (w.heap.size + 1) _ [] rfl o1 a n c l rfl (hl.keeps k2 (fun _ _ _ _ h => h)) hnc (by simp; omega) (by simp) ?_; intro v1 w1 O1 hk1; have G1 := gr_first hk1 O1; have z1 := G1.size; clear hk1 O1) | (refine wpList_buildSlice1 rfl _ rfl _ rfl ?_) | (refine wpList_app rfl _ _ rfl (w.heap.size + 1) v1 l rfl (own_step _ G1.own) _ 1 1 [128] rfl (slb_new w1 128 128 rfl) (fun e => by cases e) (by omega) (by simp; omega) ?_; intro v2 w2 O2 hk2; have G2 := G1.next rfl O2 hk2; clear O2 hk2))
  clear hz k1 k2 o1 g1 z1 G1
  have hpl := plen_le n
  have hpp := plen_pos n
  have G2' : Gr w.heap.size w w2 v2 (l ++ bitz 0) := G2
  go_loopw [3] (fun x wr => ∃ m : Nat, m + 1 ≤ plen n ∧ Gr w.heap.size w wr x (l ++ bitz m)) (fun x _ => n + plen n - lenOf x)
  case atStart => exact ⟨0, by omega, G2'⟩
  case round =>
    clear G2 G2'
    obtain ⟨m, hm, G⟩ := hrel
    obtain ⟨a', n', c', rfl, hs, _, _⟩ := G.own.slice
    have hn' : n' = n + m + 1 := by have := hs.len; simp [bitz_len] at this; omega
    have Hn' : Hid (n' = n + m + 1) := hn'
    have hz1 := G.size
    by_cases hend : m + 1 = plen n
    · have h56 : (n' : Int) % 64 = 56 := by unfold plen at hend; omega
      have hsmall : n' < 900000 := by omega
      have Hend : Hid (m + 1 = plen n) := hend
      clear hend hn' hm
      go_wp2_with fail
      have G0 : Gr w.heap.size w wr (.slice a' n' c') (l ++ bitz m ++ (beN 8 (n * 8)).take 0) := by rw [List.take_zero, List.append_nil]; exact G
      have Hlp : Hid ((l ++ bitz m).length = n') := hs.len
      go_loopw [3, 5] (fun x i wq => ∃ j : Nat, j ≤ 8 ∧ i = .int .i64 (56 - 8 * (j : Int)) ∧ Gr w.heap.size w wq x (l ++ bitz m ++ (beN 8 (n * 8)).take j)) (fun x i _ => (intOf i + 8).toNat)
      case atStart => exact ⟨0, by omega, rfl, G0⟩
      case round =>
        clear G G0 hs h56
        obtain ⟨j, hj, rfl, G⟩ := hrel
        obtain ⟨a4, n4, c4, rfl, hs, _, _⟩ := G.own.slice
        have hn4 : n4 = n' + j := by have h1 := hs.len; rw [List.length_append, Hlp.out, List.length_take, beN_len] at h1; omega
        have Hn4 : Hid (n4 = n' + j) := hn4
        have hz1 := G.size
        have hsm4 : n4 < 900010 := by omega
        clear hn4
        by_cases hj8 : j < 8
        · have hj8' : (0 : Int) ≤ 56 - 8 * (j : Int) := by omega
          have hj64 : 56 - 8 * (j : Int) < 64 := by omega
          go_wp2_with (first | (refine wpList_buildSlice1 rfl _ rfl _ rfl ?_) | (refine wpList_app rfl _ _ rfl (w.heap.size + 1) (.slice a4 n4 c4) (l ++ bitz m ++ (beN 8 (n * 8)).take j) rfl (own_step _ G.own) _ 1 1 [BitVec.ofNat 8 (n * 8 / 256 ^ (7 - j))] rfl (slb_new wr _ _ (len_int n j hj8)) (fun e => by cases e) (by rw [hs.len]; omega) (by simp; omega) ?_; intro v3 w3 O3 hk3; have G3 := G.next rfl O3 hk3; clear O3 hk3))
          rw [List.append_assoc, ← len_take (n * 8) j hj8] at G3
          exact ⟨⟨j + 1, by omega, by go_num, G3⟩, by simp [intOf]; omega⟩
        · obtain rfl : j = 8 := by omega
          rw [padd_is l n m Hend.out] at G hs
          have hlP : (l ++ padd n).length = n + plen n + 8 := by simp [padd_len, hlen]; omega
          have h64 := plen_mod n
          have hlt : n4 = n + plen n + 8 := by rw [← hs.len]; exact hlP
          have Hsha : Hid (sha l = (hashN (l ++ padd n) (n4 / 64)).dig) := by show _ = _; rw [hlt, ← hlen]; rfl
          have hm64 : n4 % 64 = 0 := by omega
          generalize l ++ padd n = PP at *
          have hz9 := zero49
          have hb0 : (#[.int .u32 1779033703, .int .u32 3144134277, .int .u32 1013904242, .int .u32 2773480762, .int .u32 1359893119, .int .u32 2600822924, .int .u32 528734635, .int .u32 1541459225] : Array Value) = wrow h0.toL := rfl
          have hs3 : (Tryd.prog.info? 73).map (·.size) = some (wrow h0.toL).size := by rw [size_wrow]; exact size49
          have hs4 : (wrow z8).size = (wrow h0.toL).size := by rw [size_wrow, size_wrow]; rfl
          have hone3 := wrow_one h0.toL
          have hpos : 0 < n4 := by omega
          clear hlt h64 hlP Hlp Hn4 Hend Hn' hj
          go_wp2_with (refine wpList_store_row rfl rfl 73 _ _ rfl wr.heap.size rfl (wrow h0.toL) rfl 73 (wrow z8) (heap_alloc_new wr _) hs3 hs4 hone3 ?_; intro w3 g3 hk3 hz3; clear hz3)
          obtain ⟨b, o, rfl, hby, _⟩ := hs.bytes n4 hpos (Nat.le_refl _)
          rw [List.take_of_length_le (by rw [hs.len]; omega)] at hby
          have hbw : b < wr.heap.size := World.block_lt_of_cell? wr _ (hby 0 _ (List.getElem?_eq_getElem (by rw [hs.len]; exact hpos)))
          have hqw : w.heap.size < wr.heap.size := by omega
          have hS : S3 w.heap.size wr.heap.size b o w w3 PP (hashN PP 0) := ⟨hk3.row ((keeps_alloc wr (.cells (wrow z8) 73)).row G.g (fun h => h)) (by omega), g3, (hby.keeps (keeps_alloc wr (.cells (wrow z8) 73)) (fun h => h)).keeps hk3 (by omega), (G.keeps.alloc _).trans' hk3 (fun i e => .inr (by omega))⟩
          have hbig : (n4 : Int) < 1000000 := by omega
          have hcap := hs.cap
          have hlenP := hs.len
          clear hk3 g3 hby G hs hz9 hb0 hs3 hs4 hone3 hsm4 hz1
          generalize wr.heap.size = q6 at *
          go_loopw [7] (fun i wq => ∃ k : Nat, 64 * k ≤ n4 ∧ i = .int .i64 (64 * (k : Int)) ∧ S3 w.heap.size q6 b o w wq PP (hashN PP k)) (fun i _ => n4 - (intOf i).toNat)
          case atStart => exact ⟨0, by omega, rfl, hS⟩
          case round =>
            clear hS
            obtain ⟨k, hk, rfl, hS⟩ := hrel
            have Hnx : Hid ((hashN PP k).comp ((PP.drop (64 * k)).take 64) = hashN PP (k + 1)) := rfl
            obtain ⟨s, hse⟩ : ∃ s, hashN PP k = s := ⟨_, rfl⟩
            obtain ⟨s', hse'⟩ : ∃ s', hashN PP (k + 1) = s' := ⟨_, rfl⟩
            rw [hse, hse'] at Hnx
            rw [hse] at hS
            have Hse : Hid (hashN PP k = s ∧ hashN PP (k + 1) = s') := ⟨hse, hse'⟩
            clear hse hse'
            by_cases hlt : 64 * k < n4
            · have hlt' : 64 * (k : Int) < (n4 : Int) := by omega
              have h2 : 64 * (k : Int) + 64 ≤ (n4 : Int) := by omega
              have h3 : (n4 : Int) ≤ (c4 : Int) := by omega
              have hrow := wrange hS.drew.g6
              have hi49 : (Tryd.prog.info? 73).map (·.size) = some (wrow s.toL).size := by rw [size_wrow]; exact size49
              have Hrow : Hid (wr.drew.rangeAt q6 0 (wrow s.toL).toList) := hrow
              have Hi49 : Hid ((Tryd.prog.info? 73).map (·.size) = some (wrow s.toL).size) := hi49
              clear hrow hi49
              go_wp2_with fail
              refine region_tail 6 (by kernel_rfl) (by kernel_rfl) ?_
              simp only [List.take_succ_cons, List.take_zero]
              go_big_quiet_want
              refine quiet_row_at _ _ rfl q6 0 rfl (wrow s.toL) (fun w' hp => hp ▸ Hrow.out) Tryd.underlying73 rfl Hi49.out ?_
              simp only [Act.put, List.setIfInBounds_toArray, List.set_cons_zero, List.set_cons_succ]
              go_big_quiet_on
              iterate 5 (go_big_quiet_step (fail))
              refine wpQuiet_nil ?_
              simp only [List.drop_succ_cons, List.drop_zero]
              go_wp2_with (first | (go_at_call 30; refine (words_to Hnx _ b (o + 64 * k) _ (by simp; omega) (by omega) (hS.drew.by_.part (64 * k) 64)).mono ?_; rintro e w4 ⟨rfl, hk4⟩) | (refine wpList_store_row rfl rfl 73 _ _ rfl q6 rfl (wrow s'.toL) rfl 73 (wrow s.toL) (hk4.row hS.drew.g6 (fun h => h)) (by rw [size_wrow]; exact size49) (by rw [size_wrow, size_wrow]; rfl) (wrow_one _) ?_; intro w5 g5 hk5 hz5; clear hz5))
              exact ⟨⟨k + 1, by omega, by go_num, by rw [Hse.out.2]; exact hS.drew.next hqw (by omega) (by omega) hk4 hk5 g5⟩, by simp [intOf]; omega⟩
            · have hk64 : Hid (n4 / 64 = k) := by show _ = _; omega
              obtain ⟨a0, a1, a2, a3, a4, a5, a6, a7⟩ := words_at hS.g6
              have hz := zero24
              have hlt' : ¬ 64 * (k : Int) < (n4 : Int) := by omega
              clear hbig hcap hlenP hpl hpp hsmall hm64 hk hpos
              go_wp2_with fail
              have hqr : q6 < wr.heap.size := lt_of_row hS.g6
              have hS4 : S4 w.heap.size wr.heap.size (wr.heap.size + 1) w ((wr.alloc (.cells (wrow s.toL) 64)).alloc (.cells (brow (zb 32)) 60)) s 0 := ⟨(((keeps_alloc wr (.cells (wrow s.toL) 64)).alloc _).row hS.g (fun h => h)), heap_alloc2_old wr _ _, heap_alloc2_new wr _ _, (hS.keeps.alloc _).alloc _⟩
              clear a0 a1 a2 a3 a4 a5 a6 a7 hS hz
              generalize wr.heap.size = q8 at *
              have hqq : w.heap.size < q8 := by omega
              go_loopw [10] (fun x wq => ∃ i : Nat, i ≤ 8 ∧ x = .int .i64 i ∧ S4 w.heap.size q8 (q8 + 1) w wq s (4 * i)) (fun x _ => 8 - (intOf x).toNat)
              case atStart => exact ⟨0, by omega, rfl, hS4⟩
              case round =>
                clear hS4
                obtain ⟨i, hi, rfl, hS4⟩ := hrel
                by_cases hi8 : i < 8
                · have hi8' : (i : Int) < 8 := by omega
                  go_wp2_with fail
                  go_loopw [11] (fun x wq => ∃ j : Nat, j ≤ 4 ∧ x = .int .i64 j ∧ S4 w.heap.size q8 (q8 + 1) w wq s (4 * i + j)) (fun x _ => 4 - (intOf x).toNat)
                  case atStart => exact ⟨0, by omega, rfl, hS4⟩
                  case round =>
                    clear hS4
                    obtain ⟨j, hj, rfl, hS4⟩ := hrel
                    by_cases hj4 : j < 4
                    · have hj4' : (j : Int) < 4 := by omega
                      have h24 : (0 : Int) ≤ 24 - 8 * (j : Int) := by omega
                      have h24' : 24 - 8 * (j : Int) < 32 := by omega
                      have hx0 : (0 : Int) ≤ 4 * (i : Int) + (j : Int) := by omega
                      have hx1 : 4 * (i : Int) + (j : Int) < 32 := by omega
                      have hnx := hS4.next (by omega) (by omega) (by omega) (by omega) _ (dig_at s i j hi8 hj4)
                      have hc1 : wr.cell? ⟨q8, i, none⟩ = some (.int .u32 (nw (s.toL.getD i 0))) := by
                        rw [cell_of_row wr _ i _ _ _ hS4.g8, wrow_get]
                        have : i < s.toL.length := by rw [toL_len]; exact hi8
                        simp [this, vw]
                      have hf := frozen_of_row wr _ (4 * i + j) _ _ hS4.g9
                      have hc2 : ∃ v, wr.cell? ⟨q8 + 1, 4 * i + j, none⟩ = some v := by
                        have : 4 * i + j < (dg s (4 * i + j)).length := by rw [dg_len _ _ (by omega)]; omega
                        rw [cell_of_row wr _ (4 * i + j) _ _ _ hS4.g9, brow_get]; simp [this]
                      obtain ⟨v0, hc2⟩ := hc2
                      rw [dig_int _ j hj4] at hnx
                      have Hnx2 : Hid (S4 w.heap.size q8 (q8 + 1) w (wr.setCell ⟨q8 + 1, 4 * i + j, none⟩ (.int .u8 (nw (s.toL.getD i 0) / 2 ^ (24 - 8 * j) % 256))) s (4 * i + j + 1)) := hnx
                      clear hnx hS4
                      generalize s.toL.getD i 0 = X at *
                      have bX := nw_lt X
                      go_wp2_with fail
                      exact ⟨⟨j + 1, by omega, by go_num, Hnx2.out⟩, by simp [intOf]; omega⟩
                    · obtain rfl : j = 4 := by omega
                      go_wp2_with fail
                      exact ⟨⟨i + 1, by omega, by go_num, hS4⟩, by simp [intOf]; omega⟩
                · obtain rfl : i = 8 := by omega
                  have g9 := hS4.g9
                  rw [show 4 * 8 = 32 from rfl, dg_all] at g9
                  have Hd : Hid (sha l = s.dig) := by show _ = _; rw [Hsha.out, hk64.out, Hse.out.1]
                  have hs5 : (Tryd.prog.info? 60).map (·.size) = some (brow s.dig).size := by rw [size_brow, dig_len]; exact size24
                  have hs6 : (brow (zb 32)).size = (brow s.dig).size := by rw [size_brow, size_brow, dig_len, zb_len]
                  have hone5 := brow_one s.dig
                  generalize s.dig = dd at *
                  go_wp2_with (first | (refine wpList_load_row rfl 60 _ rfl (q8 + 1) rfl 60 (brow dd) (0, 0) _ g9 Tryd.underlying60 rfl hs5 ?_) | (refine wpList_store_all rfl 60 _ _ rfl w.heap.size rfl (brow dd) rfl 60 (brow (zb 32)) hS4.g hs5 hs6 hone5 ?_))
                  rw [Hd.out]
                  refine bodyPost_ret (v := .agg (brow dd)) ?_ rfl ⟨rfl, hS4.keeps.setRow (.inr (Nat.le_refl _)) _⟩
                  exact results_cell_row rfl _ _ w.heap.size 60 (brow dd) (0, 0) _ rfl (setRow_heap wr _ _ _ _ _ hS4.g) Tryd.underlying60 rfl hs5
    · have h56 : ¬ (n' : Int) % 64 = 56 := by unfold plen at hend hm; omega
      have hm2 : m + 1 + 1 ≤ plen n := by omega
      have hsmall : n' < 900000 := by omega
      clear hend hn'
      go_wp2_with (first | (refine wpList_buildSlice1 rfl _ rfl _ rfl ?_) | (refine wpList_app rfl _ _ rfl (w.heap.size + 1) (.slice a' n' c') (l ++ bitz m) rfl (own_step _ G.own) _ 1 1 [0] rfl (slb_new wr 0 0 rfl) (fun e => by cases e) (by rw [hs.len]; omega) (by simp; omega) ?_; intro v3 w3 O3 hk3; have G3 := G.next rfl O3 hk3; clear O3 hk3; obtain ⟨a3, n3, c3, rfl, hs3, _, _⟩ := G3.own.slice))
      have e3 : n3 = n' + 1 := by have h1 := hs3.len; have h2 := hs.len; simp at h1 h2; omega
      rw [List.append_assoc, bitz_snoc] at G3
      exact ⟨⟨m + 1, hm2, G3⟩, by have := Hn'.out; simp [lenOf]; omega⟩

end Go.Proofs.YtanmopbhglokmaaDoor
