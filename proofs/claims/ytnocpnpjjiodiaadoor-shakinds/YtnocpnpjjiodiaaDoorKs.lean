/-
  ShaKinds: the walk.
-/
import Derived.Test.YtnocpnpjjiodiaaDoorRc
import Derived.Test.YtnocpnpjjiodiaaDoorPq
set_option linter.all false
namespace Go.Proofs.YtnocpnpjjiodiaaDoor
open Go.RowKit Go.Sort

theorem of_at {k : Int} {l X : List B} (hX : Hid (sha (kb k :: l) = X)) (w : World) {a : Option Addr} {n c : Nat} (hT : Tabs w) (hl : SlB w a n c l) (hn : n < 800000) :
    Calls Tryd.prog 10 #[.int .i64 k, .slice a n c] w fun e w' => e = .returned (.agg (brow X)) ∧ Keeps (fun _ => False) w w' := by
  rw [← hX.out]; exact of10 w k a n c l hT hl hn

set_option maxRecDepth 100000 in
set_option maxHeartbeats 4000000 in
theorem kinds_any (w : World) (hT : Tabs w) (x y : Int) (hx : 0 ≤ x ∧ x < 256) (hy : 0 ≤ y ∧ y < 256) (a : Option Addr) (n c : Nat) (l : List B) (hl : SlB w a n c l) (hnc : a = none → c = 0) :
    Calls Tryd.prog 5 #[.agg #[.int .u8 x, .int .u8 y], .slice a n c] w fun e w' => e = .returned (.bool true) ∧ Keeps (fun _ => False) w w' := by
  have hka := keeps_alloc w (.cells #[.int .u8 x, .int .u8 y] 37)
  by_cases hn : n ≤ 2000
  · have hn' : ¬ (2000 : Int) < (n : Int) := by omega
    have gk : (w.alloc (.cells #[.int .u8 x, .int .u8 y] 37)).heap[w.heap.size]? = some (.cells #[.int .u8 x, .int .u8 y] 37 (0, 0)) := heap_alloc_new w _
    have hTa := hT.keeps hka (fun h => h) (fun h => h)
    have hla := hl.keeps hka (fun _ _ _ _ h => h)
    have hlen := hl.len
    have hza : (w.alloc (.cells #[.int .u8 x, .int .u8 y] 37)).heap.size = w.heap.size + 1 := by simp
    go_enter Tryd.func5, Tryd.ntmps5
    go_wp2_with fail
    generalize w.alloc (.cells #[.int .u8 x, .int .u8 y] 37) = wa at *
    go_loopw [5] (fun t wr => ∃ i : Nat, i ≤ 2 ∧ t = .int .i64 i ∧ Keeps (fun _ => False) wa wr) (fun t _ => 2 - (intOf t).toNat)
    case atStart => exact ⟨0, by omega, rfl, Keeps.refl _ _⟩
    case round =>
      obtain ⟨i, hi, rfl, hk0⟩ := hrel
      have gr := hk0.row gk (fun h => h)
      by_cases hi2 : i < 2
      · have hi2' : (i : Int) < 2 := by omega
        have hcell : ∃ k, (0 ≤ k ∧ k < 256) ∧ ∀ w', Keeps (fun _ => False) wa w' → w'.cell? ⟨w.heap.size, i, none⟩ = some (.int .u8 k) := by
          obtain rfl | rfl : i = 0 ∨ i = 1 := by omega
          · exact ⟨x, hx, fun w' hk => cell_of_row w' _ 0 _ _ _ (hk.row gk (fun h => h))⟩
          · exact ⟨y, hy, fun w' hk => cell_of_row w' _ 1 _ _ _ (hk.row gk (fun h => h))⟩
        obtain ⟨k, ⟨hk1, hk2⟩, hck⟩ := hcell
        have Hck : Hid (∀ w', Keeps (fun _ => False) wa w' → w'.cell? ⟨w.heap.size, i, none⟩ = some (.int .u8 k)) := hck
        have hc := hck wr hk0
        clear hck
        obtain ⟨X, hXe⟩ : ∃ X, sha (kb k :: l) = X := ⟨_, rfl⟩
        have HX : Hid (sha (kb k :: l) = X) := hXe
        have lX : X.length = 32 := by rw [← hXe]; exact sha_len _
        have heqX : ∀ w, (Op.equalIn 10000 24 (.agg (brow X)) (.agg (brow X))).run Tryd.prog w = .ok true w := fun w => by
          have := eq24 X X lX lX w
          rwa [decide_eq_true rfl] at this
        have hz0 := hk0.size
        have O0 : OwnB (wr.alloc (.cells #[.int .u8 k] 5)) (w.heap.size + 1) (.slice (some ⟨wr.heap.size, 0, none⟩) 1 1) (kb k :: l.take 0) := OwnB.row (t := 5) (l := [kb k]) (by rw [← row_kb k ⟨hk1, hk2⟩]; exact heap_alloc_new wr _) (by omega) (by simp)
        have K0 := hk0.alloc (.cells #[.int .u8 k] 5)
        clear hXe lX
        go_wp2_with (refine wpList_buildSlice1 rfl _ rfl _ rfl ?_)
        go_loopw [6, 7] (fun u t wq => ∃ j : Nat, j ≤ n ∧ t = .int .i64 j ∧ OwnB wq (w.heap.size + 1) u (kb k :: l.take j) ∧ Keeps (fun _ => False) wa wq) (fun _ t _ => n - (intOf t).toNat)
        case atStart => exact ⟨0, by omega, rfl, O0, K0⟩
        case round =>
          clear O0 K0 hk0 gr hc hz0
          obtain ⟨j, hj, rfl, O, hk0⟩ := hrel
          have hz0 := hk0.size
          obtain ⟨a6, n6, c6, rfl, hs6, _, hnc6⟩ := O.slice
          have hn6 : n6 = j + 1 := by have h1 := hs6.len; simp at h1; omega
          have Hn6 : Hid (n6 = j + 1) := hn6
          by_cases hjn : j < n
          · have hjn' : (j : Int) < (n : Int) := by omega
            obtain ⟨b, o, rfl, hcb⟩ := (hla.keeps hk0 (fun _ _ _ _ h => h)).at_ j l[j] (by simp)
            have Hsn : Hid (kb k :: l.take (j + 1) = (kb k :: l.take j) ++ [l[j]]) := by show _ = _; rw [take_snoc l j (by omega)]; rfl
            generalize l[j] = z at *
            have bz := nb_lt z
            clear hn6
            go_wp2_with (first | (refine wpList_buildSlice1 rfl _ rfl _ rfl ?_) | (refine wpList_app rfl _ _ rfl (w.heap.size + 1) _ (kb k :: l.take j) rfl (own_step _ O) _ 1 1 [z] rfl (slb_new wr z _ rfl) (fun e => by cases e) (by rw [hs6.len, Hn6.out]; omega) (by simp; omega) ?_; intro v3 w3 O3 hk3))
            rw [← Hsn.out] at O3
            exact ⟨⟨j + 1, by omega, by go_num, O3, (hk0.alloc _).trans' hk3 (fun i e => .inr (by omega))⟩, by simp [intOf]; omega⟩
          · obtain rfl : j = n := by omega
            rw [List.take_of_length_le (by omega)] at O hs6
            have hTr := hTa.keeps hk0 (fun h => h) (fun h => h)
            have hlr := hla.keeps hk0 (fun _ _ _ _ h => h)
            have gr := hk0.row gk (fun h => h)
            have hc := Hck.out wr hk0
            clear hn6
            go_wp2_with (first | (go_at_call 10; refine (of_at HX _ hTr hlr (by omega)).mono ?_; rintro e w4 ⟨rfl, hk4⟩) | (go_at_call 9; refine (rsum_to HX _ _ _ _ (hs6.keeps hk4 (fun _ _ _ _ h => h)) hnc6 (by have := Hn6.out; omega)).mono ?_; rintro e w5 ⟨rfl, hk5⟩))
            exact ⟨⟨i + 1, by omega, by go_num, (hk0.trans hk4).trans hk5⟩, by simp [intOf]; omega⟩
      · obtain rfl : i = 2 := by omega
        obtain ⟨X, hXe⟩ : ∃ X, sha (kb x :: []) = X := ⟨_, rfl⟩
        have HX : Hid (sha (kb x :: []) = X) := hXe
        have lX : X.length = 32 := by rw [← hXe]; exact sha_len _
        have heqX : ∀ w, (Op.equalIn 10000 24 (.agg (brow X)) (.agg (brow X))).run Tryd.prog w = .ok true w := fun w => by
          have := eq24 X X lX lX w
          rwa [decide_eq_true rfl] at this
        have hTr := hTa.keeps hk0 (fun h => h) (fun h => h)
        have HT : Hid (∀ w', Keeps (fun _ => False) wr w' → Tabs w') := fun w' hk => hTr.keeps hk (fun h => h) (fun h => h)
        have hcx : ∀ d os, (grow (redrawn wr d) os).cell? ⟨w.heap.size, 0, none⟩ = some (.int .u8 x) := fun d os => cell_of_row _ _ 0 _ _ _ ((keeps_cls ⟨⟨d, os⟩, rfl⟩).row gr (fun h => h))
        have Hbx : Hid (nb (kb x) = x) := by show _ = _; rw [nb_kb]; omega
        obtain ⟨hx0, hx1⟩ := hx
        clear hXe lX hTr gr gk hTa hla hl
        go_wp2_with fail
        refine region_tree (S := fun w' => ∃ p : Regrown, w' = grow (redrawn wr p.d) p.os) (.two [0, 1, 2, 4, 5] 3 (.one [] 6 (.one [] 7 (.one [8, 9] 10 (.last [11, 12])))) 6 (.one [] 3 (.one [] 7 (.one [8, 9] 10 (.last [11, 12]))))) (by kernel_rfl) (by kernel_rfl) (by kernel_rfl) (by kernel_rfl) (cls_keeps ((Keeps.refl _ _).drew)) ?_
        have d0 : Keeps (fun _ => False) wr wr.drew := (Keeps.refl _ _).drew
        simp only [wpTree, opsAt, pick]
        repeat (go_big_quiet_step (fail))
        refine wpQuiet_nil ⟨?_, ?_⟩
        · go_wp2_with (go_at_call 10; refine (of_at HX _ (HT.out _ d0) (SlB.nil _) (by omega)).mono ?_; rintro e w10 ⟨rfl, hk10⟩)
          have d1 := d0.trans hk10
          refine ⟨cls_keeps d1, ?_⟩
          simp only [wpTree, opsAt, pick]
          refine wpQuiet_nil ?_
          go_wp2_with (refine wpList_buildSlice1 rfl _ rfl _ rfl ?_)
          have d2 := d1.alloc (.cells #[.int .u8 x] 5)
          refine ⟨cls_keeps d2, ?_⟩
          simp only [wpTree, opsAt, pick]
          refine wpQuiet_nil ?_
          go_wp2_with (go_at_call 9; refine (rsum_to HX _ _ _ _ (slb_new w10 (kb x) _ Hbx.out) (fun e => by cases e) (by omega)).mono ?_; rintro e w11 ⟨rfl, hk11⟩)
          have d3 := d2.trans hk11
          refine ⟨cls_keeps d3, ?_⟩
          simp only [wpTree, opsAt, pick]
          repeat (go_big_quiet_step (fail))
          refine wpQuiet_nil ?_
          go_wp2_with (go_at_call 6; refine (wakes_any _ (HT.out _ d3)).mono ?_; rintro e w12 ⟨rfl, hk12⟩)
          refine ⟨cls_keeps (d3.trans hk12), ?_⟩
          simp only [wpTree, opsAt, pick]
          repeat (go_big_quiet_step (fail))
          refine wpQuiet_nil ?_
          refine NoPanic.normal ?_
          go_wp2
          go_ret
          exact ⟨rfl, (hka.trans hk0).trans (d3.trans hk12)⟩
        · go_wp2_with (refine wpList_buildSlice1 rfl _ rfl _ rfl ?_)
          have e1 : Keeps (fun _ => False) wr (wr.alloc (.cells #[.int .u8 x] 5)).drew := ((Keeps.refl _ _).alloc _).drew
          have s1 : SlB (wr.alloc (.cells #[.int .u8 x] 5)).drew (some ⟨wr.heap.size, 0, none⟩) 1 1 [kb x] := (slb_new wr (kb x) _ Hbx.out).keeps (S := fun _ => False) ((Keeps.refl _ _).drew) (fun _ _ _ _ h => h)
          refine ⟨cls_keeps e1, ?_⟩
          simp only [wpTree, opsAt, pick]
          refine wpQuiet_nil ?_
          go_wp2_with (go_at_call 10; refine (of_at HX _ (HT.out _ e1) (SlB.nil _) (by omega)).mono ?_; rintro e w10 ⟨rfl, hk10⟩)
          have d2 := e1.trans hk10
          refine ⟨cls_keeps d2, ?_⟩
          simp only [wpTree, opsAt, pick]
          refine wpQuiet_nil ?_
          go_wp2_with (go_at_call 9; refine (rsum_to HX _ _ _ _ (s1.keeps hk10 (fun _ _ _ _ h => h)) (fun e => by cases e) (by omega)).mono ?_; rintro e w11 ⟨rfl, hk11⟩)
          have d3 := d2.trans hk11
          refine ⟨cls_keeps d3, ?_⟩
          simp only [wpTree, opsAt, pick]
          repeat (go_big_quiet_step (fail))
          refine wpQuiet_nil ?_
          go_wp2_with (go_at_call 6; refine (wakes_any _ (HT.out _ d3)).mono ?_; rintro e w12 ⟨rfl, hk12⟩)
          refine ⟨cls_keeps (d3.trans hk12), ?_⟩
          simp only [wpTree, opsAt, pick]
          repeat (go_big_quiet_step (fail))
          refine wpQuiet_nil ?_
          refine NoPanic.normal ?_
          go_wp2
          go_ret
          exact ⟨rfl, (hka.trans hk0).trans (d3.trans hk12)⟩
  · have hn' : (2000 : Int) < (n : Int) := by omega
    go_enter Tryd.func5, Tryd.ntmps5
    go_wp2_with (go_at_call 6; refine (wakes_any _ (hT.keeps hka (fun h => h) (fun h => h))).mono ?_; rintro e w1 ⟨rfl, hk1⟩)
    go_ret
    exact ⟨rfl, hka.trans hk1⟩

end Go.Proofs.YtnocpnpjjiodiaaDoor
