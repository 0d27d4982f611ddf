/-
  wakes.
-/
import Derived.Test.YtokgnfniaeeloaaRq
set_option linter.all false
namespace Go.Proofs.Ytokgnfniaeeloaa
open Go.RowKit Go.Shelf
attribute [local go_sem ↓] Go.wp_at_zero Go.wp_at_succ

theorem ok_fill (v : Int) : (fill v).toList.length = 128 ∧ ∀ u ∈ (fill v).toList, u.oneCell' = true :=
  ⟨by simp [size_fill], fun u hu => by rw [show (fill v).toList = List.replicate 128 (.int .u8 v) by simp [fill]] at hu; rw [List.eq_of_mem_replicate hu]; rfl⟩

theorem write_fill {B : Nat} {C : Nat → Prop} {w : World} {p gb : Nat} {s : DS} (h : Lies B C w p gb s) (hok : s.Ok) (hC : ∀ k, C k → k < w.heap.size) (hBw : B ≤ w.heap.size) (hdc : 0 ≤ s.dc ∧ s.dc < 1000000) (hws : s.ws.length < 1000000)
    (i v : Int) : Calls Try.prog 14 #[.pointer (some ⟨p, 0, none⟩), .int .i64 i, .agg (fill v)] w fun e w' => e = .returned (.int .i64 (s.write i (fill v).toList).1) ∧ Lies B C w' p gb (s.write i (fill v).toList).2 ∧ Keeps (Own1 B C) w w' := by
  have := write_ds h hok hC hBw hdc hws i (fill v).toList (ok_fill v)
  rwa [Array.toArray_toList] at this

/-- Nothing is protected. -/
abbrev none' : Nat → Prop := fun _ => False

def wk2 : DS := { n := 16, bl := zeros 16, ws := [(1, (fill 7).toList), (2, (fill 8).toList)], F := -1, dn := false, dc := 2 }

theorem wk_w1 : (DS.new 16).write 1 (fill 7).toList = (0, { n := 16, bl := zeros 16, ws := [(1, (fill 7).toList)], F := -1, dn := false, dc := 1 }) := by
  simp [DS.write, DS.new, burnt]
theorem wk_w2 : ({ n := 16, bl := zeros 16, ws := [(1, (fill 7).toList)], F := -1, dn := false, dc := 1 } : DS).write 2 (fill 8).toList = (0, wk2) := by
  simp [DS.write, burnt, wk2]
theorem wk_w3 : wk2.write 16 (fill 8).toList = (1, wk2) := by
  simp [DS.write, wk2]
theorem wk_ok1 : ({ n := 16, bl := zeros 16, ws := [(1, (fill 7).toList)], F := -1, dn := false, dc := 1 } : DS).Ok := by
  have := (DS.Ok.new 16).write 1 (fill 7).toList (ok_fill 7)
  rwa [wk_w1] at this
theorem wk_ok2 : wk2.Ok := by
  have := wk_ok1.write 2 (fill 8).toList (ok_fill 8)
  rwa [wk_w2] at this

theorem onKeep {w a b : World} (h : Keeps (fun _ => False) w a) (k : Keeps (Own1 w.heap.size none') a b) : Keeps (fun _ => False) w b := h.trans' k (fun _ e => .inr e.1)

def wk4 : DS := { wk2 with F := 0, dn := true }
theorem wk_f : wk2.fuse 0 = { wk2 with F := 0 } := rfl
theorem wk_s : ({ wk2 with F := 0 } : DS).sync = (12, wk4) := by simp [DS.sync, wk4]
theorem wk_ok3 : ({ wk2 with F := 0 } : DS).Ok := wk_ok2.fuse 0 (by omega)
theorem wk_ok4 : wk4.Ok := by
  have := wk_ok3.sync
  rwa [wk_s] at this
theorem wk_r4 : wk4.read 1 = (fill 0, 12) := by simp [DS.read, wk4, wk2]

def wk5 : DS := wk4.crash [1, 1] 1
theorem wk_ok5 : wk5.Ok := wk_ok4.crash _ _

theorem wk5_bl : wk5.bl = over (over (zeros 16) 128 (fill 7)) 256 ((fill 8).toList.take 64).toArray := by
  have hk : keptOf [1, 1] (idx [(1, (fill 7).toList), (2, (fill 8).toList)]) = [(0, (1, (fill 7).toList)), (1, (2, (fill 8).toList))] := by
    simp [idx, keptOf, isKept]
  show crashRow 1 (zeros 16) (keptOf [1, 1] (idx [(1, (fill 7).toList), (2, (fill 8).toList)])) = _
  rw [hk]
  have h7 : ((fill 7).toList.take 128).toArray = fill 7 := by rw [List.take_of_length_le (Nat.le_of_eq (ok_fill 7).1)]
  simp only [crashRow, crashStep, cutOf, List.foldl_cons, List.foldl_nil]
  rw [if_neg (by decide), if_pos (by decide), h7]
  rfl

theorem wk5_ws : wk5.ws = [] := rfl
theorem wk5_dn : wk5.dn = false := rfl
theorem wk5_n : wk5.n = 16 := rfl
theorem wk5_dc : wk5.dc = 2 := rfl

theorem size_f64 : ((fill 8).toList.take 64).toArray.size = 64 := by simp [size_fill]
theorem size_z16 : (zeros 16).size = 2048 := by simp [zeros]
theorem size_o1 : (over (zeros 16) 128 (fill 7)).size = 2048 := by rw [size_over (by rw [size_fill, size_z16]; omega), size_z16]

theorem wk5_at (j : Nat) : wk5.bl[j]? = if 256 ≤ j ∧ j < 320 then some (.int .u8 8) else if 128 ≤ j ∧ j < 256 then some (.int .u8 7) else if j < 2048 then some (.int .u8 0) else none := by
  rw [wk5_bl, getElem?_over _ _ _ _ (by rw [size_f64, size_o1]; omega), getElem?_over _ _ _ _ (by rw [size_fill, size_z16]; omega), size_f64, size_fill]
  simp only [Nat.reduceAdd]
  by_cases h1 : 256 ≤ j ∧ j < 320
  · simp only [if_pos h1]
    have h : j - 256 < 64 := by omega
    have h' : j - 256 < 128 := by omega
    rw [List.getElem?_toArray, List.getElem?_take, if_pos h, show (fill 8).toList = List.replicate 128 (.int .u8 8) by simp [fill], List.getElem?_replicate, if_pos h']
  · simp only [if_neg h1]
    by_cases h2 : 128 ≤ j ∧ j < 256
    · simp only [if_pos h2]
      have h : j - 128 < 128 := by omega
      simp [fill, h]
    · simp only [if_neg h2]
      by_cases h3 : j < 2048
      · simp [zeros, h3]
      · simp [zeros, h3]

theorem wk5_size : wk5.bl.size = 2048 := wk_ok5.size
theorem wk_r5 : wk5.read 1 = (fill 7, 0) := by
  have hb : wk5.block 1 = fill 7 := by
    unfold DS.block
    rw [wk5_ws]
    apply Array.ext_getElem?
    intro i
    simp only [List.reverse_nil, List.find?_nil, Array.getElem?_extract, wk5_size]
    by_cases hi : i < 128
    · rw [if_pos (by omega), wk5_at, if_neg (by omega), if_pos (by omega)]
      simp [fill, hi]
    · rw [if_neg (by omega)]
      simp [fill]; omega
  simp [DS.read, wk5_n, wk5_dn, hb]

def wkB : Array Value := wk5.block 2
theorem wk_r6 : wk5.read 2 = (wkB, 0) := by simp [DS.read, wk5_n, wk5_dn, wkB]
theorem wkB_at (i : Nat) (hi : i < 128) : wkB[i]? = some (.int .u8 (if i < 64 then 8 else 0)) := by
  unfold wkB DS.block
  rw [wk5_ws]
  simp only [List.reverse_nil, List.find?_nil, Array.getElem?_extract, wk5_size]
  rw [if_pos (by omega), wk5_at]
  by_cases h : i < 64
  · rw [if_pos (by omega), if_pos h]
  · rw [if_neg (by omega), if_neg (by omega), if_pos (by omega), if_neg h]
theorem wkB_size : wkB.size = 128 := by
  unfold wkB DS.block
  rw [wk5_ws]
  simp [wk5_size]
theorem wkB_one : wkB.all (·.oneCell') = true := by
  rw [Array.all_eq_true_iff_forall_mem]
  intro v hv
  obtain ⟨i, hi, e⟩ := Array.mem_iff_getElem.1 hv
  have := wkB_at i (by rw [wkB_size] at hi; exact hi)
  rw [Array.getElem?_eq_getElem hi, e] at this
  cases this
  rfl

set_option maxRecDepth 100000 in
set_option maxHeartbeats 2000000 in
theorem wakes_any (w : World) : Calls Try.prog 11 #[] w fun e w' => e = .returned (.bool true) ∧ Keeps (fun _ => False) w w' := by
  have hz := zero37
  have hs0 : (Try.prog.info? 37).map (·.size) = some (fill 0).size := by rw [size_fill]; exact size37
  have ho0 := fill_one 0
  go_enter Try.func11, Try.ntmps11
  go_wp2_with fail
  refine (new_ds 16 w (by omega) (by omega) none' (fun _ h => h.elim)).mono ?_
  rintro e w1 ⟨rfl, hL, hs1, hK⟩
  clear hs1
  go_wp2_with fail
  refine (fill_any 7 w1).mono ?_
  rintro e w2 ⟨rfl, hK2⟩
  replace hL := hL.kept hK2
  replace hK := hK.trans hK2
  clear hK2
  go_wp2_with fail
  refine (write_fill hL (DS.Ok.new 16) (fun _ h => h.elim) hK.size (by simp [DS.new]) (by simp [DS.new]) 1 7).mono ?_
  rw [wk_w1]
  rintro e w3 ⟨rfl, hL3, hK3⟩
  replace hL := hL3
  replace hK := onKeep hK hK3
  clear hL3 hK3
  go_wp2_with fail
  refine (fill_any 8 w3).mono ?_
  rintro e w4 ⟨rfl, hK4⟩
  replace hL := hL.kept hK4
  replace hK := hK.trans hK4
  clear hK4
  go_wp2_with fail
  refine (write_fill hL wk_ok1 (fun _ h => h.elim) hK.size (by simp) (by simp) 2 8).mono ?_
  rw [wk_w2]
  rintro e w5 ⟨rfl, hL5, hK5⟩
  replace hL := hL5
  replace hK := onKeep hK hK5
  clear hL5 hK5
  go_wp2_with fail
  refine (fill_any 8 w5).mono ?_
  rintro e w6 ⟨rfl, hK6⟩
  replace hL := hL.kept hK6
  replace hK := hK.trans hK6
  clear hK6
  go_wp2_with fail
  refine (write_fill hL wk_ok2 (fun _ h => h.elim) hK.size (by simp [wk2]) (by simp [wk2]) 16 8).mono ?_
  rw [wk_w3]
  rintro e w7 ⟨rfl, hL7, hK7⟩
  replace hL := hL7
  replace hK := onKeep hK hK7
  clear hL7 hK7
  go_wp2_with fail
  refine (loose_ds hL).mono ?_
  rintro e w' ⟨rfl, rfl⟩
  have hlw : ((wk2.ws.length : Nat) : Int) = 2 := rfl
  rw [hlw]
  clear hlw
  go_wp2_with fail
  refine (fuse_ds hL 0).mono ?_
  rw [wk_f]
  rintro e w8 ⟨rfl, hL8, hK8⟩
  replace hL := hL8
  replace hK := onKeep hK hK8
  clear hL8 hK8
  go_wp2_with fail
  refine (sync_ds hL wk_ok3 (by simp [wk2]) (by simp [wk2])).mono ?_
  rw [wk_s]
  rintro e w9 ⟨rfl, hL9, hK9⟩
  replace hL := hL9
  replace hK := onKeep hK hK9
  clear hL9 hK9
  go_wp2_with fail
  refine (read_ds hL wk_ok4 (by simp [wk4, wk2]) 1).mono ?_
  rw [wk_r4]
  rintro e w10 ⟨rfl, hK10⟩
  replace hL := hL.kept hK10
  replace hK := hK.trans hK10
  clear hK10
  go_wp2_with (refine wpList_store_row rfl 37 _ _ rfl w10.heap.size rfl (fill 0) rfl 37 (fill 0) (heap_alloc2_x w10 _) hs0 rfl ho0 ?_; intro w11 n11 k11)
  have k0 : Keeps (fun _ => False) w10 w11 := ((Keeps.refl _ _).alloc _).trans' k11 (fun k e => .inr (by omega))
  replace hL := hL.kept k0
  replace hK := hK.trans k0
  clear k0 k11 n11
  refine (down_ds hL).mono ?_
  rintro e w' ⟨rfl, rfl⟩
  rw [show wk4.dn = true from rfl]
  go_wp2_with fail
  have hka : KeepAt (w'.alloc (.cells #[.int .u8 1, .int .u8 1] 5)) (some ⟨w'.heap.size, 0, none⟩) [1, 1] := fun j x hx => by
    refine ⟨w'.heap.size, 0, rfl, ?_⟩
    rw [cell_of_row _ _ _ _ _ _ (heap_alloc2_x w' _)]
    match j, hx with
    | 0, hx => cases hx; exact ⟨rfl, by omega, by omega⟩
    | 1, hx => cases hx; exact ⟨rfl, by omega, by omega⟩
  have k12 : Keeps (fun _ => False) w' (w'.alloc (.cells #[.int .u8 1, .int .u8 1] 5)) := (Keeps.refl _ _).alloc _
  have hw' := hK.size
  refine (crash_ds (hL.kept k12) wk_ok4 (by simp [wk4, wk2]) (some ⟨w'.heap.size, 0, none⟩) 2 [1, 1] 1 hka (by rintro b o ⟨⟩; obtain ⟨vl, _, hB, _⟩ := hL; have := (Array.getElem?_eq_some_iff.1 hB).1; omega)).mono ?_
  rintro e w13 ⟨rfl, hL13, hK13⟩
  replace hL : Lies w.heap.size none' w13 (w.heap.size + 1) w.heap.size wk5 := hL13
  replace hK := onKeep (hK.trans k12) hK13
  clear hL13 hK13 k12 hka hw'
  go_wp2_with fail
  refine (read_ds hL wk_ok5 (by simp [wk5_ws]) 1).mono ?_
  rw [wk_r5]
  rintro e w14 ⟨rfl, hK14⟩
  replace hL := hL.kept hK14
  replace hK := hK.trans hK14
  clear hK14
  have hs7 : (Try.prog.info? 37).map (·.size) = some (fill 7).size := by rw [size_fill]; exact size37
  have ho7 := fill_one 7
  have hz7 : (fill 0).size = (fill 7).size := by rw [size_fill, size_fill]
  go_wp2_with (refine wpList_store_row rfl 37 _ _ rfl w14.heap.size rfl (fill 7) rfl 37 (fill 0) (heap_alloc2_x w14 _) hs7 hz7 ho7 ?_; intro w15 n15 k15)
  have k0 : Keeps (fun _ => False) w14 w15 := ((Keeps.refl _ _).alloc _).trans' k15 (fun k e => .inr (by omega))
  replace hL := hL.kept k0
  replace hK := hK.trans k0
  clear k0 k15
  refine (read_ds hL wk_ok5 (by simp [wk5_ws]) 2).mono ?_
  rw [wk_r6]
  rintro e w16 ⟨rfl, hK16⟩
  replace hL := hL.kept hK16
  replace hK := hK.trans hK16
  have n16 : w16.heap[w14.heap.size]? = some (.cells (fill 7) 37 (0, 0)) := (hK16.block _ (Array.getElem?_eq_some_iff.1 n15).1 (fun h => h)).trans n15
  clear hK16 n15
  have hs8 : (Try.prog.info? 37).map (·.size) = some wkB.size := by rw [wkB_size]; exact size37
  have ho8 := wkB_one
  have hz8 : (fill 0).size = wkB.size := by rw [size_fill, wkB_size]
  go_wp2_with (refine wpList_store_row rfl 37 _ _ rfl w16.heap.size rfl wkB rfl 37 (fill 0) (heap_alloc2_x w16 _) hs8 hz8 ho8 ?_; intro w17 n17 k17)
  have k0 : Keeps (fun _ => False) w16 w17 := ((Keeps.refl _ _).alloc _).trans' k17 (fun k e => .inr (by omega))
  replace hL := hL.kept k0
  replace hK := hK.trans k0
  have n7 : w17.heap[w14.heap.size]? = some (.cells (fill 7) 37 (0, 0)) := (k0.block _ (Array.getElem?_eq_some_iff.1 n16).1 (fun h => h)).trans n16
  clear k0 k17 n16 hz hs0 ho0 hs7 ho7 hz7 hs8 ho8 hz8
  have hr7 : ∀ w', Keeps (fun _ => False) w17 w' → w'.rangeAt w14.heap.size 0 (fill 7).toList := fun w' hk j v hv => by
    rw [cell_of_row w' _ _ _ _ _ ((hk.block _ (Array.getElem?_eq_some_iff.1 n7).1 (fun h => h)).trans n7), Nat.zero_add]
    simpa using hv
  have hB : ∀ w', Keeps (fun _ => False) w17 w' → ∀ i, i < 128 → w'.cell? ⟨w16.heap.size, i, none⟩ = some (.int .u8 (if i < 64 then 8 else 0)) := fun w' hk i hi => by
    rw [cell_of_row w' _ _ _ _ _ ((hk.block _ (Array.getElem?_eq_some_iff.1 n17).1 (fun h => h)).trans n17)]
    exact wkB_at i hi
  have HS : Hid (∀ w', Keeps (fun _ => False) w17 w' → Keeps (fun _ => False) w17 w' ∧ w'.rangeAt w14.heap.size 0 (fill 7).toList ∧ w'.cell? ⟨w16.heap.size, 63, none⟩ = some (.int .u8 8) ∧ w'.cell? ⟨w16.heap.size, 64, none⟩ = some (.int .u8 0)) := fun w' hk => ⟨hk, hr7 w' hk, hB w' hk 63 (by omega), hB w' hk 64 (by omega)⟩
  clear hr7 hB n7 n17
  have hu := Try.underlying37
  have hi37 : (Try.prog.info? 37).map (·.size) = some (fill 7).toList.length := by rw [(ok_fill 7).1]; exact size37
  have hl7 := (ok_fill 7).1
  have heq := eq_bytes (bytes_fill 7)
  have q1 := wk5_dn
  have q2 : ((wk5.ws.length : Nat) : Int) = 0 := rfl
  have q3 : ((wk5.n : Nat) : Int) = 16 := rfl
  have q4 := wk5_dc
  go_region_held3 (fun w' => Keeps (fun _ => False) w17 w' ∧ w'.rangeAt w14.heap.size 0 (fill 7).toList ∧ w'.cell? ⟨w16.heap.size, 63, none⟩ = some (.int .u8 8) ∧ w'.cell? ⟨w16.heap.size, 64, none⟩ = some (.int .u8 0))
    (first | assumption | exact HS.out _ (Keeps.refl _ _) | exact HS.out _ ((Keeps.refl _ _).drew) | (exact HS.out _ (Keeps.drew (And.left (by assumption)))) | exact HS.out _ (Keeps.trans (And.left (by assumption)) (by assumption)))
    (first | (go_at_call 26; refine (down_ds (hL.kept (And.left (by assumption)))).mono ?_; rintro e w' ⟨rfl, rfl⟩) | (go_at_call 24; refine (loose_ds (hL.kept (And.left (by assumption)))).mono ?_; rintro e w' ⟨rfl, rfl⟩) | (go_at_call 25; refine (len_ds (hL.kept (And.left (by assumption)))).mono ?_; rintro e w' ⟨rfl, rfl⟩) | (go_at_call 27; refine (done_ds (hL.kept (And.left (by assumption)))).mono ?_; rintro e w' ⟨rfl, rfl⟩) | (go_at_call 15; refine (fill_any 7 _).mono ?_; rintro e w' ⟨rfl, hkf⟩))
  go_wp2
  go_ret
  exact ⟨rfl, hK.trans (((Keeps.refl _ _).drew).trans hkf)⟩

end Go.Proofs.Ytokgnfniaeeloaa
