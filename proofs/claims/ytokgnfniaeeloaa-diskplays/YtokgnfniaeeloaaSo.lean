/-
  DiskOrder: the walk.
-/
import Derived.Test.YtokgnfniaeeloaaSr
set_option linter.all false
namespace Go.Proofs.Ytokgnfniaeeloaa
open Go.RowKit Go.Shelf
attribute [local go_sem ↓] wp_build37

/-- m bytes v in a row from off on. -/
def paint (row : Array Value) (off : Nat) (v : Int) (m : Nat) : Array Value := over row off (Array.replicate m (.int .u8 v))

theorem size_paint {row : Array Value} {off : Nat} {v : Int} {m : Nat} (h : off + m ≤ row.size) : (paint row off v m).size = row.size := size_over (by simpa using h)

theorem paint_zero (row : Array Value) (off : Nat) (v : Int) (h : off ≤ row.size) : paint row off v 0 = row := by
  apply Array.ext_getElem?
  intro j
  unfold paint
  rw [getElem?_over _ _ _ _ (by simpa using h), if_neg (by simp)]

theorem paint_succ (row : Array Value) (off : Nat) (v : Int) (m : Nat) (h : off + m < row.size) : (paint row off v m).setIfInBounds (off + m) (.int .u8 v) = paint row off v (m + 1) := by
  apply Array.ext_getElem?
  intro j
  have hs := size_paint (row := row) (off := off) (v := v) (m := m) (by omega)
  rw [Array.getElem?_setIfInBounds, hs]
  unfold paint
  rw [getElem?_over _ _ _ _ (by simp; omega), getElem?_over _ _ _ _ (by simp; omega)]
  simp only [Array.size_replicate, Array.getElem?_replicate]
  by_cases e : off + m = j
  · subst e
    rw [if_pos rfl, if_pos h, if_pos (by omega), if_pos (by omega)]
  · rw [if_neg e]
    by_cases h1 : off ≤ j ∧ j < off + m
    · rw [if_pos h1, if_pos (by omega), if_pos (by omega), if_pos (by omega)]
    · rw [if_neg h1, if_neg (by omega)]

theorem take_fill (v : Int) (n : Nat) (h : n ≤ 128) : ((fill v).toList.take n).toArray = Array.replicate n (.int .u8 v) := by
  have e : (fill v).toList.take n = List.replicate n (.int .u8 v) := by
    unfold fill
    rw [Array.toList_replicate, List.take_replicate, Nat.min_eq_left h]
  rw [e]; simp

theorem allByte_paint {row : Array Value} {off : Nat} {v : Int} {m : Nat} (h : AllByte row) (hf : off + m ≤ row.size) : AllByte (paint row off v m) :=
  allByte_over h (fun j u hu => by rw [Array.getElem?_replicate] at hu; split at hu <;> simp at hu; exact ⟨v, hu.symm⟩) (by simpa using hf)

theorem blk_over_part {row cs : Array Value} {k : Nat} (h : k * 128 + 128 ≤ row.size) (hc : cs.size ≤ 128) : blk (over row (k * 128) cs) k = over (blk row k) 0 cs := by
  have hb : (blk row k).size = 128 := by unfold blk; simp; omega
  apply Array.ext_getElem?
  intro j
  rw [getElem?_blk]
  by_cases hj : j < 128
  · rw [if_pos hj, getElem?_over _ _ _ _ (by omega), getElem?_over _ _ _ _ (by omega)]
    by_cases h2 : j < cs.size
    · rw [if_pos (by omega), if_pos (by omega)]; congr 1; omega
    · rw [if_neg (by omega), if_neg (by omega), getElem?_blk, if_pos hj]
  · rw [if_neg hj, getElem?_over _ _ _ _ (by omega), if_neg (by omega), getElem?_blk, if_neg hj]

/-- What DiskOrder wants behind k of the two writes. -/
def wantO (t : Int) (ks vs : List Int) : Nat → Array Value
  | 0 => fill 0
  | k + 1 => if isKept ks k then paint (wantO t ks vs k) 0 (vs.getD k 0) (cutOf t k) else wantO t ks vs k

theorem cut_le (t : Int) (k : Nat) : cutOf t k ≤ 128 := by unfold cutOf; split <;> omega

theorem size_wantO (t : Int) (ks vs : List Int) : ∀ k, (wantO t ks vs k).size = 128
  | 0 => size_fill 0
  | k + 1 => by
    have ih := size_wantO t ks vs k
    have := cut_le t k
    unfold wantO
    split
    · rw [size_paint (by omega)]; exact ih
    · exact ih

theorem allByte_wantO (t : Int) (ks vs : List Int) : ∀ k, AllByte (wantO t ks vs k)
  | 0 => allByte_fill 0
  | k + 1 => by
    have ih := allByte_wantO t ks vs k
    have := cut_le t k
    have hs := size_wantO t ks vs k
    unfold wantO
    split
    · exact allByte_paint ih (by omega)
    · exact ih

theorem order_block (t : Int) (k0 k1 v0 v1 : Int) :
    blk (crashRow t (zeros 16) (keptOf [k0, k1] (idx [(3, (fill v0).toList), (3, (fill v1).toList)]))) 3 = wantO t [k0, k1] [v0, v1] 2 := by
  have e0 : keptOf [k0, k1] (idx [(3, (fill v0).toList), (3, (fill v1).toList)]) = (if isKept [k0, k1] 0 then [(0, ((3 : Int), (fill v0).toList))] else []) ++ (if isKept [k0, k1] 1 then [(1, ((3 : Int), (fill v1).toList))] else []) := by
    simp only [idx, keptOf, List.zipIdx_cons, List.zipIdx_nil, List.map_cons, List.map_nil, List.filter_cons, List.filter_nil]
    cases isKept [k0, k1] 0 <;> cases isKept [k0, k1] (0 + 1) <;> rfl
  have step : ∀ (row : Array Value) (i : Nat) (v : Int), row.size = 2048 → blk (crashStep t row (i, ((3 : Int), (fill v).toList))) 3 = paint (blk row 3) 0 v (cutOf t i) := fun row i v h => by
    show blk (over row (3 * 128) ((fill v).toList.take (cutOf t i)).toArray) 3 = _
    rw [take_fill v _ (cut_le t i), blk_over_part (by omega) (by simpa using cut_le t i)]
    rfl
  have hz : (zeros 16).size = 2048 := by simp [zeros]
  have hb : blk (zeros 16) 3 = fill 0 := blk_zeros 16 3 (by omega)
  have h1 : (crashStep t (zeros 16) (0, ((3 : Int), (fill v0).toList))).size = 2048 := by
    show (over (zeros 16) (3 * 128) ((fill v0).toList.take (cutOf t 0)).toArray).size = _
    rw [take_fill v0 _ (cut_le t 0), size_over (by simp [hz]; have := cut_le t 0; omega), hz]
  rw [e0]
  unfold wantO wantO wantO
  show _ = if isKept [k0, k1] 1 then paint (if isKept [k0, k1] 0 then paint (fill 0) 0 v0 (cutOf t 0) else fill 0) 0 v1 (cutOf t 1) else (if isKept [k0, k1] 0 then paint (fill 0) 0 v0 (cutOf t 0) else fill 0)
  cases isKept [k0, k1] 0 <;> cases isKept [k0, k1] 1
  · exact hb
  · show blk (crashStep t (zeros 16) (1, ((3 : Int), (fill v1).toList))) 3 = _
    rw [step _ _ _ hz, hb]; rfl
  · show blk (crashStep t (zeros 16) (0, ((3 : Int), (fill v0).toList))) 3 = _
    rw [step _ _ _ hz, hb]; rfl
  · show blk (crashStep t (crashStep t (zeros 16) (0, ((3 : Int), (fill v0).toList))) (1, ((3 : Int), (fill v1).toList))) 3 = _
    rw [step _ _ _ h1, step _ _ _ hz, hb]; rfl

attribute [local go_sem ↓] wp_build37g Go.wp_at_zero Go.wp_at_succ wp_load37g
attribute [local go_sem] addrOf cellsAt_drew

/-- A pair of bytes in a block. -/
def Two (w : World) (g : Nat) (a b : Int) : Prop := w.cell? ⟨g, 0, none⟩ = some (.int .u8 a) ∧ w.cell? ⟨g, 1, none⟩ = some (.int .u8 b)

theorem Two.keeps {F : Nat → Prop} {w w' : World} {g : Nat} {a b : Int} (h : Two w g a b) (hk : Keeps F w w') (hg : ¬ F g) : Two w' g a b :=
  ⟨cell_keeps hk h.1 hg, cell_keeps hk h.2 hg⟩

set_option maxRecDepth 100000 in
set_option maxHeartbeats 4000000 in
theorem order_any (w : World) (v0 v1 k0 k1 torn : Int) (hv0 : 0 ≤ v0 ∧ v0 ≤ 255) (hv1 : 0 ≤ v1 ∧ v1 ≤ 255) (hk0 : 0 ≤ k0 ∧ k0 ≤ 255) (hk1 : 0 ≤ k1 ∧ k1 ≤ 255) (ht : 0 ≤ torn ∧ torn ≤ 255) :
    Calls Try.prog 9 #[.agg #[.int .u8 v0, .int .u8 v1], .agg #[.int .u8 k0, .int .u8 k1], .int .u8 torn] w fun e w' => e = .returned (.bool true) ∧ Keeps (fun _ => False) w w' := by
  go_enter Try.func9, Try.ntmps9
  go_wp2_with fail
  obtain ⟨W, hW⟩ : ∃ W, (w.alloc (.cells #[.int .u8 v0, .int .u8 v1] 59)).alloc (.cells #[.int .u8 k0, .int .u8 k1] 59) = W := ⟨_, rfl⟩
  try rw [hW]
  have hWs : W.heap.size = w.heap.size + 2 := by rw [← hW]; simp
  have hWK : Keeps (fun _ => False) w W := by rw [← hW]; exact ((Keeps.refl _ _).alloc _).alloc _
  have tv : Two W w.heap.size v0 v1 := by
    rw [← hW]
    have g := heap_alloc2_old w (.cells #[.int .u8 v0, .int .u8 v1] 59) (.cells #[.int .u8 k0, .int .u8 k1] 59)
    exact ⟨by simp [World.cell?, g], by simp [World.cell?, g]⟩
  have tk : Two W (w.heap.size + 1) k0 k1 := by
    rw [← hW]
    have g := heap_alloc2_new w (.cells #[.int .u8 v0, .int .u8 v1] 59) (.cells #[.int .u8 k0, .int .u8 k1] 59)
    exact ⟨cell_of_row _ _ _ _ _ _ g, cell_of_row _ _ _ _ _ _ g⟩
  clear hW
  refine (new_ds 16 W (by omega) (by omega) none' (fun _ h => h.elim)).mono ?_
  rintro e w1 ⟨rfl, hL, hs1, hK⟩
  rw [hWs] at hL
  have tv1 := tv.keeps hK (fun h => h)
  have tk1 := tk.keeps hK (fun h => h)
  have hKw := hWK.trans hK
  have hok := DS.Ok.new 16
  clear tv tk hWK hK
  obtain ⟨s, hs⟩ : ∃ s, DS.new 16 = s := ⟨_, rfl⟩
  rw [hs] at hL hok
  obtain ⟨v0c, v1c⟩ := id tv1
  go_wp2_with fail
  refine (fill_any _ _).mono ?_
  rintro e w2 ⟨rfl, k2⟩
  go_wp2_with fail
  have hw1 := write_fill (hL.kept k2) hok (fun k e => e.elim) (by have := k2.size; omega) (by rw [← hs]; exact ⟨Int.le_refl 0, by show (0 : Int) < 1000000; omega⟩) (by rw [← hs]; show 0 < 1000000; omega) 3 v0
  have hr1 : s.write 3 (fill v0).toList = (0, { s with ws := [(3, (fill v0).toList)], dc := 1 }) := by rw [← hs]; rfl
  have hok1 := hok.write 3 (fill v0).toList (ok_fill v0)
  rw [hr1] at hw1 hok1
  refine hw1.mono ?_
  rintro e w3 ⟨rfl, hL3, k3⟩
  clear hw1 hr1 v0c
  have v1c' := cell_keeps k3 (cell_keeps k2 v1c (fun h => h)) (fun h => by have : w.heap.size + 2 ≤ w.heap.size := h.1; omega)
  go_wp2_with fail
  refine (fill_any _ _).mono ?_
  rintro e w4 ⟨rfl, k4⟩
  have hw2 := write_fill (hL3.kept k4) hok1 (fun k e => e.elim) (by have := k2.size; have := k3.size; have := k4.size; omega) ⟨by show (0 : Int) ≤ 1; omega, by show (1 : Int) < 1000000; omega⟩ (by show 1 < 1000000; omega) 3 v1
  have hok2 := hok1.write 3 (fill v1).toList (ok_fill v1)
  obtain ⟨s2, hs2⟩ : ∃ s2 : DS, { s with ws := [(3, (fill v0).toList), (3, (fill v1).toList)], dc := 2 } = s2 := ⟨_, rfl⟩
  have hr2 : ({ s with ws := [(3, (fill v0).toList)], dc := 1 } : DS).write 3 (fill v1).toList = (0, s2) := by rw [← hs2, ← hs]; rfl
  rw [hr2] at hw2 hok2
  have K4 : Keeps (Own1 (w.heap.size + 2) none') w1 w4 := ((k2.mono (fun _ _ h => h.elim)).trans k3).trans (k4.mono (fun _ _ h => h.elim))
  go_wp2_with fail
  refine hw2.mono ?_
  rintro e w5 ⟨rfl, hL5, k5⟩
  have K5 := K4.trans k5
  have tv5 := tv1.keeps K5 (fun h => by have : w.heap.size + 2 ≤ w.heap.size := h.1; omega)
  have tk5 := tk1.keeps K5 (fun h => by have : w.heap.size + 2 ≤ w.heap.size + 1 := h.1; omega)
  have hKw5 : Keeps (fun _ => False) w w5 := hKw.trans' K5 (fun k e => .inr (by have := e.1; omega))
  clear hw2 hr2 hL hL3 k2 k3 k4 k5 K4 K5 tv1 tk1 hKw v1c v1c' hok hok1 hs1 hWs
  have hkat : KeepAt w5 (some ⟨w.heap.size + 1, 0, none⟩) [k0, k1] := fun j x hx => by
    match j, hx with
    | 0, hx => simp at hx; subst hx; exact ⟨_, _, rfl, tk5.1, hk0⟩
    | 1, hx => simp at hx; subst hx; exact ⟨_, _, rfl, tk5.2, hk1⟩
  obtain ⟨t, htt⟩ : ∃ t, torn % 4 - 1 = t := ⟨_, rfl⟩
  have hcr := crash_ds hL5 hok2 (by rw [← hs2]; show 2 < 1000000; omega) (some ⟨w.heap.size + 1, 0, none⟩) 2 [k0, k1] t hkat (fun b o e => by cases e; omega)
  have hok3 := hok2.crash [k0, k1] t
  obtain ⟨s3, hs3⟩ : ∃ s3, s2.crash [k0, k1] t = s3 := ⟨_, rfl⟩
  have hrd3 : s3.read 3 = (wantO t [k0, k1] [v0, v1] 2, 0) := by
    rw [← hs3, ← hs2, ← hs]
    exact congrArg (·, (0 : Int)) (order_block t k0 k1 v0 v1)
  have hws3 : s3.ws.length < 1000000 := by rw [← hs3]; show 0 < 1000000; omega
  rw [hs3] at hcr hok3
  clear hs3 hs2 hs hok2 hL5 hkat
  go_wp2_with fail
  clear htt
  refine hcr.mono ?_
  rintro e w6 ⟨rfl, hL6, k6⟩
  have tv6 := tv5.keeps k6 (fun h => by have : w.heap.size + 2 ≤ w.heap.size := h.1; omega)
  have tk6 := tk5.keeps k6 (fun h => by have : w.heap.size + 2 ≤ w.heap.size + 1 := h.1; omega)
  have hKw6 : Keeps (fun _ => False) w w6 := hKw5.trans' k6 (fun k e => .inr (by have := e.1; omega))
  clear hcr k6 tv5 tk5 hKw5
  have hz := zero37
  go_wp2
  obtain ⟨c, hc⟩ : ∃ c, w6.heap.size = c := ⟨_, rfl⟩
  obtain ⟨W2, hW2⟩ : ∃ W2, w6.alloc (.cells (fill 0) 37) = W2 := ⟨_, rfl⟩
  rw [hW2, hc]
  have kW2 : Keeps (fun _ => False) w6 W2 := by rw [← hW2]; exact (Keeps.refl _ _).alloc _
  have gW2 : W2.heap[c]? = some (.cells (fill 0) 37 (0, 0)) := by rw [← hW2, ← hc]; exact heap_alloc2_x w6 _
  have hLc := (hL6.more (C' := (· = c)) (fun k e => .inr (by omega))).kept kW2
  have hKc := hKw6.trans kW2
  have tv := tv6.keeps kW2 (fun h => h)
  have tk := tk6.keeps kW2 (fun h => h)
  have hwc : w.heap.size + 2 ≤ c := by
    have h1 : w.heap.size < w6.heap.size := World.block_lt_of_cell? w6 _ tv6.1
    have h2 : w.heap.size + 1 < w6.heap.size := World.block_lt_of_cell? w6 _ tk6.1
    omega
  clear hc hW2 kW2 hL6 hKw6 hz tv6 tk6
  go_loopw [11] (fun n wr => ∃ (i : Nat), i ≤ 2 ∧ n = .int .i64 (i : Int) ∧ Lies (w.heap.size + 2) (· = c) wr (w.heap.size + 2 + 1) (w.heap.size + 2) s3 ∧ Two wr w.heap.size v0 v1 ∧ Two wr (w.heap.size + 1) k0 k1 ∧ wr.heap[c]? = some (.cells (wantO t [k0, k1] [v0, v1] i) 37 (0, 0)) ∧ Keeps (fun _ => False) w wr) (fun n _ => 2 - (intOf n).toNat)
  case atStart => exact ⟨0, by omega, rfl, hLc, tv, tk, gW2, hKc⟩
  case round =>
    obtain ⟨i, hi, rfl, hLr, tvr, tkr, gr, hKr⟩ := hrel
    clear hLc tv tk gW2 hKc
    by_cases hlt : i < 2
    · have hi0 : (0 : Int) ≤ (i : Int) := by omega
      have hi2 : (i : Int) < 2 := by omega
      obtain ⟨ki, vi, kic, vic, hki, hkk, hvi⟩ : ∃ ki vi, wr.cell? ⟨w.heap.size + 1, i, none⟩ = some (.int .u8 ki) ∧ wr.cell? ⟨w.heap.size, i, none⟩ = some (.int .u8 vi) ∧ (0 ≤ ki ∧ ki ≤ 255) ∧ isKept [k0, k1] i = (ki % 2 == 1) ∧ [v0, v1].getD i 0 = vi := by
        match i, hlt with
        | 0, _ => exact ⟨k0, v0, tkr.1, tvr.1, hk0, rfl, rfl⟩
        | 1, _ => exact ⟨k1, v1, tkr.2, tvr.2, hk1, rfl, rfl⟩
      have hkc : ¬ (w.heap.size + 1 = c) := by omega
      have hvc : ¬ (w.heap.size = c) := by omega
      have hsw := size_wantO t [k0, k1] [v0, v1] i
      have hw' : wantO t [k0, k1] [v0, v1] (i + 1) = if isKept [k0, k1] i then paint (wantO t [k0, k1] [v0, v1] i) 0 vi (cutOf t i) else wantO t [k0, k1] [v0, v1] i := by rw [← hvi]; rfl
      by_cases hit : (i : Int) = t
      · have hit' : ((i : Int) == t) = true := by simpa using hit
        have hN : cutOf t i = 64 := by unfold cutOf; rw [if_pos hit]
        rw [hN] at hw'
        clear hN hit
        obtain ⟨w0, rfl⟩ : ∃ w0, w0 = wr := ⟨_, rfl⟩
        go_wp2
        go_loopw [13] (fun m wq => ∃ (k : Nat), k ≤ 64 ∧ m = .int .i64 (k : Int) ∧ (k = 0 ∨ isKept [k0, k1] i = true) ∧ wq.heap[c]? = some (.cells (paint (wantO t [k0, k1] [v0, v1] i) 0 vi k) 37 (0, 0)) ∧ Keeps (· = c) w0 wq) (fun m _ => 64 - (intOf m).toNat)
        case atStart => exact ⟨0, by omega, rfl, .inl rfl, by rw [paint_zero _ _ _ (by omega)]; exact gr, Keeps.refl _ _⟩
        case round =>
          obtain ⟨k, hk, rfl, hkz, gq, hKq⟩ := hrel
          have kic' := cell_keeps hKq kic hkc
          have vic' := cell_keeps hKq vic hvc
          by_cases hkn : k < 64
          · have hkn' : (k : Int) < 64 := by omega
            have hk00 : (0 : Int) ≤ (k : Int) := by omega
            have hk128 : (k : Int) < 128 := by omega
            cases hodd : (ki % 2 == 1) with
            | true =>
              have hps : (paint (wantO t [k0, k1] [v0, v1] i) 0 vi k).size = 128 := by rw [size_paint (by omega)]; exact hsw
              have hcell : wr.cell? ⟨c, k, none⟩ = some ((paint (wantO t [k0, k1] [v0, v1] i) 0 vi k)[k]'(by omega)) := by
                rw [cell_of_row wr _ k _ _ _ gq, Array.getElem?_eq_getElem]
              have hfz : wr.frozen? ⟨c, k, none⟩ = false := frozen_of_row wr _ k _ _ gq
              go_wp2
              go_roundw
              case rel =>
                refine ⟨k + 1, by omega, by go_num, .inr (by rw [hkk]; exact hodd), ?_, hKq.setCell (p := ⟨c, k, none⟩) (.inl rfl) _⟩
                have := heap_setCell_same wr c k _ _ (.int .u8 vi) gq
                have h2 := paint_succ (wantO t [k0, k1] [v0, v1] i) 0 vi k (by omega)
                rw [Nat.zero_add] at h2
                rw [h2] at this
                exact this
              case measure => simp [intOf]; omega
            | false =>
              have hk0' : k = 0 := by rcases hkz with h | h; exact h; rw [hkk, hodd] at h; cases h
              subst hk0'
              rw [paint_zero _ _ _ (by omega)] at gq
              rw [hkk, hodd] at hw'
              rw [← show _ = wantO t [k0, k1] [v0, v1] i from hw'] at gq
              have hgo : Keeps (fun _ => False) w wr := hKr.trans' hKq (fun k e => .inr (by omega))
              have hLo := hLr.keptC hKq
              have tvo := tvr.keeps hKq hvc
              have tko := tkr.keeps hKq hkc
              go_wp2
              exact ⟨⟨i + 1, by omega, by go_num, hLo, tvo, tko, gq, hgo⟩, by simp [intOf]; omega⟩
          · obtain rfl : k = 64 := by omega
            have hkp : isKept [k0, k1] i = true := by rcases hkz with h | h; omega; exact h
            rw [hkp] at hw'
            rw [← show _ = paint (wantO t [k0, k1] [v0, v1] i) 0 vi 64 from hw'] at gq
            have hgo : Keeps (fun _ => False) w wr := hKr.trans' hKq (fun k e => .inr (by omega))
            have hLo := hLr.keptC hKq
            have tvo := tvr.keeps hKq hvc
            have tko := tkr.keeps hKq hkc
            go_wp2
            exact ⟨⟨i + 1, by omega, by go_num, hLo, tvo, tko, gq, hgo⟩, by simp [intOf]; omega⟩
      · have hit' : ((i : Int) == t) = false := by simpa using hit
        have hN : cutOf t i = 128 := by unfold cutOf; rw [if_neg hit]
        rw [hN] at hw'
        clear hN hit
        obtain ⟨w0, rfl⟩ : ∃ w0, w0 = wr := ⟨_, rfl⟩
        go_wp2
        go_loopw [13] (fun m wq => ∃ (k : Nat), k ≤ 128 ∧ m = .int .i64 (k : Int) ∧ (k = 0 ∨ isKept [k0, k1] i = true) ∧ wq.heap[c]? = some (.cells (paint (wantO t [k0, k1] [v0, v1] i) 0 vi k) 37 (0, 0)) ∧ Keeps (· = c) w0 wq) (fun m _ => 128 - (intOf m).toNat)
        case atStart => exact ⟨0, by omega, rfl, .inl rfl, by rw [paint_zero _ _ _ (by omega)]; exact gr, Keeps.refl _ _⟩
        case round =>
          obtain ⟨k, hk, rfl, hkz, gq, hKq⟩ := hrel
          have kic' := cell_keeps hKq kic hkc
          have vic' := cell_keeps hKq vic hvc
          by_cases hkn : k < 128
          · have hkn' : (k : Int) < 128 := by omega
            have hk00 : (0 : Int) ≤ (k : Int) := by omega
            have hk128 : (k : Int) < 128 := by omega
            cases hodd : (ki % 2 == 1) with
            | true =>
              have hps : (paint (wantO t [k0, k1] [v0, v1] i) 0 vi k).size = 128 := by rw [size_paint (by omega)]; exact hsw
              have hcell : wr.cell? ⟨c, k, none⟩ = some ((paint (wantO t [k0, k1] [v0, v1] i) 0 vi k)[k]'(by omega)) := by
                rw [cell_of_row wr _ k _ _ _ gq, Array.getElem?_eq_getElem]
              have hfz : wr.frozen? ⟨c, k, none⟩ = false := frozen_of_row wr _ k _ _ gq
              go_wp2
              go_roundw
              case rel =>
                refine ⟨k + 1, by omega, by go_num, .inr (by rw [hkk]; exact hodd), ?_, hKq.setCell (p := ⟨c, k, none⟩) (.inl rfl) _⟩
                have := heap_setCell_same wr c k _ _ (.int .u8 vi) gq
                have h2 := paint_succ (wantO t [k0, k1] [v0, v1] i) 0 vi k (by omega)
                rw [Nat.zero_add] at h2
                rw [h2] at this
                exact this
              case measure => simp [intOf]; omega
            | false =>
              have hk0' : k = 0 := by rcases hkz with h | h; exact h; rw [hkk, hodd] at h; cases h
              subst hk0'
              rw [paint_zero _ _ _ (by omega)] at gq
              rw [hkk, hodd] at hw'
              rw [← show _ = wantO t [k0, k1] [v0, v1] i from hw'] at gq
              have hgo : Keeps (fun _ => False) w wr := hKr.trans' hKq (fun k e => .inr (by omega))
              have hLo := hLr.keptC hKq
              have tvo := tvr.keeps hKq hvc
              have tko := tkr.keeps hKq hkc
              go_wp2
              exact ⟨⟨i + 1, by omega, by go_num, hLo, tvo, tko, gq, hgo⟩, by simp [intOf]; omega⟩
          · obtain rfl : k = 128 := by omega
            have hkp : isKept [k0, k1] i = true := by rcases hkz with h | h; omega; exact h
            rw [hkp] at hw'
            rw [← show _ = paint (wantO t [k0, k1] [v0, v1] i) 0 vi 128 from hw'] at gq
            have hgo : Keeps (fun _ => False) w wr := hKr.trans' hKq (fun k e => .inr (by omega))
            have hLo := hLr.keptC hKq
            have tvo := tvr.keeps hKq hvc
            have tko := tkr.keeps hKq hkc
            go_wp2
            exact ⟨⟨i + 1, by omega, by go_num, hLo, tvo, tko, gq, hgo⟩, by simp [intOf]; omega⟩
    · obtain rfl : i = 2 := by omega
      obtain ⟨A, hA⟩ : ∃ A, wantO t [k0, k1] [v0, v1] 2 = A := ⟨_, rfl⟩
      rw [hA] at hrd3 gr
      have hsA : A.size = 128 := by rw [← hA]; exact size_wantO _ _ _ 2
      have hAb : Bytes A := by
        refine ⟨hsA, fun i hi => ?_⟩
        have hlt : i < A.size := by omega
        obtain ⟨z, hz⟩ := (hA ▸ allByte_wantO t [k0, k1] [v0, v1] 2) i _ (Array.getElem?_eq_getElem hlt)
        exact ⟨z, by rw [Array.getElem?_eq_getElem hlt, hz]⟩
      have heq := eq_bytes hAb
      have hs1 : (Try.prog.info? 37).map (·.size) = some A.size := by rw [hsA]; exact size37
      have hz1 : (fill 0).size = A.size := by rw [hsA]; exact size_fill 0
      have ho1 := (read_row hok3 3).2
      have hrd := read_ds hLr hok3 hws3 3
      rw [hrd3] at ho1 hrd
      clear hA hrd3
      have hz := zero37
      go_wp2_with (first | (go_at_call 17; refine hrd.mono ?_; rintro e w7 ⟨rfl, k7⟩) | (refine wpList_store_row rfl 37 _ _ rfl w7.heap.size rfl A rfl 37 (fill 0) (heap_alloc2_x w7 _) hs1 hz1 ho1 ?_; intro w8 n8 k8'; have k8 : Keeps (fun _ => False) wr w8 := k7.trans (((Keeps.refl _ _).alloc _).trans' k8' (fun k e => .inr (by omega))); refine Stop.out ?_))
      refine Stop.mk ?_
      have g9 : w8.heap[c]? = some (.cells A 37 (0, 0)) := (k8.block c (Array.getElem?_eq_some_iff.1 gr).1 (fun h => h)).trans gr
      have hc1 : cellsAt w8 w7.heap.size 0 128 = A := by rw [cellsAt, rowOf_of n8]; simp [← hsA]
      have hc2 : cellsAt w8 c 0 128 = A := by rw [cellsAt, rowOf_of g9]; simp [← hsA]
      have hK8 := hKr.trans k8
      clear n8 k8' k7
      go_wp2_with (go_at_call 11; refine (wakes_any _).mono ?_; rintro e w10 ⟨rfl, k10⟩)
      go_ret
      exact ⟨rfl, hK8.trans k10⟩

theorem order_row (w : World) (v0 v1 : Int) (hv0 : 0 ≤ v0 ∧ v0 ≤ 255) (hv1 : 0 ≤ v1 ∧ v1 ≤ 255) (k0 k1 : Int) (hk0 : 0 ≤ k0 ∧ k0 ≤ 255) (hk1 : 0 ≤ k1 ∧ k1 ≤ 255) (torn : Int) (ht : 0 ≤ torn ∧ torn ≤ 255) :
    Calls Try.prog 9 #[.agg #[.int .u8 v0, .int .u8 v1], .agg #[.int .u8 k0, .int .u8 k1], .int .u8 torn] w fun e w' => e = .returned (.bool true) ∧ Keeps (fun _ => False) w w' :=
  order_any w v0 v1 k0 k1 torn hv0 hv1 hk0 hk1 ht

end Go.Proofs.Ytokgnfniaeeloaa
