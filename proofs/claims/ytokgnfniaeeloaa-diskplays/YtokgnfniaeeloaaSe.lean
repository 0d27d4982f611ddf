/-
  DiskSafe: the walk.
-/
import Derived.Test.YtokgnfniaeeloaaSo
set_option linter.all false
namespace Go.Proofs.Ytokgnfniaeeloaa
open Go.RowKit Go.Shelf
attribute [local go_sem ↓] wp_build37
attribute [local go_sem ↓] wp_build37g Go.wp_at_zero Go.wp_at_succ wp_load37g
attribute [local go_sem] addrOf cellsAt_drew

theorem info53 : (Try.prog.info? 53).map (fun i => (i.zero, i.size)) = some (some (.agg (zeros 5)), 640) := by kernel_rfl
theorem zero53 (w : World) : (zeroValue 53).run Try.prog w = .ok (.agg (zeros 5)) w := (zero_of_info info53).1 w

/-- Nothing hinders a write. -/
structure Free (s : DS) : Prop where
  n : s.n = 16
  F : s.F = -1
  dn : s.dn = false

theorem free_new : Free (DS.new 16) := ⟨rfl, rfl, rfl⟩

theorem free_write {s : DS} (h : Free s) (i : Int) (b : List Value) (h0 : 0 ≤ i) (h1 : i < 16) : ∃ s', s.write i b = (0, s') ∧ Free s' ∧ s'.bl = s.bl ∧ s'.ws = s.ws ++ [(i, b)] ∧ s'.dc = s.dc + 1 := by
  unfold DS.write
  rw [if_neg (by rw [h.n]; omega), if_neg (by rw [h.F, h.dn]; simp)]
  exact ⟨_, rfl, ⟨h.n, by show burnt s.F = -1; rw [h.F]; rfl, h.dn⟩, rfl, rfl, rfl⟩

theorem free_sync {s : DS} (h : Free s) : ∃ s', s.sync = (0, s') ∧ Free s' ∧ s'.ws = [] ∧ s'.dc = s.dc + 1 := by
  unfold DS.sync
  rw [if_neg (by rw [h.F, h.dn]; simp)]
  exact ⟨_, rfl, ⟨h.n, by show burnt s.F = -1; rw [h.F]; rfl, h.dn⟩, rfl, rfl⟩

/-- What a crash would leave. -/
def leaves (t : Int) (ks : List Int) (s : DS) : Array Value := crashRow t s.bl (keptOf ks (idx s.ws))

theorem leaves_nil (t : Int) (ks : List Int) (s : DS) (h : s.ws = []) : leaves t ks s = s.bl := by unfold leaves; rw [h]; rfl

theorem size_leaves (t : Int) (ks : List Int) {s : DS} (h : s.Ok) : (leaves t ks s).size = s.n * 128 :=
  size_crashRow t s.n _ _ h.size (fun y hy => h.lw y.2 (mem_idx (List.mem_filter.1 hy).1))

theorem leaves_snoc (t : Int) (ks : List Int) {s s' : DS} (x : LW) (hb : s'.bl = s.bl) (hw : s'.ws = s.ws ++ [x]) : leaves t ks s' = if isKept ks s.ws.length then crashStep t (leaves t ks s) (s.ws.length, x) else leaves t ks s := by
  unfold leaves
  rw [hb, hw, idx_snoc, keptOf_snoc]
  split
  · rw [crashRow_snoc]
  · rfl

theorem step_blk (t : Int) (k j : Nat) (v : Int) {row Wt : Array Value} (hr : row.size = 2048) (hw : Wt.size = 640) (hj : j < 5) (h : ∀ i, i < 5 → blk Wt i = blk row i) :
    ∀ i, i < 5 → blk (paint Wt (j * 128) v (cutOf t k)) i = blk (crashStep t row (k, ((j : Int), (fill v).toList))) i := fun i hi => by
  have hc := cut_le t k
  show blk (over Wt (j * 128) _) i = blk (over row ((j : Int).toNat * 128) ((fill v).toList.take (cutOf t k)).toArray) i
  rw [take_fill v _ hc, Int.toNat_natCast]
  by_cases e : i = j
  · subst e
    rw [blk_over_part (by omega) (by simpa using hc), blk_over_part (by omega) (by simpa using hc), h i hi]
  · rw [blk_over_other e (by simp; omega) (by simpa using hc), blk_over_other e (by simp; omega) (by simpa using hc), h i hi]

theorem stepsAt_slice {w : World} {v : Value} {xs : List StepV} (h : StepsAt w v xs) : ∃ a c, v = .slice a xs.length c := by
  obtain ⟨a, c, e, _⟩ := h
  exact ⟨a, c, e⟩

/-- Step k of a slice of steps, where it lies now. -/
theorem step_now {w wr : World} {sa : Option Addr} {scap : Nat} {xs : List StepV} (h : StepsAt w (.slice sa xs.length scap) xs) (hK : Keeps (fun _ => False) w wr) (k : Nat) (hlt : k < xs.length) :
    ∃ b o, sa = some ⟨b, o, none⟩ ∧ StepAt wr b (o + k * 4) xs[k] ∧ b < w.heap.size := by
  obtain ⟨sa', scap', e0, hx0⟩ := h.keeps hK
  cases e0
  obtain ⟨b, o, rfl, hs⟩ := hx0 k xs[k] (by simp [hlt])
  obtain ⟨_, _, e1, hy0⟩ := h
  cases e1
  obtain ⟨b2, o2, e2, hs2⟩ := hy0 k xs[k] (by simp [hlt])
  cases e2
  exact ⟨b, o, rfl, hs, World.block_lt_of_cell? w _ hs2.c0⟩

set_option maxRecDepth 100000 in
set_option maxHeartbeats 4000000 in
theorem safe_any (w : World) (v : Value) (xs : List StepV) (h : StepsAt w v xs) (hlen : xs.length ≤ 9223372036854775807) (v' : Value) (ys : List StepV) (h' : StepsAt w v' ys) (hlen' : ys.length ≤ 9223372036854775807)
    (ka : Option Addr) (kc : Nat) (ks : List Int) (hkeep : KeepAt w ka ks) :
    Calls Try.prog 4 #[v, v', .slice ka ks.length kc] w fun e w' => e = .returned (.bool true) ∧ Keeps (fun _ => False) w w' := by
  obtain ⟨sa, scap, rfl⟩ := stepsAt_slice h
  obtain ⟨sb, scbp, rfl⟩ := stepsAt_slice h'
  have hz53 := zero53
  go_enter Try.func4, Try.ntmps4
  go_wp2_with fail
  refine (new_ds 16 w (by omega) (by omega) none' (fun _ h => h.elim)).mono ?_
  rintro e w1 ⟨rfl, hL, hs1, hK⟩
  clear hs1
  go_wp2_with fail
  refine (fair_any w1 _ xs (h.keeps hK) hlen).mono ?_
  rintro e w' ⟨rfl, rfl⟩
  cases hf : fairB xs with
  | false =>
    go_wp2_with (go_at_call 11; refine (wakes_any _).mono ?_; rintro e w3 ⟨rfl, k3⟩)
    go_ret
    exact ⟨rfl, hK.trans k3⟩
  | true =>
    obtain ⟨hl200, _⟩ := fairB_spec hf
    go_wp2_with fail
    refine (fair_any w' _ ys (h'.keeps hK) hlen').mono ?_
    rintro e w' ⟨rfl, rfl⟩
    cases hf' : fairB ys with
    | false =>
      go_wp2_with (go_at_call 11; refine (wakes_any _).mono ?_; rintro e w3 ⟨rfl, k3⟩)
      go_ret
      exact ⟨rfl, hK.trans k3⟩
    | true =>
      obtain ⟨hl200', _⟩ := fairB_spec hf'
      clear hf hf'
      by_cases hk300 : (300 : Int) < (ks.length : Int)
      · go_wp2_with (go_at_call 11; refine (wakes_any _).mono ?_; rintro e w3 ⟨rfl, k3⟩)
        go_ret
        exact ⟨rfl, hK.trans k3⟩
      · go_wp2
        obtain ⟨c, hc⟩ : ∃ c, w'.heap.size = c := ⟨_, rfl⟩
        obtain ⟨W2, hW2⟩ : ∃ W2, w'.alloc (.cells (zeros 5) 53) = W2 := ⟨_, rfl⟩
        rw [hW2, hc]
        have kW2 : Keeps (fun _ => False) w' W2 := by rw [← hW2]; exact (Keeps.refl _ _).alloc _
        have gW2 : W2.heap[c]? = some (.cells (zeros 5) 53 (0, 0)) := by rw [← hW2, ← hc]; exact heap_alloc2_x w' _
        have hLc := (hL.more (C' := (· = c)) (fun k e => .inr (by omega))).kept kW2
        have hKc := hK.trans kW2
        have hwc : w.heap.size ≤ c := by rw [← hc]; exact hK.size
        have H0 : Hid (StepsAt w (.slice sa xs.length scap) xs) := h
        have H1 : Hid (StepsAt w (.slice sb ys.length scbp) ys) := h'
        have H2 : Hid (KeepAt w ka ks) := hkeep
        clear hc hW2 kW2 hL hK hz53 h h' hkeep
        go_loopw [10] (fun i wr => ∃ (k : Nat) (s : DS) (Wt : Array Value), k ≤ xs.length ∧ i = .int .i64 (k : Int) ∧ Lies w.heap.size (· = c) wr (w.heap.size + 1) w.heap.size s ∧ s.Ok ∧ Free s ∧ s.dc = (k : Int) ∧ s.ws.length = k ∧ wr.heap[c]? = some (.cells Wt 53 (0, 0)) ∧ Wt.size = 640 ∧ AllByte Wt ∧ (∀ i, i < 5 → blk Wt i = s.block i) ∧ Keeps (fun _ => False) w wr) (fun i _ => xs.length - (intOf i).toNat)
        case atStart => exact ⟨0, DS.new 16, zeros 5, Nat.zero_le _, rfl, hLc, DS.Ok.new 16, free_new, rfl, rfl, gW2, by simp [zeros], allByte_zeros 5, fun i hi => by rw [blk_zeros 5 i hi]; exact (blk_zeros 16 i (by omega)).symm, hKc⟩
        case round =>
          obtain ⟨k, s, Wt, hk, rfl, hLr, hok, hfr, hdc, hwl, gr, hsz, hby, hblk, hKr⟩ := hrel
          clear hLc hKc gW2
          by_cases hlt : k < xs.length
          · obtain ⟨b, o, rfl, hs, hbw0⟩ := step_now H0.out hKr k hlt
            obtain ⟨x, hxk⟩ : ∃ x, xs[k] = x := ⟨_, rfl⟩
            rw [hxk] at hs
            have hlt' : (k : Int) < (xs.length : Int) := by omega
            have hk0 : (0 : Int) ≤ (k : Int) := by omega
            have hkl : k < 200 := by omega
            obtain ⟨c0, c1, c2, c3, ckeep, chi, chv⟩ := hs
            have hnb : ¬ w.heap.size ≤ b := by omega
            clear hxk c3 ckeep c0
            obtain ⟨j, hj⟩ := Int.eq_ofNat_of_zero_le (show 0 ≤ x.i % 5 by omega)
            have hj5 : j < 5 := by omega
            have hmod := mod_any wr x.i 5 (by omega) (by omega) chi.1 chi.2
            rw [hj] at hmod
            clear hj
            go_wp2_with fail
            refine hmod.mono ?_
            rintro e w2 ⟨rfl, rfl⟩
            clear hmod c1
            obtain ⟨s', hws, hfr', hbl', hws', hdc'⟩ := free_write hfr (j : Int) (fill x.v).toList (by omega) (by omega)
            have hok' := hok.write (j : Int) (fill x.v).toList (ok_fill x.v)
            have hblk' : ∀ i, i < 5 → s'.block i = if j = i then fill x.v else s.block i := fun i hi => by
              have := write_block s j (by rw [hfr.n]; omega) (fill x.v).toList i
              rw [hws] at this
              simpa using this
            rw [hws] at hok'
            have Hws : Hid (s.write (j : Int) (fill x.v).toList = (0, s')) := hws
            have Hblk0 : Hid (∀ i, i < 5 → blk Wt i = s.block i) := hblk
            have Hblk1 : Hid (∀ i, i < 5 → s'.block i = if j = i then fill x.v else s.block i) := hblk'
            have hwsz := hKr.size
            have hcw : c < w2.heap.size := (Array.getElem?_eq_some_iff.1 gr).1
            have hj0 : (0 : Int) ≤ (j : Int) := by omega
            have hj5' : (j : Int) < 5 := by omega
            clear hws hblk hblk'
            go_wp2_with fail
            refine (fill_any _ _).mono ?_
            rintro e w5 ⟨rfl, hkf⟩
            have hcw5 : c < w5.heap.size := by have := hkf.size; omega
            have g5 : w5.heap[c]? = some (.cells Wt 53 (0, 0)) := (hkf.block c hcw (fun h => h)).trans gr
            go_wp2_with fail
            refine (write_fill (hLr.kept hkf) hok (fun k e => by rw [e]; exact hcw5) (by omega) ⟨by omega, by omega⟩ (by omega) _ _).mono ?_
            rw [Hws.out]
            rintro e w6 ⟨rfl, hL6, hK6⟩
            have c2' := cell_keeps hK6 (cell_keeps hkf c2 (fun h => h)) (fun h => hnb h.1)
            have g6 : w6.heap[c]? = some (.cells Wt 53 (0, 0)) := (hK6.block c hcw5 (fun h => h.2 rfl)).trans g5
            have hK56 : Keeps (fun _ => False) w w6 := (hKr.trans hkf).trans' hK6 (fun k e => .inr e.1)
            clear hLr c2 hK6 hkf g5 gr hKr
            have hfo : AllOne (fill x.v) := fill_one x.v
            have hfs := size_fill x.v
            have hfit : j * 128 + 128 ≤ Wt.size := by omega
            go_wp2_with fail
            refine (fill_any _ _).mono ?_
            rintro e w7 ⟨rfl, hk7⟩
            have g7 : w7.heap[c]? = some (.cells Wt 53 (0, 0)) := (hk7.block c (Array.getElem?_eq_some_iff.1 g6).1 (fun h => h)).trans g6
            have hL7 := hL6.kept hk7
            have hK7 := hK56.trans hk7
            clear hL6 g6 hK56 hk7 c2'
            go_wp2_with (refine wpList_store_blk rfl _ _ rfl c (j * 128) (by first | rfl | (simp [Act.eval]; done) | go_num) (fill x.v) rfl 53 Wt g7 hfit hfs hfo ?_; intro w8 gr' k8; refine Stop.out ?_)
            refine Stop.mk ?_
            obtain ⟨Wt', hWt'⟩ : ∃ Wt', over Wt (j * 128) (fill x.v) = Wt' := ⟨_, rfl⟩
            have hL8 : Lies w.heap.size (· = c) w8 (w.heap.size + 1) w.heap.size s' := hL7.keptC k8
            have hKf : Keeps (fun _ => False) w w8 := hK7.trans' k8 (fun k e => .inr (by omega))
            have hblk : ∀ i, i < 5 → blk Wt' i = s'.block i := fun i hi => by
              rw [Hblk1.out i hi, ← hWt']
              by_cases e : j = i
              · rw [if_pos e, ← e]; exact blk_over_same (by omega) hfs
              · rw [if_neg e, blk_over_other (by omega) (by omega) (by omega)]; exact Hblk0.out i hi
            have hby' : AllByte Wt' := by rw [← hWt']; exact allByte_over hby (allByte_fill x.v) (by omega)
            have hsz' : Wt'.size = 640 := by rw [← hWt', size_over (by omega)]; exact hsz
            rw [hWt'] at gr'
            have hwl' : s'.ws.length = k + 1 := by rw [hws']; simp [hwl]
            have hdk : s'.dc = ((k + 1 : Nat) : Int) := by rw [hdc', hdc]; simp
            have Hend : Hid (Lies w.heap.size (· = c) w8 (w.heap.size + 1) w.heap.size s' ∧ s'.Ok ∧ Free s' ∧ s'.dc = ((k + 1 : Nat) : Int) ∧ s'.ws.length = k + 1 ∧ w8.heap[c]? = some (.cells Wt' 53 (0, 0)) ∧ Wt'.size = 640 ∧ AllByte Wt' ∧ (∀ i, i < 5 → blk Wt' i = s'.block i) ∧ Keeps (fun _ => False) w w8) := ⟨hL8, hok', hfr', hdk, hwl', gr', hsz', hby', hblk, hKf⟩
            clear hby hsz hWt' Hblk0 Hblk1 Hws hL7 hK7 g7 k8 hfo hfs hfit hL8 hok' hfr' hdk hwl' gr' hsz' hby' hblk hKf hws' hdc'
            go_wp2
            exact ⟨⟨k + 1, s', Wt', by omega, by go_num, Hend.out⟩, by simp [intOf]; omega⟩
          · obtain rfl : k = xs.length := by omega
            obtain ⟨s2, hws, hfr2, hws2, hdc2⟩ := free_sync hfr
            have hok2 := hok.sync
            have hsy := sync_ds hLr hok (by omega) ⟨by omega, by omega⟩
            have hblk2 : ∀ i, i < 5 → blk Wt i = blk s2.bl i := fun i hi => by
              have h1 := sync_block hok i (by rw [hfr.n]; omega)
              rw [hws] at h1
              rw [hblk i hi, ← h1, block_onTop, show (0, s2).2 = s2 from rfl, hws2]; rfl
            rw [hws] at hok2 hsy
            have hlo2 : ((s2.ws.length : Nat) : Int) = 0 := by rw [hws2]; rfl
            clear hws
            go_wp2_with fail
            refine hsy.mono ?_
            rintro e w2 ⟨rfl, hL2, hK2'⟩
            have hK2 : Keeps (fun _ => False) w w2 := hKr.trans' hK2' (fun k e => .inr e.1)
            have g2 : w2.heap[c]? = some (.cells Wt 53 (0, 0)) := (hK2'.block c (Array.getElem?_eq_some_iff.1 gr).1 (fun h => h.2 rfl)).trans gr
            have hdc2' : s2.dc = (xs.length : Int) + 1 := by rw [hdc2, hdc]
            clear hsy hLr hK2' gr hdc2 hdc hblk hKr hwl hok hfr
            have hdc2 := hdc2'
            clear hdc2'
            go_wp2_with fail
            refine (loose_ds hL2).mono ?_
            rw [hlo2]
            rintro e w3 ⟨rfl, rfl⟩
            by_cases hy0 : 0 < ys.length
            · have hy0' : (0 : Int) < (ys.length : Int) := by omega
              obtain ⟨b, o, rfl, hs, hbw0⟩ := step_now H1.out hK2 0 hy0
              obtain ⟨y, hyk⟩ : ∃ y, ys[0] = y := ⟨_, rfl⟩
              rw [hyk] at hs
              have d1 := hs.c1
              rw [Nat.zero_mul, Nat.add_zero] at d1
              have hmod := mod_any w3 y.i ((ys.length : Int) + 2) (by omega) (by omega) hs.hi.1 hs.hi.2
              have hm0 : 0 ≤ y.i % ((ys.length : Int) + 2) := Int.emod_nonneg _ (by omega)
              have hm1 : y.i % ((ys.length : Int) + 2) < (ys.length : Int) + 2 := Int.emod_lt_of_pos _ (by omega)
              obtain ⟨m, hm⟩ : ∃ m, y.i % ((ys.length : Int) + 2) = m := ⟨_, rfl⟩
              rw [hm] at hmod hm0 hm1
              clear hs hyk hm
              go_wp2_with fail
              refine hmod.mono ?_
              rintro e w4 ⟨rfl, rfl⟩
              clear hmod d1
              obtain ⟨t, ht⟩ : ∃ t, m - 1 = t := ⟨_, rfl⟩
              go_wp2
              clear hm0 hm1 ht
              go_loopw [13] (fun i wr => ∃ (k : Nat) (s : DS) (Wt : Array Value), k ≤ ys.length ∧ i = .int .i64 (k : Int) ∧ Lies w.heap.size (· = c) wr (w.heap.size + 1) w.heap.size s ∧ s.Ok ∧ Free s ∧ s.dc = (xs.length : Int) + 1 + (k : Int) ∧ s.ws.length = k ∧ wr.heap[c]? = some (.cells Wt 53 (0, 0)) ∧ Wt.size = 640 ∧ AllByte Wt ∧ (∀ i, i < 5 → blk Wt i = blk (leaves t ks s) i) ∧ Keeps (fun _ => False) w wr) (fun i _ => ys.length - (intOf i).toNat)
              case atStart => exact ⟨0, s2, Wt, Nat.zero_le _, rfl, hL2, hok2, hfr2, by rw [hdc2]; simp, by rw [hws2]; rfl, g2, hsz, hby, fun i hi => by rw [leaves_nil t ks s2 hws2]; exact hblk2 i hi, hK2⟩
              case round =>
                clear hL2 hok2 hfr2 g2 hsz hby hblk2 hK2
                obtain ⟨k, s, Wt, hk, rfl, hLr, hok, hfr, hdc, hwl, gr, hsz, hby, hblk, hKr⟩ := hrel
                by_cases hlt : k < ys.length
                · obtain ⟨b, o, hb0, hs, hbw0⟩ := step_now H1.out hKr k hlt
                  cases hb0
                  obtain ⟨x, hxk⟩ : ∃ x, ys[k] = x := ⟨_, rfl⟩
                  rw [hxk] at hs
                  have hlt' : (k : Int) < (ys.length : Int) := by omega
                  have hk0 : (0 : Int) ≤ (k : Int) := by omega
                  have hkl : k < 200 := by omega
                  obtain ⟨c0, c1, c2, c3, ckeep, chi, chv⟩ := hs
                  have hnb : ¬ w.heap.size ≤ b := by omega
                  have hbc : ¬ b = c := by omega
                  clear hxk c3 ckeep c0
                  obtain ⟨j, hj⟩ := Int.eq_ofNat_of_zero_le (show 0 ≤ x.i % 5 by omega)
                  have hj5 : j < 5 := by omega
                  have hmod := mod_any wr x.i 5 (by omega) (by omega) chi.1 chi.2
                  rw [hj] at hmod
                  clear hj
                  go_wp2_with fail
                  refine hmod.mono ?_
                  rintro e w2 ⟨rfl, rfl⟩
                  clear hmod c1
                  obtain ⟨s', hws, hfr', hbl', hws', hdc'⟩ := free_write hfr (j : Int) (fill x.v).toList (by omega) (by omega)
                  have hok' := hok.write (j : Int) (fill x.v).toList (ok_fill x.v)
                  rw [hws] at hok'
                  have Hws : Hid (s.write (j : Int) (fill x.v).toList = (0, s')) := hws
                  have Hblk0 : Hid (∀ i, i < 5 → blk Wt i = blk (leaves t ks s) i) := hblk
                  have hwsz := hKr.size
                  have hcw : c < w2.heap.size := (Array.getElem?_eq_some_iff.1 gr).1
                  have hj0 : (0 : Int) ≤ (j : Int) := by omega
                  have hj5' : (j : Int) < 5 := by omega
                  clear hws hblk
                  go_wp2_with fail
                  refine (fill_any _ _).mono ?_
                  rintro e w5 ⟨rfl, hkf⟩
                  have hcw5 : c < w5.heap.size := by have := hkf.size; omega
                  have g5 : w5.heap[c]? = some (.cells Wt 53 (0, 0)) := (hkf.block c hcw (fun h => h)).trans gr
                  go_wp2_with fail
                  refine (write_fill (hLr.kept hkf) hok (fun k e => by rw [e]; exact hcw5) (by omega) ⟨by omega, by omega⟩ (by omega) _ _).mono ?_
                  rw [Hws.out]
                  rintro e w6 ⟨rfl, hL6, hK6⟩
                  have c2' := cell_keeps hK6 (cell_keeps hkf c2 (fun h => h)) (fun h => hnb h.1)
                  have g6 : w6.heap[c]? = some (.cells Wt 53 (0, 0)) := (hK6.block c hcw5 (fun h => h.2 rfl)).trans g5
                  have hK56 : Keeps (fun _ => False) w w6 := (hKr.trans hkf).trans' hK6 (fun k e => .inr e.1)
                  clear hLr c2 hK6 hkf g5 gr hKr
                  have hkk := H2.out.keeps hK56
                  by_cases hkn : k < ks.length
                  · have hkn' : (k : Int) < (ks.length : Int) := by omega
                    obtain ⟨kb, ko, rfl, hkc, hki⟩ := hkk k ks[k] (by simp [hkn])
                    have hisk : isKept ks k = (ks[k] % 2 == 1) := by unfold isKept; rw [List.getElem?_eq_getElem hkn]
                    obtain ⟨ki, hkie⟩ : ∃ ki, ks[k] = ki := ⟨_, rfl⟩
                    rw [hkie] at hkc hki hisk
                    clear hkie hkk
                    cases hodd : (ki % 2 == 1) with
                    | true =>
                      have hkept : isKept ks k = true := by rw [hisk]; exact hodd
                      have hlv0 := leaves_snoc t ks ((j : Int), (fill x.v).toList) hbl' hws'
                      rw [hwl, hkept, if_pos rfl] at hlv0
                      have hlv : ∀ i, i < 5 → blk (paint Wt (j * 128) x.v (cutOf t k)) i = blk (leaves t ks s') i := by
                        rw [hlv0]
                        exact step_blk t k j x.v (by rw [size_leaves t ks hok, hfr.n]) hsz hj5 Hblk0.out
                      clear hlv0
                      by_cases hit : (k : Int) = t
                      · have hit' : ((k : Int) == t) = true := by simpa using hit
                        have hN : cutOf t k = 64 := by unfold cutOf; rw [if_pos hit]
                        rw [hN] at hlv
                        clear hN hit
                        obtain ⟨w0, rfl⟩ : ∃ w0, w0 = w6 := ⟨_, rfl⟩
                        go_wp2
                        go_loopw [16] (fun m wq => ∃ (q : Nat), q ≤ 64 ∧ m = .int .i64 (q : Int) ∧ wq.heap[c]? = some (.cells (paint Wt (j * 128) x.v q) 53 (0, 0)) ∧ Keeps (· = c) w0 wq) (fun m _ => 64 - (intOf m).toNat)
                        case atStart => exact ⟨0, by omega, rfl, by rw [paint_zero _ _ _ (by omega)]; exact g6, Keeps.refl _ _⟩
                        case round =>
                          obtain ⟨q, hq, rfl, gq, hKq⟩ := hrel
                          have c2q := cell_keeps hKq c2' hbc
                          by_cases hqn : q < 64
                          · have hqn' : (q : Int) < 64 := by omega
                            have hq00 : (0 : Int) ≤ (q : Int) := by omega
                            have hq128 : (q : Int) < 128 := by omega
                            have hps : (paint Wt (j * 128) x.v q).size = 640 := by rw [size_paint (by omega)]; exact hsz
                            have hcell : wr.cell? ⟨c, j * 128 + q, none⟩ = some ((paint Wt (j * 128) x.v q)[j * 128 + q]'(by omega)) := by
                              rw [cell_of_row wr _ _ _ _ _ gq, Array.getElem?_eq_getElem]
                            have hfz : wr.frozen? ⟨c, j * 128 + q, none⟩ = false := frozen_of_row wr _ _ _ _ gq
                            go_wp2_with fail
                            have hcellD : wr.drew.cell? ⟨c, j * 128 + q, none⟩ = some ((paint Wt (j * 128) x.v q)[j * 128 + q]'(by omega)) := hcell
                            have hfzD : wr.drew.frozen? ⟨c, j * 128 + q, none⟩ = false := hfz
                            go_region_held3 (fun w' => w'.cell? ⟨b, o + k * 4 + 2, none⟩ = some (.int .u8 x.v))
                              (first | assumption | exact c2q | exact cell_keeps (((Keeps.refl (· = c) wr).setCell (p := ⟨c, j * 128 + q, none⟩) (.inl rfl) _).drew) c2q hbc) (fail)
                            go_wp2
                            go_roundw
                            case rel =>
                              refine ⟨q + 1, by omega, by go_num, ?_, (hKq.setCell (p := ⟨c, j * 128 + q, none⟩) (.inl rfl) _).drew⟩
                              have := heap_setCell_same wr c (j * 128 + q) _ _ (.int .u8 x.v) gq
                              rw [paint_succ Wt (j * 128) x.v q (by omega)] at this
                              exact this
                            case measure => simp [intOf]; omega
                          · obtain rfl : q = 64 := by omega
                            have Hend : Hid (Lies w.heap.size (· = c) wr (w.heap.size + 1) w.heap.size s' ∧ s'.Ok ∧ Free s' ∧ s'.dc = (xs.length : Int) + 1 + ((k + 1 : Nat) : Int) ∧ s'.ws.length = k + 1 ∧ wr.heap[c]? = some (.cells (paint Wt (j * 128) x.v 64) 53 (0, 0)) ∧ (paint Wt (j * 128) x.v 64).size = 640 ∧ AllByte (paint Wt (j * 128) x.v 64) ∧ (∀ i, i < 5 → blk (paint Wt (j * 128) x.v 64) i = blk (leaves t ks s') i) ∧ Keeps (fun _ => False) w wr) :=
                              ⟨hL6.keptC hKq, hok', hfr', by rw [hdc', hdc]; simp; omega, by rw [hws']; simp [hwl], gq, by rw [size_paint (by omega)]; exact hsz, allByte_paint hby (by omega), hlv, hK56.trans' hKq (fun k e => .inr (by omega))⟩
                            clear hL6 hok' hfr' hdc' hws' gq hby hlv hK56 hKq
                            go_wp2
                            exact ⟨⟨k + 1, s', paint Wt (j * 128) x.v 64, by omega, by go_num, Hend.out⟩, by simp [intOf]; omega⟩
                      · have hit' : ((k : Int) == t) = false := by simpa using hit
                        have hN : cutOf t k = 128 := by unfold cutOf; rw [if_neg hit]
                        rw [hN] at hlv
                        clear hN hit
                        obtain ⟨w0, rfl⟩ : ∃ w0, w0 = w6 := ⟨_, rfl⟩
                        go_wp2
                        go_loopw [16] (fun m wq => ∃ (q : Nat), q ≤ 128 ∧ m = .int .i64 (q : Int) ∧ wq.heap[c]? = some (.cells (paint Wt (j * 128) x.v q) 53 (0, 0)) ∧ Keeps (· = c) w0 wq) (fun m _ => 128 - (intOf m).toNat)
                        case atStart => exact ⟨0, by omega, rfl, by rw [paint_zero _ _ _ (by omega)]; exact g6, Keeps.refl _ _⟩
                        case round =>
                          obtain ⟨q, hq, rfl, gq, hKq⟩ := hrel
                          have c2q := cell_keeps hKq c2' hbc
                          by_cases hqn : q < 128
                          · have hqn' : (q : Int) < 128 := by omega
                            have hq00 : (0 : Int) ≤ (q : Int) := by omega
                            have hq128 : (q : Int) < 128 := by omega
                            have hps : (paint Wt (j * 128) x.v q).size = 640 := by rw [size_paint (by omega)]; exact hsz
                            have hcell : wr.cell? ⟨c, j * 128 + q, none⟩ = some ((paint Wt (j * 128) x.v q)[j * 128 + q]'(by omega)) := by
                              rw [cell_of_row wr _ _ _ _ _ gq, Array.getElem?_eq_getElem]
                            have hfz : wr.frozen? ⟨c, j * 128 + q, none⟩ = false := frozen_of_row wr _ _ _ _ gq
                            go_wp2_with fail
                            have hcellD : wr.drew.cell? ⟨c, j * 128 + q, none⟩ = some ((paint Wt (j * 128) x.v q)[j * 128 + q]'(by omega)) := hcell
                            have hfzD : wr.drew.frozen? ⟨c, j * 128 + q, none⟩ = false := hfz
                            go_region_held3 (fun w' => w'.cell? ⟨b, o + k * 4 + 2, none⟩ = some (.int .u8 x.v))
                              (first | assumption | exact c2q | exact cell_keeps (((Keeps.refl (· = c) wr).setCell (p := ⟨c, j * 128 + q, none⟩) (.inl rfl) _).drew) c2q hbc) (fail)
                            go_wp2
                            go_roundw
                            case rel =>
                              refine ⟨q + 1, by omega, by go_num, ?_, (hKq.setCell (p := ⟨c, j * 128 + q, none⟩) (.inl rfl) _).drew⟩
                              have := heap_setCell_same wr c (j * 128 + q) _ _ (.int .u8 x.v) gq
                              rw [paint_succ Wt (j * 128) x.v q (by omega)] at this
                              exact this
                            case measure => simp [intOf]; omega
                          · obtain rfl : q = 128 := by omega
                            have Hend : Hid (Lies w.heap.size (· = c) wr (w.heap.size + 1) w.heap.size s' ∧ s'.Ok ∧ Free s' ∧ s'.dc = (xs.length : Int) + 1 + ((k + 1 : Nat) : Int) ∧ s'.ws.length = k + 1 ∧ wr.heap[c]? = some (.cells (paint Wt (j * 128) x.v 128) 53 (0, 0)) ∧ (paint Wt (j * 128) x.v 128).size = 640 ∧ AllByte (paint Wt (j * 128) x.v 128) ∧ (∀ i, i < 5 → blk (paint Wt (j * 128) x.v 128) i = blk (leaves t ks s') i) ∧ Keeps (fun _ => False) w wr) :=
                              ⟨hL6.keptC hKq, hok', hfr', by rw [hdc', hdc]; simp; omega, by rw [hws']; simp [hwl], gq, by rw [size_paint (by omega)]; exact hsz, allByte_paint hby (by omega), hlv, hK56.trans' hKq (fun k e => .inr (by omega))⟩
                            clear hL6 hok' hfr' hdc' hws' gq hby hlv hK56 hKq
                            go_wp2
                            exact ⟨⟨k + 1, s', paint Wt (j * 128) x.v 128, by omega, by go_num, Hend.out⟩, by simp [intOf]; omega⟩
                    | false =>
                      have hkept : isKept ks k = false := by rw [hisk]; exact hodd
                      have hlv0 := leaves_snoc t ks ((j : Int), (fill x.v).toList) hbl' hws'
                      rw [hwl, hkept, if_neg (by simp)] at hlv0
                      have hlv : ∀ i, i < 5 → blk Wt i = blk (leaves t ks s') i := by rw [hlv0]; exact Hblk0.out
                      have Hend : Hid (Lies w.heap.size (· = c) w6 (w.heap.size + 1) w.heap.size s' ∧ s'.Ok ∧ Free s' ∧ s'.dc = (xs.length : Int) + 1 + ((k + 1 : Nat) : Int) ∧ s'.ws.length = k + 1 ∧ w6.heap[c]? = some (.cells Wt 53 (0, 0)) ∧ Wt.size = 640 ∧ AllByte Wt ∧ (∀ i, i < 5 → blk Wt i = blk (leaves t ks s') i) ∧ Keeps (fun _ => False) w w6) :=
                        ⟨hL6, hok', hfr', by rw [hdc', hdc]; simp; omega, by rw [hws']; simp [hwl], g6, hsz, hby, hlv, hK56⟩
                      clear hL6 hok' hfr' hdc' hws' g6 hby hlv hK56 hlv0
                      go_wp2
                      exact ⟨⟨k + 1, s', Wt, by omega, by go_num, Hend.out⟩, by simp [intOf]; omega⟩
                  · have hkn' : ¬ (k : Int) < (ks.length : Int) := by omega
                    have hkept : isKept ks k = false := by unfold isKept; rw [List.getElem?_eq_none (by omega)]
                    clear hkk
                    have hlv0 := leaves_snoc t ks ((j : Int), (fill x.v).toList) hbl' hws'
                    rw [hwl, hkept, if_neg (by simp)] at hlv0
                    have hlv : ∀ i, i < 5 → blk Wt i = blk (leaves t ks s') i := by rw [hlv0]; exact Hblk0.out
                    have Hend : Hid (Lies w.heap.size (· = c) w6 (w.heap.size + 1) w.heap.size s' ∧ s'.Ok ∧ Free s' ∧ s'.dc = (xs.length : Int) + 1 + ((k + 1 : Nat) : Int) ∧ s'.ws.length = k + 1 ∧ w6.heap[c]? = some (.cells Wt 53 (0, 0)) ∧ Wt.size = 640 ∧ AllByte Wt ∧ (∀ i, i < 5 → blk Wt i = blk (leaves t ks s') i) ∧ Keeps (fun _ => False) w w6) :=
                      ⟨hL6, hok', hfr', by rw [hdc', hdc]; simp; omega, by rw [hws']; simp [hwl], g6, hsz, hby, hlv, hK56⟩
                    clear hL6 hok' hfr' hdc' hws' g6 hby hlv hK56 hlv0
                    go_wp2
                    exact ⟨⟨k + 1, s', Wt, by omega, by go_num, Hend.out⟩, by simp [intOf]; omega⟩
                · obtain rfl : k = ys.length := by omega
                  have hkk := H2.out.keeps hKr
                  have hgb : w.heap.size < wr.heap.size := by obtain ⟨vl, _, hB, _⟩ := hLr; exact (Array.getElem?_eq_some_iff.1 hB).1
                  have hkA : Keeps (fun _ => False) wr (wr.alloc (.cells #[] 5)) := (Keeps.refl _ _).alloc _
                  go_wp2_with (first | (refine wpList_plain rfl fun K hK => op_keepCopy _ _ rfl _ rfl ka kc ks rfl (hkk.keeps hkA) (by omega) ?_; intro a4 c4 w4 hk4 hkk4 hab; refine hK _ _ ?_) | (go_at_call 21; refine (crash_ds (hLr.kept (hkA.trans hkk4)) hok (by omega) a4 c4 ks t hk4 (fun b o e => by have := hab b o e; simp at this; omega)).mono ?_; rintro e w6 ⟨rfl, hL6, hK6⟩; refine Stop.out ?_))
                  refine Stop.mk ?_
                  have hKf : Keeps (fun _ => False) w w6 := ((hKr.trans hkA).trans hkk4).trans' hK6 (fun k e => .inr e.1)
                  have g6 : w6.heap[c]? = some (.cells Wt 53 (0, 0)) := by
                    have g5 : w4.heap[c]? = some (.cells Wt 53 (0, 0)) := ((hkA.trans hkk4).block c (Array.getElem?_eq_some_iff.1 gr).1 (fun h => h)).trans gr
                    exact (hK6.block c (Array.getElem?_eq_some_iff.1 g5).1 (fun h => h.2 rfl)).trans g5
                  have hok3 := hok.crash ks t
                  obtain ⟨s3, hs3⟩ : ∃ s3, s.crash ks t = s3 := ⟨_, rfl⟩
                  have hrd3 : ∀ k : Nat, k < 5 → s3.read (k : Int) = (blk Wt k, 0) := fun k hk5 => by
                    unfold DS.read
                    rw [if_neg (by rw [← hs3]; show ¬ ((k : Int) < 0 ∨ (s.n : Int) ≤ (k : Int)); rw [hfr.n]; omega), if_neg (by rw [← hs3]; show ¬ (false = true); simp), Int.toNat_natCast, hblk k hk5, ← hs3]
                    rfl
                  have hws3 : s3.ws.length < 1000000 := by rw [← hs3]; show 0 < 1000000; omega
                  have Hrd3 : Hid (∀ k : Nat, k < 5 → s3.read (k : Int) = (blk Wt k, 0)) := hrd3
                  rw [hs3] at hL6 hok3
                  clear hs3 hrd3 hblk hLr hok hfr hdc hwl gr hKr hkk hkA hkk4 hK6 hk4 hab hgb H0 H1 H2
                  go_wp2
                  go_loopw [17] (fun i wr => ∃ (k : Nat), k ≤ 5 ∧ i = .int .i64 (k : Int) ∧ Lies w.heap.size (· = c) wr (w.heap.size + 1) w.heap.size s3 ∧ wr.heap[c]? = some (.cells Wt 53 (0, 0)) ∧ Keeps (fun _ => False) w wr) (fun i _ => 5 - (intOf i).toNat)
                  case atStart => exact ⟨0, by omega, rfl, hL6, g6, hKf⟩
                  case round =>
                    clear hL6 g6 hKf
                    obtain ⟨j, hj5, rfl, hLr, gr, hKr⟩ := hrel
                    by_cases hlt : j < 5
                    · have hj0 : (0 : Int) ≤ (j : Int) := by omega
                      have hj5' : (j : Int) < 5 := by omega
                      obtain ⟨A, hA⟩ : ∃ A, blk Wt j = A := ⟨_, rfl⟩
                      have hrd := read_ds hLr hok3 hws3 (j : Int)
                      have hrow := read_row hok3 (j : Int)
                      rw [Hrd3.out j hlt, hA] at hrd hrow
                      have hAb : Bytes A := by rw [← hA]; exact bytes_blk hby (by omega)
                      have hs1 : (Try.prog.info? 37).map (·.size) = some A.size := by rw [hAb.1]; exact size37
                      have hz1 : (fill 0).size = A.size := by rw [hAb.1]; exact size_fill 0
                      have ho1 := hrow.2
                      have hz := zero37
                      clear hrow
                      obtain ⟨w6, rfl⟩ : ∃ w6, w6 = wr := ⟨_, rfl⟩
                      go_wp2_with (first | (go_at_call 17; refine hrd.mono ?_; rintro e w7 ⟨rfl, k7⟩) | (refine wpList_store_row rfl 37 _ _ rfl w7.heap.size rfl A rfl 37 (fill 0) (heap_alloc2_x w7 _) hs1 hz1 ho1 ?_; intro w9 n8 k8'; have k8 : Keeps (fun _ => False) w6 w9 := k7.trans (((Keeps.refl _ _).alloc _).trans' k8' (fun k e => .inr (by omega)))))
                      have g9 : w9.heap[c]? = some (.cells Wt 53 (0, 0)) := (k8.block c (Array.getElem?_eq_some_iff.1 gr).1 (fun h => h)).trans gr
                      have hc1 : cellsAt w9 w7.heap.size 0 128 = A := by rw [cellsAt, rowOf_of n8]; simp [← hAb.1]
                      have hc2 : cellsAt w9 c (j * 128) 128 = A := by rw [cellsAt, rowOf_of g9]; exact hA
                      have hsA := hAb.1
                      have heq := eq_bytes hAb
                      clear n8 hs1 hz1 ho1 hz hA
                      go_region_law (fail)
                      all_goals go_wp2
                      all_goals exact ⟨⟨j + 1, by omega, by go_num, (hLr.kept k8).kept ((Keeps.refl _ _).drew), g9, (hKr.trans k8).drew⟩, by simp [intOf]; omega⟩
                    · obtain rfl : j = 5 := by omega
                      go_wp2_with (go_at_call 11; refine (wakes_any _).mono ?_; rintro e w3 ⟨rfl, k3⟩)
                      go_ret
                      exact ⟨rfl, hKr.trans k3⟩
            · have hy0' : ¬ (0 : Int) < (ys.length : Int) := by omega
              obtain ⟨t, ht⟩ : ∃ t : Int, -1 = t := ⟨_, rfl⟩
              go_wp2
              go_loopw [13] (fun i wr => ∃ (k : Nat) (s : DS) (Wt : Array Value), k ≤ ys.length ∧ i = .int .i64 (k : Int) ∧ Lies w.heap.size (· = c) wr (w.heap.size + 1) w.heap.size s ∧ s.Ok ∧ Free s ∧ s.dc = (xs.length : Int) + 1 + (k : Int) ∧ s.ws.length = k ∧ wr.heap[c]? = some (.cells Wt 53 (0, 0)) ∧ Wt.size = 640 ∧ AllByte Wt ∧ (∀ i, i < 5 → blk Wt i = blk (leaves t ks s) i) ∧ Keeps (fun _ => False) w wr) (fun i _ => ys.length - (intOf i).toNat)
              case atStart => exact ⟨0, s2, Wt, Nat.zero_le _, rfl, hL2, hok2, hfr2, by rw [hdc2]; simp, by rw [hws2]; rfl, g2, hsz, hby, fun i hi => by rw [leaves_nil t ks s2 hws2]; exact hblk2 i hi, hK2⟩
              case round =>
                clear hL2 hok2 hfr2 g2 hsz hby hblk2 hK2
                obtain ⟨k, s, Wt, hk, rfl, hLr, hok, hfr, hdc, hwl, gr, hsz, hby, hblk, hKr⟩ := hrel
                by_cases hlt : k < ys.length
                · exact absurd hlt (by omega)
                · obtain rfl : k = ys.length := by omega
                  have hkk := H2.out.keeps hKr
                  have hgb : w.heap.size < wr.heap.size := by obtain ⟨vl, _, hB, _⟩ := hLr; exact (Array.getElem?_eq_some_iff.1 hB).1
                  have hkA : Keeps (fun _ => False) wr (wr.alloc (.cells #[] 5)) := (Keeps.refl _ _).alloc _
                  go_wp2_with (first | (refine wpList_plain rfl fun K hK => op_keepCopy _ _ rfl _ rfl ka kc ks rfl (hkk.keeps hkA) (by omega) ?_; intro a4 c4 w4 hk4 hkk4 hab; refine hK _ _ ?_) | (go_at_call 21; refine (crash_ds (hLr.kept (hkA.trans hkk4)) hok (by omega) a4 c4 ks t hk4 (fun b o e => by have := hab b o e; simp at this; omega)).mono ?_; rintro e w6 ⟨rfl, hL6, hK6⟩; refine Stop.out ?_))
                  refine Stop.mk ?_
                  have hKf : Keeps (fun _ => False) w w6 := ((hKr.trans hkA).trans hkk4).trans' hK6 (fun k e => .inr e.1)
                  have g6 : w6.heap[c]? = some (.cells Wt 53 (0, 0)) := by
                    have g5 : w4.heap[c]? = some (.cells Wt 53 (0, 0)) := ((hkA.trans hkk4).block c (Array.getElem?_eq_some_iff.1 gr).1 (fun h => h)).trans gr
                    exact (hK6.block c (Array.getElem?_eq_some_iff.1 g5).1 (fun h => h.2 rfl)).trans g5
                  have hok3 := hok.crash ks t
                  obtain ⟨s3, hs3⟩ : ∃ s3, s.crash ks t = s3 := ⟨_, rfl⟩
                  have hrd3 : ∀ k : Nat, k < 5 → s3.read (k : Int) = (blk Wt k, 0) := fun k hk5 => by
                    unfold DS.read
                    rw [if_neg (by rw [← hs3]; show ¬ ((k : Int) < 0 ∨ (s.n : Int) ≤ (k : Int)); rw [hfr.n]; omega), if_neg (by rw [← hs3]; show ¬ (false = true); simp), Int.toNat_natCast, hblk k hk5, ← hs3]
                    rfl
                  have hws3 : s3.ws.length < 1000000 := by rw [← hs3]; show 0 < 1000000; omega
                  have Hrd3 : Hid (∀ k : Nat, k < 5 → s3.read (k : Int) = (blk Wt k, 0)) := hrd3
                  rw [hs3] at hL6 hok3
                  clear hs3 hrd3 hblk hLr hok hfr hdc hwl gr hKr hkk hkA hkk4 hK6 hk4 hab hgb H0 H1 H2
                  go_wp2
                  go_loopw [17] (fun i wr => ∃ (k : Nat), k ≤ 5 ∧ i = .int .i64 (k : Int) ∧ Lies w.heap.size (· = c) wr (w.heap.size + 1) w.heap.size s3 ∧ wr.heap[c]? = some (.cells Wt 53 (0, 0)) ∧ Keeps (fun _ => False) w wr) (fun i _ => 5 - (intOf i).toNat)
                  case atStart => exact ⟨0, by omega, rfl, hL6, g6, hKf⟩
                  case round =>
                    clear hL6 g6 hKf
                    obtain ⟨j, hj5, rfl, hLr, gr, hKr⟩ := hrel
                    by_cases hlt : j < 5
                    · have hj0 : (0 : Int) ≤ (j : Int) := by omega
                      have hj5' : (j : Int) < 5 := by omega
                      obtain ⟨A, hA⟩ : ∃ A, blk Wt j = A := ⟨_, rfl⟩
                      have hrd := read_ds hLr hok3 hws3 (j : Int)
                      have hrow := read_row hok3 (j : Int)
                      rw [Hrd3.out j hlt, hA] at hrd hrow
                      have hAb : Bytes A := by rw [← hA]; exact bytes_blk hby (by omega)
                      have hs1 : (Try.prog.info? 37).map (·.size) = some A.size := by rw [hAb.1]; exact size37
                      have hz1 : (fill 0).size = A.size := by rw [hAb.1]; exact size_fill 0
                      have ho1 := hrow.2
                      have hz := zero37
                      clear hrow
                      obtain ⟨w6, rfl⟩ : ∃ w6, w6 = wr := ⟨_, rfl⟩
                      go_wp2_with (first | (go_at_call 17; refine hrd.mono ?_; rintro e w7 ⟨rfl, k7⟩) | (refine wpList_store_row rfl 37 _ _ rfl w7.heap.size rfl A rfl 37 (fill 0) (heap_alloc2_x w7 _) hs1 hz1 ho1 ?_; intro w9 n8 k8'; have k8 : Keeps (fun _ => False) w6 w9 := k7.trans (((Keeps.refl _ _).alloc _).trans' k8' (fun k e => .inr (by omega)))))
                      have g9 : w9.heap[c]? = some (.cells Wt 53 (0, 0)) := (k8.block c (Array.getElem?_eq_some_iff.1 gr).1 (fun h => h)).trans gr
                      have hc1 : cellsAt w9 w7.heap.size 0 128 = A := by rw [cellsAt, rowOf_of n8]; simp [← hAb.1]
                      have hc2 : cellsAt w9 c (j * 128) 128 = A := by rw [cellsAt, rowOf_of g9]; exact hA
                      have hsA := hAb.1
                      have heq := eq_bytes hAb
                      clear n8 hs1 hz1 ho1 hz hA
                      go_region_law (fail)
                      all_goals go_wp2
                      all_goals exact ⟨⟨j + 1, by omega, by go_num, (hLr.kept k8).kept ((Keeps.refl _ _).drew), g9, (hKr.trans k8).drew⟩, by simp [intOf]; omega⟩
                    · obtain rfl : j = 5 := by omega
                      go_wp2_with (go_at_call 11; refine (wakes_any _).mono ?_; rintro e w3 ⟨rfl, k3⟩)
                      go_ret
                      exact ⟨rfl, hKr.trans k3⟩

end Go.Proofs.Ytokgnfniaeeloaa
