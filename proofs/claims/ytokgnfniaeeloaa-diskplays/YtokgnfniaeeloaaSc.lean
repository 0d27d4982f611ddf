/-
  DiskCounts: the walk.
-/
import Derived.Test.YtokgnfniaeeloaaSb
set_option linter.all false
namespace Go.Proofs.Ytokgnfniaeeloaa
open Go.RowKit Go.Shelf

theorem fairB_spec {xs : List StepV} (h : fairB xs = true) : xs.length ≤ 200 ∧ ∀ x ∈ xs, x.ks.length ≤ 300 := by
  unfold fairB at h
  rw [Bool.and_eq_true] at h
  exact ⟨of_decide_eq_true h.2, fun x hx => of_decide_eq_true (List.all_eq_true.1 h.1 x hx)⟩

theorem write_cases (s : DS) (i : Int) (b : List Value) : ∃ c s', s.write i b = (c, s') ∧ ((c = 0 ∧ s'.dc = s.dc + 1 ∧ s'.ws.length = s.ws.length + 1) ∨ ((c == 0) = false ∧ s'.dc = s.dc ∧ s'.ws.length = s.ws.length)) := by
  unfold DS.write
  split
  · exact ⟨_, _, rfl, .inr ⟨rfl, rfl, rfl⟩⟩
  · split
    · exact ⟨_, _, rfl, .inr ⟨rfl, rfl, rfl⟩⟩
    · exact ⟨_, _, rfl, .inl ⟨rfl, rfl, by simp⟩⟩

theorem sync_cases (s : DS) : ∃ c s', s.sync = (c, s') ∧ ((c = 0 ∧ s'.dc = s.dc + 1 ∧ s'.ws.length = 0) ∨ ((c == 0) = false ∧ s'.dc = s.dc ∧ s'.ws.length = s.ws.length)) := by
  unfold DS.sync
  split
  · exact ⟨_, _, rfl, .inr ⟨rfl, rfl, rfl⟩⟩
  · exact ⟨_, _, rfl, .inl ⟨rfl, rfl, rfl⟩⟩

set_option maxRecDepth 100000 in
set_option maxHeartbeats 4000000 in
theorem counts_any (w : World) (v : Value) (xs : List StepV) (h : StepsAt w v xs) (hlen : xs.length ≤ 9223372036854775807) :
    Calls Try.prog 8 #[v] w fun e w' => e = .returned (.bool true) ∧ Keeps (fun _ => False) w w' := by
  obtain ⟨sa, scap, rfl, hx0⟩ := id h
  go_enter Try.func8, Try.ntmps8
  go_wp2_with fail
  refine (new_ds 16 w (by omega) (by omega) none' (fun _ h => h.elim)).mono ?_
  rintro e w1 ⟨rfl, hL, hs1, hK⟩
  clear hs1
  go_wp2_with fail
  refine (fair_any w1 _ xs (h.keeps hK) hlen).mono ?_
  rintro e w' ⟨rfl, rfl⟩
  cases hf : fairB xs with
  | false =>
    go_wp2_with (go_at_call 11; refine (wakes_any _).mono ?_; rintro e w3 ⟨rfl, k3⟩)
    go_ret
    exact ⟨rfl, hK.trans k3⟩
  | true =>
    obtain ⟨hl200, hk300⟩ := fairB_spec hf
    have H0 : Hid (StepsAt w (.slice sa xs.length scap) xs) := h
    clear hf h hx0
    go_wp2
    go_loopw [5, 6, 7] (fun dn lo i wr => ∃ (k : Nat) (s : DS), k ≤ xs.length ∧ i = .int .i64 (k : Int) ∧ dn = .int .i64 s.dc ∧ lo = .int .i64 (s.ws.length : Int) ∧ Lies w.heap.size none' wr (w.heap.size + 1) w.heap.size s ∧ s.Ok ∧ 0 ≤ s.dc ∧ s.dc ≤ (k : Int) ∧ s.ws.length ≤ k ∧ Keeps (fun _ => False) w wr) (fun _ _ i _ => xs.length - (intOf i).toNat)
    case atStart => exact ⟨0, DS.new 16, Nat.zero_le _, rfl, rfl, rfl, hL, DS.Ok.new 16, by simp [DS.new], by simp [DS.new], by simp [DS.new], hK⟩
    case round =>
      obtain ⟨k, s, hk, rfl, rfl, rfl, hLr, hok, hd0, hd1, hw1, hKr⟩ := hrel
      clear hL hK
      by_cases hlt : k < xs.length
      · obtain ⟨sa', scap', e0, hx0⟩ := H0.out.keeps hKr
        cases e0
        obtain ⟨b, o, rfl, hs⟩ := hx0 k xs[k] (by simp [hlt])
        obtain ⟨x, hxk⟩ : ∃ x, xs[k] = x := ⟨_, rfl⟩
        rw [hxk] at hs
        have hx300 : x.ks.length ≤ 300 := hk300 x (by rw [← hxk]; exact List.getElem_mem hlt)
        have hlt' : (k : Int) < (xs.length : Int) := by omega
        have hk0 : (0 : Int) ≤ (k : Int) := by omega
        have hkl : k < 200 := by omega
        obtain ⟨c0, c1, c2, c3, ckeep, chi, chv⟩ := hs
        have Hx300 : Hid (∀ x ∈ xs, x.ks.length ≤ 300) := hk300
        clear hx0 hxk hk300
        have hkind : x.kind = 0 ∨ x.kind = 1 ∨ x.kind = 2 ∨ x.kind = 3 ∨ x.kind = 4 ∨ ((x.kind == 0) = false ∧ (x.kind == 1) = false ∧ (x.kind == 2) = false ∧ (x.kind == 3) = false ∧ (x.kind == 4) = false) := by
          simp only [beq_eq_false_iff_ne]; omega
        rcases hkind with hkd | hkd | hkd | hkd | hkd | ⟨q0, q1, q2, q3, q4⟩
        · rw [hkd] at c0
          go_wp2_with fail
          obtain ⟨W, hW⟩ : ∃ W, wr.alloc (.cells #[.int .i64 0, .int .i64 x.i, .int .u8 x.v, .slice x.ka x.ks.length x.kc] 34) = W := ⟨_, rfl⟩
          rw [hW]
          have kW : Keeps (fun _ => False) wr W := by rw [← hW]; exact (Keeps.refl _ _).alloc _
          have gW : W.heap[wr.heap.size]? = some (.cells #[.int .i64 0, .int .i64 x.i, .int .u8 x.v, .slice x.ka x.ks.length x.kc] 34 (0, 0)) := by rw [← hW]; exact heap_alloc2_x wr _
          have hLW := (hLr.more (C' := (· = wr.heap.size)) (fun k e => .inr (by omega))).kept kW
          have d1 : W.cell? ⟨wr.heap.size, 1, none⟩ = some (.int .i64 x.i) := by simp [World.cell?, gW]
          have d2 : W.cell? ⟨wr.heap.size, 2, none⟩ = some (.int .u8 x.v) := by simp [World.cell?, gW]
          have hsz : wr.heap.size < W.heap.size := (Array.getElem?_eq_some_iff.1 gW).1
          have hwsz := hKr.size
          obtain ⟨c, s', hws, hcs⟩ := write_cases s x.i (fill x.v).toList
          have hok' := hok.write x.i (fill x.v).toList (ok_fill x.v)
          rw [hws] at hok'
          have Hws : Hid (s.write x.i (fill x.v).toList = (c, s')) := hws
          clear hW gW c0 c1 c2 c3 ckeep hws
          go_region_held3 (fun w' => w'.cell? ⟨wr.heap.size, 1, none⟩ = some (.int .i64 x.i) ∧ w'.cell? ⟨wr.heap.size, 2, none⟩ = some (.int .u8 x.v))
            (first | assumption | exact ⟨d1, d2⟩ | exact ⟨cell_keeps hkf d1 (fun h => h), cell_keeps hkf d2 (fun h => h)⟩ | exact ⟨cell_keeps hK6 (cell_keeps hkf d1 (fun h => h)) (fun h => h.2 rfl), cell_keeps hK6 (cell_keeps hkf d2 (fun h => h)) (fun h => h.2 rfl)⟩)
            (first | (go_at_call 15; refine (fill_any _ _).mono ?_; rintro e w5 ⟨rfl, hkf⟩) | (go_at_call 14; refine (write_fill (hLW.kept (((Keeps.refl _ _).drew).trans hkf)) hok (fun k e => by subst e; have := hkf.size; simp at this; omega) (by have := hkf.size; simp at this; omega) (by omega) (by omega) _ _).mono ?_; rw [Hws.out]; rintro e w6 ⟨rfl, hL6, hK6⟩))
          have hKf : Keeps (fun _ => False) w w6 := (((hKr.trans kW).drew).trans hkf).trans' hK6 (fun k e => .inr e.1)
          clear hLW d1 d2 hK6 hkf kW hLr
          rcases hcs with ⟨rfl, hdc, hl'⟩ | ⟨hc0, hdc, hl'⟩
          · have hlo : ((s'.ws.length : Nat) : Int) = (s.ws.length : Int) + 1 := by omega
            have Hdc : Hid (s'.dc = s.dc + 1) := hdc
            have Hlo : Hid (((s'.ws.length : Nat) : Int) = (s.ws.length : Int) + 1) := hlo
            clear hl'
            go_wp2_with (first | (go_at_call 27; refine (done_ds hL6).mono ?_; rw [hdc]; rintro e w7 ⟨rfl, rfl⟩) | (go_at_call 24; refine (loose_ds hL6).mono ?_; rw [hlo]; rintro e w8 ⟨rfl, rfl⟩))
            go_roundw
            case rel => exact ⟨k + 1, s', by omega, by go_num, by rw [Hdc.out], by rw [Hlo.out], hL6.more (fun k h => h.elim), hok', by omega, by omega, by omega, hKf⟩
            case measure => simp [intOf]; omega
          · have hlo : ((s'.ws.length : Nat) : Int) = (s.ws.length : Int) := by omega
            have Hdc : Hid (s'.dc = s.dc) := hdc
            have Hlo : Hid (((s'.ws.length : Nat) : Int) = (s.ws.length : Int)) := hlo
            clear hl'
            go_wp2_with (first | (go_at_call 27; refine (done_ds hL6).mono ?_; rw [hdc]; rintro e w7 ⟨rfl, rfl⟩) | (go_at_call 24; refine (loose_ds hL6).mono ?_; rw [hlo]; rintro e w8 ⟨rfl, rfl⟩))
            go_roundw
            case rel => exact ⟨k + 1, s', by omega, by go_num, by rw [Hdc.out], by rw [Hlo.out], hL6.more (fun k h => h.elim), hok', by omega, by omega, by omega, hKf⟩
            case measure => simp [intOf]; omega
        · rw [hkd] at c0
          go_wp2_with fail
          obtain ⟨W, hW⟩ : ∃ W, wr.alloc (.cells #[.int .i64 1, .int .i64 x.i, .int .u8 x.v, .slice x.ka x.ks.length x.kc] 34) = W := ⟨_, rfl⟩
          rw [hW]
          have kW : Keeps (fun _ => False) wr W := by rw [← hW]; exact (Keeps.refl _ _).alloc _
          have gW : W.heap[wr.heap.size]? = some (.cells #[.int .i64 1, .int .i64 x.i, .int .u8 x.v, .slice x.ka x.ks.length x.kc] 34 (0, 0)) := by rw [← hW]; exact heap_alloc2_x wr _
          have hLC := (hLr.more (C' := (· = wr.heap.size)) (fun k e => .inr (by omega))).kept kW
          have hszW : wr.heap.size < W.heap.size := (Array.getElem?_eq_some_iff.1 gW).1
          have hLW := hLr.kept kW
          have hKW := hKr.trans kW
          have d1 : W.cell? ⟨wr.heap.size, 1, none⟩ = some (.int .i64 x.i) := by simp [World.cell?, gW]
          have d3 : W.cell? ⟨wr.heap.size, 3, none⟩ = some (.slice x.ka x.ks.length x.kc) := by simp [World.cell?, gW]
          have hwsz := hKr.size
          have hLr1 : Hid (Lies w.heap.size none' wr (w.heap.size + 1) w.heap.size s) := hLr
          have ckW := ckeep.keeps kW
          clear hW gW c0 c1 c2 c3 ckeep hLr kW
          refine (read_ds hLW hok (by omega) _).mono ?_
          rintro e w6 ⟨rfl, hk6⟩
          have hL6 := hLW.kept hk6
          have hKf := hKW.trans hk6
          clear hLW hKW hk6 d1 d3 ckW
          go_wp2_with (first | (go_at_call 27; refine (done_ds hL6).mono ?_; rintro e w7 ⟨rfl, rfl⟩) | (go_at_call 24; refine (loose_ds hL6).mono ?_; rintro e w8 ⟨rfl, rfl⟩))
          go_roundw
          case rel => exact ⟨k + 1, s, by omega, by go_num, rfl, rfl, hL6, hok, by omega, by omega, by omega, hKf⟩
          case measure => simp [intOf]; omega
        · rw [hkd] at c0
          go_wp2_with fail
          obtain ⟨W, hW⟩ : ∃ W, wr.alloc (.cells #[.int .i64 2, .int .i64 x.i, .int .u8 x.v, .slice x.ka x.ks.length x.kc] 34) = W := ⟨_, rfl⟩
          rw [hW]
          have kW : Keeps (fun _ => False) wr W := by rw [← hW]; exact (Keeps.refl _ _).alloc _
          have gW : W.heap[wr.heap.size]? = some (.cells #[.int .i64 2, .int .i64 x.i, .int .u8 x.v, .slice x.ka x.ks.length x.kc] 34 (0, 0)) := by rw [← hW]; exact heap_alloc2_x wr _
          have hLC := (hLr.more (C' := (· = wr.heap.size)) (fun k e => .inr (by omega))).kept kW
          have hszW : wr.heap.size < W.heap.size := (Array.getElem?_eq_some_iff.1 gW).1
          have hLW := hLr.kept kW
          have hKW := hKr.trans kW
          have d1 : W.cell? ⟨wr.heap.size, 1, none⟩ = some (.int .i64 x.i) := by simp [World.cell?, gW]
          have d3 : W.cell? ⟨wr.heap.size, 3, none⟩ = some (.slice x.ka x.ks.length x.kc) := by simp [World.cell?, gW]
          have hwsz := hKr.size
          have hLr1 : Hid (Lies w.heap.size none' wr (w.heap.size + 1) w.heap.size s) := hLr
          have ckW := ckeep.keeps kW
          clear hW gW c0 c1 c2 c3 ckeep hLr kW
          obtain ⟨c, s', hws, hcs⟩ := sync_cases s
          have hok' := hok.sync
          have hsy := sync_ds hLW hok (by omega) ⟨hd0, by omega⟩
          rw [hws] at hok' hsy
          refine hsy.mono ?_
          clear hws hsy
          rintro e w6 ⟨rfl, hL6, hK6⟩
          have hKf := onKeep hKW hK6
          clear hLW hKW hK6 d1 d3 ckW
          rcases hcs with ⟨rfl, hdc, hl'⟩ | ⟨hc0, hdc, hl'⟩
          · have hlo : ((s'.ws.length : Nat) : Int) = 0 := by omega
            have Hdc : Hid (s'.dc = s.dc + 1) := hdc
            have Hlo : Hid (((s'.ws.length : Nat) : Int) = 0) := hlo
            clear hl'
            go_wp2_with (first | (go_at_call 27; refine (done_ds hL6).mono ?_; rw [hdc]; rintro e w7 ⟨rfl, rfl⟩) | (go_at_call 24; refine (loose_ds hL6).mono ?_; rw [hlo]; rintro e w8 ⟨rfl, rfl⟩))
            go_roundw
            case rel => exact ⟨k + 1, s', by omega, by go_num, by rw [Hdc.out], by rw [Hlo.out], hL6, hok', by omega, by omega, by omega, hKf⟩
            case measure => simp [intOf]; omega
          · have hlo : ((s'.ws.length : Nat) : Int) = (s.ws.length : Int) := by omega
            have Hdc : Hid (s'.dc = s.dc) := hdc
            have Hlo : Hid (((s'.ws.length : Nat) : Int) = (s.ws.length : Int)) := hlo
            clear hl'
            go_wp2_with (first | (go_at_call 27; refine (done_ds hL6).mono ?_; rw [hdc]; rintro e w7 ⟨rfl, rfl⟩) | (go_at_call 24; refine (loose_ds hL6).mono ?_; rw [hlo]; rintro e w8 ⟨rfl, rfl⟩))
            go_roundw
            case rel => exact ⟨k + 1, s', by omega, by go_num, by rw [Hdc.out], by rw [Hlo.out], hL6, hok', by omega, by omega, by omega, hKf⟩
            case measure => simp [intOf]; omega
        · rw [hkd] at c0
          go_wp2_with fail
          obtain ⟨W, hW⟩ : ∃ W, wr.alloc (.cells #[.int .i64 3, .int .i64 x.i, .int .u8 x.v, .slice x.ka x.ks.length x.kc] 34) = W := ⟨_, rfl⟩
          rw [hW]
          have kW : Keeps (fun _ => False) wr W := by rw [← hW]; exact (Keeps.refl _ _).alloc _
          have gW : W.heap[wr.heap.size]? = some (.cells #[.int .i64 3, .int .i64 x.i, .int .u8 x.v, .slice x.ka x.ks.length x.kc] 34 (0, 0)) := by rw [← hW]; exact heap_alloc2_x wr _
          have hLC := (hLr.more (C' := (· = wr.heap.size)) (fun k e => .inr (by omega))).kept kW
          have hszW : wr.heap.size < W.heap.size := (Array.getElem?_eq_some_iff.1 gW).1
          have hLW := hLr.kept kW
          have hKW := hKr.trans kW
          have d1 : W.cell? ⟨wr.heap.size, 1, none⟩ = some (.int .i64 x.i) := by simp [World.cell?, gW]
          have d3 : W.cell? ⟨wr.heap.size, 3, none⟩ = some (.slice x.ka x.ks.length x.kc) := by simp [World.cell?, gW]
          have hwsz := hKr.size
          have hLr1 : Hid (Lies w.heap.size none' wr (w.heap.size + 1) w.heap.size s) := hLr
          have ckW := ckeep.keeps kW
          clear hW gW c0 c1 c2 c3 ckeep hLr kW
          have hgb : w.heap.size < wr.heap.size := by obtain ⟨vl, _, hB, _⟩ := hLr1.out; exact (Array.getElem?_eq_some_iff.1 hB).1
          go_region_held3 (fun w' => w'.cell? ⟨wr.heap.size, 1, none⟩ = some (.int .i64 x.i) ∧ w'.cell? ⟨wr.heap.size, 3, none⟩ = some (.slice x.ka x.ks.length x.kc))
            (first | assumption | exact ⟨d1, d3⟩ | exact ⟨cell_keeps hK6 (cell_keeps hkk (cell_keeps (((Keeps.refl (fun _ => False) W).alloc _).drew) d1 (fun h => h)) (fun h => h)) (fun h => h.2 rfl), cell_keeps hK6 (cell_keeps hkk (cell_keeps (((Keeps.refl (fun _ => False) W).alloc _).drew) d3 (fun h => h)) (fun h => h)) (fun h => h.2 rfl)⟩ | exact ⟨cell_keeps hkk (cell_keeps (((Keeps.refl (fun _ => False) W).alloc _).drew) d1 (fun h => h)) (fun h => h), cell_keeps hkk (cell_keeps (((Keeps.refl (fun _ => False) W).alloc _).drew) d3 (fun h => h)) (fun h => h)⟩ | exact ⟨cell_keeps (((Keeps.refl (fun _ => False) W).alloc _).drew) d1 (fun h => h), cell_keeps (((Keeps.refl (fun _ => False) W).alloc _).drew) d3 (fun h => h)⟩)
            (first | (refine step_keepCopy (by rfl) _ _ (by rfl) W.heap.size (by rfl) x.ka x.kc x.ks (by rfl) (ckW.keeps (((Keeps.refl (fun _ => False) W).alloc _).drew)) hx300 ?_; intro a4 c4 w4 hk4 hkk hab) | (go_at_call 21; refine (crash_ds (hLC.kept ((((Keeps.refl (fun _ => False) W).alloc _).drew).trans hkk)) hok (by omega) a4 c4 x.ks x.i hk4 (fun b o e => by have := hab b o e; simp at this; omega)).mono ?_; rintro e w6 ⟨rfl, hL6, hK6⟩))
          have hKf : Keeps (fun _ => False) w w6 := (((hKW.alloc _).drew).trans hkk).trans' hK6 (fun k e => .inr e.1)
          have hok' := hok.crash x.ks x.i
          obtain ⟨s', hs'⟩ : ∃ s', s.crash x.ks x.i = s' := ⟨_, rfl⟩
          have hdc : s'.dc = s.dc := by rw [← hs']; rfl
          have hlo : ((s'.ws.length : Nat) : Int) = 0 := by rw [← hs']; rfl
          rw [hs'] at hL6 hok'
          have Hdc : Hid (s'.dc = s.dc) := hdc
          have Hlo : Hid (((s'.ws.length : Nat) : Int) = 0) := hlo
          clear hLW hKW hK6 d1 d3 ckW hs' hk4 hkk hab hLC
          · skip
            go_wp2_with (first | (go_at_call 27; refine (done_ds hL6).mono ?_; rw [hdc]; rintro e w7 ⟨rfl, rfl⟩) | (go_at_call 24; refine (loose_ds hL6).mono ?_; rw [hlo]; rintro e w8 ⟨rfl, rfl⟩))
            go_roundw
            case rel => exact ⟨k + 1, s', by omega, by go_num, by rw [Hdc.out], by rw [Hlo.out], hL6.more (fun k h => h.elim), hok', by omega, by omega, by omega, hKf⟩
            case measure => simp [intOf]; omega
        · rw [hkd] at c0
          go_wp2_with fail
          obtain ⟨W, hW⟩ : ∃ W, wr.alloc (.cells #[.int .i64 4, .int .i64 x.i, .int .u8 x.v, .slice x.ka x.ks.length x.kc] 34) = W := ⟨_, rfl⟩
          rw [hW]
          have kW : Keeps (fun _ => False) wr W := by rw [← hW]; exact (Keeps.refl _ _).alloc _
          have gW : W.heap[wr.heap.size]? = some (.cells #[.int .i64 4, .int .i64 x.i, .int .u8 x.v, .slice x.ka x.ks.length x.kc] 34 (0, 0)) := by rw [← hW]; exact heap_alloc2_x wr _
          have hLC := (hLr.more (C' := (· = wr.heap.size)) (fun k e => .inr (by omega))).kept kW
          have hszW : wr.heap.size < W.heap.size := (Array.getElem?_eq_some_iff.1 gW).1
          have hLW := hLr.kept kW
          have hKW := hKr.trans kW
          have d1 : W.cell? ⟨wr.heap.size, 1, none⟩ = some (.int .i64 x.i) := by simp [World.cell?, gW]
          have d3 : W.cell? ⟨wr.heap.size, 3, none⟩ = some (.slice x.ka x.ks.length x.kc) := by simp [World.cell?, gW]
          have hwsz := hKr.size
          have hLr1 : Hid (Lies w.heap.size none' wr (w.heap.size + 1) w.heap.size s) := hLr
          have ckW := ckeep.keeps kW
          clear hW gW c0 c1 c2 c3 ckeep hLr kW
          refine (fuse_ds hLW x.i).mono ?_
          rintro e w6 ⟨rfl, hL6, hK6⟩
          have hKf := onKeep hKW hK6
          have hok' := hok.fuse x.i chi.2
          obtain ⟨s', hs'⟩ : ∃ s', s.fuse x.i = s' := ⟨_, rfl⟩
          have hdc : s'.dc = s.dc := by rw [← hs']; rfl
          have hlo : ((s'.ws.length : Nat) : Int) = (s.ws.length : Int) := by rw [← hs']; rfl
          rw [hs'] at hL6 hok'
          have Hdc : Hid (s'.dc = s.dc) := hdc
          have Hlo : Hid (((s'.ws.length : Nat) : Int) = (s.ws.length : Int)) := hlo
          clear hLW hKW hK6 d1 d3 ckW hs'
          · skip
            go_wp2_with (first | (go_at_call 27; refine (done_ds hL6).mono ?_; rw [hdc]; rintro e w7 ⟨rfl, rfl⟩) | (go_at_call 24; refine (loose_ds hL6).mono ?_; rw [hlo]; rintro e w8 ⟨rfl, rfl⟩))
            go_roundw
            case rel => exact ⟨k + 1, s', by omega, by go_num, by rw [Hdc.out], by rw [Hlo.out], hL6, hok', by omega, by omega, by omega, hKf⟩
            case measure => simp [intOf]; omega
        · go_wp2_with fail
          obtain ⟨W, hW⟩ : ∃ W, wr.alloc (.cells #[.int .i64 x.kind, .int .i64 x.i, .int .u8 x.v, .slice x.ka x.ks.length x.kc] 34) = W := ⟨_, rfl⟩
          rw [hW]
          have kW : Keeps (fun _ => False) wr W := by rw [← hW]; exact (Keeps.refl _ _).alloc _
          have hL6 := hLr.kept kW
          have hKf := hKr.trans kW
          clear hW c0 c1 c2 c3 ckeep hLr kW
          refine (done_ds hL6).mono ?_
          rintro e w7 ⟨rfl, rfl⟩
          go_wp2_with (first | (go_at_call 24; refine (loose_ds hL6).mono ?_; rintro e w8 ⟨rfl, rfl⟩))
          go_roundw
          case rel => exact ⟨k + 1, s, by omega, by go_num, rfl, rfl, hL6, hok, by omega, by omega, by omega, hKf⟩
          case measure => simp [intOf]; omega
      · obtain rfl : k = xs.length := by omega
        go_wp2_with (go_at_call 11; refine (wakes_any _).mono ?_; rintro e w3 ⟨rfl, k3⟩)
        go_ret
        exact ⟨rfl, hKr.trans k3⟩

end Go.Proofs.Ytokgnfniaeeloaa
