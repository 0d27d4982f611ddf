/-
  The reference: Body.
-/
import Derived.Test.YtanmopbhglokmaaDoorRe
set_option linter.all false
namespace Go.Proofs.YtanmopbhglokmaaDoor
open Go.RowKit Go.Sort

/-- What the reference's Body tells. -/
structure Told2 (L : List B) (e : Ending) (w' : World) : Prop where
  out : (IsObj L ∧ ∃ a' c', e = .returned (.agg #[.int .i64 (kindOf L), .slice a' (lnOf L) c', .int .i64 0]) ∧ SlB w' a' (lnOf L) c' (bodyOf L)) ∨
    (¬ IsObj L ∧ e = .returned (.agg #[.int .i64 0, .slice none 0 0, .int .i64 11]))

theorem SlB.ne33 {w : World} {b o n c p : Nat} {l : List B} {fr : Nat × Nat} (h : SlB w (some ⟨b, o, none⟩) n c l) (h0 : 0 < n) (g : w.heap[p]? = some (.cells #[.int .i64 0, .slice none 0 0, .int .i64 0] 33 fr)) : b ≠ p := by
  rintro rfl
  obtain ⟨b', o', e, hc⟩ := h.at_ 0 _ (List.getElem?_eq_getElem (by have := h.len; omega))
  cases e
  rw [cell_of_row w _ _ _ _ _ g] at hc
  rw [Nat.add_zero] at hc
  rcases (by omega : o = 0 ∨ o = 1 ∨ o = 2 ∨ 3 ≤ o) with rfl | rfl | rfl | h3
  · simp at hc
  · simp at hc
  · simp at hc
  · rw [Array.getElem?_eq_none (by simpa using h3)] at hc; cases hc
theorem OwnB.nil (w : World) (base : Nat) : OwnB w base (.slice none 0 0) [] := ⟨by simp, .inl ⟨rfl, rfl⟩⟩
theorem one_err : (#[.int .i64 0, .slice none 0 0, .int .i64 11] : Array Value).all (·.oneCell') = true := by simp [Value.oneCell']
theorem size33 : (Tryd.prog.info? 33).map (·.size) = some 3 := by kernel_rfl
theorem load33 {w : World} {g : Nat} {x y z : Value} (h : w.heap[g]? = some (.cells #[x, y, z] 33 (0, 0))) : (loadVar 33 ⟨g, 0, none⟩).run Tryd.prog w = .ok (.agg #[x, y, z]) w :=
  run_loadVar_row _ _ 33 33 _ (0, 0) _ h Tryd.underlying33 rfl (by exact size33)
theorem results_got {fn : Func} {p : Tmp} (h : fn.results = #[.cell p 33]) (tmps : Array Value) (w : World) (g : Nat) (x y z : Value) (hp : tmps.getD p undef = .pointer (some ⟨g, 0, none⟩)) (hg : w.heap[g]? = some (.cells #[x, y, z] 33 (0, 0))) :
    (results fn tmps).run Tryd.prog w = .ok (.agg #[x, y, z]) w := by
  have hp' : tmps[p]?.getD undef = .pointer (some ⟨g, 0, none⟩) := by simpa using hp
  simp [results, h, hp', asAddr, load33 hg]

set_option maxRecDepth 100000 in
set_option maxHeartbeats 2000000 in
theorem body12 (w : World) (a : Option Addr) (n c : Nat) (L : List B) (h : SlB w a (n * 128) (c * 128) L) (hn : n ≤ 100) :
    Calls Tryd.prog 12 #[.slice a n c] w fun e w' => Told2 L e w' ∧ Keeps (fun _ => False) w w' := by
  have hn' : (n : Int) ≤ 100 := by omega
  have Hl : Hid (L.length = n * 128) := h.len
  have ka := keeps_alloc w (.cells #[.int .i64 0, .slice none 0 0, .int .i64 0] 33)
  have hsz : (w.alloc (.cells #[.int .i64 0, .slice none 0 0, .int .i64 0] 33)).heap.size = w.heap.size + 1 := by simp
  go_enter Tryd.func12, Tryd.ntmps12
  go_wp2_with fail
  go_loopw [3, 4] (fun v t wr => ∃ i : Nat, i ≤ n ∧ t = .int .i64 i ∧ OwnB wr (w.heap.size + 1) v (L.take (i * 128)) ∧ Keeps (fun _ => False) (w.alloc (.cells #[.int .i64 0, .slice none 0 0, .int .i64 0] 33)) wr) (fun _ t _ => n - (intOf t).toNat)
  case atStart => exact ⟨0, by omega, rfl, by simpa using OwnB.nil _ _, Keeps.refl _ _⟩
  case round =>
    obtain ⟨i, hi, rfl, O, hk⟩ := hrel
    have hks := hk.size
    rw [hsz] at hks
    by_cases hlt : i < n
    · have hlt' : (i : Int) < (n : Int) := by omega
      have hi0 : (0 : Int) ≤ (i : Int) := by omega
      have hs := h.keeps (ka.trans hk) (fun _ _ _ _ h => h)
      obtain ⟨b, o, rfl, _⟩ := hs.bytes (n * 128) (by omega) (Nat.le_refl _)
      have hb : SlB wr (some ⟨b, o + i * 128, none⟩) 128 128 (blk L i) := hs.part (i * 128) 128 128 (by have : (i + 1) * 128 ≤ n * 128 := Nat.mul_le_mul_right 128 hlt; omega) (Nat.le_refl _)
      have HS : Hid (L.take ((i + 1) * 128) = L.take (i * 128) ++ blk L i) := blk_snoc L i
      have Hq : Hid ((L.take (i * 128)).length ≤ 128000) := by show _ ≤ _; rw [List.length_take]; omega
      obtain ⟨a3, n3, c3, rfl, _⟩ := O.slice
      go_wp2_with (refine wpList_app rfl _ _ rfl (w.heap.size + 1) _ _ rfl O _ 128 128 (blk L i) rfl hb (fun e => by cases e) (by have := Hq.out; omega) (by omega) ?_; intro v3 w3 O3 k3; rw [← HS.out] at O3)
      exact ⟨⟨i + 1, by omega, by go_num, O3, hk.trans' k3 (fun i e => .inr (by rw [hsz]; exact e))⟩, by simp [intOf]; omega⟩
    · obtain rfl : i = n := by omega
      rw [List.take_of_length_le (by have := Hl.out; omega)] at O
      obtain ⟨a3, n3, c3, rfl, s3, b3, hnc3⟩ := O.slice
      have HN3 : Hid (n3 = i * 128) := s3.len.symm.trans Hl.out
      have gq := hk.row (heap_alloc_new w _) (fun h => h)
      have K := ka.trans hk
      rcases Nat.eq_zero_or_pos i with h0 | h0
      · subst h0
        have hL0 : L = [] := List.eq_nil_of_length_eq_zero (by have := Hl.out; omega)
        have Hno : Hid (¬ IsObj L) := by show ¬ _; rw [hL0]; exact fun ho => by have := ho.k1; simp [kindOf, nb] at this
        obtain rfl : n3 = 0 := by have := HN3.out; omega
        clear hL0
        go_wp2_with (refine wpList_store_row rfl rfl 33 _ _ rfl w.heap.size rfl #[.int .i64 0, .slice none 0 0, .int .i64 11] rfl 33 _ gq size33 rfl one_err ?_; intro w9 g9 k9 z9)
        refine bodyPost_ret (results_got rfl _ _ w.heap.size _ _ _ rfl g9) rfl ⟨⟨.inr ⟨Hno.out, rfl⟩⟩, K.trans' k9 (fun i e => .inr (by omega))⟩
      · have hn3 : 128 ≤ n3 := by have := HN3.out; omega
        have hn30 : ¬ (n3 : Int) = 0 := by omega
        have hn31 : (1 : Int) < (n3 : Int) := by omega
        have hn32 : (2 : Int) < (n3 : Int) := by omega
        obtain ⟨g3, o3, rfl, _⟩ := s3.bytes n3 (by omega) (Nat.le_refl _)
        have hlen := s3.len
        obtain ⟨x, y, z, t, hL⟩ := three (L := L) (by omega)
        have cx := s3.cell rfl 0 x (by rw [hL]; rfl)
        have cy := s3.cell rfl 1 y (by rw [hL]; rfl)
        have cz := s3.cell rfl 2 z (by rw [hL]; rfl)
        rw [Nat.add_zero] at cx
        have hcy : ∀ d os, (grow (redrawn wr d) os).cell? ⟨g3, o3 + 1, none⟩ = some (.int .u8 (nb y)) := fun d os => cell_keeps (keeps_cls ⟨⟨d, os⟩, rfl⟩) cy (fun h => h)
        have hcz : ∀ d os, (grow (redrawn wr d) os).cell? ⟨g3, o3 + 2, none⟩ = some (.int .u8 (nb z)) := fun d os => cell_keeps (keeps_cls ⟨⟨d, os⟩, rfl⟩) cz (fun h => h)
        have bx := nb_lt x
        have by' := nb_lt y
        have bz := nb_lt z
        have ek : kindOf L = nb x := by rw [hL]; rfl
        have el : (lnOf L : Int) = nb y * 256 + nb z := by rw [hL]; unfold lnOf nb; simp; omega
        obtain ⟨ln, hln⟩ : ∃ ln, lnOf L = ln := ⟨_, rfl⟩
        rw [hln] at el
        have el' := el.symm
        have Hln : Hid (lnOf L = ln) := hln
        have Hek : Hid (kindOf L = nb x) := ek
        have Hlb : Hid (True → 0 ≤ (ln : Int) ∧ (ln : Int) < 65536) := fun _ => by omega
        have Hhn : Hid (True → i ≤ 100) := fun _ => hn
        clear el hln ek hL cy cz
        clear hn' hn
        by_cases hB : 3 + ln ≤ n3
        · have hB' : ¬ (n3 : Int) < 3 + (ln : Int) := by omega
          go_wp2_with fail
          refine region_plan (S := fun w' => ∃ p : Regrown, w' = grow (redrawn wr p.d) p.os) [] [0, 1, 2, 3, 4, 5, 6, 7, 8, 9, 10] (by kernel_rfl) (by kernel_rfl) (by kernel_rfl) (by kernel_rfl) (cls_keeps ((Keeps.refl _ _).drew)) ?_
          simp only [wpPlan, opsAt, pick]
          repeat (go_big_quiet_step (fail))
          refine wpQuiet_nil ?_
          refine NoPanic.normal ?_
          clear hcy hcz
          have hlb := Hlb.out trivial
          go_wp2_with fail
          have kw : Keeps (fun _ => False) wr wr.drew := (Keeps.refl _ _).drew
          have gqd : wr.drew.heap[w.heap.size]? = some (.cells #[.int .i64 0, .slice none 0 0, .int .i64 0] 33 (0, 0)) := gq
          have Kd : Keeps (fun _ => False) w wr.drew := K.drew
          have cxd : wr.drew.cell? ⟨g3, o3, none⟩ = some (.int .u8 (nb x)) := cx
          have hc3n := s3.cap
          have sbd : SlB wr.drew (some ⟨g3, o3 + 3, none⟩) ln (c3 - 3) (bodyOf L) := by
            have := (s3.part 3 ln (c3 - 3) hB (by omega)).keeps kw (fun _ _ _ _ h => h)
            unfold bodyOf; rw [Hln.out]; exact this
          clear gq K cx kw s3 O hk
          generalize wr.drew = W0 at *
          have hcx : ∀ d os, (grow (redrawn W0 d) os).cell? ⟨g3, o3, none⟩ = some (.int .u8 (nb x)) := fun d os => cell_keeps (keeps_cls ⟨⟨d, os⟩, rfl⟩) cxd (fun h => h)
          have Hsb : Hid (SlB W0 (some ⟨g3, o3 + 3, none⟩) ln (c3 - 3) (bodyOf L)) := sbd
          have Hbl : Hid ((bodyOf L).length = ln) := sbd.len
          obtain ⟨l3, hl3⟩ : ∃ l3, ln + 3 = l3 := ⟨_, rfl⟩
          have h3l : 3 + (ln : Int) = (l3 : Int) := by omega
          have h33 : l3 - 3 = ln := by omega
          have hc33 : ¬ c3 = 3 := by omega
          have hb3 : (3 : Int) ≤ (l3 : Int) := by omega
          have hb3c : (l3 : Int) ≤ (c3 : Int) := by omega
          have d0 : Keeps (fun _ => False) W0 W0.drew := (Keeps.refl _ _).drew
          have hn30' : (0 : Int) < (n3 : Int) := by omega
          clear sbd cxd hl3
          refine region_tree (S := fun w' => ∃ p : Regrown, w' = grow (redrawn W0 p.d) p.os) (.two [0, 1, 2, 3, 5, 6, 7, 8] 4 (.two [] 9 (.one [10] 11 (.one [] 12 (.last []))) 11 (.one [] 9 (.one [10] 12 (.last [])))) 11 (.one [] 4 (.one [] 9 (.one [10] 12 (.last []))))) (by kernel_rfl) (by kernel_rfl) (by kernel_rfl) (by kernel_rfl) (cls_keeps d0) ?_
          simp only [wpTree, opsAt, pick]
          repeat (go_big_quiet_step (fail))
          refine wpQuiet_nil ⟨?_, ?_⟩
          · go_wp2_with (refine wpList_build0L rfl rfl ?_; intro g4 w4 O4 hg4a hg4b k4)
            have D4 := d0.trans k4
            refine ⟨cls_keeps D4, ?_⟩
            simp only [wpTree, opsAt, pick]
            refine wpQuiet_nil ⟨?_, ?_⟩
            · go_wp2_with (refine wpList_appX rfl _ _ rfl W0.drew.heap.size g4 rfl O4 g3 (o3 + 3) ln (c3 - 3) (bodyOf L) rfl (Hsb.out.keeps D4 (fun _ _ _ _ h => h)) (by omega) (by have := k4.size; omega) ?_; intro a5 c5 w5 s5 hnc5 k5)
              have D5 : Keeps (fun _ => False) W0 w5 := D4.trans' k5 (fun i e => .inr (by have := d0.size; omega))
              refine ⟨cls_keeps D5, ?_⟩
              simp only [wpTree, opsAt, pick]
              repeat (go_big_quiet_step (fail))
              refine wpQuiet_nil ?_
              go_wp2_with (refine wpList_alloc33 rfl rfl ?_; intro p6 w6 g6 hp6 k6)
              have D6 := D5.trans k6
              refine ⟨cls_keeps D6, ?_⟩
              simp only [wpTree, opsAt, pick]
              refine wpQuiet_nil ?_
              go_wp2_with (refine wpList_store_row rfl rfl 33 _ _ rfl p6 rfl #[.int .i64 (nb x), .slice a5 ln c5, .int .i64 0] rfl 33 _ g6 size33 rfl (one_got _ _ _ _ _) ?_; intro w7 g7 k7 z7)
              have k57 : Keeps (fun _ => False) w5 w7 := k6.trans' k7 (fun i e => .inr (by omega))
              have D7 := D5.trans k57
              have s7 := s5.keeps k57 (fun _ _ _ _ h => h)
              refine ⟨cls_keeps D7, ?_⟩
              simp only [wpTree, opsAt, pick]
              refine wpQuiet_nil ?_
              refine NoPanic.normal ?_
              clear O4
              have gq7 := D7.row gqd (fun h => h)
              have K7 : Keeps (fun _ => False) w w7 := Kd.trans D7
              have c70 : w7.cell? ⟨p6, 0, none⟩ = some (.int .i64 (nb x)) := cell_of_row _ _ 0 _ _ _ g7
              have c71 : w7.cell? ⟨p6, 1, none⟩ = some (.slice a5 ln c5) := cell_of_row _ _ 1 _ _ _ g7
              have hl7 := h.keeps K7 (fun _ _ _ _ h => h)
              by_cases hok : (1 ≤ nb x ∧ nb x ≤ 6) ∧ ln ≤ 1000
              · obtain ⟨m, hm⟩ : ∃ m, (ln + 134) / 128 = m := ⟨_, rfl⟩
                have hm9 : m ≤ 9 := by have := hok.2; omega
                obtain ⟨L8, hL8⟩ : ∃ L8, fr (nb x) (bodyOf L) = L8 := ⟨_, rfl⟩
                have HF : Hid (Calls Tryd.prog 10 #[.int .i64 (nb x), .slice a5 ln c5] w7 fun e w' => ∃ a8 c8, e = .returned (.tuple #[.slice a8 m c8, .int .i64 0]) ∧ SlB w' a8 (m * 128) (c8 * 128) L8 ∧ Keeps (fun _ => False) w7 w') := by
                  show Calls _ _ _ _ _
                  refine (frame10_ok w7 (nb x) a5 ln c5 (bodyOf L) hok.1 hok.2 s7 hnc5 hL8).mono ?_
                  rintro e w2 ⟨v2, rfl, O2, k2⟩
                  obtain ⟨a2, c2, rfl, s2, b2, _⟩ := O2.slice
                  rw [hm] at s2 ⊢
                  exact ⟨a2, c2, rfl, s2, k2⟩
                have l8 : L8.length = m * 128 := by rw [← hL8, fr_len, Hbl.out, hm]
                have Hobj : Hid (IsObj L ↔ L = L8) := by
                  show _ ↔ _
                  rw [← hL8]
                  constructor
                  · intro ho; have := ho.eq; rwa [Hek.out] at this
                  · intro he; exact ⟨by rw [Hek.out]; exact hok.1.1, by rw [Hek.out]; exact hok.1.2, by rw [Hln.out]; exact hok.2, by rw [Hek.out]; exact he⟩
                have Hl8 : Hid (L8.length = m * 128) := l8
                clear hL8 l8 hok hm
                by_cases hmi : m = i
                · subst hmi
                  go_wp2_with (go_at_call 10; refine HF.out.mono ?_; rintro e w8 ⟨a8, c8, rfl, s8, k8⟩)
                  have s8' := s8
                  have Ks : Keeps (fun _ => False) w w8 := K7.trans k8
                  have gq8 := k8.row gq7 (fun h => h)
                  have g78 := k8.row g7 (fun h => h)
                  have s78 := s7.keeps k8 (fun _ _ _ _ h => h)
                  have hl8 := hl7.keeps k8 (fun _ _ _ _ h => h)
                  clear s8' k7 k8 D7 g7 gq7 hl7 c70 c71 s7
                  go_loopw [9] (fun t wq => ∃ j : Nat, j ≤ m ∧ t = .int .i64 j ∧ Keeps (fun _ => False) w8 wq ∧ ∀ j', j' < j → blk L8 j' = blk L j') (fun t _ => m - (intOf t).toNat)
                  case atStart => exact ⟨0, by omega, rfl, Keeps.refl _ _, fun j h => by omega⟩
                  case round =>
                    obtain ⟨j, hj, rfl, hkq, hbl⟩ := hrel
                    clear hcx HF Hsb h3l h33 hc33 hb3 hb3c hn30' hn31 hn32 hn30 hB' hB hlb el' bx by' bz
                    by_cases hltj : j < m
                    · have hltj' : (j : Int) < (m : Int) := by omega
                      have hj0 : (0 : Int) ≤ (j : Int) := by omega
                      obtain ⟨b1, o1, rfl, lb1, hr1⟩ := (s8.keeps hkq (fun _ _ _ _ h => h)).blk j hltj
                      obtain ⟨b2, o2, rfl, lb2, hr2⟩ := (hl8.keeps hkq (fun _ _ _ _ h => h)).blk j hltj
                      have e1 := size40_of lb1
                      have e2 := size40_of lb2
                      have Hr1 : Hid (∀ w', (∃ p : Regrown, w' = grow (redrawn wr p.d) p.os) → w'.rangeAt b1 (o1 + j * 128) (brow (blk L8 j)).toList) := fun w' h => hr1 w' (keeps_cls h)
                      have Hr2 : Hid (∀ w', (∃ p : Regrown, w' = grow (redrawn wr p.d) p.os) → w'.rangeAt b2 (o2 + j * 128) (brow (blk L j)).toList) := fun w' h => hr2 w' (keeps_cls h)
                      have Hbl2 : Hid (∀ j', j' < j → blk L8 j' = blk L j') := hbl
                      obtain ⟨bX, hbX⟩ : ∃ bX, blk L8 j = bX := ⟨_, rfl⟩
                      obtain ⟨bY, hbY⟩ : ∃ bY, blk L j = bY := ⟨_, rfl⟩
                      have HbX : Hid (blk L8 j = bX) := hbX
                      have HbY : Hid (blk L j = bY) := hbY
                      rw [hbX] at lb1 e1 Hr1
                      rw [hbY] at lb2 e2 Hr2
                      clear hr1 hr2 hbl hbX hbY
                      by_cases he : bX = bY
                      · have heq := eq40_at (decide_eq_true he) lb1 lb2
                        have He : Hid (bX = bY) := he
                        clear he
                        go_wp2_with fail
                        refine region_plan (S := fun w' => ∃ p : Regrown, w' = grow (redrawn wr p.d) p.os) [] [0, 1, 2, 3, 4, 5, 6, 7, 8] (by kernel_rfl) (by kernel_rfl) (by kernel_rfl) (by kernel_rfl) (cls_keeps ((Keeps.refl _ _).drew)) ?_
                        simp only [wpPlan, opsAt, pick]
                        repeat (first | (go_big_quiet_want; refine quiet_row_at _ _ rfl b1 (o1 + j * 128) rfl (brow bX) Hr1.out Tryd.underlying40 rfl e1 ?_; simp only [Act.put, List.setIfInBounds_toArray, List.set_cons_zero, List.set_cons_succ]; go_big_quiet_on) | (go_big_quiet_want; refine quiet_row_at _ _ rfl b2 (o2 + j * 128) rfl (brow bY) Hr2.out Tryd.underlying40 rfl e2 ?_; simp only [Act.put, List.setIfInBounds_toArray, List.set_cons_zero, List.set_cons_succ]; go_big_quiet_on) | go_big_quiet_step (fail))
                        refine wpQuiet_nil ?_
                        refine NoPanic.normal ?_
                        go_wp2
                        go_roundw
                        case rel => exact ⟨j + 1, by omega, by go_num, hkq.drew, fun j' hj' => by
                          rcases Nat.lt_or_ge j' j with h | h
                          · exact Hbl2.out j' h
                          · obtain rfl : j' = j := by omega
                            rw [HbX.out, HbY.out]; exact He.out⟩
                        case measure => simp [intOf]; omega
                      · have heq := eq40_at (decide_eq_false he) lb1 lb2
                        have Hno : Hid (¬ IsObj L) := by
                          show ¬ _
                          intro ho
                          have h1 := Hobj.out.1 ho
                          exact he (by rw [← HbX.out, ← HbY.out, ← h1])
                        have gqr := hkq.row gq8 (fun h => h)
                        clear he
                        go_wp2_with fail
                        refine region_plan (S := fun w' => ∃ p : Regrown, w' = grow (redrawn wr p.d) p.os) [] [0, 1, 2, 3, 4, 5, 6, 7, 8] (by kernel_rfl) (by kernel_rfl) (by kernel_rfl) (by kernel_rfl) (cls_keeps ((Keeps.refl _ _).drew)) ?_
                        simp only [wpPlan, opsAt, pick]
                        repeat (first | (go_big_quiet_want; refine quiet_row_at _ _ rfl b1 (o1 + j * 128) rfl (brow bX) Hr1.out Tryd.underlying40 rfl e1 ?_; simp only [Act.put, List.setIfInBounds_toArray, List.set_cons_zero, List.set_cons_succ]; go_big_quiet_on) | (go_big_quiet_want; refine quiet_row_at _ _ rfl b2 (o2 + j * 128) rfl (brow bY) Hr2.out Tryd.underlying40 rfl e2 ?_; simp only [Act.put, List.setIfInBounds_toArray, List.set_cons_zero, List.set_cons_succ]; go_big_quiet_on) | go_big_quiet_step (fail))
                        refine wpQuiet_nil ?_
                        refine NoPanic.normal ?_
                        go_wp2_with (refine wpList_store_row rfl rfl 33 _ _ rfl w.heap.size rfl #[.int .i64 0, .slice none 0 0, .int .i64 11] rfl 33 _ (show wr.drew.heap[w.heap.size]? = _ from gqr) size33 rfl one_err ?_; intro w9 g9 k9 z9)
                        refine bodyPost_ret (results_got rfl _ _ w.heap.size _ _ _ rfl g9) rfl ⟨⟨.inr ⟨Hno.out, rfl⟩⟩, (Ks.trans hkq.drew).trans' k9 (fun i e => .inr (by omega))⟩
                    · obtain rfl : j = m := by omega
                      have Hyes : Hid (IsObj L) := Hobj.out.2 (eq_of_blk Hl.out Hl8.out (fun i hi => (hbl i hi).symm))
                      have g7r := hkq.row g78 (fun h => h)
                      have gqr := hkq.row gq8 (fun h => h)
                      have d0r : wr.cell? ⟨p6, 0, none⟩ = some (.int .i64 (nb x)) := cell_of_row _ _ 0 _ _ _ g7r
                      have d1r : wr.cell? ⟨p6, 1, none⟩ = some (.slice a5 ln c5) := cell_of_row _ _ 1 _ _ _ g7r
                      have d2r : wr.cell? ⟨p6, 2, none⟩ = some (.int .i64 0) := cell_of_row _ _ 2 _ _ _ g7r
                      have hbne : 0 < ln → ∀ b o, a5 = some ⟨b, o, none⟩ → b ≠ w.heap.size := fun h0 b o e => by subst e; exact s78.ne33 h0 gq8
                      clear hbl
                      go_wp2_with (refine wpList_store_row rfl rfl 33 _ _ rfl w.heap.size rfl #[.int .i64 (nb x), .slice a5 ln c5, .int .i64 0] rfl 33 _ gqr size33 rfl (one_got _ _ _ _ _) ?_; intro w9 g9 k9 z9)
                      refine bodyPost_ret (results_got rfl _ _ w.heap.size _ _ _ rfl g9) rfl ⟨⟨.inl ⟨Hyes.out, a5, c5, by rw [Hek.out, Hln.out], ?_⟩⟩, (Ks.trans hkq).trans' k9 (fun i e => .inr (by omega))⟩
                      rw [Hln.out]
                      exact (s78.keeps hkq (fun _ _ _ _ h => h)).keeps k9 hbne
                · have hmi' : ¬ (m : Int) = (i : Int) := by omega
                  have hmib : ((m : Int) == (i : Int)) = false := by simpa using hmi'
                  have Hno : Hid (¬ IsObj L) := by
                    show ¬ _
                    intro ho
                    have h1 := Hobj.out.1 ho
                    have h2 := Hl.out
                    rw [h1, Hl8.out] at h2
                    omega
                  clear hmi
                  go_wp2_with (first | (go_at_call 10; refine HF.out.mono ?_; rintro e w8 ⟨a8, c8, rfl, s8, k8⟩; have gq8 := k8.row gq7 (fun h => h); have K8 := K7.trans k8) | (refine wpList_store_row rfl rfl 33 _ _ rfl w.heap.size rfl #[.int .i64 0, .slice none 0 0, .int .i64 11] rfl 33 _ gq8 size33 rfl one_err ?_; intro w9 g9 k9 z9))
                  refine bodyPost_ret (results_got rfl _ _ w.heap.size _ _ _ rfl g9) rfl ⟨⟨.inr ⟨Hno.out, rfl⟩⟩, K8.trans' k9 (fun i e => .inr (by omega))⟩
              · have Hno : Hid (¬ IsObj L) := by
                  show ¬ _
                  intro ho
                  exact hok ⟨⟨by rw [← Hek.out]; exact ho.k1, by rw [← Hek.out]; exact ho.k6⟩, by rw [← Hln.out]; exact ho.ln⟩
                have Herr : Hid (¬ (1 ≤ nb x ∧ nb x ≤ 6) ∨ 1000 < ln) := by show _ ∨ _; omega
                clear hok
                go_wp2_with (first | (go_at_call 10; refine (frame10_err w7 (nb x) a5 ln c5 Herr.out).mono ?_; rintro e w8 ⟨rfl, h8⟩; rw [h8]; clear h8 w8) | (refine wpList_store_row rfl rfl 33 _ _ rfl w.heap.size rfl #[.int .i64 0, .slice none 0 0, .int .i64 11] rfl 33 _ gq7 size33 rfl one_err ?_; intro w9 g9 k9 z9))
                refine bodyPost_ret (results_got rfl _ _ w.heap.size _ _ _ rfl g9) rfl ⟨⟨.inr ⟨Hno.out, rfl⟩⟩, K7.trans' k9 (fun i e => .inr (by omega))⟩
            · go_wp2_with (refine wpList_alloc33 rfl rfl ?_; intro p6 w6 g6 hp6 k6)
              have D6 := D4.trans k6
              have O6 := O4.keeps k6 (fun _ _ h => h.elim)
              refine ⟨cls_keeps D6, ?_⟩
              simp only [wpTree, opsAt, pick]
              refine wpQuiet_nil ?_
              go_wp2_with (refine wpList_appX rfl _ _ rfl W0.drew.heap.size g4 rfl O6 g3 (o3 + 3) ln (c3 - 3) (bodyOf L) rfl (Hsb.out.keeps D6 (fun _ _ _ _ h => h)) (by omega) (by have := k4.size; have := k6.size; omega) ?_; intro a5 c5 w5 s5 hnc5 k5)
              have D5 : Keeps (fun _ => False) W0 w5 := D6.trans' k5 (fun i e => .inr (by have := d0.size; omega))
              have g65 := k5.row g6 (by omega)
              refine ⟨cls_keeps D5, ?_⟩
              simp only [wpTree, opsAt, pick]
              repeat (go_big_quiet_step (fail))
              refine wpQuiet_nil ?_
              go_wp2_with (refine wpList_store_row rfl rfl 33 _ _ rfl p6 rfl #[.int .i64 (nb x), .slice a5 ln c5, .int .i64 0] rfl 33 _ g65 size33 rfl (one_got _ _ _ _ _) ?_; intro w7 g7 k7 z7)
              have D7 : Keeps (fun _ => False) W0 w7 := D5.trans' k7 (fun i e => .inr (by have := d0.size; have := k4.size; omega))
              have s7 := s5.keeps k7 (fun h0 b o e => by cases e; exact s5.ne33 h0 g65)
              refine ⟨cls_keeps D7, ?_⟩
              simp only [wpTree, opsAt, pick]
              refine wpQuiet_nil ?_
              refine NoPanic.normal ?_
              clear O4
              have gq7 := D7.row gqd (fun h => h)
              have K7 : Keeps (fun _ => False) w w7 := Kd.trans D7
              have c70 : w7.cell? ⟨p6, 0, none⟩ = some (.int .i64 (nb x)) := cell_of_row _ _ 0 _ _ _ g7
              have c71 : w7.cell? ⟨p6, 1, none⟩ = some (.slice a5 ln c5) := cell_of_row _ _ 1 _ _ _ g7
              have hl7 := h.keeps K7 (fun _ _ _ _ h => h)
              by_cases hok : (1 ≤ nb x ∧ nb x ≤ 6) ∧ ln ≤ 1000
              · obtain ⟨m, hm⟩ : ∃ m, (ln + 134) / 128 = m := ⟨_, rfl⟩
                have hm9 : m ≤ 9 := by have := hok.2; omega
                obtain ⟨L8, hL8⟩ : ∃ L8, fr (nb x) (bodyOf L) = L8 := ⟨_, rfl⟩
                have HF : Hid (Calls Tryd.prog 10 #[.int .i64 (nb x), .slice a5 ln c5] w7 fun e w' => ∃ a8 c8, e = .returned (.tuple #[.slice a8 m c8, .int .i64 0]) ∧ SlB w' a8 (m * 128) (c8 * 128) L8 ∧ Keeps (fun _ => False) w7 w') := by
                  show Calls _ _ _ _ _
                  refine (frame10_ok w7 (nb x) a5 ln c5 (bodyOf L) hok.1 hok.2 s7 hnc5 hL8).mono ?_
                  rintro e w2 ⟨v2, rfl, O2, k2⟩
                  obtain ⟨a2, c2, rfl, s2, b2, _⟩ := O2.slice
                  rw [hm] at s2 ⊢
                  exact ⟨a2, c2, rfl, s2, k2⟩
                have l8 : L8.length = m * 128 := by rw [← hL8, fr_len, Hbl.out, hm]
                have Hobj : Hid (IsObj L ↔ L = L8) := by
                  show _ ↔ _
                  rw [← hL8]
                  constructor
                  · intro ho; have := ho.eq; rwa [Hek.out] at this
                  · intro he; exact ⟨by rw [Hek.out]; exact hok.1.1, by rw [Hek.out]; exact hok.1.2, by rw [Hln.out]; exact hok.2, by rw [Hek.out]; exact he⟩
                have Hl8 : Hid (L8.length = m * 128) := l8
                clear hL8 l8 hok hm
                by_cases hmi : m = i
                · subst hmi
                  go_wp2_with (go_at_call 10; refine HF.out.mono ?_; rintro e w8 ⟨a8, c8, rfl, s8, k8⟩)
                  have s8' := s8
                  have Ks : Keeps (fun _ => False) w w8 := K7.trans k8
                  have gq8 := k8.row gq7 (fun h => h)
                  have g78 := k8.row g7 (fun h => h)
                  have s78 := s7.keeps k8 (fun _ _ _ _ h => h)
                  have hl8 := hl7.keeps k8 (fun _ _ _ _ h => h)
                  clear s8' k7 k8 D7 g7 gq7 hl7 c70 c71 s7
                  go_loopw [9] (fun t wq => ∃ j : Nat, j ≤ m ∧ t = .int .i64 j ∧ Keeps (fun _ => False) w8 wq ∧ ∀ j', j' < j → blk L8 j' = blk L j') (fun t _ => m - (intOf t).toNat)
                  case atStart => exact ⟨0, by omega, rfl, Keeps.refl _ _, fun j h => by omega⟩
                  case round =>
                    obtain ⟨j, hj, rfl, hkq, hbl⟩ := hrel
                    clear hcx HF Hsb h3l h33 hc33 hb3 hb3c hn30' hn31 hn32 hn30 hB' hB hlb el' bx by' bz
                    by_cases hltj : j < m
                    · have hltj' : (j : Int) < (m : Int) := by omega
                      have hj0 : (0 : Int) ≤ (j : Int) := by omega
                      obtain ⟨b1, o1, rfl, lb1, hr1⟩ := (s8.keeps hkq (fun _ _ _ _ h => h)).blk j hltj
                      obtain ⟨b2, o2, rfl, lb2, hr2⟩ := (hl8.keeps hkq (fun _ _ _ _ h => h)).blk j hltj
                      have e1 := size40_of lb1
                      have e2 := size40_of lb2
                      have Hr1 : Hid (∀ w', (∃ p : Regrown, w' = grow (redrawn wr p.d) p.os) → w'.rangeAt b1 (o1 + j * 128) (brow (blk L8 j)).toList) := fun w' h => hr1 w' (keeps_cls h)
                      have Hr2 : Hid (∀ w', (∃ p : Regrown, w' = grow (redrawn wr p.d) p.os) → w'.rangeAt b2 (o2 + j * 128) (brow (blk L j)).toList) := fun w' h => hr2 w' (keeps_cls h)
                      have Hbl2 : Hid (∀ j', j' < j → blk L8 j' = blk L j') := hbl
                      obtain ⟨bX, hbX⟩ : ∃ bX, blk L8 j = bX := ⟨_, rfl⟩
                      obtain ⟨bY, hbY⟩ : ∃ bY, blk L j = bY := ⟨_, rfl⟩
                      have HbX : Hid (blk L8 j = bX) := hbX
                      have HbY : Hid (blk L j = bY) := hbY
                      rw [hbX] at lb1 e1 Hr1
                      rw [hbY] at lb2 e2 Hr2
                      clear hr1 hr2 hbl hbX hbY
                      by_cases he : bX = bY
                      · have heq := eq40_at (decide_eq_true he) lb1 lb2
                        have He : Hid (bX = bY) := he
                        clear he
                        go_wp2_with fail
                        refine region_plan (S := fun w' => ∃ p : Regrown, w' = grow (redrawn wr p.d) p.os) [] [0, 1, 2, 3, 4, 5, 6, 7, 8] (by kernel_rfl) (by kernel_rfl) (by kernel_rfl) (by kernel_rfl) (cls_keeps ((Keeps.refl _ _).drew)) ?_
                        simp only [wpPlan, opsAt, pick]
                        repeat (first | (go_big_quiet_want; refine quiet_row_at _ _ rfl b1 (o1 + j * 128) rfl (brow bX) Hr1.out Tryd.underlying40 rfl e1 ?_; simp only [Act.put, List.setIfInBounds_toArray, List.set_cons_zero, List.set_cons_succ]; go_big_quiet_on) | (go_big_quiet_want; refine quiet_row_at _ _ rfl b2 (o2 + j * 128) rfl (brow bY) Hr2.out Tryd.underlying40 rfl e2 ?_; simp only [Act.put, List.setIfInBounds_toArray, List.set_cons_zero, List.set_cons_succ]; go_big_quiet_on) | go_big_quiet_step (fail))
                        refine wpQuiet_nil ?_
                        refine NoPanic.normal ?_
                        go_wp2
                        go_roundw
                        case rel => exact ⟨j + 1, by omega, by go_num, hkq.drew, fun j' hj' => by
                          rcases Nat.lt_or_ge j' j with h | h
                          · exact Hbl2.out j' h
                          · obtain rfl : j' = j := by omega
                            rw [HbX.out, HbY.out]; exact He.out⟩
                        case measure => simp [intOf]; omega
                      · have heq := eq40_at (decide_eq_false he) lb1 lb2
                        have Hno : Hid (¬ IsObj L) := by
                          show ¬ _
                          intro ho
                          have h1 := Hobj.out.1 ho
                          exact he (by rw [← HbX.out, ← HbY.out, ← h1])
                        have gqr := hkq.row gq8 (fun h => h)
                        clear he
                        go_wp2_with fail
                        refine region_plan (S := fun w' => ∃ p : Regrown, w' = grow (redrawn wr p.d) p.os) [] [0, 1, 2, 3, 4, 5, 6, 7, 8] (by kernel_rfl) (by kernel_rfl) (by kernel_rfl) (by kernel_rfl) (cls_keeps ((Keeps.refl _ _).drew)) ?_
                        simp only [wpPlan, opsAt, pick]
                        repeat (first | (go_big_quiet_want; refine quiet_row_at _ _ rfl b1 (o1 + j * 128) rfl (brow bX) Hr1.out Tryd.underlying40 rfl e1 ?_; simp only [Act.put, List.setIfInBounds_toArray, List.set_cons_zero, List.set_cons_succ]; go_big_quiet_on) | (go_big_quiet_want; refine quiet_row_at _ _ rfl b2 (o2 + j * 128) rfl (brow bY) Hr2.out Tryd.underlying40 rfl e2 ?_; simp only [Act.put, List.setIfInBounds_toArray, List.set_cons_zero, List.set_cons_succ]; go_big_quiet_on) | go_big_quiet_step (fail))
                        refine wpQuiet_nil ?_
                        refine NoPanic.normal ?_
                        go_wp2_with (refine wpList_store_row rfl rfl 33 _ _ rfl w.heap.size rfl #[.int .i64 0, .slice none 0 0, .int .i64 11] rfl 33 _ (show wr.drew.heap[w.heap.size]? = _ from gqr) size33 rfl one_err ?_; intro w9 g9 k9 z9)
                        refine bodyPost_ret (results_got rfl _ _ w.heap.size _ _ _ rfl g9) rfl ⟨⟨.inr ⟨Hno.out, rfl⟩⟩, (Ks.trans hkq.drew).trans' k9 (fun i e => .inr (by omega))⟩
                    · obtain rfl : j = m := by omega
                      have Hyes : Hid (IsObj L) := Hobj.out.2 (eq_of_blk Hl.out Hl8.out (fun i hi => (hbl i hi).symm))
                      have g7r := hkq.row g78 (fun h => h)
                      have gqr := hkq.row gq8 (fun h => h)
                      have d0r : wr.cell? ⟨p6, 0, none⟩ = some (.int .i64 (nb x)) := cell_of_row _ _ 0 _ _ _ g7r
                      have d1r : wr.cell? ⟨p6, 1, none⟩ = some (.slice a5 ln c5) := cell_of_row _ _ 1 _ _ _ g7r
                      have d2r : wr.cell? ⟨p6, 2, none⟩ = some (.int .i64 0) := cell_of_row _ _ 2 _ _ _ g7r
                      have hbne : 0 < ln → ∀ b o, a5 = some ⟨b, o, none⟩ → b ≠ w.heap.size := fun h0 b o e => by subst e; exact s78.ne33 h0 gq8
                      clear hbl
                      go_wp2_with (refine wpList_store_row rfl rfl 33 _ _ rfl w.heap.size rfl #[.int .i64 (nb x), .slice a5 ln c5, .int .i64 0] rfl 33 _ gqr size33 rfl (one_got _ _ _ _ _) ?_; intro w9 g9 k9 z9)
                      refine bodyPost_ret (results_got rfl _ _ w.heap.size _ _ _ rfl g9) rfl ⟨⟨.inl ⟨Hyes.out, a5, c5, by rw [Hek.out, Hln.out], ?_⟩⟩, (Ks.trans hkq).trans' k9 (fun i e => .inr (by omega))⟩
                      rw [Hln.out]
                      exact (s78.keeps hkq (fun _ _ _ _ h => h)).keeps k9 hbne
                · have hmi' : ¬ (m : Int) = (i : Int) := by omega
                  have hmib : ((m : Int) == (i : Int)) = false := by simpa using hmi'
                  have Hno : Hid (¬ IsObj L) := by
                    show ¬ _
                    intro ho
                    have h1 := Hobj.out.1 ho
                    have h2 := Hl.out
                    rw [h1, Hl8.out] at h2
                    omega
                  clear hmi
                  go_wp2_with (first | (go_at_call 10; refine HF.out.mono ?_; rintro e w8 ⟨a8, c8, rfl, s8, k8⟩; have gq8 := k8.row gq7 (fun h => h); have K8 := K7.trans k8) | (refine wpList_store_row rfl rfl 33 _ _ rfl w.heap.size rfl #[.int .i64 0, .slice none 0 0, .int .i64 11] rfl 33 _ gq8 size33 rfl one_err ?_; intro w9 g9 k9 z9))
                  refine bodyPost_ret (results_got rfl _ _ w.heap.size _ _ _ rfl g9) rfl ⟨⟨.inr ⟨Hno.out, rfl⟩⟩, K8.trans' k9 (fun i e => .inr (by omega))⟩
              · have Hno : Hid (¬ IsObj L) := by
                  show ¬ _
                  intro ho
                  exact hok ⟨⟨by rw [← Hek.out]; exact ho.k1, by rw [← Hek.out]; exact ho.k6⟩, by rw [← Hln.out]; exact ho.ln⟩
                have Herr : Hid (¬ (1 ≤ nb x ∧ nb x ≤ 6) ∨ 1000 < ln) := by show _ ∨ _; omega
                clear hok
                go_wp2_with (first | (go_at_call 10; refine (frame10_err w7 (nb x) a5 ln c5 Herr.out).mono ?_; rintro e w8 ⟨rfl, h8⟩; rw [h8]; clear h8 w8) | (refine wpList_store_row rfl rfl 33 _ _ rfl w.heap.size rfl #[.int .i64 0, .slice none 0 0, .int .i64 11] rfl 33 _ gq7 size33 rfl one_err ?_; intro w9 g9 k9 z9))
                refine bodyPost_ret (results_got rfl _ _ w.heap.size _ _ _ rfl g9) rfl ⟨⟨.inr ⟨Hno.out, rfl⟩⟩, K7.trans' k9 (fun i e => .inr (by omega))⟩
          · go_wp2_with (refine wpList_alloc33 rfl rfl ?_; intro p6 w6 g6 hp6 k6)
            have D6 := d0.trans k6
            refine ⟨cls_keeps D6, ?_⟩
            simp only [wpTree, opsAt, pick]
            refine wpQuiet_nil ?_
            go_wp2_with (refine wpList_build0L rfl rfl ?_; intro g4 w4 O4 hg4a hg4b k4)
            have D4 := D6.trans k4
            refine ⟨cls_keeps D4, ?_⟩
            simp only [wpTree, opsAt, pick]
            refine wpQuiet_nil ?_
            have hp6l := lt_of_row g6
            go_wp2_with (refine wpList_appX rfl _ _ rfl w6.heap.size g4 rfl O4 g3 (o3 + 3) ln (c3 - 3) (bodyOf L) rfl (Hsb.out.keeps D4 (fun _ _ _ _ h => h)) (by omega) (by have := k4.size; omega) ?_; intro a5 c5 w5 s5 hnc5 k5)
            have D5 : Keeps (fun _ => False) W0 w5 := D4.trans' k5 (fun i e => .inr (by have := d0.size; have := D6.size; omega))
            have g65 := k5.row (k4.row g6 (fun h => h)) (by omega)
            refine ⟨cls_keeps D5, ?_⟩
            simp only [wpTree, opsAt, pick]
            repeat (go_big_quiet_step (fail))
            refine wpQuiet_nil ?_
            go_wp2_with (refine wpList_store_row rfl rfl 33 _ _ rfl p6 rfl #[.int .i64 (nb x), .slice a5 ln c5, .int .i64 0] rfl 33 _ g65 size33 rfl (one_got _ _ _ _ _) ?_; intro w7 g7 k7 z7)
            have D7 : Keeps (fun _ => False) W0 w7 := D5.trans' k7 (fun i e => .inr (by have := d0.size; omega))
            have s7 := s5.keeps k7 (fun h0 b o e => by cases e; exact s5.ne33 h0 g65)
            refine ⟨cls_keeps D7, ?_⟩
            simp only [wpTree, opsAt, pick]
            refine wpQuiet_nil ?_
            refine NoPanic.normal ?_
            clear O4
            have gq7 := D7.row gqd (fun h => h)
            have K7 : Keeps (fun _ => False) w w7 := Kd.trans D7
            have c70 : w7.cell? ⟨p6, 0, none⟩ = some (.int .i64 (nb x)) := cell_of_row _ _ 0 _ _ _ g7
            have c71 : w7.cell? ⟨p6, 1, none⟩ = some (.slice a5 ln c5) := cell_of_row _ _ 1 _ _ _ g7
            have hl7 := h.keeps K7 (fun _ _ _ _ h => h)
            by_cases hok : (1 ≤ nb x ∧ nb x ≤ 6) ∧ ln ≤ 1000
            · obtain ⟨m, hm⟩ : ∃ m, (ln + 134) / 128 = m := ⟨_, rfl⟩
              have hm9 : m ≤ 9 := by have := hok.2; omega
              obtain ⟨L8, hL8⟩ : ∃ L8, fr (nb x) (bodyOf L) = L8 := ⟨_, rfl⟩
              have HF : Hid (Calls Tryd.prog 10 #[.int .i64 (nb x), .slice a5 ln c5] w7 fun e w' => ∃ a8 c8, e = .returned (.tuple #[.slice a8 m c8, .int .i64 0]) ∧ SlB w' a8 (m * 128) (c8 * 128) L8 ∧ Keeps (fun _ => False) w7 w') := by
                show Calls _ _ _ _ _
                refine (frame10_ok w7 (nb x) a5 ln c5 (bodyOf L) hok.1 hok.2 s7 hnc5 hL8).mono ?_
                rintro e w2 ⟨v2, rfl, O2, k2⟩
                obtain ⟨a2, c2, rfl, s2, b2, _⟩ := O2.slice
                rw [hm] at s2 ⊢
                exact ⟨a2, c2, rfl, s2, k2⟩
              have l8 : L8.length = m * 128 := by rw [← hL8, fr_len, Hbl.out, hm]
              have Hobj : Hid (IsObj L ↔ L = L8) := by
                show _ ↔ _
                rw [← hL8]
                constructor
                · intro ho; have := ho.eq; rwa [Hek.out] at this
                · intro he; exact ⟨by rw [Hek.out]; exact hok.1.1, by rw [Hek.out]; exact hok.1.2, by rw [Hln.out]; exact hok.2, by rw [Hek.out]; exact he⟩
              have Hl8 : Hid (L8.length = m * 128) := l8
              clear hL8 l8 hok hm
              by_cases hmi : m = i
              · subst hmi
                go_wp2_with (go_at_call 10; refine HF.out.mono ?_; rintro e w8 ⟨a8, c8, rfl, s8, k8⟩)
                have s8' := s8
                have Ks : Keeps (fun _ => False) w w8 := K7.trans k8
                have gq8 := k8.row gq7 (fun h => h)
                have g78 := k8.row g7 (fun h => h)
                have s78 := s7.keeps k8 (fun _ _ _ _ h => h)
                have hl8 := hl7.keeps k8 (fun _ _ _ _ h => h)
                clear s8' k7 k8 D7 g7 gq7 hl7 c70 c71 s7
                go_loopw [9] (fun t wq => ∃ j : Nat, j ≤ m ∧ t = .int .i64 j ∧ Keeps (fun _ => False) w8 wq ∧ ∀ j', j' < j → blk L8 j' = blk L j') (fun t _ => m - (intOf t).toNat)
                case atStart => exact ⟨0, by omega, rfl, Keeps.refl _ _, fun j h => by omega⟩
                case round =>
                  obtain ⟨j, hj, rfl, hkq, hbl⟩ := hrel
                  clear hcx HF Hsb h3l h33 hc33 hb3 hb3c hn30' hn31 hn32 hn30 hB' hB hlb el' bx by' bz
                  by_cases hltj : j < m
                  · have hltj' : (j : Int) < (m : Int) := by omega
                    have hj0 : (0 : Int) ≤ (j : Int) := by omega
                    obtain ⟨b1, o1, rfl, lb1, hr1⟩ := (s8.keeps hkq (fun _ _ _ _ h => h)).blk j hltj
                    obtain ⟨b2, o2, rfl, lb2, hr2⟩ := (hl8.keeps hkq (fun _ _ _ _ h => h)).blk j hltj
                    have e1 := size40_of lb1
                    have e2 := size40_of lb2
                    have Hr1 : Hid (∀ w', (∃ p : Regrown, w' = grow (redrawn wr p.d) p.os) → w'.rangeAt b1 (o1 + j * 128) (brow (blk L8 j)).toList) := fun w' h => hr1 w' (keeps_cls h)
                    have Hr2 : Hid (∀ w', (∃ p : Regrown, w' = grow (redrawn wr p.d) p.os) → w'.rangeAt b2 (o2 + j * 128) (brow (blk L j)).toList) := fun w' h => hr2 w' (keeps_cls h)
                    have Hbl2 : Hid (∀ j', j' < j → blk L8 j' = blk L j') := hbl
                    obtain ⟨bX, hbX⟩ : ∃ bX, blk L8 j = bX := ⟨_, rfl⟩
                    obtain ⟨bY, hbY⟩ : ∃ bY, blk L j = bY := ⟨_, rfl⟩
                    have HbX : Hid (blk L8 j = bX) := hbX
                    have HbY : Hid (blk L j = bY) := hbY
                    rw [hbX] at lb1 e1 Hr1
                    rw [hbY] at lb2 e2 Hr2
                    clear hr1 hr2 hbl hbX hbY
                    by_cases he : bX = bY
                    · have heq := eq40_at (decide_eq_true he) lb1 lb2
                      have He : Hid (bX = bY) := he
                      clear he
                      go_wp2_with fail
                      refine region_plan (S := fun w' => ∃ p : Regrown, w' = grow (redrawn wr p.d) p.os) [] [0, 1, 2, 3, 4, 5, 6, 7, 8] (by kernel_rfl) (by kernel_rfl) (by kernel_rfl) (by kernel_rfl) (cls_keeps ((Keeps.refl _ _).drew)) ?_
                      simp only [wpPlan, opsAt, pick]
                      repeat (first | (go_big_quiet_want; refine quiet_row_at _ _ rfl b1 (o1 + j * 128) rfl (brow bX) Hr1.out Tryd.underlying40 rfl e1 ?_; simp only [Act.put, List.setIfInBounds_toArray, List.set_cons_zero, List.set_cons_succ]; go_big_quiet_on) | (go_big_quiet_want; refine quiet_row_at _ _ rfl b2 (o2 + j * 128) rfl (brow bY) Hr2.out Tryd.underlying40 rfl e2 ?_; simp only [Act.put, List.setIfInBounds_toArray, List.set_cons_zero, List.set_cons_succ]; go_big_quiet_on) | go_big_quiet_step (fail))
                      refine wpQuiet_nil ?_
                      refine NoPanic.normal ?_
                      go_wp2
                      go_roundw
                      case rel => exact ⟨j + 1, by omega, by go_num, hkq.drew, fun j' hj' => by
                        rcases Nat.lt_or_ge j' j with h | h
                        · exact Hbl2.out j' h
                        · obtain rfl : j' = j := by omega
                          rw [HbX.out, HbY.out]; exact He.out⟩
                      case measure => simp [intOf]; omega
                    · have heq := eq40_at (decide_eq_false he) lb1 lb2
                      have Hno : Hid (¬ IsObj L) := by
                        show ¬ _
                        intro ho
                        have h1 := Hobj.out.1 ho
                        exact he (by rw [← HbX.out, ← HbY.out, ← h1])
                      have gqr := hkq.row gq8 (fun h => h)
                      clear he
                      go_wp2_with fail
                      refine region_plan (S := fun w' => ∃ p : Regrown, w' = grow (redrawn wr p.d) p.os) [] [0, 1, 2, 3, 4, 5, 6, 7, 8] (by kernel_rfl) (by kernel_rfl) (by kernel_rfl) (by kernel_rfl) (cls_keeps ((Keeps.refl _ _).drew)) ?_
                      simp only [wpPlan, opsAt, pick]
                      repeat (first | (go_big_quiet_want; refine quiet_row_at _ _ rfl b1 (o1 + j * 128) rfl (brow bX) Hr1.out Tryd.underlying40 rfl e1 ?_; simp only [Act.put, List.setIfInBounds_toArray, List.set_cons_zero, List.set_cons_succ]; go_big_quiet_on) | (go_big_quiet_want; refine quiet_row_at _ _ rfl b2 (o2 + j * 128) rfl (brow bY) Hr2.out Tryd.underlying40 rfl e2 ?_; simp only [Act.put, List.setIfInBounds_toArray, List.set_cons_zero, List.set_cons_succ]; go_big_quiet_on) | go_big_quiet_step (fail))
                      refine wpQuiet_nil ?_
                      refine NoPanic.normal ?_
                      go_wp2_with (refine wpList_store_row rfl rfl 33 _ _ rfl w.heap.size rfl #[.int .i64 0, .slice none 0 0, .int .i64 11] rfl 33 _ (show wr.drew.heap[w.heap.size]? = _ from gqr) size33 rfl one_err ?_; intro w9 g9 k9 z9)
                      refine bodyPost_ret (results_got rfl _ _ w.heap.size _ _ _ rfl g9) rfl ⟨⟨.inr ⟨Hno.out, rfl⟩⟩, (Ks.trans hkq.drew).trans' k9 (fun i e => .inr (by omega))⟩
                  · obtain rfl : j = m := by omega
                    have Hyes : Hid (IsObj L) := Hobj.out.2 (eq_of_blk Hl.out Hl8.out (fun i hi => (hbl i hi).symm))
                    have g7r := hkq.row g78 (fun h => h)
                    have gqr := hkq.row gq8 (fun h => h)
                    have d0r : wr.cell? ⟨p6, 0, none⟩ = some (.int .i64 (nb x)) := cell_of_row _ _ 0 _ _ _ g7r
                    have d1r : wr.cell? ⟨p6, 1, none⟩ = some (.slice a5 ln c5) := cell_of_row _ _ 1 _ _ _ g7r
                    have d2r : wr.cell? ⟨p6, 2, none⟩ = some (.int .i64 0) := cell_of_row _ _ 2 _ _ _ g7r
                    have hbne : 0 < ln → ∀ b o, a5 = some ⟨b, o, none⟩ → b ≠ w.heap.size := fun h0 b o e => by subst e; exact s78.ne33 h0 gq8
                    clear hbl
                    go_wp2_with (refine wpList_store_row rfl rfl 33 _ _ rfl w.heap.size rfl #[.int .i64 (nb x), .slice a5 ln c5, .int .i64 0] rfl 33 _ gqr size33 rfl (one_got _ _ _ _ _) ?_; intro w9 g9 k9 z9)
                    refine bodyPost_ret (results_got rfl _ _ w.heap.size _ _ _ rfl g9) rfl ⟨⟨.inl ⟨Hyes.out, a5, c5, by rw [Hek.out, Hln.out], ?_⟩⟩, (Ks.trans hkq).trans' k9 (fun i e => .inr (by omega))⟩
                    rw [Hln.out]
                    exact (s78.keeps hkq (fun _ _ _ _ h => h)).keeps k9 hbne
              · have hmi' : ¬ (m : Int) = (i : Int) := by omega
                have hmib : ((m : Int) == (i : Int)) = false := by simpa using hmi'
                have Hno : Hid (¬ IsObj L) := by
                  show ¬ _
                  intro ho
                  have h1 := Hobj.out.1 ho
                  have h2 := Hl.out
                  rw [h1, Hl8.out] at h2
                  omega
                clear hmi
                go_wp2_with (first | (go_at_call 10; refine HF.out.mono ?_; rintro e w8 ⟨a8, c8, rfl, s8, k8⟩; have gq8 := k8.row gq7 (fun h => h); have K8 := K7.trans k8) | (refine wpList_store_row rfl rfl 33 _ _ rfl w.heap.size rfl #[.int .i64 0, .slice none 0 0, .int .i64 11] rfl 33 _ gq8 size33 rfl one_err ?_; intro w9 g9 k9 z9))
                refine bodyPost_ret (results_got rfl _ _ w.heap.size _ _ _ rfl g9) rfl ⟨⟨.inr ⟨Hno.out, rfl⟩⟩, K8.trans' k9 (fun i e => .inr (by omega))⟩
            · have Hno : Hid (¬ IsObj L) := by
                show ¬ _
                intro ho
                exact hok ⟨⟨by rw [← Hek.out]; exact ho.k1, by rw [← Hek.out]; exact ho.k6⟩, by rw [← Hln.out]; exact ho.ln⟩
              have Herr : Hid (¬ (1 ≤ nb x ∧ nb x ≤ 6) ∨ 1000 < ln) := by show _ ∨ _; omega
              clear hok
              go_wp2_with (first | (go_at_call 10; refine (frame10_err w7 (nb x) a5 ln c5 Herr.out).mono ?_; rintro e w8 ⟨rfl, h8⟩; rw [h8]; clear h8 w8) | (refine wpList_store_row rfl rfl 33 _ _ rfl w.heap.size rfl #[.int .i64 0, .slice none 0 0, .int .i64 11] rfl 33 _ gq7 size33 rfl one_err ?_; intro w9 g9 k9 z9))
              refine bodyPost_ret (results_got rfl _ _ w.heap.size _ _ _ rfl g9) rfl ⟨⟨.inr ⟨Hno.out, rfl⟩⟩, K7.trans' k9 (fun i e => .inr (by omega))⟩
        · have hB' : (n3 : Int) < 3 + (ln : Int) := by omega
          have Hno : Hid (¬ IsObj L) := by
            show ¬ _
            intro ho
            have h1 := ho.len
            rw [Hln.out, s3.len] at h1
            omega
          go_wp2_with fail
          refine region_plan (S := fun w' => ∃ p : Regrown, w' = grow (redrawn wr p.d) p.os) [] [0, 1, 2, 3, 4, 5, 6, 7, 8, 9, 10] (by kernel_rfl) (by kernel_rfl) (by kernel_rfl) (by kernel_rfl) (cls_keeps ((Keeps.refl _ _).drew)) ?_
          simp only [wpPlan, opsAt, pick]
          repeat (go_big_quiet_step (fail))
          refine wpQuiet_nil ?_
          refine NoPanic.normal ?_
          clear hcy hcz
          have hlb := Hlb.out trivial
          go_wp2_with (refine wpList_store_row rfl rfl 33 _ _ rfl w.heap.size rfl #[.int .i64 0, .slice none 0 0, .int .i64 11] rfl 33 _ (show wr.drew.heap[w.heap.size]? = _ from gq) size33 rfl one_err ?_; intro w9 g9 k9 z9)
          refine bodyPost_ret (results_got rfl _ _ w.heap.size _ _ _ rfl g9) rfl ⟨⟨.inr ⟨Hno.out, rfl⟩⟩, K.drew.trans' k9 (fun i e => .inr (by omega))⟩

end Go.Proofs.YtanmopbhglokmaaDoor
