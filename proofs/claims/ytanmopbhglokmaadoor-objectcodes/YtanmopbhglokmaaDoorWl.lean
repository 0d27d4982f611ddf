/-
  wakes: the walk.
-/
import Derived.Test.YtanmopbhglokmaaDoorWk
set_option linter.all false
namespace Go.Proofs.YtanmopbhglokmaaDoor
open Go.RowKit Go.Sort

theorem wpList_make1 {ops : Array Oper} {rest : List Oper} {o : Oper} {a : Act} {w : World} {Q : Exit → Act → World → Prop} (hgd : o.guard = none) (l c : Operand) (ho : o.op = .makeSlice 23 l c) (hl : a.eval l = .int .i64 1) (hc : a.eval c = .int .i64 1)
    (h : ∀ w', SlB w' (some ⟨w.heap.size, 0, none⟩) (1 * 128) (1 * 128) (zb 128) → Keeps (fun _ => False) w w' → wpList Tryd.prog ops Q rest (a.put o.dst (.slice (some ⟨w.heap.size, 0, none⟩) 1 1)) w') : wpList Tryd.prog ops Q (o :: rest) a w := by
  refine wpList_plain hgd fun K hK => ?_
  unfold Oper.wp execOp
  simp only [ho, hl, hc, make1, Sem.run_bind, Result.andThen_ok, Sem.run_pure]
  exact hK _ _ (h _ (by have := slb_box (heap_alloc_new w (.cells (brow (zb 128)) 40)); rwa [zb_len] at this) (keeps_alloc w _))
theorem SlB.cellv {w : World} {b o n c : Nat} {L : List B} (h : SlB w (some ⟨b, o, none⟩) n c L) (j : Nat) (x : B) (v : Int) (hx : L[j]? = some x) (hv : nb x = v) : w.cell? ⟨b, o + j, none⟩ = some (.int .u8 v) := by rw [← hv]; exact h.cell rfl j x hx
theorem conv_ab (w : World) : (convert 22 22 (.slice (some ⟨w.heap.size, 0, none⟩) 2 2)).run Tryd.prog (w.alloc (.cells #[.int .u8 97, .int .u8 98] 5)) = .ok (.slice (some ⟨w.heap.size, 0, none⟩) 2 2) ((w.alloc (.cells (brow ab) 5)).freeze ⟨w.heap.size, 2, none⟩ 1) :=
  run_conv22 _ _ 2 2 _ _ (show (w.alloc (.cells #[.int .u8 97, .int .u8 98] 5)).heap[w.heap.size]? = some (.cells #[.int .u8 97, .int .u8 98] 5 (0, 0)) from heap_alloc_new w _)
theorem bytes_ab (w V : World) (hV : V = (w.alloc (.cells (brow ab) 5)).freeze ⟨w.heap.size, 2, none⟩ 1) (a : Option Addr) (c : Nat) (h : SlB w a 2 c ab) :
    Calls Tryd.prog 14 #[.slice a 2 c, .slice (some ⟨w.heap.size, 0, none⟩) 2 2] V fun e w' => e = .returned (.bool true) ∧ Keeps (fun _ => False) w w' := by
  obtain ⟨fr, g⟩ := freeze_row _ w.heap.size 2 _ _ (heap_alloc_new w (.cells (brow ab) 5))
  have hk : Keeps (fun _ => False) w ((w.alloc (.cells (brow ab) 5)).freeze ⟨w.heap.size, 2, none⟩ 1) := keeps_new5 (freeze_keeps (w.alloc (.cells (brow ab) 5)) w.heap.size 2).1
  rw [← hV] at g hk
  refine (bytes12 V _ _ _ _ _ _ ab ab (h.keeps hk (fun _ _ _ _ h => h)) (slb_box g)).mono fun e w' ⟨h1, h2⟩ => ⟨?_, h2 ▸ hk⟩
  rw [h1, decide_eq_true rfl]
theorem frame_ab (w : World) (hT : Tabs w) (q : Nat) (g : SlB w (some ⟨q, 0, none⟩) 2 2 ab) {L : List B} (HL : Hid (fr 3 ab = L)) :
    Calls Tryd.prog 9 #[.int .i64 3, .slice (some ⟨q, 0, none⟩) 2 2] w fun e w' => ∃ a c, e = .returned (.tuple #[.slice a 1 c, .int .i64 0]) ∧ SlB w' a 128 (c * 128) L ∧ Keeps (fun _ => False) w w' := by
  refine (frame9_ok w hT 3 _ 2 2 ab (by omega) (by omega) g (fun e => by cases e) HL).mono ?_
  rintro e w2 ⟨v2, rfl, O2, k2⟩
  obtain ⟨a2, c2, rfl, s2, b2, _⟩ := O2.slice
  exact ⟨a2, c2, rfl, s2, k2⟩
theorem body_ab (w : World) (hT : Tabs w) (a : Option Addr) (c : Nat) {L : List B} (HL : Hid (fr 3 ab = L)) (g : SlB w a 128 (c * 128) L) :
    Calls Tryd.prog 11 #[.slice a 1 c] w fun e w' => ∃ a' c', e = .returned (.tuple #[.int .i64 3, .slice a' 2 c', .int .i64 0]) ∧ SlB w' a' 2 c' ab ∧ Keeps (fun _ => False) w w' := by
  refine (body11_fr w hT a 1 c HL (by omega) (by show 2 ≤ 1000; omega) g).mono ?_
  rintro e w3 ⟨a3, c3, rfl, s3, _, k3⟩
  exact ⟨a3, c3, rfl, s3, k3⟩
set_option maxRecDepth 100000 in
set_option maxHeartbeats 2000000 in
theorem wakes8 (w : World) (hT : Tabs w) : Calls Tryd.prog 8 #[] w fun e w' => e = .returned (.bool true) ∧ Keeps (fun _ => False) w w' := by
  have hb := buildAB
  obtain ⟨L, hL⟩ : ∃ L, fr 3 ab = L := ⟨_, rfl⟩
  have HL : Hid (fr 3 ab = L) := hL
  obtain ⟨x, y, z, u, hx⟩ := frAB
  rw [hL] at hx
  have HX : Hid (L = [kb 3, kb 0, kb 2, 97, 98, x, y, z, u] ++ zb 119) := hx
  clear hx hL
  go_enter Tryd.func8, Tryd.ntmps8
  have n1 : nblk 121 = 1 := rfl
  have n2 : nblk 122 = 2 := rfl
  have n3 : nblk 1001 = 0 := rfl
  go_wp2_with (first
    | (go_at_call 14; refine (bytes_ab w5 _ rfl a3 c3 Hs35.out).mono ?_; rintro e w7 ⟨rfl, k7⟩; have K7 := K5.trans k7)
    | (go_at_call 15; refine (nblk15 _ _).mono ?_; rintro e wn ⟨rfl, hw⟩; rw [hw]; clear hw)
    | (go_at_call 9; have hK5 := K5; refine (frame9_err _ 7 none 0 0 (.inl (by omega))).mono ?_; rintro e w6 ⟨rfl, h6⟩; rw [h6]; clear hK5 h6 w6)
    | (go_at_call 11; refine (body11_not w4 (hT.keeps K4 (fun h => h) (fun h => h)) _ 1 1 zb_not s4).mono ?_; rintro e w5 ⟨rfl, k5⟩; have K5 := K4.trans k5; have K35 := k4.trans k5; have s25 := s2.keeps (k3.trans K35) (fun _ _ _ _ h => h); have s35 := s3.keeps K35 (fun _ _ _ _ h => h); have d0 := s25.cellv 0 (kb 3) 3 (by rw [HX.out]; rfl) rfl; rw [Nat.add_zero] at d0; have d2 := s25.cellv 2 (kb 2) 2 (by rw [HX.out]; rfl) rfl; have d3 := s25.cellv 3 97 97 (by rw [HX.out]; rfl) rfl; have d9 := s25.cellv 9 0 0 (by rw [HX.out]; rfl) rfl; have hcv := conv_ab w5; have Hs35 : Hid (SlB w5 a3 2 c3 ab) := s35; clear s25 K35 s35)
    | (refine wpList_make1 rfl _ _ rfl rfl rfl ?_; intro w4 s4 k4; have K4 := K3.trans k4)
    | (refine wpList_conv22 rfl _ rfl w.heap.size 2 2 rfl (brow ab) (heap_alloc_new w _) ?_; intro w1 g1 k1; have K1 := keeps_new5 k1)
    | (go_at_call 9; refine (frame_ab w1 (hT.keeps K1 (fun h => h) (fun h => h)) w.heap.size (slb_ab g1) HL).mono ?_; rintro e w2 ⟨a2, c2, rfl, s2, k2⟩; have K2 := K1.trans k2; obtain ⟨g2, o2, rfl, _⟩ := s2.bytes 128 (by omega) (Nat.le_refl _))
    | (go_at_call 11; refine (body_ab w2 (hT.keeps K2 (fun h => h) (fun h => h)) _ c2 HL s2).mono ?_; rintro e w3 ⟨a3, c3, rfl, s3, k3⟩; have K3 := K2.trans k3))
  go_ret
  exact ⟨rfl, K7⟩

end Go.Proofs.YtanmopbhglokmaaDoor
