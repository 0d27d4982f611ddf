/-
  The awakening of the laws.
-/
import Derived.Test.YtkcnnkakpkdhkaaDoorXp
set_option linter.all false
set_option maxRecDepth 100000
namespace Go.Proofs.YtkcnnkakpkdhkaaDoor
open Go.RowKit Go.Sort Go.Shelf
attribute [local go_sem] Oper.semAt_some

theorem z_t2 (W : World) : SlT (W.alloc (.cells #[.string ⟨#[97]⟩, .string ⟨#[98]⟩] 9)) (some ⟨W.heap.size, 0, none⟩) 2 2 [[97], [98]] ∧ Keeps (fun _ => False) W (W.alloc (.cells #[.string ⟨#[97]⟩, .string ⟨#[98]⟩] 9)) :=
  ⟨SlT.of_row (l := [[97], [98]]) (heap_alloc_new W _) rfl, keeps_alloc W _⟩
theorem z_two (W : World) : SlP ((W.alloc (.cells #[.string ⟨#[61]⟩, .string ⟨#[97]⟩] 9)).alloc (.cells #[.int .i64 1, .slice (some ⟨W.heap.size, 0, none⟩) 2 2] 41)) (some ⟨W.heap.size + 1, 0, none⟩) 1 1 badP1 ∧ Keeps (fun _ => False) W ((W.alloc (.cells #[.string ⟨#[61]⟩, .string ⟨#[97]⟩] 9)).alloc (.cells #[.int .i64 1, .slice (some ⟨W.heap.size, 0, none⟩) 2 2] 41)) := by
  have k2 : Keeps (fun _ => False) (W.alloc (.cells #[.string ⟨#[61]⟩, .string ⟨#[97]⟩] 9)) ((W.alloc (.cells #[.string ⟨#[61]⟩, .string ⟨#[97]⟩] 9)).alloc (.cells #[.int .i64 1, .slice (some ⟨W.heap.size, 0, none⟩) 2 2] 41)) := keeps_alloc _ _
  have s1 : SlT (W.alloc (.cells #[.string ⟨#[61]⟩, .string ⟨#[97]⟩] 9)) (some ⟨W.heap.size, 0, none⟩) 2 2 [[61], [97]] := SlT.of_row (l := [[61], [97]]) (heap_alloc_new W _) rfl
  refine ⟨SlP.of_row (l := [(1, .slice (some ⟨W.heap.size, 0, none⟩) 2 2)]) ?_ rfl rfl (fun j x p hx hp => ?_), (keeps_alloc W _).trans k2⟩
  · have := heap_alloc_new (W.alloc (.cells #[.string ⟨#[61]⟩, .string ⟨#[97]⟩] 9)) (.cells #[.int .i64 1, .slice (some ⟨W.heap.size, 0, none⟩) 2 2] 41)
    rw [show (W.alloc (.cells #[.string ⟨#[61]⟩, .string ⟨#[97]⟩] 9)).heap.size = W.heap.size + 1 by simp] at this
    exact this
  · match j with
    | 0 => simp [badP1] at hx hp; subst hx hp; exact ⟨_, _, _, rfl, s1.keep k2, (fun h => by cases h)⟩
    | j + 1 => simp at hx

set_option maxHeartbeats 8000000 in
theorem wakes9 (w : World) (hT : Lib.Utf8Tabs 0 1 w) : Calls Tryd.prog 9 #[] w fun e w' => e = .returned (.bool true) ∧ Keeps (fun _ => False) w w' := by
  obtain ⟨E1, hE1⟩ : ∃ E : ByteArray, E = ⟨#[61, 32, 65, 10, 98, 32, 32, 99, 10, 100, 10, 45, 32, 120, 10, 10, 45, 45, 45, 10, 101]⟩ := ⟨_, rfl⟩
  obtain ⟨E2, hE2⟩ : ∃ E : ByteArray, E = ⟨#[61, 32, 65, 10, 10, 98, 32, 99, 32, 100, 10, 10, 45, 32, 120, 10, 10, 45, 45, 45, 10, 10, 101]⟩ := ⟨_, rfl⟩
  obtain ⟨E3, hE3⟩ : ∃ E : ByteArray, E = ⟨#[61, 32]⟩ := ⟨_, rfl⟩
  obtain ⟨E4, hE4⟩ : ∃ E : ByteArray, E = ⟨#[97, 9, 98]⟩ := ⟨_, rfl⟩
  obtain ⟨E5, hE5⟩ : ∃ E : ByteArray, E = ⟨#[32, 97, 32, 32, 98]⟩ := ⟨_, rfl⟩
  have zp1 := fun W (hW : Lib.Utf8Tabs 0 1 W) => parse_sl W hW E1 wantP 0 (by rw [hE1]; exact z_parse1) 5 rfl
  have zp2 := fun W (hW : Lib.Utf8Tabs 0 1 W) g (h : SlP W (some ⟨g, 0, none⟩) 5 5 wantP) => psource13 W hW (some ⟨g, 0, none⟩) 5 5 wantP h (by omega) z_len
  rw [z_src] at zp2
  have e2 : bs ([61, 32, 65, 10, 10, 98, 32, 99, 32, 100, 10, 10, 45, 32, 120, 10, 10, 45, 45, 45, 10, 10, 101], (0 : Int)).1 = E2 := by rw [hE2]; rfl
  rw [e2] at zp2
  have zp3 := fun W (hW : Lib.Utf8Tabs 0 1 W) => parse_sl W hW E3 [] 15 (by rw [hE3]; exact z_parse2) 0 rfl
  have zp4 := fun W (hW : Lib.Utf8Tabs 0 1 W) => parse_sl W hW E4 [] 15 (by rw [hE4]; exact z_parse3) 0 rfl
  have zp5 := fun W a c g (h1 : SlP W a 5 c wantP) (h2 : SlP W (some ⟨g, 0, none⟩) 5 5 wantP) => parts15 W a (some ⟨g, 0, none⟩) 5 5 c 5 wantP wantP h1 h2 (by omega) (fun p hp => by have := (z_len p hp).1; omega)
  rw [decide_eq_true rfl] at zp5
  have zp6 := fun W (hW : Lib.Utf8Tabs 0 1 W) g (h : SlP W (some ⟨g, 0, none⟩) 5 5 wantP) => pgood16 W hW (some ⟨g, 0, none⟩) 5 5 wantP h (by omega) z_len
  rw [z_good] at zp6
  have zp7 := fun W (hW : Lib.Utf8Tabs 0 1 W) g (h : SlP W (some ⟨g, 0, none⟩) 1 1 badP1) => pgood16 W hW (some ⟨g, 0, none⟩) 1 1 badP1 h (by omega) z_lenb
  rw [z_bad] at zp7
  have zp8 := fun W => words_sl W E5 (by rw [hE5]; decide) [[97], [98]] (by rw [hE5]; exact z_wds) 2 rfl
  have zp9 := fun W a c g (h1 : SlT W a 2 c [[97], [98]]) (h2 : SlT W (some ⟨g, 0, none⟩) 2 2 [[97], [98]]) => texts18 W a (some ⟨g, 0, none⟩) 2 2 c 2 _ _ h1 h2 (by omega)
  rw [decide_eq_true rfl] at zp9
  have K0 : Hid (Keeps (fun _ => False) w w) := Keeps.refl _ _
  have y0 : Hid True := trivial
  clear e2
  go_enter Tryd.func9, Tryd.ntmps9
  rw [← hE1, ← hE2, ← hE3, ← hE4, ← hE5]
  clear hE1 hE2 hE3 hE4 hE5
  go_wp2_with (first
    | (have hh := y21; clear y21; go_at_call 18; refine (zp9 _ a21 c21 w21.heap.size (t21.keep (z_t2 w21).2) (z_t2 w21).1).mono ?_; rintro e w23 ⟨rfl, k23⟩; have K23 : Hid (Keeps (fun _ => False) w w23) := (K21.out.trans (z_t2 w21).2).trans k23)
    | (have hh := y20; clear y20; go_at_call 19; refine (zp8 w20).mono ?_; rintro e w21 ⟨a21, c21, rfl, t21, _, k21⟩; have K21 : Hid (Keeps (fun _ => False) w w21) := K20.out.trans k21; have y21 : Hid True := trivial)
    | (have hh := y16; clear y16; go_at_call 16; refine (zp7 _ (Tabs.keep hT (K16.out.trans (z_two w16).2)) (w16.heap.size + 1) (z_two w16).1).mono ?_; rintro e w20 ⟨rfl, k20⟩; have K20 : Hid (Keeps (fun _ => False) w w20) := (K16.out.trans (z_two w16).2).trans k20; have y20 : Hid True := trivial)
    | (have hh := y15; clear y15; go_at_call 16; refine (zp6 w15 (Tabs.keep hT K15.out) g11 ((s11.keep I14.out).keep k15)).mono ?_; rintro e w16 ⟨rfl, k16⟩; have K16 : Hid (Keeps (fun _ => False) w w16) := K15.out.trans k16; have y16 : Hid True := trivial)
    | (have hh := y14; clear y14; go_at_call 15; refine (zp5 w14 a1 c1 g11 (s1.keep J14.out) (s11.keep I14.out)).mono ?_; rintro e w15 ⟨rfl, k15⟩; have K15 : Hid (Keeps (fun _ => False) w w15) := K14.out.trans k15; have y15 : Hid True := trivial)
    | (have hh := y13; clear y13; go_at_call 10; refine (zp4 w13 (Tabs.keep hT K13.out)).mono ?_; rintro e w14 ⟨a14, c14, rfl, _, _, k14⟩; have K14 : Hid (Keeps (fun _ => False) w w14) := K13.out.trans k14; have J14 : Hid (Keeps (fun _ => False) w1 w14) := J13.out.trans k14; have I14 : Hid (Keeps (fun _ => False) w11 w14) := I13.out.trans k14; have y14 : Hid True := trivial)
    | (have hh := y12; clear y12; go_at_call 10; refine (zp3 w12 (Tabs.keep hT K12.out)).mono ?_; rintro e w13 ⟨a13, c13, rfl, _, _, k13⟩; have K13 : Hid (Keeps (fun _ => False) w w13) := K12.out.trans k13; have J13 : Hid (Keeps (fun _ => False) w1 w13) := J12.out.trans k13; have I13 : Hid (Keeps (fun _ => False) w11 w13) := I12.out.trans k13; have y13 : Hid True := trivial)
    | (have hh := y11; clear y11; go_at_call 13; refine (zp2 w11 (Tabs.keep hT K11.out) g11 s11).mono ?_; rintro e w12 ⟨rfl, k12⟩; have K12 : Hid (Keeps (fun _ => False) w w12) := K11.out.trans k12; have J12 : Hid (Keeps (fun _ => False) w1 w12) := J11.out.trans k12; have I12 : Hid (Keeps (fun _ => False) w11 w12) := I11.out.trans k12; have y12 : Hid True := trivial)
    | (have hh := y9; clear y9; refine wpList_b5P rfl _ _ _ _ _ rfl (2, [[65]]) (1, [[98], [99], [100]]) (3, [[120]]) (4, []) (1, [[101]]) ⟨_, _, _, rfl, ((t2.keep (k4.trans k6)).keep k9), (fun h => by cases h)⟩ ⟨_, _, _, rfl, (t4.keep (k6.trans k9)), (fun h => by cases h)⟩ ⟨_, _, _, rfl, (t6.keep k9), (fun h => by cases h)⟩ ⟨_, _, _, rfl, SlT.nil _, (fun _ => rfl)⟩ ⟨_, _, _, rfl, t9, (fun h => by cases h)⟩ ?_; intro g11 w11 s11 z11 k11; have K11 : Hid (Keeps (fun _ => False) w w11) := K9.out.trans k11; have J11 : Hid (Keeps (fun _ => False) w1 w11) := J9.out.trans k11; have I11 : Hid (Keeps (fun _ => False) w11 w11) := Keeps.refl _ _; have y11 : Hid True := trivial)
    | (have hh := y6; clear y6; refine wpList_b1T rfl _ rfl [101] rfl ?_; intro g9 w9 t9 z9 k9; have K9 : Hid (Keeps (fun _ => False) w w9) := K6.out.trans k9; have J9 : Hid (Keeps (fun _ => False) w1 w9) := J6.out.trans k9; have y9 : Hid True := trivial)
    | (have hh := y4; clear y4; refine wpList_b1T rfl _ rfl [120] rfl ?_; intro g6 w6 t6 z6 k6; have K6 : Hid (Keeps (fun _ => False) w w6) := K4.out.trans k6; have J6 : Hid (Keeps (fun _ => False) w1 w6) := J4.out.trans k6; have y6 : Hid True := trivial)
    | (have hh := y2; clear y2; refine wpList_b3T rfl _ _ _ rfl [98] [99] [100] rfl rfl rfl ?_; intro g4 w4 t4 z4 k4; have K4 : Hid (Keeps (fun _ => False) w w4) := K2.out.trans k4; have J4 : Hid (Keeps (fun _ => False) w1 w4) := J2.out.trans k4; have y4 : Hid True := trivial)
    | (have hh := y1; clear y1; refine wpList_b1T rfl _ rfl [65] rfl ?_; intro g2 w2 t2 z2 k2; have K2 : Hid (Keeps (fun _ => False) w w2) := K1.out.trans k2; have J2 : Hid (Keeps (fun _ => False) w1 w2) := J1.out.trans k2; have y2 : Hid True := trivial)
    | (have hh := y0; clear y0; go_at_call 10; refine (zp1 w (Tabs.keep hT K0.out)).mono ?_; rintro e w1 ⟨a1, c1, rfl, s1, _, k1⟩; have K1 : Hid (Keeps (fun _ => False) w w1) := K0.out.trans k1; have J1 : Hid (Keeps (fun _ => False) w1 w1) := Keeps.refl _ _; have y1 : Hid True := trivial))
  go_ret
  exact ⟨rfl, K23.out⟩

end Go.Proofs.YtkcnnkakpkdhkaaDoor
