/-
  The program's Words.
-/
import Derived.Test.YtkcnnkakpkdhkaaDoorXe
set_option linter.all false
set_option maxRecDepth 100000
namespace Go.Proofs.YtkcnnkakpkdhkaaDoor
open Go.RowKit Go.Sort Go.Shelf
attribute [local go_sem] Oper.semAt_some

/-- What the slice has taken in. -/
structure ApI (b2 B : Nat) (w : World) (pre : List (List UInt8)) (V : World) : Prop where
  own : ∃ v, Ce V b2 37 v ∧ OwnT V B v pre
  keeps : Keeps (fun _ => False) w V
  size : B ≤ V.heap.size

set_option maxHeartbeats 4000000 in
theorem append46 (w : World) (bl : Nat) (s : ByteArray) (hs : s.size ≤ 90000) (hn : Ce w bl 9 (.string s)) :
    Calls Tryd.prog 46 #[.slice none 0 0, .func (.func 47) #[] #[.pointer (some ⟨bl, 0, none⟩)]] w fun e w' => (∃ v, e = .returned v ∧ OwnT w' w.heap.size v (wds s.data.toList)) ∧ Keeps (fun _ => False) w w' := by
  obtain ⟨XS, hXS⟩ : ∃ XS, wds s.data.toList = XS := ⟨_, rfl⟩
  have HX : Hid (wds s.data.toList = XS) := hXS
  have HL : Hid (XS.length ≤ 90001) := by show _ ≤ _; rw [← hXS]; have := wds_len s.data.toList; rw [sz_len] at this; omega
  rw [hXS]
  clear hXS
  refine (callsIn_wide (n := 9)).1 ?_
  refine callsIn_of_wp_marks Tryd.func46 rfl trivial ?_ rfl
  simp only [Tryd.ntmps46, List.size_toArray, List.length_cons, List.length_nil, Nat.reduceAdd, Nat.reduceSub, Array.replicate_succ, Array.replicate_zero, List.push_toArray, List.append_toArray, List.nil_append, List.cons_append]
  have hbl := hn.lt
  gi_wp2
  have y1 := ce_alloc w 37 (.slice none 0 0)
  have k1 := keeps_alloc w (.cells #[.slice none 0 0] 37)
  obtain ⟨W1, hW1⟩ : ∃ W1, w.alloc (.cells #[.slice none 0 0] 37) = W1 := ⟨_, rfl⟩
  have s1 : W1.heap.size = w.heap.size + 1 := by rw [← hW1]; simp
  rw [hW1] at y1 k1
  simp only [hW1]
  have hn1 := hn.keep k1
  clear hW1
  have hseq := words47 (fun k => k ≠ bl) W1 bl s (by omega) hn1 (fun h => h rfl)
  rw [HX.out] at hseq
  refine range_n (gf := 47) (lb := #[.pointer (some ⟨bl, 0, none⟩)]) rfl (enters_of Tryd.func47 (by kernel_rfl) rfl) hseq _ rfl (RowKit.Below.refl _ _) (fun _ => rfl)
    (fun pre V => ApI w.heap.size (W1.heap.size + 2 + 4) w pre V ∨ (pre = [] ∧ Ce V w.heap.size 37 (.slice none 0 0) ∧ Keeps (fun _ => False) w V))
    (fun cd pre V => False) ?hI ?hIw ?hIx (.inr ⟨rfl, y1, k1⟩)
    (fun pre x a' V => (∃ v, Ce V w.heap.size 37 v ∧ OwnT V (W1.heap.size + 2 + 4) v pre ∧ Keeps (fun _ => False) w V) ∧ a' = { tmps := #[.slice none 0 0, .func (.func 47) #[] #[.pointer (some ⟨bl, 0, none⟩)], .pointer (some ⟨w.heap.size, 0, none⟩), undef, .slice none 0 0, .string (bs x), .func (.func 47) #[] #[.pointer (some ⟨bl, 0, none⟩)], .string (bs x), undef, undef, undef, undef, undef], defers := [] }) ?hAx ?assign ?body ?done ?stop
  case hI =>
    rintro pre A B row h hg hr
    rcases h with ⟨⟨v, h2, h3⟩, h4, h5⟩ | ⟨h1, h2, h4⟩
    · exact .inl ⟨⟨v, ⟨own_cells hg hr h2.row⟩, h3.turn hg hr⟩, own_keeps hg hr h4 (by omega), Nat.le_trans h5 hg.size⟩
    · exact .inr ⟨h1, ⟨own_cells hg hr h2.row⟩, own_keeps hg hr h4 (by omega)⟩
  case hIw =>
    rintro pre A k u hk1 hk2 h
    rcases h with ⟨⟨v, h2, h3⟩, h4, h5⟩ | ⟨h1, h2, h4⟩
    · exact .inl ⟨⟨v, h2.set_other (by omega) u, h3.keeps ((Keeps.refl (· = k) _).setCell (p := ⟨k, 0, none⟩) (.inl rfl) u) (fun i _ e => by omega)⟩, h4.setCell (p := ⟨k, 0, none⟩) (.inr (by show w.heap.size ≤ k; omega)) u, by simpa using h5⟩
    · exact .inr ⟨h1, h2.set_other (by omega) u, h4.setCell (p := ⟨k, 0, none⟩) (.inr (by show w.heap.size ≤ k; omega)) u⟩
  case hIx => rintro cd s A B row h hg hr; exact h.elim
  case hAx =>
    rintro pre x a' _ A B row ⟨⟨v, h2, h3, h4⟩, h5⟩ hg hr
    exact ⟨⟨v, ⟨own_cells hg hr h2.row⟩, h3.turn hg hr, own_keeps hg hr h4 (by omega)⟩, h5⟩
  case assign =>
    rintro l' pre x rest V K hx hms h1 hK'
    have HK : Hid (∀ a' W', _ → _ → _ → K a' W') := hK'
    have h2 : ∃ v, Ce V w.heap.size 37 v ∧ OwnT V (W1.heap.size + 2 + 4) v pre ∧ Keeps (fun _ => False) w V := by
      rcases h1 with ⟨⟨v, h2, h3⟩, h4, h5⟩ | ⟨rfl, h2, h4⟩
      · exact ⟨v, h2, h3, h4⟩
      · exact ⟨_, h2, OwnT.nil _ _, h4⟩
    clear hK' hx h1
    simp only [encW]
    gi_wp2
    have k0 := Keeps.refl (fun _ => False) V
    exact HK.out _ _ (k0.from (fun _ _ h => h.elim)) (k0.kpx (fun _ h => h.elim)) ⟨h2, rfl⟩
  case body =>
    rintro l' pre x rest a' V hl' hx hms ⟨⟨v, h2, h3, h4⟩, rfl⟩
    have hpl : pre.length ≤ 100000 := by have := HL.out; rw [hx] at this; simp at this; omega
    have f3 := h2.live
    have q3 := h2.cell
    have z2 := h2.lt
    clear hx hseq
    gi_wp2_with (first
      | (refine in_round (fun _ h => by cases h) ?_; refine wpList_build1T rfl _ rfl x rfl ?_; intro g9 w6 b6 z6 k6; refine OnlyN.go ?_; have o6 := h3.keeps k6 (fun i _ h => h.elim); have c6 := h2.keep k6)
      | (refine in_round (fun _ h => by cases h) ?_; refine wpList_appT rfl _ _ rfl (W1.heap.size + 2 + 4) v _ rfl o6 g9 rfl x b6 hpl (by have := k6.size; omega) ?_; intro v' w7 o7 k7; obtain ⟨aa, nn, cc, rfl⟩ := o7.shape; refine OnlyN.go ?_; have c7 := c6.keeps k7 (fun e => by have := OwnT.from o6 e; omega); have q7 := c7.cell; have f7 := c7.live))
    have kA : Keeps (fun k => k = w.heap.size ∨ v.ownBlock = some k) V (w7.setCell ⟨w.heap.size, 0, none⟩ (.slice aa nn cc)) := ((k6.mono (fun _ _ h => h.elim)).trans (k7.mono (fun _ _ h => .inr h))).setCell (p := ⟨w.heap.size, 0, none⟩) (.inl (.inl rfl)) _
    refine ⟨kA.from (fun k hk e => by rcases e with rfl | e; omega; exact h3.cells e), kA.kpx (fun k e => ?_), .inl ⟨⟨_, c7.set (.slice aa nn cc), ?_⟩, ?_, ?_⟩⟩
    · rcases e with rfl | e
      · exact .inl ⟨by omega, by omega⟩
      · have := OwnT.from h3 e
        exact .inl ⟨by omega, by omega⟩
    · exact o7.keeps ((Keeps.refl (· = w.heap.size) _).setCell (p := ⟨w.heap.size, 0, none⟩) (.inl rfl) (.slice aa nn cc)) (fun i _ e => by omega)
    · refine h4.trans' kA (fun k e => ?_)
      rcases e with rfl | e
      · exact .inr (Nat.le_refl _)
      · have := OwnT.from h3 e; exact .inr (by omega)
    · have := kA.size; omega
  case done =>
    rintro D V hD' h1 hd
    have h2 : ∃ v, Ce V w.heap.size 37 v ∧ OwnT V (W1.heap.size + 2 + 4) v XS ∧ Keeps (fun _ => False) w V := by
      rcases h1 with ⟨⟨v, h2, h3⟩, h4, h5⟩ | ⟨h0, h2, h4⟩
      · exact ⟨v, h2, h3, h4⟩
      · exact ⟨_, h2, by rw [h0]; exact OwnT.nil _ _, h4⟩
    obtain ⟨v, h2, h3, h4⟩ := h2
    have q3 := h2.cell
    obtain ⟨aa, nn, cc, rfl⟩ := h3.shape
    clear h1 hseq
    gi_wp2
    refine ⟨by simp, .inl ⟨_, _, rfl, run_takeDeferred hd, ?_⟩⟩
    refine ⟨_, results_tmp rfl _ _ _, ⟨_, rfl, ?_⟩, ?_⟩
    · exact ((h3.turn (B := W1.heap.size) (grownBy_putObj' _ D _) (fun r e => by cases e; exact ⟨hD', _, hd, rfl⟩))).down (by omega)
    · exact h4.grown (grownBy_putObj' _ D _) (fun k e => by cases e; exact .inr (by omega))
  case stop =>
    rintro D cd pre x rest V hD' hx h hd
    exact h.elim

theorem collect34 (w : World) (bl : Nat) (s : ByteArray) (hs : s.size ≤ 90000) (hn : Ce w bl 9 (.string s)) :
    Calls Tryd.prog 34 #[.func (.func 47) #[] #[.pointer (some ⟨bl, 0, none⟩)]] w fun e w' => (∃ v, e = .returned v ∧ OwnT w' w.heap.size v (wds s.data.toList)) ∧ Keeps (fun _ => False) w w' := by
  have hq := append46 w bl s hs hn
  go_enter Tryd.func34, Tryd.ntmps34
  go_wp2_with (go_at_call 46; refine hq.mono ?_; rintro e w1 ⟨⟨v1, rfl, o1⟩, k1⟩)
  go_ret
  exact ⟨⟨_, rfl, o1⟩, k1⟩

/-- The program's Words. -/
theorem pwords19 (w : World) (s : ByteArray) (hs : s.size ≤ 90000) :
    Calls Tryd.prog 19 #[.string s] w fun e w' => (∃ v, e = .returned v ∧ OwnT w' w.heap.size v (wds s.data.toList)) ∧ Keeps (fun _ => False) w w' := by
  go_enter Tryd.func19, Tryd.ntmps19
  go_wp2_with (first
    | (go_at_call 34; refine (collect34 _ _ s hs c1).mono ?_; rintro e w2 ⟨⟨v2, rfl, o2⟩, k2⟩)
    | (go_at_call 35; refine (words35 w s).mono ?_; rintro e w1 ⟨rfl, c1, z1, k1⟩))
  go_ret
  exact ⟨⟨_, rfl, o2.down (by omega)⟩, k1.trans k2⟩

end Go.Proofs.YtkcnnkakpkdhkaaDoor
