/-
  The program's Words: an iterator over an iterator, taken into a slice.
-/
import Derived.Test.YtkcnnkakpkdhkaaDoorXd
set_option linter.all false
set_option maxRecDepth 100000
namespace Go.Proofs.YtkcnnkakpkdhkaaDoor
open Go.RowKit Go.Sort Go.Shelf
attribute [local go_sem] Oper.semAt_some

theorem OwnT.turn {B base : Nat} {W W' : World} {v : Value} {l : List (List UInt8)} {row : Option Nat} (hg : W.grownBy W' row) (hr : ∀ r, row = some r → B ≤ r ∧ ∃ o : Obj, W.heap[r]? = some o ∧ o.isCells = false) (h : OwnT W base v l) : OwnT W' base v l := by
  obtain ⟨h1, h2⟩ := h.owns
  refine ⟨⟨h1, ?_⟩⟩
  rcases h2 with h2 | ⟨g, cap, cur, rfl, hb, hgr, rest⟩
  · exact .inl h2
  · exact .inr ⟨g, cap, cur, rfl, hb, own_cells hg hr hgr, rest⟩
theorem OwnT.shape {W : World} {base : Nat} {v : Value} {l : List (List UInt8)} (h : OwnT W base v l) : ∃ a n c, v = .slice a n c := by
  obtain ⟨a, c, e, _⟩ := h.slice
  exact ⟨a, _, c, e⟩
theorem OwnT.cells {W : World} {base : Nat} {v : Value} {l : List (List UInt8)} (h : OwnT W base v l) {k : Nat} (e : v.ownBlock = some k) : ∃ cs t fr, W.heap[k]? = some (.cells cs t fr) := by
  obtain ⟨h1, h2⟩ := h.owns
  rcases h2 with ⟨rfl, _⟩ | ⟨g, cap, cur, rfl, hb, hgr, rest⟩
  · cases e
  · cases e; exact ⟨_, _, _, hgr⟩

theorem words35 (w : World) (s : ByteArray) : Calls Tryd.prog 35 #[.string s] w fun e w' =>
    e = .returned (.func (.func 47) #[] #[.pointer (some ⟨w.heap.size, 0, none⟩)]) ∧ Ce w' w.heap.size 9 (.string s) ∧ w'.heap.size = w.heap.size + 1 ∧ Keeps (fun _ => False) w w' := by
  go_enter Tryd.func35, Tryd.ntmps35
  go_wp2
  go_ret
  exact ⟨rfl, ce_alloc w 9 _, by simp, keeps_alloc w _⟩

theorem filt_snoc2 (pre : List (List UInt8)) (x : List UInt8) : (pre ++ [x]).filter (· ≠ []) = pre.filter (· ≠ []) ++ (if x = [] then [] else [x]) := by
  rw [List.filter_append]
  congr 1
  by_cases h : x = []
  · rw [if_pos h, h]; rfl
  · rw [if_neg h, List.filter_cons_of_pos (by simpa using h), List.filter_nil]
theorem filt_mid {xs pre rest : List (List UInt8)} {x : List UInt8} (h : xs = pre ++ x :: rest) (hx : x ≠ []) : xs.filter (· ≠ []) = pre.filter (· ≠ []) ++ x :: rest.filter (· ≠ []) := by
  rw [h, List.filter_append, List.filter_cons_of_pos (by simpa using hx)]

set_option maxHeartbeats 4000000 in
theorem words47 (S : Nat → Prop) (w : World) (bl : Nat) (s : ByteArray) (hs : s.size ≤ 9223372036854775807) (hn : Ce w bl 9 (.string s)) (hS : ¬ S bl) :
    SeqN Tryd.prog 47 #[.pointer (some ⟨bl, 0, none⟩)] encW S (wds s.data.toList) 4 w := by
  intro l n J Jx W hW hJ hJx hJw hY h0
  have hwW : Keeps (fun _ => False) w W := ⟨hW.os, hW.tape, hW.output, hW.size, fun k hk _ => hW.block k hk⟩
  have hN := hn.keep hwW
  obtain ⟨XS, hXS⟩ : ∃ XS, cutL 32 s.data.toList = XS := ⟨_, rfl⟩
  obtain ⟨WS, hWS⟩ : ∃ WS, wds s.data.toList = WS := ⟨_, rfl⟩
  have HWS : Hid (WS = XS.filter (· ≠ [])) := by show _ = _; rw [← hWS, ← hXS]; rfl
  have HXS : Hid (cutL 32 s.data.toList = XS) := hXS
  rw [hWS] at hY ⊢
  have HY := Hid.mk' hY
  have HJw := Hid.mk' hJw
  have HJ := Hid.mk' hJ
  have HJx := Hid.mk' hJx
  have HS := Hid.mk' hS
  have Hbl : Hid (bl < W.heap.size) := hN.lt
  obtain ⟨E0, hE0⟩ : ∃ E0 : ByteArray, E0 = ⟨#[]⟩ := ⟨_, rfl⟩
  clear hXS hWS hn hwW hJw hJ hJx hY hS hW
  refine callsIn_of_wp_marks Tryd.func47 rfl trivial ?_ rfl
  simp only [Tryd.ntmps47, List.size_toArray, List.length_cons, List.length_nil, Nat.reduceAdd, Nat.reduceSub, Array.replicate_succ, Array.replicate_zero, List.push_toArray, List.append_toArray, List.nil_append, List.cons_append]
  have cba : ∀ o, (W.alloc o).cell? ⟨bl, 0, none⟩ = some (.string s) := fun o => (hN.keep (keeps_alloc W o)).cell
  gi_wp2_with (refine ⟨trivial, (fun h => by cases h), ?_⟩; gi_at_call 39; refine (callsIn_wide.2 (split39 _ s ⟨#[32]⟩)).mono ?_; rintro e w5 ⟨rfl, hsp, hsz, k5⟩)
  have y1 := ce_alloc W 45 (.func (.yield l) #[] #[])
  have k1 := keeps_alloc W (.cells #[.func (.yield l) #[] #[]] 45)
  have h1 : J [] (W.alloc (.cells #[.func (.yield l) #[] #[]] 45)) := HJ.out.alloc _ h0
  obtain ⟨W1, hW1⟩ : ∃ W1, W.alloc (.cells #[.func (.yield l) #[] #[]] 45) = W1 := ⟨_, rfl⟩
  have s1 : W1.heap.size = W.heap.size + 1 := by rw [← hW1]; simp
  rw [hW1] at hsp hsz k5 y1 k1 h1
  rw [s1] at hsp hsz
  try simp only [hW1, s1]
  have h5 : J [] w5 := HJ.out _ W1 w5 none h1 (grown_of_keeps k5) (fun r e => by cases e)
  have y5 := y1.keep k5
  have K5 : Keeps (fun _ => False) W w5 := k1.trans k5
  clear hW1 cba k1 k5 y1 h1 s1
  have s5 : w5.heap.size = W.heap.size + 4 := by omega
  have hseq := split57 (fun k => S k ∧ ¬ (W.heap.size ≤ k ∧ k < W.heap.size + 4)) w5 (W.heap.size + 1) (W.heap.size + 1 + 1) (W.heap.size + 1 + 2) s 32 hs hsp (by omega) (by omega) (fun h => by omega) (fun h => by omega) (fun h => by omega)
  rw [HXS.out] at hseq
  refine range_m (gf := 57) (lb := #[.pointer (some ⟨W.heap.size + 1 + 1, 0, none⟩), .pointer (some ⟨W.heap.size + 1, 0, none⟩), .pointer (some ⟨W.heap.size + 1 + 2, 0, none⟩)]) rfl (enters_of Tryd.func57 (by kernel_rfl) rfl) (bk := W.heap.size + 1) (by omega) hseq (fun h1 h2 => h1.trans h2) (fun V l o o' _ ho hc => KpX.putObj o' ho hc) (RowKit.Below.refl _ _) (fun _ => rfl)
    (fun pre V => J (pre.filter (· ≠ [])) V ∧ Ce V W.heap.size 45 (.func (.yield l) #[] #[]) ∧ W.heap.size + 4 ≤ V.heap.size)
    (fun c pre V => c = .ret ∧ ∃ pr x rest, WS = pr ++ x :: rest ∧ Jx (pr ++ [x]) V)
    ?hI ?hIw ?hIx ⟨h5, y5, by omega⟩
    (fun pre x a' V => (J (pre.filter (· ≠ [])) V ∧ Ce V W.heap.size 45 (.func (.yield l) #[] #[]) ∧ W.heap.size + 4 ≤ V.heap.size) ∧ a' = { tmps := #[.func (.yield l) #[] #[], .pointer (some ⟨bl, 0, none⟩), .pointer (some ⟨W.heap.size, 0, none⟩), .string (bs x), .string s, .func (.func 57) #[] #[.pointer (some ⟨W.heap.size + 1 + 1, 0, none⟩), .pointer (some ⟨W.heap.size + 1, 0, none⟩), .pointer (some ⟨W.heap.size + 1 + 2, 0, none⟩)], .string (bs x), undef, undef, undef, undef, undef, undef, undef, undef], defers := [] })
    ?hAx ?assign ?body ?done ?stop
  case hI =>
    rintro pre A B row ⟨h1, h2, h3⟩ hg hr
    exact ⟨HJ.out _ A B row h1 hg (fun r e => ⟨by have := (hr r e).1; omega, (hr r e).2⟩), ⟨own_cells hg hr h2.row⟩, Nat.le_trans h3 hg.size⟩
  case hIw =>
    rintro pre A u ⟨h1, h2, h3⟩
    exact ⟨HJw.out _ _ _ _ (by omega) (by omega) h1, h2.set_other (by omega) u, by simpa using h3⟩
  case hIx =>
    rintro c pre A B row ⟨h1, pr, x, rest, e, h2⟩ hg hr
    exact ⟨h1, pr, x, rest, e, HJx.out _ A B row h2 hg (fun r e => ⟨by have := (hr r e).1; omega, (hr r e).2⟩)⟩
  case hAx =>
    rintro pre x a' _ A B row ⟨⟨h1, h2, h3⟩, h4⟩ hg hr
    exact ⟨⟨HJ.out _ A B row h1 hg (fun r e => ⟨by have := (hr r e).1; omega, (hr r e).2⟩), ⟨own_cells hg hr h2.row⟩, Nat.le_trans h3 hg.size⟩, h4⟩
  case assign =>
    rintro l' pre x rest V K hx h1 hK'
    have HK : Hid (∀ a' W', _ → _ → _ → K a' W') := hK'
    clear hK' hx
    simp only [encW]
    gi_wp2
    have k0 := Keeps.refl (fun _ => False) V
    exact HK.out _ _ (k0.from (fun _ _ h => h.elim)) (k0.kpx (fun _ h => h.elim)) ⟨h1, rfl⟩
  case body =>
    rintro l' pre x rest a' V hl' hx ⟨⟨h1, h2, h3⟩, rfl⟩
    have cy := h2.cell
    obtain ⟨X, hX⟩ : ∃ X, bs x = X := ⟨_, rfl⟩
    have Hs := Hid.mk' (filt_snoc2 pre x)
    by_cases h0 : x = []
    · have t0 : (X.toList == E0.toList) = true := by rw [← hX, bs_eq (y := []) E0 (by rw [hE0]; rfl), h0]; rfl
      have Hs2 : Hid ((pre ++ [x]).filter (· ≠ []) = pre.filter (· ≠ [])) := by show _ = _; rw [Hs.out, if_pos h0, List.append_nil]
      rw [← hE0, hX]
      clear hx hE0 hX h0
      gi_wp2
      refine ⟨fun _ h => (by cases h), ?_⟩
      gi_wp2
      refine ⟨KeepsFrom.refl _ _, KpX.refl _ _, ?_, h2, h3⟩
      rw [Hs2.out]
      exact h1
    · have t0 : (X.toList == E0.toList) = false := by rw [← hX]; exact bs_ne h0 E0 hE0
      have Hs2 : Hid ((pre ++ [x]).filter (· ≠ []) = pre.filter (· ≠ []) ++ [x]) := by show _ = _; rw [Hs.out, if_neg h0]
      have Hx : Hid (WS = pre.filter (· ≠ []) ++ x :: rest.filter (· ≠ [])) := by show _ = _; rw [HWS.out, filt_mid hx h0]
      obtain ⟨fn, tmps, assign, body, hy, hRd⟩ := HY.out _ x _ V Hx.out h3 h1
      simp only [encW, hX] at hy
      rw [← hE0, hX]
      clear hx hE0 hX h0
      gi_wp2
      refine ⟨fun h => by (cases h), (round_any hRd).mono ?_⟩
      rintro e V3 ⟨hkf3, (⟨rfl, hJ3, hk3⟩ | ⟨rfl, hJx3⟩)⟩
      all_goals have hkf : KeepsFrom w5.heap.size V V3 := ⟨hkf3.size, fun k o hB hk ho => hkf3.same k o (by omega) hk ho⟩
      · gi_wp2
        refine ⟨hkf, hk3, ?_, h2.kpx hk3 (fun h => by omega), Nat.le_trans h3 hk3.1⟩
        rw [Hs2.out]
        exact hJ3
      · gi_wp2
        exact ⟨hkf, rfl, _, _, _, Hx.out, hJx3⟩
  case done =>
    rintro D V hD' ⟨h1, h2, h3⟩ hd
    rw [← HWS.out] at h1
    have H1 : Hid (J WS (V.putObj D (.deferred none))) := HJ.out.putObj _ h1 (by omega) hd rfl
    clear h1
    gi_wp2
    refine ⟨by simp, .inl ⟨_, _, rfl, run_takeDeferred hd, ?_⟩⟩
    exact ⟨_, results_none rfl _ _ _, ⟨_, rfl⟩, .inl H1.out⟩
  case stop =>
    rintro D c pre x rest V hD' hx ⟨rfl, pr, x1, rest1, e1, h1⟩ hd
    have H1 : Hid (∃ pr x rest, WS = pr ++ x :: rest ∧ Jx (pr ++ [x]) (V.putObj D (.deferred none))) := ⟨pr, x1, rest1, e1, HJx.out.putObj _ h1 (by omega) hd rfl⟩
    clear h1 hx e1
    gi_wp2
    refine ⟨by simp, .inl ⟨_, _, rfl, run_takeDeferred hd, ?_⟩⟩
    exact ⟨_, results_none rfl _ _ _, ⟨_, rfl⟩, .inr H1.out⟩

end Go.Proofs.YtkcnnkakpkdhkaaDoor
