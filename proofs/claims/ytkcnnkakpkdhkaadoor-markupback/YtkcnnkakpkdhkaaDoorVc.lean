
/-
  Cut and Words of the reference.
-/
import Derived.Test.YtkcnnkakpkdhkaaDoorVb
set_option linter.all false
namespace Go.Proofs.YtkcnnkakpkdhkaaDoor
open Go.RowKit Go.Sort Go.Shelf
attribute [local go_sem] Oper.semAt_some

theorem Hid.mk' {p : Prop} (h : p) : Hid p := h
theorem drop_split (l : List UInt8) {f i : Nat} (hf : f ≤ i) (hi : i < l.length) : l.drop f = (l.drop f).take (i - f) ++ l.getD i 0 :: l.drop (i + 1) := by
  have e : l.drop i = l.getD i 0 :: l.drop (i + 1) := by
    rw [List.drop_eq_getElem_cons hi, List.getD_eq_getElem?_getD, List.getElem?_eq_getElem hi]; rfl
  have e2 : (l.drop f).drop (i - f) = l.drop i := by rw [List.drop_drop]; congr 1; omega
  rw [← e, ← e2, List.take_append_drop]
theorem mid_no {l : List UInt8} {b : UInt8} {f i : Nat} (h : ∀ j, f ≤ j → j < i → l.getD j 0 ≠ b) (hf : f ≤ i) (hi : i ≤ l.length) : ∀ x ∈ (l.drop f).take (i - f), x ≠ b := by
  intro x hx
  obtain ⟨k, hk, e⟩ := List.getElem_of_mem hx
  rw [List.length_take, List.length_drop] at hk
  have := h (f + k) (by omega) (by omega)
  rw [List.getElem_take, List.getElem_drop] at e
  rw [List.getD_eq_getElem?_getD, List.getElem?_eq_getElem (by omega)] at this
  rw [← e]; exact this

/-- Where cut stands. -/
structure CutI (l : List UInt8) (b : UInt8) (B : Nat) (w0 : World) (L : List (List UInt8)) (f i : Nat) (v : Value) (w : World) : Prop where
  own : OwnT w B v L
  keep : Keeps (fun _ => False) w0 w
  size : B ≤ w.heap.size
  rest : cutL b l = L ++ (if f ≤ l.length then cutL b (l.drop f) else [])
  no : ∀ j, f ≤ j → j < i → l.getD j 0 ≠ b
  fi : f ≤ i
  le : L.length ≤ f
  ii : i ≤ l.length + 1
  last : i = l.length + 1 → f = l.length + 1

set_option maxRecDepth 100000 in
set_option maxHeartbeats 1000000 in
theorem cut23 (w : World) (s : ByteArray) (hs : s.size ≤ 90000) (b : UInt8) :
    Calls Tryd.prog 28 #[.string s, .int .u8 b.toNat] w fun e w' => (∃ v, e = .returned v ∧ OwnT w' w.heap.size v (cutL b s.data.toList)) ∧ Keeps (fun _ => False) w w' := by
  obtain ⟨l, hl⟩ : ∃ l, s.data.toList = l := ⟨_, rfl⟩
  have HL : Hid (s.data.toList = l) := hl
  have HZ : Hid (l.length = s.size) := by show _ = _; rw [← hl, sz_len]
  rw [hl]
  clear hl
  obtain ⟨B, hB⟩ : ∃ B, w.heap.size = B := ⟨_, rfl⟩
  rw [hB]
  go_enter Tryd.func28, Tryd.ntmps28
  go_wp2
  go_loopw [5, 6, 7] (fun v t u wr => ∃ (L : List (List UInt8)) (f i : Nat), t = .int .i64 (f : Int) ∧ u = .int .i64 (i : Int) ∧ CutI l b B w L f i v wr) (fun _ _ u _ => s.size + 1 - (intOf u).toNat)
  case atStart => exact ⟨[], 0, 0, rfl, rfl, ⟨OwnT.nil _ _, Keeps.refl _ _, by omega, by simp, fun j _ h => by omega, by omega, by simp, by omega, fun h => by omega⟩⟩
  case round =>
    obtain ⟨L, f, i, rfl, rfl, hI⟩ := hrel
    have HI : Hid (CutI l b B w L f i _ wr) := hI
    have hfi := hI.fi
    have hii := hI.ii
    have hLf := hI.le
    rw [HZ.out] at hii
    by_cases h1 : i ≤ s.size
    · have h1' : (i : Int) ≤ (s.size : Int) := by omega
      have hf0 : (0 : Int) ≤ (f : Int) := by omega
      have hf1 : (f : Int) ≤ (i : Int) := by omega
      obtain ⟨X, hX⟩ : ∃ X, s.extract f i = X := ⟨_, rfl⟩
      have HX : Hid (X = bs ((l.drop f).take (i - f))) := by show _ = _; rw [← hX, ext_mid s f i (by omega) (by omega), HL.out]
      have oL := hI.own
      have zB := hI.size
      -- what is behind a cut
      have Hcut : Hid (∀ (v' : Value) (w' : World), (i = s.size ∨ l.getD i 0 = b) → OwnT w' B v' (L ++ [(l.drop f).take (i - f)]) → Keeps (fun k => B ≤ k) wr w' → CutI l b B w (L ++ [(l.drop f).take (i - f)]) (i + 1) (i + 1) v' w') := by
        intro v' w' hc ho kk
        refine ⟨ho, HI.out.keep.trans' kk (fun k hk => .inr (by omega)), by have := kk.size; omega, ?_, fun j h1 h2 => by omega, by omega, by simp; omega, by rw [HZ.out]; omega, fun e => e⟩
        have hr := HI.out.rest
        rw [if_pos (by rw [HZ.out]; omega)] at hr
        rw [hr, List.append_assoc]
        congr 1
        have hm := mid_no HI.out.no (by omega) (by rw [HZ.out]; omega)
        by_cases hi : i = s.size
        · have e : (l.drop f).take (i - f) = l.drop f := List.take_of_length_le (by rw [List.length_drop, HZ.out]; omega)
          rw [e] at hm ⊢
          rw [cutL_none hm, if_neg (by rw [HZ.out]; omega)]
          rfl
        · have hb := hc.resolve_left hi
          rw [if_pos (by rw [HZ.out]; omega)]
          have e := drop_split l (f := f) (i := i) (by omega) (by rw [HZ.out]; omega)
          rw [hb] at e
          conv => lhs; rw [e]
          rw [cutL_at _ hm]
          rfl
      by_cases h2 : i = s.size
      · subst h2
        have h2' : ((s.size : Int) == (s.size : Int)) = true := by simp
        clear hI hii
        go_wp2_with (first
          | (refine wpList_build1T rfl _ rfl ((l.drop f).take (s.size - f)) (by rw [← HX.out]; rfl) ?_; intro g w2 b2 z2 k2; have o2 := oL.keeps k2 (fun _ _ h => h.elim))
          | (refine wpList_appT rfl _ _ rfl B _ L rfl o2 g rfl _ b2 (by omega) (by have := k2.size; omega) ?_; intro v3 w3 o3 k3))
        refine ⟨⟨_, s.size + 1, s.size + 1, rfl, rfl, Hcut.out v3 w3 (.inl rfl) o3 ((k2.mono (fun _ _ h => h.elim)).trans (k3.mono (fun k _ e => (OwnT.from o2 e).1)))⟩, by simp [intOf]⟩
      · have h2' : ((i : Int) == (s.size : Int)) = false := by simp; omega
        have hlt : i < s.size := by omega
        have hi0 : (0 : Int) ≤ (i : Int) := by omega
        have hlt' : (i : Int) < (s.size : Int) := by omega
        obtain ⟨y, hy⟩ : ∃ y : UInt8, s[i]'hlt = y := ⟨_, rfl⟩
        have Hy : Hid (l.getD i 0 = y) := by show _ = _; rw [← hy, s_get s i hlt, HL.out]
        by_cases h3 : y = b
        · have h3' : ((y.toNat : Int) == (b.toNat : Int)) = true := by simp [h3]
          have H3 : Hid (y = b) := h3
          clear hI h3
          go_wp2_with (first
            | (refine wpList_build1T rfl _ rfl ((l.drop f).take (i - f)) (by rw [← HX.out]; rfl) ?_; intro g w2 b2 z2 k2; have o2 := oL.keeps k2 (fun _ _ h => h.elim))
            | (refine wpList_appT rfl _ _ rfl B _ L rfl o2 g rfl _ b2 (by omega) (by have := k2.size; omega) ?_; intro v3 w3 o3 k3))
          refine ⟨⟨_, i + 1, i + 1, rfl, rfl, Hcut.out v3 w3 (.inr (by rw [Hy.out]; exact H3.out)) o3 ((k2.mono (fun _ _ h => h.elim)).trans (k3.mono (fun k _ e => (OwnT.from o2 e).1)))⟩, by simp [intOf]; omega⟩
        · have h3' : ((y.toNat : Int) == (b.toNat : Int)) = false := by
            simp; exact fun e => h3 (UInt8.toNat_inj.1 (by omega))
          have H3 : Hid (y ≠ b) := h3
          clear hI h3 Hcut
          go_wp2
          refine ⟨⟨L, f, i + 1, rfl, rfl, ⟨HI.out.own, HI.out.keep, HI.out.size, HI.out.rest, fun j hj1 hj2 => ?_, by omega, HI.out.le, by rw [HZ.out]; omega, fun e => by rw [HZ.out] at e; omega⟩⟩, by simp [intOf]; omega⟩
          by_cases e : j = i
          · subst e; rw [Hy.out]; exact H3.out
          · exact HI.out.no j hj1 (by omega)
    · have h1' : ¬ (i : Int) ≤ (s.size : Int) := by omega
      have hend : i = l.length + 1 := by rw [HZ.out]; omega
      have hf := hI.last hend
      have hr := hI.rest
      rw [if_neg (by omega), List.append_nil] at hr
      have ho := hI.own
      rw [← hr] at ho
      have HO := Hid.mk' ho
      clear ho hr
      have HK : Hid (Keeps (fun _ => False) w wr) := hI.keep
      clear hI hf hend
      go_wp2
      go_ret
      exact ⟨⟨_, rfl, HO.out⟩, HK.out⟩

theorem OwnT.down {W : World} {base b' : Nat} {v : Value} {l : List (List UInt8)} (h : OwnT W base v l) (hb : b' ≤ base) : OwnT W b' v l := by
  obtain ⟨h1, h2⟩ := h.owns
  refine ⟨⟨h1, ?_⟩⟩
  rcases h2 with h2 | ⟨g, cap, cur, rfl, hb2, rest⟩
  · exact .inl h2
  · exact .inr ⟨g, cap, cur, rfl, by omega, rest⟩
theorem take_snocT {l : List (List UInt8)} {i : Nat} (hi : i < l.length) : l.take (i + 1) = l.take i ++ [l.getD i []] := by
  rw [List.take_succ, List.getD_eq_getElem?_getD, List.getElem?_eq_getElem hi]; rfl
theorem filt_snoc {l : List (List UInt8)} {i : Nat} (hi : i < l.length) : (l.take (i + 1)).filter (· ≠ []) = (l.take i).filter (· ≠ []) ++ (if l.getD i [] = [] then [] else [l.getD i []]) := by
  rw [take_snocT hi, List.filter_append]
  congr 1
  by_cases h : l.getD i [] = []
  · rw [if_pos h, h]; rfl
  · rw [if_neg h, List.filter_cons_of_pos (by simpa using h), List.filter_nil]
theorem bs_ne {x : List UInt8} (h : x ≠ []) (E : ByteArray) (hE : E = ⟨#[]⟩) : ((bs x).toList == E.toList) = false := by
  rw [hE, beq_eq_false_iff_ne, ne_eq, ByteArray.toList_eq, ByteArray.toList_eq, bs_data]
  exact h
theorem bs_eq {x y : List UInt8} (E : ByteArray) (hE : E = bs y) : ((bs x).toList == E.toList) = decide (x = y) := by
  rw [hE, ByteArray.toList_eq, ByteArray.toList_eq, bs_data, bs_data]
  by_cases h : x = y <;> simp [h]

set_option maxRecDepth 100000 in
set_option maxHeartbeats 1000000 in
theorem words20 (w : World) (s : ByteArray) (hs : s.size ≤ 90000) :
    Calls Tryd.prog 20 #[.string s] w fun e w' => (∃ v, e = .returned v ∧ OwnT w' w.heap.size v (wds s.data.toList)) ∧ Keeps (fun _ => False) w w' := by
  obtain ⟨l, hl⟩ : ∃ l, s.data.toList = l := ⟨_, rfl⟩
  have HZ : Hid (l.length = s.size) := by show _ = _; rw [← hl, sz_len]
  have hq := cut23 w s hs 32
  rw [hl] at hq ⊢
  clear hl
  obtain ⟨C, hC⟩ : ∃ C, cutL 32 l = C := ⟨_, rfl⟩
  have HC : Hid (wds l = C.filter (· ≠ [])) := by show _ = _; rw [← hC]; rfl
  have HN : Hid (C.length ≤ 90001) := by show _ ≤ _; rw [← hC]; have := (cutL_len 32 l).1; have := HZ.out; omega
  rw [hC] at hq
  obtain ⟨E0, hE0⟩ : ∃ E0 : ByteArray, E0 = ⟨#[]⟩ := ⟨_, rfl⟩
  clear hC
  go_enter Tryd.func20, Tryd.ntmps20
  rw [← hE0]
  go_wp2_with (go_at_call 28; refine hq.mono ?_; rintro e w1 ⟨⟨v1, rfl, o1⟩, k1⟩; obtain ⟨a, c, rfl, s1, hb⟩ := o1.slice)
  obtain ⟨n, hn⟩ : ∃ n, C.length = n := ⟨_, rfl⟩
  have hn9 : n ≤ 90001 := by rw [← hn]; exact HN.out
  have HCn : Hid (C.length = n) := hn
  rw [hn] at s1 ⊢
  clear hn
  have HS : Hid (SlT w1 a n c C) := s1
  obtain ⟨B, hB⟩ : ∃ B, w1.heap.size = B := ⟨_, rfl⟩
  have HK1 : Hid (Keeps (fun _ => False) w w1) := k1
  have HwB : Hid (w.heap.size ≤ B) := by show _ ≤ _; rw [← hB]; exact k1.size
  have HBB : Hid (w1.heap.size = B) := hB
  have o0 : OwnT w1 B (.slice none 0 0) [] := OwnT.nil _ _
  have hkk : Keeps (fun k => B ≤ k) w1 w1 := Keeps.refl _ _
  clear hB s1 k1 o1 hb
  go_wp2
  go_loopw [3, 5] (fun v t wr => ∃ i : Nat, t = .int .i64 (i : Int) ∧ i ≤ n ∧ OwnT wr B v ((C.take i).filter (· ≠ [])) ∧ Keeps (fun k => B ≤ k) w1 wr) (fun _ t _ => n - (intOf t).toNat)
  case atStart => exact ⟨0, rfl, by omega, by simpa using o0, hkk⟩
  case round =>
    clear o0 hkk
    obtain ⟨i, rfl, hi, ho, hk⟩ := hrel
    have hl : ((C.take i).filter (· ≠ [])).length ≤ 90001 := by
      have h1 := List.length_filter_le (· ≠ []) (C.take i)
      have h2 : (C.take i).length ≤ i := by simp; omega
      omega
    by_cases hlt : i < n
    · have hlt' : (i : Int) < (n : Int) := by omega
      have hi0 : (0 : Int) ≤ (i : Int) := by omega
      have hS : SlT wr a n c C := HS.out.keeps hk (fun h0 b o e => by
        obtain ⟨b', o', e', hlt, _⟩ := HS.out.ent h0
        rw [e] at e'; cases e'
        have := HBB.out
        omega)
      obtain ⟨b, o, rfl, hbl, hce⟩ := hS.ent2 hlt
      obtain ⟨y, hy⟩ : ∃ y, C.getD i [] = y := ⟨_, rfl⟩
      have HF : Hid ((C.take (i + 1)).filter (· ≠ []) = (C.take i).filter (· ≠ []) ++ (if y = [] then [] else [y])) := by
        show _ = _; rw [filt_snoc (by rw [HCn.out]; exact hlt), hy]
      rw [hy] at hce
      obtain ⟨X, hX⟩ : ∃ X, bs y = X := ⟨_, rfl⟩
      have HX : Hid (bs y = X) := hX
      rw [hX] at hce
      clear hy hS
      by_cases h0 : y = []
      · have he : (X.toList == E0.toList) = true := by rw [← HX.out, bs_eq (y := []) E0 (by rw [hE0]; rfl), h0]; rfl
        have HF2 : Hid ((C.take (i + 1)).filter (· ≠ []) = (C.take i).filter (· ≠ [])) := by
          show _ = _; rw [HF.out, if_pos h0, List.append_nil]
        clear h0 hE0 hX
        go_wp2
        exact ⟨⟨i + 1, rfl, by omega, by rw [HF2.out]; exact ho, hk⟩, by simp [intOf]; omega⟩
      · have he : (X.toList == E0.toList) = false := by rw [← HX.out]; exact bs_ne h0 E0 hE0
        have HF2 : Hid ((C.take (i + 1)).filter (· ≠ []) = (C.take i).filter (· ≠ []) ++ [y]) := by
          show _ = _; rw [HF.out, if_neg h0]
        clear h0 hE0 hX
        go_wp2_with (first
          | (refine wpList_build1T rfl _ rfl y (by rw [HX.out]; rfl) ?_; intro g w2 b2 z2 k2; have o2 := ho.keeps k2 (fun _ _ h => h.elim))
          | (refine wpList_appT rfl _ _ rfl B _ _ rfl o2 g rfl _ b2 (by omega) (by have := k2.size; have := hk.size; have := HBB.out; omega) ?_; intro v3 w3 o3 k3))
        refine ⟨⟨i + 1, rfl, by omega, by rw [HF2.out]; exact o3, (hk.trans (k2.mono (fun _ _ h => h.elim))).trans (k3.mono (fun k _ e => (OwnT.from o2 e).1))⟩, by simp [intOf]; omega⟩
    · obtain rfl : i = n := by omega
      have hlt' : ¬ (i : Int) < (i : Int) := by omega
      rw [List.take_of_length_le (by rw [HCn.out]; exact Nat.le_refl _), ← HC.out] at ho
      have HO := Hid.mk' ho
      have HK : Hid (Keeps (fun k => B ≤ k) w1 wr) := hk
      clear ho hk hlt hl hE0 hi
      go_wp2
      go_ret
      exact ⟨⟨_, rfl, HO.out.down HwB.out⟩, HK1.out.trans' HK.out (fun k hk => .inr (by have := HwB.out; omega))⟩

end Go.Proofs.YtkcnnkakpkdhkaaDoor
