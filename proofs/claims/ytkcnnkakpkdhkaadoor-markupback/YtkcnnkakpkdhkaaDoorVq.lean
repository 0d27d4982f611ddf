
/-
  Parse of the reference.
-/
import Derived.Test.YtkcnnkakpkdhkaaDoorVp
set_option linter.all false
set_option maxRecDepth 100000
namespace Go.Proofs.YtkcnnkakpkdhkaaDoor
open Go.RowKit Go.Sort Go.Shelf
attribute [local go_sem] Oper.semAt_some

theorem drop_cons {C : List (List UInt8)} {i : Nat} (hi : i < C.length) : C.drop i = C.getD i [] :: C.drop (i + 1) := by
  rw [List.drop_eq_getElem_cons hi, List.getD_eq_getElem?_getD, List.getElem?_eq_getElem hi]; rfl
theorem linesP_step {C : List (List UInt8)} {i : Nat} {st st' : List Pt × Bool} (hi : i < C.length) (h : stepP st (C.getD i []) = some st') : linesP (C.drop i) st = linesP (C.drop (i + 1)) st' := by
  rw [drop_cons hi]; show (match stepP st (C.getD i []) with | none => none | some st' => linesP (C.drop (i + 1)) st') = _; rw [h]
theorem linesP_none {C : List (List UInt8)} {i : Nat} {st : List Pt × Bool} (hi : i < C.length) (h : stepP st (C.getD i []) = none) : linesP (C.drop i) st = none := by
  rw [drop_cons hi]; show (match stepP st (C.getD i []) with | none => none | some st' => linesP (C.drop (i + 1)) st') = _; rw [h]

/-- Where Parse stands. -/
structure ParI (C : List (List UInt8)) (B : Nat) (w1 : World) (st : List Pt × Bool) (i : Nat) (v : Value) (wr : World) : Prop where
  out : ∃ l, OwnP wr B v l ∧ AllW wr l st.1
  keep : Keeps (fun k => B ≤ k) w1 wr
  rest : linesP C ([], false) = linesP (C.drop i) st
  len : st.1.length ≤ i
  op : st.2 = true → st.1 ≠ []
  wl : ∀ p ∈ st.1, p.2.length ≤ 241 * i
theorem ParI.snoc {C : List (List UInt8)} {B : Nat} {w1 wr w' : World} {st : List Pt × Bool} {i : Nat} {v v' : Value} (h : ParI C B w1 st i v wr) (hB : w1.heap.size = B) (hi : i < C.length) {l : List (Int × Value)} {k : Int} {u : Value} {ws : List (List UInt8)} {b : Bool}
    (ho : OwnP w' B v' (l ++ [(k, u)])) (ha : AllW w' l st.1) (hu : Wd w' u ws) (hw : ws.length ≤ 241) (hk : Keeps (fun k => B ≤ k) wr w') (hst : stepP st (C.getD i []) = some (st.1 ++ [(k, ws)], b)) : ParI C B w1 (st.1 ++ [(k, ws)], b) (i + 1) v' w' :=
  ⟨⟨_, ho, ha.snoc hu⟩, h.keep.trans hk, by rw [h.rest, linesP_step hi hst], by have := h.len; simp; omega, fun _ => by simp, fun p hp => by
    rcases List.mem_append.1 hp with hp | hp
    · have := h.wl p hp; omega
    · obtain rfl : p = (k, ws) := by simpa using hp
      show ws.length ≤ _; omega⟩

set_option maxHeartbeats 8000000 in
theorem rparse_core (w : World) (s : ByteArray) (hs : s.size ≤ 240) (hp : pln true s.data.toList = true) :
    Calls Tryd.prog 11 #[.string s] w fun e w' => (∃ v, e = .returned (.tuple #[v, .int .i64 (parseL s.data.toList).2]) ∧ ∃ l, OwnP w' w.heap.size v l ∧ AllW w' l (parseL s.data.toList).1) ∧ Keeps (fun _ => False) w w' := by
  have hq1 := plain22 w s (by omega) true
  rw [hp] at hq1
  have hq2 := fun W => cut23 W s (by omega) 10
  have hqw := fun W X hX => words20 W X hX
  obtain ⟨C, hC⟩ : ∃ C, cutL 10 s.data.toList = C := ⟨_, rfl⟩
  have hCl : C.length ≤ 241 ∧ ∀ x ∈ C, x.length ≤ 240 := by
    have h := cutL_len 10 s.data.toList
    rw [hC, sz_len] at h
    exact ⟨by omega, fun x hx => by have := h.2 x hx; omega⟩
  have HC : Hid (C.length ≤ 241 ∧ ∀ x ∈ C, x.length ≤ 240) := hCl
  obtain ⟨PR, hPR⟩ : ∃ PR, parseL s.data.toList = PR := ⟨_, rfl⟩
  have HP : Hid (PR = resP (linesP C ([], false))) := by
    show _ = _
    rw [← hPR]; unfold parseL
    rw [if_neg (by rw [sz_len]; omega), if_neg (by rw [hp]; simp), hC]
  rw [hC] at hq2
  rw [hPR]
  obtain ⟨E1, hE1⟩ : ∃ E : ByteArray, E = ⟨#[61, 32]⟩ := ⟨_, rfl⟩
  obtain ⟨E2, hE2⟩ : ∃ E : ByteArray, E = ⟨#[45, 32]⟩ := ⟨_, rfl⟩
  obtain ⟨E3, hE3⟩ : ∃ E : ByteArray, E = ⟨#[45, 45, 45]⟩ := ⟨_, rfl⟩
  have g1 : ¬ (240 : Int) < (s.size : Int) := by omega
  have HE1 : Hid (E1 = bs [61, 32]) := by show _ = _; rw [hE1]; rfl
  have HE2 : Hid (E2 = bs [45, 32]) := by show _ = _; rw [hE2]; rfl
  have HE3 : Hid (E3 = bs [45, 45, 45]) := by show _ = _; rw [hE3]; rfl
  clear hC hPR hCl hp hs
  go_enter Tryd.func11, Tryd.ntmps11
  rw [← hE1, ← hE2, ← hE3]
  clear hE1 hE2 hE3
  go_wp2_with (first
    | (go_at_call 27; refine hq1.mono ?_; rintro e w1 ⟨rfl, k1⟩)
    | (go_at_call 28; refine (hq2 _).mono ?_; rintro e w2 ⟨⟨v2, rfl, o2⟩, k2⟩; have K2 := k1.trans k2; obtain ⟨a, c, rfl, s2, _⟩ := o2.slice))
  obtain ⟨n, hn⟩ : ∃ n, C.length = n := ⟨_, rfl⟩
  have hn9 : n ≤ 241 := by rw [← hn]; exact HC.out.1
  have HCn : Hid (C.length = n) := hn
  rw [hn] at s2 ⊢
  obtain ⟨B, hB⟩ : ∃ B, w2.heap.size = B := ⟨_, rfl⟩
  have HB : Hid (w2.heap.size = B) := hB
  have HS : Hid (SlT w2 a n c C) := s2
  have HK : Hid (Keeps (fun _ => False) w w2) := K2
  have o0 : ParI C B w2 ([], false) 0 (.slice none 0 0) w2 := ⟨⟨[], OwnP.nil _ _, AllW.nil _⟩, Keeps.refl _ _, rfl, by simp, (fun h => by cases h), (fun p hp => by cases hp)⟩
  clear hn hB s2 o2 k1 k2 K2
  go_loopw [4, 5, 7] (fun v b t wr => ∃ (i : Nat) (st : List Pt × Bool), t = .int .i64 (i : Int) ∧ i ≤ n ∧ b = .bool st.2 ∧ ParI C B w2 st i v wr) (fun _ _ t _ => n - (intOf t).toNat)
  case atStart => exact ⟨0, ([], false), rfl, by omega, rfl, o0⟩
  case round =>
    clear o0 hq1 hq2
    obtain ⟨i, st, rfl, hi, rfl, hI⟩ := hrel
    have HI := Hid.mk' hI
    obtain ⟨P, ob⟩ := st
    by_cases hlt : i < n
    · have hlt' : (i : Int) < (n : Int) := by omega
      have hi0 : (0 : Int) ≤ (i : Int) := by omega
      have HiC : Hid (i < C.length) := by show _ < _; rw [HCn.out]; exact hlt
      have hS : SlT wr a n c C := HS.out.keeps hI.keep (fun h0 b o e => by
        obtain ⟨b', o', e', hlt, _⟩ := HS.out.ent h0
        rw [e] at e'; cases e'
        have := HB.out
        omega)
      obtain ⟨bb, oo, rfl, hbl, hce⟩ := hS.ent2 hlt
      obtain ⟨x, hx⟩ : ∃ x, C.getD i [] = x := ⟨_, rfl⟩
      rw [hx] at hce
      have Hx : Hid (C.getD i [] = x) := hx
      have hxl : x.length ≤ 240 := by
        rw [← hx, List.getD_eq_getElem?_getD, List.getElem?_eq_getElem HiC.out]
        exact HC.out.2 _ (List.getElem_mem _)
      obtain ⟨X, hX⟩ : ∃ X, bs x = X := ⟨_, rfl⟩
      have HX : Hid (bs x = X) := hX
      have HXl : Hid (X.data.toList = x) := by show _ = _; rw [← hX, bs_data]
      have hXs : X.size = x.length := by rw [← sz_len, HXl.out]
      rw [hX] at hce
      obtain ⟨ws, hws⟩ : ∃ ws, wds x = ws := ⟨_, rfl⟩
      have Hws : Hid (wds x = ws) := hws
      have hwl : ws.length ≤ 241 := by rw [← hws]; have := wds_len x; omega
      have hqx := fun W => hqw W X (by omega)
      rw [HXl.out, hws] at hqx
      obtain ⟨l, hol, hal⟩ := hI.out
      have HLp : Hid (l.length = P.length) := hal.len
      have hll : l.length ≤ 241 := by have h1 : P.length ≤ i := hI.len; have h2 := HLp.out; omega
      clear hx hX hws hS hqw hI
      go_wp2_with fail
      refine region_plan (S := fun w' => ∃ q : Regrown, w' = grow (redrawn wr q.d) q.os) [([0, 1, 2, 3, 4, 5, 6, 7], 8)] [9, 10] (by kernel_rfl) (by kernel_rfl) (by kernel_rfl) (by kernel_rfl) (cls_keeps ((Keeps.refl _ _).drew)) ?_
      simp only [wpPlan, opsAt, pick]
      have hdr : ∀ d os, (grow (redrawn wr d) os).cell? ⟨bb, oo + i, none⟩ = some (.string X) := fun d os => cell_keeps (keeps_cls ⟨⟨d, os⟩, rfl⟩) hce (fun h => h)
      repeat (go_big_quiet_step (fail))
      refine wpQuiet_nil ?_
      go_wp2_with (go_at_call 20; refine (hqx _).mono ?_; rintro e w3 ⟨⟨v3, rfl, o3⟩, k3⟩; have HW := Hid.mk' o3.wd; obtain ⟨a9, c9, rfl, s9, z9, _⟩ := o3.slice2)
      have K3 : Keeps (fun _ => False) wr w3 := ((Keeps.refl _ _).drew).trans k3
      refine ⟨cls_keeps K3, ?_⟩
      simp only [wpPlan, opsAt, pick]
      repeat (go_big_quiet_step (fail))
      refine wpQuiet_nil ?_
      refine NoPanic.normal ?_
      obtain ⟨n9, hn9'⟩ : ∃ n9, ws.length = n9 := ⟨_, rfl⟩
      have Hn9 : Hid (ws.length = n9) := hn9'
      rw [hn9'] at s9 hwl HW ⊢
      have hol3 := hol.keep K3
      have hal3 := hal.keep K3
      have HK3 := Hid.mk' K3
      have hz3 : B ≤ w3.heap.size := by have h1 := HI.out.keep.size; have h2 := HB.out; have h3 := K3.size; omega
      obtain ⟨Y, hY⟩ : ∃ Y, X.extract 0 2 = Y := ⟨_, rfl⟩
      clear hce hdr hol hal k3 hn9' o3 hbl K3
      have HE : Hid (∀ e : ByteArray, ∀ y : List UInt8, e = bs y → (X.toList == e.toList) = decide (x = y)) := fun e y he => by rw [← HX.out]; exact bs_eq e he
      have HY : Hid (2 ≤ x.length → ∀ e : ByteArray, ∀ y : List UInt8, e = bs y → (Y.toList == e.toList) = decide (x.take 2 = y)) := fun h2 e y he => by
        rw [← hY, ext_mid X 0 2 (by omega) (by omega), HXl.out]; exact bs_eq e he
      by_cases hA : x = [45, 45, 45]
      · subst hA
        have hE3 : (X.toList == E3.toList) = true := by rw [HE.out _ _ HE3.out]; rfl
        have hY1 : (Y.toList == E1.toList) = false := by rw [HY.out (by decide) _ _ HE1.out]; rfl
        have hY2 : (Y.toList == E2.toList) = false := by rw [HY.out (by decide) _ _ HE2.out]; rfl
        have hX2 : (2 : Int) ≤ (X.size : Int) := by rw [hXs]; decide
        have hX2' : 2 ≤ X.size := by rw [hXs]; decide
        have Hst : Hid (stepP (P, ob) [45, 45, 45] = some (P ++ [(4, [])], false)) := rfl
        clear hXs hxl
        go_wp2_with (first
          | (refine wpList_bPk rfl _ rfl 4 rfl ?_)
          | (refine wpList_build1P rfl _ rfl 4 none 0 0 rfl ?_; intro g w4 r4 z4 k4; have o4 := hol3.keep k4)
          | (refine wpList_appP rfl _ _ rfl B _ _ rfl o4 g rfl 4 none 0 0 r4 (by omega) (by have := k4.size; omega) ?_; intro v5 w5 o5 k5))
        have hal4 := hal3.keep k4
        have wd4 := (Wd.nil w3).keep k4
        have hal5 := hal4.keeps k5 o4.no9
        have wd5 := wd4.keeps k5 o4.no9
        have KK : Keeps (fun k => B ≤ k) wr w5 := ((HK3.out.mono (fun _ _ h => h.elim)).trans (k4.mono (fun _ _ h => h.elim))).trans (k5.mono (fun k _ e => (o4.from e).1))
        refine ⟨⟨i + 1, _, rfl, by omega, rfl, HI.out.snoc HB.out HiC.out o5 hal5 wd5 (by simp) KK (by rw [Hx.out]; exact Hst.out)⟩, by simp [intOf]; omega⟩
      · have hE3 : (X.toList == E3.toList) = false := by rw [HE.out _ _ HE3.out, decide_eq_false hA]
        by_cases h2 : 2 ≤ x.length
        · have hX2 : (2 : Int) ≤ (X.size : Int) := by omega
          have hX2' : 2 ≤ X.size := by omega
          by_cases hb1 : x.take 2 = [61, 32]
          · have hY1 : (Y.toList == E1.toList) = true := by rw [HY.out h2 _ _ HE1.out, decide_eq_true hb1]
            have hY2 : (Y.toList == E2.toList) = false := by rw [HY.out h2 _ _ HE2.out, decide_eq_false (by rw [hb1]; decide)]
            have Hm : Hid (isMk x = true) := decide_eq_true (.inl hb1)
            have h0 : 0 < X.size := by omega
            obtain ⟨y, hy⟩ : ∃ y : UInt8, X[0]'h0 = y := ⟨_, rfl⟩
            have Hy : Hid (x.getD 0 0 = 61) := by
              show _ = _
              have : (x.take 2).getD 0 0 = 61 := by rw [hb1]; rfl
              rw [← this]; cases x with
              | nil => simp at h2
              | cons u r => simp
            have hy45 : ((y.toNat : Int) == (45 : Int)) = false := by
              have : y = 61 := by rw [← hy, s_get X 0 h0, HXl.out, Hy.out]
              rw [this]; rfl
            have Hk : Hid ((if x.getD 0 0 = 45 then (3 : Int) else 2) = 2) := by show _ = _; rw [Hy.out]; rfl
            by_cases hw : ws.length < 2
            · have hw' : (n9 : Int) < (2 : Int) := by have := Hn9.out; omega
              have HR : Hid (PR = ([], 15)) := by
                show _ = _
                rw [HP.out, HI.out.rest, linesP_none HiC.out]
                · rfl
                · rw [Hx.out]; unfold stepP; rw [if_neg hA, if_pos Hm.out, if_pos (by rw [Hws.out]; exact hw)]
              have HKK := Hid.mk' HI.out.keep
              clear hA hxl hw h2 hb1 hXs 
              go_wp2
              go_ret2
              rw [HR.out]
              exact ⟨⟨_, rfl, [], OwnP.nil _ _, AllW.nil _⟩, HK.out.trans' (HKK.out.trans (HK3.out.mono (fun _ _ h => h.elim))) (fun k hk => .inr (by have h1 := HK.out.size; have h2 := HB.out; omega))⟩
            · have hw' : ¬ (n9 : Int) < (2 : Int) := by have := Hn9.out; omega
              have hw1 : 1 ≤ n9 := by have := Hn9.out; omega
              obtain ⟨b9, o9, rfl, _⟩ := s9.ent (by omega)
              have WT := HW.out.tail hw1
              have hcap := s9.cap
              have Hst : Hid (stepP (P, ob) x = some (P ++ [(2, ws.tail)], false)) := by
                show _ = _
                unfold stepP; rw [if_neg hA, if_pos Hm.out, if_neg (by rw [Hws.out]; exact hw), Hk.out, Hws.out]
              clear hA hxl hw h2 hb1 hXs 
              go_wp2_with (first
                | (refine wpList_bP rfl _ _ rfl 2 (some ⟨b9, o9 + 1, none⟩) (n9 - 1) (c9 - 1) rfl rfl ?_)
                | (refine wpList_build1P rfl _ rfl 2 _ _ _ rfl ?_; intro g w4 r4 z4 k4; have o4 := hol3.keep k4)
                | (refine wpList_appP rfl _ _ rfl B _ _ rfl o4 g rfl 2 _ _ _ r4 (by omega) (by have := k4.size; omega) ?_; intro v5 w5 o5 k5))
              have hal4 := hal3.keep k4
              have wd4 := WT.keep k4
              have hal5 := hal4.keeps k5 o4.no9
              have wd5 := wd4.keeps k5 o4.no9
              have KK : Keeps (fun k => B ≤ k) wr w5 := ((HK3.out.mono (fun _ _ h => h.elim)).trans (k4.mono (fun _ _ h => h.elim))).trans (k5.mono (fun k _ e => (o4.from e).1))
              refine ⟨⟨i + 1, _, rfl, by omega, rfl, HI.out.snoc HB.out HiC.out o5 hal5 wd5 (by have := Hn9.out; rw [List.length_tail]; omega) KK (by rw [Hx.out]; exact Hst.out)⟩, by simp [intOf]; omega⟩
          · have hY1 : (Y.toList == E1.toList) = false := by rw [HY.out h2 _ _ HE1.out, decide_eq_false hb1]
            by_cases hb2 : x.take 2 = [45, 32]
            · have hY2 : (Y.toList == E2.toList) = true := by rw [HY.out h2 _ _ HE2.out, decide_eq_true hb2]
              have Hm : Hid (isMk x = true) := decide_eq_true (.inr hb2)
              have h0 : 0 < X.size := by omega
              obtain ⟨y, hy⟩ : ∃ y : UInt8, X[0]'h0 = y := ⟨_, rfl⟩
              have Hy : Hid (x.getD 0 0 = 45) := by
                show _ = _
                have : (x.take 2).getD 0 0 = 45 := by rw [hb2]; rfl
                rw [← this]; cases x with
                | nil => simp at h2
                | cons u r => simp
              have hy45 : ((y.toNat : Int) == (45 : Int)) = true := by
                have : y = 45 := by rw [← hy, s_get X 0 h0, HXl.out, Hy.out]
                rw [this]; rfl
              have Hk : Hid ((if x.getD 0 0 = 45 then (3 : Int) else 2) = 3) := by show _ = _; rw [Hy.out]; rfl
              by_cases hw : ws.length < 2
              · have hw' : (n9 : Int) < (2 : Int) := by have := Hn9.out; omega
                have HR : Hid (PR = ([], 15)) := by
                  show _ = _
                  rw [HP.out, HI.out.rest, linesP_none HiC.out]
                  · rfl
                  · rw [Hx.out]; unfold stepP; rw [if_neg hA, if_pos Hm.out, if_pos (by rw [Hws.out]; exact hw)]
                have HKK := Hid.mk' HI.out.keep
                clear hA hxl hw h2 hb1 hXs 
                go_wp2
                go_ret2
                rw [HR.out]
                exact ⟨⟨_, rfl, [], OwnP.nil _ _, AllW.nil _⟩, HK.out.trans' (HKK.out.trans (HK3.out.mono (fun _ _ h => h.elim))) (fun k hk => .inr (by have h1 := HK.out.size; have h2 := HB.out; omega))⟩
              · have hw' : ¬ (n9 : Int) < (2 : Int) := by have := Hn9.out; omega
                have hw1 : 1 ≤ n9 := by have := Hn9.out; omega
                obtain ⟨b9, o9, rfl, _⟩ := s9.ent (by omega)
                have WT := HW.out.tail hw1
                have hcap := s9.cap
                have Hst : Hid (stepP (P, ob) x = some (P ++ [(3, ws.tail)], false)) := by
                  show _ = _
                  unfold stepP; rw [if_neg hA, if_pos Hm.out, if_neg (by rw [Hws.out]; exact hw), Hk.out, Hws.out]
                clear hA hxl hw h2 hb1 hXs 
                go_wp2_with (first
                  | (refine wpList_bP rfl _ _ rfl 3 (some ⟨b9, o9 + 1, none⟩) (n9 - 1) (c9 - 1) rfl rfl ?_)
                  | (refine wpList_build1P rfl _ rfl 3 _ _ _ rfl ?_; intro g w4 r4 z4 k4; have o4 := hol3.keep k4)
                  | (refine wpList_appP rfl _ _ rfl B _ _ rfl o4 g rfl 3 _ _ _ r4 (by omega) (by have := k4.size; omega) ?_; intro v5 w5 o5 k5))
                have hal4 := hal3.keep k4
                have wd4 := WT.keep k4
                have hal5 := hal4.keeps k5 o4.no9
                have wd5 := wd4.keeps k5 o4.no9
                have KK : Keeps (fun k => B ≤ k) wr w5 := ((HK3.out.mono (fun _ _ h => h.elim)).trans (k4.mono (fun _ _ h => h.elim))).trans (k5.mono (fun k _ e => (o4.from e).1))
                refine ⟨⟨i + 1, _, rfl, by omega, rfl, HI.out.snoc HB.out HiC.out o5 hal5 wd5 (by have := Hn9.out; rw [List.length_tail]; omega) KK (by rw [Hx.out]; exact Hst.out)⟩, by simp [intOf]; omega⟩
            · have hY2 : (Y.toList == E2.toList) = false := by rw [HY.out h2 _ _ HE2.out, decide_eq_false hb2]
              have Hm : Hid (isMk x = false) := decide_eq_false (fun h => h.elim hb1 hb2)
              by_cases hw : ws = []
              · have hw' : ¬ (0 : Int) < (n9 : Int) := by have := Hn9.out; rw [hw] at this; simp at this; omega
                have Hst : Hid (stepP (P, ob) x = some (P, false)) := by
                  show _ = _
                  unfold stepP; rw [if_neg hA, if_neg (by rw [Hm.out]; simp), if_pos (by rw [Hws.out]; exact hw)]
                have KK : Keeps (fun k => B ≤ k) wr w3 := HK3.out.mono (fun _ _ h => h.elim)
                have Hrest : Hid (ParI C B w2 (P, false) (i + 1) _ w3) := ⟨⟨l, hol3, hal3⟩, HI.out.keep.trans KK, by rw [HI.out.rest, linesP_step HiC.out (by rw [Hx.out]; exact Hst.out)], by have h : P.length ≤ i := HI.out.len; show P.length ≤ i + 1; omega, (fun h => by cases h), (fun p hp => by have := HI.out.wl p hp; omega)⟩
                clear hA hxl hw h2 hXs 
                go_wp2
                exact ⟨⟨i + 1, _, rfl, by omega, rfl, Hrest.out⟩, by simp [intOf]; omega⟩
              · have hw' : (0 : Int) < (n9 : Int) := by
                  have := Hn9.out; cases ws with
                  | nil => exact absurd rfl hw
                  | cons u r => simp at this; omega
                cases ob with
                | false =>
                  have Hst : Hid (stepP (P, false) x = some (P ++ [(1, ws)], true)) := by
                    show _ = _
                    unfold stepP; rw [if_neg hA, if_neg (by rw [Hm.out]; simp), if_neg (by rw [Hws.out]; exact hw), if_neg (by simp), Hws.out]
                  clear hA hxl hw h2 hXs 
                  go_wp2_with (first
                    | (refine wpList_bP rfl _ _ rfl 1 a9 n9 c9 rfl rfl ?_)
                    | (refine wpList_build1P rfl _ rfl 1 _ _ _ rfl ?_; intro g w4 r4 z4 k4; have o4 := hol3.keep k4)
                    | (refine wpList_appP rfl _ _ rfl B _ _ rfl o4 g rfl 1 _ _ _ r4 (by omega) (by have := k4.size; omega) ?_; intro v5 w5 o5 k5))
                  have hal4 := hal3.keep k4
                  have wd4 := HW.out.keep k4
                  have hal5 := hal4.keeps k5 o4.no9
                  have wd5 := wd4.keeps k5 o4.no9
                  have KK : Keeps (fun k => B ≤ k) wr w5 := ((HK3.out.mono (fun _ _ h => h.elim)).trans (k4.mono (fun _ _ h => h.elim))).trans (k5.mono (fun k _ e => (o4.from e).1))
                  refine ⟨⟨i + 1, _, rfl, by omega, rfl, HI.out.snoc HB.out HiC.out o5 hal5 wd5 (by have := Hn9.out; omega) KK (by rw [Hx.out]; exact Hst.out)⟩, by simp [intOf]; omega⟩
                | true =>
                  obtain ⟨P0, p0, rfl⟩ : ∃ P0 p0, P = P0 ++ [p0] := ⟨P.dropLast, P.getLast (HI.out.op rfl), (List.dropLast_concat_getLast _).symm⟩
                  obtain ⟨l0, x0, rfl⟩ : ∃ l0 x0, l = l0 ++ [x0] := by
                    have hne : l ≠ [] := by intro e; have := HLp.out; rw [e] at this; simp at this
                    exact ⟨l.dropLast, l.getLast hne, (List.dropLast_concat_getLast _).symm⟩
                  obtain ⟨k0, u0⟩ := x0
                  have hlp : l0.length = P0.length := by have := HLp.out; simp at this; exact this
                  obtain ⟨hk0, hu0⟩ := hal3.at_ l0.length (k0, u0) p0 (by simp) (by rw [hlp]; simp)
                  obtain ⟨g0, N0, cap0, rfl, hN0, hbg, ⟨cs0, hg0⟩, hcell, hset⟩ := hol3.last
                  obtain ⟨a0, n0, c0, rfl, s0, z0, hb0⟩ := hu0.out
                  have hin := hal3.init
                  rw [List.dropLast_concat, List.dropLast_concat] at hin
                  have HIN := Hid.mk' hin
                  have Hset := Hid.mk' hset
                  have Hg0 := Hid.mk' hg0
                  have Hst : Hid (stepP (P0 ++ [p0], true) x = some (P0 ++ [(p0.1, p0.2 ++ ws)], true)) := by
                    show _ = _
                    unfold stepP; rw [if_neg hA, if_neg (by rw [Hm.out]; simp), if_neg (by rw [Hws.out]; exact hw), if_pos rfl, Hws.out]
                    unfold addLast
                    rw [List.dropLast_concat]
                    simp
                  obtain ⟨m0, hm0⟩ : ∃ m0, l0.length = m0 := ⟨_, rfl⟩
                  have hN1 : (N0 : Int) - 1 = (m0 : Int) := by omega
                  have hNe : l0.length + 1 = N0 := hN0.symm
                  have hm1 : m0 < N0 := by omega
                  have hm1' : (m0 : Int) < (N0 : Int) := by omega
                  have hm0' : (0 : Int) ≤ (m0 : Int) := by omega
                  have hms : m0 ≤ 241 := by simp at hll; omega
                  rw [hm0] at hcell Hset
                  have hn0 : n0 ≤ 59000 := by
                    have h1 := HI.out.wl p0 (by simp)
                    rw [s0.len] at h1; omega
                  have Hp0 : Hid (p0.2.length = n0) := s0.len
                  have Hm0 := Hid.mk' hm0
                  have Hk0 := Hid.mk' hk0
                  have Hhlp := Hid.mk' hlp
                  clear hA hxl hw h2 hXs hin hset hg0 hal3 hol3 hu0 hlp hm0 hk0 hll hN0 hNe HLp
                  go_wp2_with (first
                    | (refine wpList_build0T rfl rfl ?_; intro g4 w4 o4 z4 k4; have hc4 := cell_keeps k4 hcell (fun h => h); have s04 := s0.keep k4; have s94 := s9.keep k4)
                    | (refine wpList_appTs rfl _ _ rfl w3.heap.size _ [] rfl o4 a0 n0 c0 p0.2 rfl s04 z0 (by simp; omega) (by have := k4.size; omega) ?_; intro v5 w5 o5 k5; have k45 : Keeps (fun k => w3.heap.size ≤ k) w3 w5 := (k4.mono (fun _ _ h => h.elim)).trans (k5.mono (fun k _ e => (OwnT.from o4 e).1)); have s95 : SlT w5 a9 n9 c9 ws := (Wd.past HW.out k45 (fun k h => h)).sl rfl)
                    | (refine wpList_appTs rfl _ _ rfl w3.heap.size _ _ rfl o5 a9 n9 c9 ws rfl s95 z9 (by have h1 := Hp0.out; simp; omega) (by have := k4.size; have := k5.size; omega) ?_; intro v6 w6 o6 k6; have wd6 := o6.wd; obtain ⟨a6, c6, rfl, _, _, _⟩ := o6.slice2; obtain ⟨n6, hn6⟩ : ∃ n6, ([] ++ p0.2 ++ ws : List (List UInt8)).length = n6 := ⟨_, rfl⟩; rw [hn6] at wd6 ⊢; have HW6 := Hid.mk' wd6; have k56 : Keeps (fun k => w3.heap.size ≤ k) w3 w6 := k45.trans (k6.mono (fun k _ e => (OwnT.from o5 e).1)); have hgw : w6.heap[g0]? = w3.heap[g0]? := k56.block g0 (lt_of_row Hg0.out) (by have := lt_of_row Hg0.out; omega); have hfr : w6.frozen? ⟨g0, m0 * 2 + 1, none⟩ = false := frozen_of_row w6 g0 _ _ _ (hgw.trans Hg0.out); have hcl := cell_keeps k56 hcell (by have := lt_of_row Hg0.out; show ¬ w3.heap.size ≤ g0; omega); have Hgw := Hid.mk' hgw; have K56 := Hid.mk' k56; clear o6 wd6 hn6 hgw k56))
                  have k7 : Keeps (· = g0) w6 (w6.setCell ⟨g0, m0 * 2 + 1, none⟩ (.slice a6 n6 c6)) := (Keeps.refl (· = g0) w6).setCell (p := ⟨g0, m0 * 2 + 1, none⟩) (.inl rfl) _
                  have no9 : ∀ b cs fr, w6.heap[b]? = some (.cells cs 9 fr) → ¬ b = g0 := fun b cs fr hb e => by
                    subst e
                    rw [Hgw.out, Hg0.out] at hb
                    simp at hb
                  have o7 := Hset.out w6 Hgw.out (.slice a6 n6 c6)
                  have w7 : Wd _ (.slice a6 n6 c6) ([] ++ p0.2 ++ ws) := HW6.out.keeps k7 no9
                  have hal7 := (HIN.out.past K56.out (fun k h => h)).keeps k7 no9
                  rw [List.nil_append] at w7
                  have hal8 := hal7.snoc (k := k0) w7
                  rw [show k0 = p0.1 from Hk0.out] at hal8 o7
                  refine ⟨⟨i + 1, (P0 ++ [(p0.1, p0.2 ++ ws)], true), rfl, by omega, rfl, ⟨⟨_, o7, hal8⟩, HI.out.keep.trans (((HK3.out.mono (fun _ _ h => h.elim)).trans (K56.out.mono (fun k _ h => by omega))).trans (k7.mono (fun k _ e => by rw [e]; exact hbg))), by rw [HI.out.rest, linesP_step HiC.out (by rw [Hx.out]; exact Hst.out)], by have h := HI.out.len; simp at h ⊢; omega, fun _ => by simp, fun p hp => ?_⟩⟩, by simp [intOf]; omega⟩
                  rcases List.mem_append.1 hp with hp | hp
                  · have := HI.out.wl p (by simp [hp]); omega
                  · obtain rfl : p = (p0.1, p0.2 ++ ws) := by simpa using hp
                    have h1 := HI.out.wl p0 (by simp)
                    have h2 := Hn9.out
                    show (p0.2 ++ ws).length ≤ _
                    rw [List.length_append]; omega

        · have hX2 : ¬ (2 : Int) ≤ (X.size : Int) := by omega
          have Hm : Hid (isMk x = false) := decide_eq_false (fun h => by
            rcases h with h | h
            all_goals
              have := congrArg List.length h
              simp at this; omega)
          by_cases hw : ws = []
          · have hw' : ¬ (0 : Int) < (n9 : Int) := by have := Hn9.out; rw [hw] at this; simp at this; omega
            have Hst : Hid (stepP (P, ob) x = some (P, false)) := by
              show _ = _
              unfold stepP; rw [if_neg hA, if_neg (by rw [Hm.out]; simp), if_pos (by rw [Hws.out]; exact hw)]
            have KK : Keeps (fun k => B ≤ k) wr w3 := HK3.out.mono (fun _ _ h => h.elim)
            have Hrest : Hid (ParI C B w2 (P, false) (i + 1) _ w3) := ⟨⟨l, hol3, hal3⟩, HI.out.keep.trans KK, by rw [HI.out.rest, linesP_step HiC.out (by rw [Hx.out]; exact Hst.out)], by have h : P.length ≤ i := HI.out.len; show P.length ≤ i + 1; omega, (fun h => by cases h), (fun p hp => by have := HI.out.wl p hp; omega)⟩
            clear hA hxl hw h2 hXs 
            go_wp2
            exact ⟨⟨i + 1, _, rfl, by omega, rfl, Hrest.out⟩, by simp [intOf]; omega⟩
          · have hw' : (0 : Int) < (n9 : Int) := by
              have := Hn9.out; cases ws with
              | nil => exact absurd rfl hw
              | cons u r => simp at this; omega
            cases ob with
            | false =>
              have Hst : Hid (stepP (P, false) x = some (P ++ [(1, ws)], true)) := by
                show _ = _
                unfold stepP; rw [if_neg hA, if_neg (by rw [Hm.out]; simp), if_neg (by rw [Hws.out]; exact hw), if_neg (by simp), Hws.out]
              clear hA hxl hw h2 hXs 
              go_wp2_with (first
                | (refine wpList_bP rfl _ _ rfl 1 a9 n9 c9 rfl rfl ?_)
                | (refine wpList_build1P rfl _ rfl 1 _ _ _ rfl ?_; intro g w4 r4 z4 k4; have o4 := hol3.keep k4)
                | (refine wpList_appP rfl _ _ rfl B _ _ rfl o4 g rfl 1 _ _ _ r4 (by omega) (by have := k4.size; omega) ?_; intro v5 w5 o5 k5))
              have hal4 := hal3.keep k4
              have wd4 := HW.out.keep k4
              have hal5 := hal4.keeps k5 o4.no9
              have wd5 := wd4.keeps k5 o4.no9
              have KK : Keeps (fun k => B ≤ k) wr w5 := ((HK3.out.mono (fun _ _ h => h.elim)).trans (k4.mono (fun _ _ h => h.elim))).trans (k5.mono (fun k _ e => (o4.from e).1))
              refine ⟨⟨i + 1, _, rfl, by omega, rfl, HI.out.snoc HB.out HiC.out o5 hal5 wd5 (by have := Hn9.out; omega) KK (by rw [Hx.out]; exact Hst.out)⟩, by simp [intOf]; omega⟩
            | true =>
              obtain ⟨P0, p0, rfl⟩ : ∃ P0 p0, P = P0 ++ [p0] := ⟨P.dropLast, P.getLast (HI.out.op rfl), (List.dropLast_concat_getLast _).symm⟩
              obtain ⟨l0, x0, rfl⟩ : ∃ l0 x0, l = l0 ++ [x0] := by
                have hne : l ≠ [] := by intro e; have := HLp.out; rw [e] at this; simp at this
                exact ⟨l.dropLast, l.getLast hne, (List.dropLast_concat_getLast _).symm⟩
              obtain ⟨k0, u0⟩ := x0
              have hlp : l0.length = P0.length := by have := HLp.out; simp at this; exact this
              obtain ⟨hk0, hu0⟩ := hal3.at_ l0.length (k0, u0) p0 (by simp) (by rw [hlp]; simp)
              obtain ⟨g0, N0, cap0, rfl, hN0, hbg, ⟨cs0, hg0⟩, hcell, hset⟩ := hol3.last
              obtain ⟨a0, n0, c0, rfl, s0, z0, hb0⟩ := hu0.out
              have hin := hal3.init
              rw [List.dropLast_concat, List.dropLast_concat] at hin
              have HIN := Hid.mk' hin
              have Hset := Hid.mk' hset
              have Hg0 := Hid.mk' hg0
              have Hst : Hid (stepP (P0 ++ [p0], true) x = some (P0 ++ [(p0.1, p0.2 ++ ws)], true)) := by
                show _ = _
                unfold stepP; rw [if_neg hA, if_neg (by rw [Hm.out]; simp), if_neg (by rw [Hws.out]; exact hw), if_pos rfl, Hws.out]
                unfold addLast
                rw [List.dropLast_concat]
                simp
              obtain ⟨m0, hm0⟩ : ∃ m0, l0.length = m0 := ⟨_, rfl⟩
              have hN1 : (N0 : Int) - 1 = (m0 : Int) := by omega
              have hNe : l0.length + 1 = N0 := hN0.symm
              have hm1 : m0 < N0 := by omega
              have hm1' : (m0 : Int) < (N0 : Int) := by omega
              have hm0' : (0 : Int) ≤ (m0 : Int) := by omega
              have hms : m0 ≤ 241 := by simp at hll; omega
              rw [hm0] at hcell Hset
              have hn0 : n0 ≤ 59000 := by
                have h1 := HI.out.wl p0 (by simp)
                rw [s0.len] at h1; omega
              have Hp0 : Hid (p0.2.length = n0) := s0.len
              have Hm0 := Hid.mk' hm0
              have Hk0 := Hid.mk' hk0
              have Hhlp := Hid.mk' hlp
              clear hA hxl hw h2 hXs hin hset hg0 hal3 hol3 hu0 hlp hm0 hk0 hll hN0 hNe HLp
              go_wp2_with (first
                | (refine wpList_build0T rfl rfl ?_; intro g4 w4 o4 z4 k4; have hc4 := cell_keeps k4 hcell (fun h => h); have s04 := s0.keep k4; have s94 := s9.keep k4)
                | (refine wpList_appTs rfl _ _ rfl w3.heap.size _ [] rfl o4 a0 n0 c0 p0.2 rfl s04 z0 (by simp; omega) (by have := k4.size; omega) ?_; intro v5 w5 o5 k5; have k45 : Keeps (fun k => w3.heap.size ≤ k) w3 w5 := (k4.mono (fun _ _ h => h.elim)).trans (k5.mono (fun k _ e => (OwnT.from o4 e).1)); have s95 : SlT w5 a9 n9 c9 ws := (Wd.past HW.out k45 (fun k h => h)).sl rfl)
                | (refine wpList_appTs rfl _ _ rfl w3.heap.size _ _ rfl o5 a9 n9 c9 ws rfl s95 z9 (by have h1 := Hp0.out; simp; omega) (by have := k4.size; have := k5.size; omega) ?_; intro v6 w6 o6 k6; have wd6 := o6.wd; obtain ⟨a6, c6, rfl, _, _, _⟩ := o6.slice2; obtain ⟨n6, hn6⟩ : ∃ n6, ([] ++ p0.2 ++ ws : List (List UInt8)).length = n6 := ⟨_, rfl⟩; rw [hn6] at wd6 ⊢; have HW6 := Hid.mk' wd6; have k56 : Keeps (fun k => w3.heap.size ≤ k) w3 w6 := k45.trans (k6.mono (fun k _ e => (OwnT.from o5 e).1)); have hgw : w6.heap[g0]? = w3.heap[g0]? := k56.block g0 (lt_of_row Hg0.out) (by have := lt_of_row Hg0.out; omega); have hfr : w6.frozen? ⟨g0, m0 * 2 + 1, none⟩ = false := frozen_of_row w6 g0 _ _ _ (hgw.trans Hg0.out); have hcl := cell_keeps k56 hcell (by have := lt_of_row Hg0.out; show ¬ w3.heap.size ≤ g0; omega); have Hgw := Hid.mk' hgw; have K56 := Hid.mk' k56; clear o6 wd6 hn6 hgw k56))
              have k7 : Keeps (· = g0) w6 (w6.setCell ⟨g0, m0 * 2 + 1, none⟩ (.slice a6 n6 c6)) := (Keeps.refl (· = g0) w6).setCell (p := ⟨g0, m0 * 2 + 1, none⟩) (.inl rfl) _
              have no9 : ∀ b cs fr, w6.heap[b]? = some (.cells cs 9 fr) → ¬ b = g0 := fun b cs fr hb e => by
                subst e
                rw [Hgw.out, Hg0.out] at hb
                simp at hb
              have o7 := Hset.out w6 Hgw.out (.slice a6 n6 c6)
              have w7 : Wd _ (.slice a6 n6 c6) ([] ++ p0.2 ++ ws) := HW6.out.keeps k7 no9
              have hal7 := (HIN.out.past K56.out (fun k h => h)).keeps k7 no9
              rw [List.nil_append] at w7
              have hal8 := hal7.snoc (k := k0) w7
              rw [show k0 = p0.1 from Hk0.out] at hal8 o7
              refine ⟨⟨i + 1, (P0 ++ [(p0.1, p0.2 ++ ws)], true), rfl, by omega, rfl, ⟨⟨_, o7, hal8⟩, HI.out.keep.trans (((HK3.out.mono (fun _ _ h => h.elim)).trans (K56.out.mono (fun k _ h => by omega))).trans (k7.mono (fun k _ e => by rw [e]; exact hbg))), by rw [HI.out.rest, linesP_step HiC.out (by rw [Hx.out]; exact Hst.out)], by have h := HI.out.len; simp at h ⊢; omega, fun _ => by simp, fun p hp => ?_⟩⟩, by simp [intOf]; omega⟩
              rcases List.mem_append.1 hp with hp | hp
              · have := HI.out.wl p (by simp [hp]); omega
              · obtain rfl : p = (p0.1, p0.2 ++ ws) := by simpa using hp
                have h1 := HI.out.wl p0 (by simp)
                have h2 := Hn9.out
                show (p0.2 ++ ws).length ≤ _
                rw [List.length_append]; omega

    · obtain rfl : i = n := by omega
      have hlt' : ¬ (i : Int) < (i : Int) := by omega
      obtain ⟨l, hol, hal⟩ := hI.out
      have HR : Hid (PR = (P, 0)) := by
        show _ = _
        rw [HP.out, hI.rest, List.drop_of_length_le (by rw [HCn.out]; exact Nat.le_refl _)]
        rfl
      have hol2 := Hid.mk' hol
      have hal2 := Hid.mk' hal
      have HKK := Hid.mk' hI.keep
      clear hI hol hal hqw hlt hi
      go_wp2
      go_ret2
      rw [HR.out]
      refine ⟨⟨_, rfl, l, ?_, hal2.out⟩, ?_⟩
      · obtain ⟨q1, q2⟩ := hol2.out.owns
        refine ⟨⟨q1, ?_⟩⟩
        rcases q2 with q2 | ⟨g, cap, cur, e, hb, rest⟩
        · exact .inl q2
        · exact .inr ⟨g, cap, cur, e, by have h1 := HK.out.size; have h2 := HB.out; omega, rest⟩
      · exact HK.out.trans' HKK.out (fun k hk => .inr (by have h1 := HK.out.size; have h2 := HB.out; omega))

end Go.Proofs.YtkcnnkakpkdhkaaDoor
