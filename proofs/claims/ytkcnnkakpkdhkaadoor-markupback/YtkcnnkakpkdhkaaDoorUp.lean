
/-
  The reference's signs.
-/
import Derived.Test.YtkcnnkakpkdhkaaDoorUo
import Derived.Test.YtkcnnkakpkdhkaaDoorUi
set_option linter.all false
namespace Go.Proofs.YtkcnnkakpkdhkaaDoor
open Go.RowKit Go.Sort Go.Shelf
attribute [local go_sem] Oper.semAt_some

theorem gd_drop (l : List UInt8) (p k : Nat) : (l.drop p).getD k 0 = l.getD (p + k) 0 := by
  rw [List.getD_eq_getElem?_getD, List.getElem?_drop, ← List.getD_eq_getElem?_getD]
theorem s_get (s : ByteArray) (i : Nat) (h : i < s.size) : s[i]'h = s.data.toList.getD i 0 := by
  rw [← getb, Utf8W.get!_of_lt s i h]
theorem ext_mid (s : ByteArray) (p q : Nat) (h : p ≤ q) (hq : q ≤ s.size) : s.extract p q = bs ((s.data.toList.drop p).take (q - p)) := by
  rw [← bs_of (s.extract p q)]
  congr 1
  rw [ByteArray.data_extract, Array.toList_extract, List.extract_eq_take_drop]

theorem OwnI.atSl {w : World} {base n c : Nat} {a : Option Addr} {l : List Int} (h : OwnI w base (.slice a n c) l) (hn : l.length = n) (_ : n = n) : SlI w a n c l := by
  obtain ⟨a', c', e, hs, _⟩ := h.slice
  cases e
  exact hs

/-- What the reference's Signs has read. -/
structure RsI (s : ByteArray) (g2 B : Nat) (w : World) (L : List Int) (p : Nat) (v : Value) (wr : World) : Prop where
  le : p ≤ s.size
  all : allS L
  len : L.length ≤ p
  pre : s.data.toList.take p = encs L
  own : OwnI wr B v L
  rd : RdAt wr g2 (.slice none 0 0) false
  keeps : Keeps (fun _ => False) w wr
  size : B ≤ wr.heap.size
theorem RsI.split {s : ByteArray} {g2 B : Nat} {w wr : World} {L : List Int} {p : Nat} {v : Value} (h : RsI s g2 B w L p v wr) : s.data.toList = encs L ++ s.data.toList.drop p := by
  rw [← h.pre, List.take_append_drop]
theorem RsI.no {s : ByteArray} {g2 B : Nat} {w wr : World} {L : List Int} {p : Nat} {v : Value} (h : RsI s g2 B w L p v wr) (h0 : s.data.toList.drop p ≠ []) (hb : bad (s.data.toList.drop p)) : vd s.data.toList = false ∧ sg s.data.toList = [] := by
  have e : vd s.data.toList = false := by rw [h.split, vd_encs h.all, vd_bad h0 hb]
  exact ⟨e, sg_no e⟩
theorem RsI.done {s : ByteArray} {g2 B : Nat} {w wr : World} {L : List Int} {v : Value} (h : RsI s g2 B w L s.size v wr) : vd s.data.toList = true ∧ sg s.data.toList = L := by
  have e := h.split
  rw [List.drop_of_length_le (by rw [sz_len]; omega), List.append_nil] at e
  have := sg_encs h.all
  rw [← e] at this
  exact this
theorem RsI.next {s : ByteArray} {g2 B : Nat} {w wr wr' : World} {L : List Int} {p n V : Nat} {v v' : Value} (h : RsI s g2 B w L p v wr) (hS : isS (V : Int)) (hE : Lib.encodeRune (V : Int) = (s.data.toList.drop p).take n) (hn : p + n ≤ s.size)
    (ho : OwnI wr' B v' (L ++ [(V : Int)])) (hr : RdAt wr' g2 (.slice none 0 0) false) (hk : Keeps (fun _ => False) w wr') (hB : B ≤ wr'.heap.size) : RsI s g2 B w (L ++ [(V : Int)]) (p + n) v' wr' := by
  have hl := enc_len (V : Int)
  have hln : 1 ≤ n := by
    rw [hE] at hl
    have := hl.1
    rw [List.length_take] at this
    omega
  refine ⟨hn, fun y hy => ?_, ?_, ?_, ho, hr, hk, hB⟩
  · rcases List.mem_append.1 hy with hy | hy
    · exact h.all y hy
    · obtain rfl : y = (V : Int) := by simpa using hy
      exact hS
  · rw [List.length_append]; have := h.len; simp; omega
  · rw [encs_app, encs_cons, encs_nil, List.append_nil, hE, ← h.pre, List.take_add]


set_option maxRecDepth 100000 in
set_option maxHeartbeats 4000000 in
theorem rsigns8 (w : World) (s : ByteArray) (hs : s.size ≤ 90000) :
    Calls Tryd.prog 42 #[.string s] w fun e w' => (∃ a n c, e = .returned (.agg #[.slice a n c, .bool (vd s.data.toList)]) ∧ n = (sg s.data.toList).length ∧ SlI w' a n c (sg s.data.toList)) ∧ Keeps (fun _ => False) w w' := by
  obtain ⟨AV, hAV⟩ : ∃ AV, vd s.data.toList = AV := ⟨_, rfl⟩
  obtain ⟨AS, hAS⟩ : ∃ AS, sg s.data.toList = AS := ⟨_, rfl⟩
  rw [hAV, hAS]
  have HV : Hid (vd s.data.toList = AV) := hAV
  have HS : Hid (sg s.data.toList = AS) := hAS
  clear hAV hAS
  go_enter Tryd.func42, Tryd.ntmps42
  go_wp2_with (refine wpList_alloc25 rfl rfl ?_; intro g2 w1 r1 z1 k1)
  obtain ⟨B, hB⟩ : ∃ B, w1.heap.size = B := ⟨_, rfl⟩
  have hg2 : g2 < B := by rw [← hB]; exact r1.lt
  have hwB : w.heap.size ≤ B := by rw [← hB]; exact k1.size
  go_loopw [3, 4] (fun v t wr => ∃ (L : List Int) (p : Nat), t = .int .i64 (p : Int) ∧ RsI s g2 B w L p v wr) (fun _ t _ => s.size - (intOf t).toNat)
  case atStart => exact ⟨[], 0, rfl, ⟨by omega, (fun v h => by cases h), by simp, by simp [encs], OwnI.nil _ _, r1, k1, by rw [← hB]; exact Nat.le_refl _⟩⟩
  case round =>
    clear r1 k1
    obtain ⟨L, p, rfl, hI⟩ := hrel
    by_cases hlt : p < s.size
    · have hlt' : (p : Int) < (s.size : Int) := by omega
      have hp0 : (0 : Int) ≤ (p : Int) := by omega
      have hLl : L.length ≤ 90000 := by have := hI.len; omega
      obtain ⟨y, hy⟩ : ∃ y : UInt8, s[p]'hlt = y := ⟨_, rfl⟩
      have hr0 : s.data.toList.drop p ≠ [] := by
        intro e
        have := congrArg List.length e
        rw [List.length_drop, sz_len] at this
        simp at this; omega
      have hry : (s.data.toList.drop p).getD 0 0 = y := by rw [gd_drop, Nat.add_zero, ← s_get s p hlt, hy]
      have hy256 : y.toNat < 256 := y.toNat_lt
      obtain ⟨r, hr⟩ : ∃ r, s.data.toList.drop p = r := ⟨_, rfl⟩
      have hrl : r.length = s.size - p := by rw [← hr, List.length_drop, sz_len]
      have Hget : Hid (∀ k, r.getD k 0 = s.data.toList.getD (p + k) 0) := fun k => by rw [← hr]; exact gd_drop _ _ _
      have Hr : Hid (s.data.toList.drop p = r) := hr
      have Hr0 : Hid (r ≠ []) := by rw [hr] at hr0; exact hr0
      rw [hr] at hry
      have Hry : Hid (r.getD 0 0 = y) := hry
      clear hr hr0 hry
      have cs : 240 ≤ y.toNat ∨ (224 ≤ y.toNat ∧ y.toNat < 240) ∨ (192 ≤ y.toNat ∧ y.toNat < 224) ∨ y.toNat < 192 := by omega
      rcases cs with cs | cs | cs | cs
      · have Hcls : Hid (cls (r.getD 0 0).toNat = 4) := by show _ = _; rw [Hry.out]; unfold cls; rw [if_pos (by omega)]
        have Hc0 : Hid (c0 (r.getD 0 0).toNat = y.toNat - 240) := by show _ = _; rw [Hry.out]; unfold c0; rw [if_pos (by omega)]
        obtain ⟨C, hC⟩ : ∃ C : Nat, (y.toNat : Int) - 240 = (C : Int) := ⟨y.toNat - 240, by omega⟩
        have hC2 : C < 256 := by omega
        have HC : Hid (y.toNat - 240 = C) := by show _ = _; omega
        have f0 : (240 : Int) ≤ (y.toNat : Int) := by omega
        clear cs
        have hacc := acc_lt r C hC2
        by_cases hle : p + 4 ≤ s.size
        · have hle' : ¬ (s.size : Int) < (p : Int) + 4 := by omega
          obtain ⟨q, hq⟩ : ∃ q : Nat, (p : Int) + 4 = (q : Int) := ⟨p + 4, by omega⟩
          have Hq : Hid (q = p + 4) := by show _ = _; omega
          have hq0 : (p : Int) ≤ (q : Int) := by omega
          have hq1 : (q : Int) ≤ (s.size : Int) := by omega
          go_wp2
          go_loopw [7, 8] (fun v t wq => ∃ k : Nat, 1 ≤ k ∧ k ≤ 4 ∧ t = .int .i64 (k : Int) ∧ v = .int .i64 ((acc r C (k - 1) : Nat) : Int) ∧ wq = wr) (fun _ t _ => 4 - (intOf t).toNat)
          case atStart => exact ⟨1, by omega, by omega, rfl, by first | rfl | (simp only [acc]; congr 1), rfl⟩
          case round =>
            obtain ⟨k, hk1, hk2, rfl, rfl, rfl⟩ := hrel
            by_cases hkn : k < 4
            · have hk' : (k : Int) < 4 := by omega
              obtain ⟨qk, hqk⟩ : ∃ qk : Nat, (p : Int) + (k : Int) = (qk : Int) := ⟨p + k, by omega⟩
              have hqs : qk < s.size := by omega
              obtain ⟨z, hz⟩ : ∃ z : UInt8, s[qk]'hqs = z := ⟨_, rfl⟩
              obtain ⟨A, hA⟩ : ∃ A, acc r C (k - 1) = A := ⟨_, rfl⟩
              have hA1 : (A : Int) < 1048576 := by
                have : k - 1 = 0 ∨ k - 1 = 1 ∨ k - 1 = 2 := by omega
                rcases this with e | e | e <;> rw [e] at hA <;> omega
              have hA0 : (0 : Int) ≤ (A : Int) := by omega
              have HA : Hid (acc r C k = A * 64 + z.toNat % 64) := by
                show _ = _
                obtain ⟨j, rfl⟩ : ∃ j, k = j + 1 := ⟨k - 1, by omega⟩
                rw [Nat.add_sub_cancel] at hA
                rw [acc, hA, Hget.out, ← hz, s_get s qk hqs]
                congr 4
                omega
              have hz6 : bits .and .i64 (z.toNat : Int) 63 = (z.toNat : Int) % 64 := and63 _ (by omega) (by have := z.toNat_lt; omega)
              have hz0 : (z.toNat : Int) < 256 := by have := z.toNat_lt; omega
              clear hacc
              go_wp2
              refine ⟨⟨k + 1, by omega, by omega, rfl, ?_, by first | rfl | trivial⟩, by simp [intOf]; omega⟩
              rw [Nat.add_sub_cancel, HA.out]
              congr 1
            · obtain rfl : k = 4 := by omega
              obtain ⟨V, hV⟩ : ∃ V, acc r C (4 - 1) = V := ⟨_, rfl⟩
              rw [hV]
              have HIff : Hid ((isS (V : Int) ∧ Lib.encodeRune (V : Int) = r.take 4) ↔ ¬ bad r) := rd_iff Hr0.out Hcls.out (by rw [Hc0.out, HC.out]; exact hV)
              have HX : Hid (s.extract p q = bs (r.take 4)) := by
                show _ = _
                rw [ext_mid s p q (by omega) (by omega), Hr.out, Hq.out, Nat.add_sub_cancel_left]
              have HI : Hid (RsI s g2 B w L p _ _) := hI
              have hrd := hI.rd
              have kd : Keeps (fun _ => False) wr wr.drew := (Keeps.refl _ _).drew
              clear hV hacc hk1 hk2 hkn hI
              by_cases hm : isS (V : Int) ∧ Lib.encodeRune (V : Int) = r.take 4
              · obtain ⟨E, hE⟩ : ∃ E, Lib.encodeRune (V : Int) = E := ⟨_, rfl⟩
                obtain ⟨m, hmE⟩ : ∃ m, E.length = m := ⟨_, rfl⟩
                obtain ⟨X, hXX⟩ : ∃ X, bs E = X := ⟨_, rfl⟩
                have cB : ∀ W, Calls Tryd.prog 53 #[.int .i64 (V : Int)] W fun e w' => (∃ g, e = .returned (.slice (some ⟨g, 0, none⟩) m m) ∧ SlU w' (some ⟨g, 0, none⟩) m m E) ∧ Keeps (fun _ => False) W w' := fun W => by
                  refine (rbytes18 W V).mono ?_
                  rintro e w' ⟨⟨⟨_, g, h1, h2⟩ | ⟨h1, _⟩⟩, k⟩
                  · rw [hE, hmE] at h1 h2
                    exact ⟨⟨g, h1, h2⟩, k⟩
                  · exact absurd hm.1 h1
                have hx : s.extract p q = X := by rw [HX.out, ← hm.2, hE, hXX]
                have HM : Hid (isS (V : Int) ∧ Lib.encodeRune (V : Int) = r.take 4) := hm
                clear hE hmE hm
                go_wp2_with fail
                refine region_plan (S := fun w' => ∃ x : Regrown, w' = grow (redrawn wr x.d) x.os) [([0, 3, 4, 5, 6, 7, 8], 1), ([], 2)] [9] (by kernel_rfl) (by kernel_rfl) (by kernel_rfl) (by kernel_rfl) (cls_keeps kd) ?_
                simp only [wpPlan, opsAt, pick]
                repeat (go_big_quiet_step (fail))
                refine wpQuiet_nil ?_
                go_wp2_with (go_at_call 53; refine (cB _).mono ?_; rintro e wd ⟨⟨gE, rfl, sU⟩, kd1⟩)
                have KD := kd.trans kd1
                refine ⟨cls_keeps KD, ?_⟩
                simp only [wpPlan, opsAt, pick]
                refine wpQuiet_nil ?_
                have hcv := conv_su sU
                rw [show (⟨E.toArray⟩ : ByteArray) = X from hXX] at hcv
                go_wp2
                refine ⟨cls_keeps KD, ?_⟩
                simp only [wpPlan, opsAt, pick]
                repeat (go_big_quiet_step (fail))
                refine wpQuiet_nil ?_
                refine NoPanic.normal ?_
                have oL := HI.out.own.keeps KD (fun _ _ h => h.elim)
                have rL := hrd.keep KD
                have KW := HI.out.keeps.trans KD
                have zB : B ≤ wd.heap.size := by have := HI.out.size; have := KD.size; omega
                go_wp2_with (first
                  | (refine wpList_build1I rfl _ rfl (V : Int) rfl ?_; intro g9 w6 b6 z6 k6; have o6 := oL.keeps k6 (fun _ _ h => h.elim))
                  | (refine wpList_appI rfl _ _ rfl B _ L rfl o6 g9 rfl (V : Int) b6 (by omega) (by have := k6.size; omega) ?_; intro v7 w7 o7 k7))
                have kA : Keeps (fun k => B ≤ k) wd w7 := (k6.mono (fun _ _ h => h.elim)).trans (k7.mono (fun i _ e => (OwnI.from o6 e).1))
                refine ⟨⟨L ++ [(V : Int)], q, rfl, ?_⟩, by simp [intOf]; have := HI.out.le; have := Hq.out; omega⟩
                rw [Hq.out]
                have HMr : Lib.encodeRune (V : Int) = (s.data.toList.drop p).take 4 := by rw [Hr.out]; exact HM.out.2
                exact HI.out.next HM.out.1 HMr (by omega) o7 (rL.keeps kA (by omega)) (KW.trans' kA (fun i h => .inr (by omega))) (by have := kA.size; omega)
              · have hb : bad r := Decidable.byContradiction fun h => hm (HIff.out.2 h)
                have HN : Hid (AV = false ∧ AS = []) := by
                  have := HI.out.no (by rw [Hr.out]; exact Hr0.out) (by rw [Hr.out]; exact hb)
                  exact ⟨HV.out.symm.trans this.1, HS.out.symm.trans this.2⟩
                obtain ⟨Y, hY⟩ : ∃ Y, s.extract p q = Y := ⟨_, rfl⟩
                have hYd : Y = bs (r.take 4) := hY.symm.trans HX.out
                clear hb
                by_cases hS : isS (V : Int)
                · obtain ⟨E, hE⟩ : ∃ E, Lib.encodeRune (V : Int) = E := ⟨_, rfl⟩
                  obtain ⟨m, hmE⟩ : ∃ m, E.length = m := ⟨_, rfl⟩
                  obtain ⟨X, hXX⟩ : ∃ X, bs E = X := ⟨_, rfl⟩
                  have cB : ∀ W, Calls Tryd.prog 53 #[.int .i64 (V : Int)] W fun e w' => (∃ g, e = .returned (.slice (some ⟨g, 0, none⟩) m m) ∧ SlU w' (some ⟨g, 0, none⟩) m m E) ∧ Keeps (fun _ => False) W w' := fun W => by
                    refine (rbytes18 W V).mono ?_
                    rintro e w' ⟨⟨⟨_, g, h1, h2⟩ | ⟨h1, _⟩⟩, k⟩
                    · rw [hE, hmE] at h1 h2
                      exact ⟨⟨g, h1, h2⟩, k⟩
                    · exact absurd hS h1
                  have hne : (X.toList == Y.toList) = false := by
                    rw [beq_eq_false_iff_ne, ne_eq, ByteArray.toList_eq, ByteArray.toList_eq, ← hXX, hYd, bs_data, bs_data, ← hE]
                    exact fun e => hm ⟨hS, e⟩
                  clear hE hmE hm hS hYd
                  go_wp2_with fail
                  refine region_plan (S := fun w' => ∃ x : Regrown, w' = grow (redrawn wr x.d) x.os) [([0, 3, 4, 5, 6, 7, 8], 1), ([], 2)] [9] (by kernel_rfl) (by kernel_rfl) (by kernel_rfl) (by kernel_rfl) (cls_keeps kd) ?_
                  simp only [wpPlan, opsAt, pick]
                  repeat (go_big_quiet_step (fail))
                  refine wpQuiet_nil ?_
                  go_wp2_with (go_at_call 53; refine (cB _).mono ?_; rintro e wd ⟨⟨gE, rfl, sU⟩, kd1⟩)
                  have KD := kd.trans kd1
                  refine ⟨cls_keeps KD, ?_⟩
                  simp only [wpPlan, opsAt, pick]
                  refine wpQuiet_nil ?_
                  have hcv := conv_su sU
                  rw [show (⟨E.toArray⟩ : ByteArray) = X from hXX] at hcv
                  go_wp2
                  refine ⟨cls_keeps KD, ?_⟩
                  simp only [wpPlan, opsAt, pick]
                  repeat (go_big_quiet_step (fail))
                  refine wpQuiet_nil ?_
                  refine NoPanic.normal ?_
                  have rL := hrd.keep KD
                  have KW := HI.out.keeps.trans KD
                  go_wp2_with (first
                    | (refine wpList_build25z rfl rfl ?_)
                    | (refine wpList_store25 rfl _ _ rfl g2 rfl none 0 0 false rfl _ _ rL ?_; intro w9 r9 k9))
                  refine bodyPost_ret (results_rd rfl _ _ g2 _ _ rfl r9) rfl ?_
                  refine ⟨⟨none, 0, 0, by rw [HN.out.1], by rw [HN.out.2]; rfl, by rw [HN.out.2]; exact SlI.nil _⟩, KW.trans' k9 (fun i e => .inr (by omega))⟩
                · have cB : ∀ W, Calls Tryd.prog 53 #[.int .i64 (V : Int)] W fun e w' => e = .returned (.slice none 0 0) ∧ Keeps (fun _ => False) W w' := fun W => by
                    refine (rbytes18 W V).mono ?_
                    rintro e w' ⟨⟨⟨h1, _⟩ | ⟨_, h1⟩⟩, k⟩
                    · exact absurd h1 hS
                    · exact ⟨h1, k⟩
                  have hcv : ∀ W, (convert 43 9 (.slice none 0 0)).run Tryd.prog W = .ok (.string ⟨#[]⟩) W := fun W => conv_su (SlU.nil W)
                  have hne : ((⟨#[]⟩ : ByteArray).toList == Y.toList) = false := by
                    rw [beq_eq_false_iff_ne, ne_eq, ByteArray.toList_eq, ByteArray.toList_eq, hYd, bs_data]
                    intro e
                    have h1 := congrArg List.length e
                    have h2 : r.length = s.size - p := hrl
                    rw [List.length_take] at h1
                    simp at h1
                    omega
                  obtain ⟨X0, hX0⟩ : ∃ X0, (⟨#[]⟩ : ByteArray) = X0 := ⟨_, rfl⟩
                  rw [hX0] at hne hcv
                  clear hm hS hYd hX0
                  go_wp2_with fail
                  refine region_plan (S := fun w' => ∃ x : Regrown, w' = grow (redrawn wr x.d) x.os) [([0, 3, 4, 5, 6, 7, 8], 1), ([], 2)] [9] (by kernel_rfl) (by kernel_rfl) (by kernel_rfl) (by kernel_rfl) (cls_keeps kd) ?_
                  simp only [wpPlan, opsAt, pick]
                  repeat (go_big_quiet_step (fail))
                  refine wpQuiet_nil ?_
                  go_wp2_with (go_at_call 53; refine (cB _).mono ?_; rintro e wd ⟨rfl, kd1⟩)
                  have KD := kd.trans kd1
                  refine ⟨cls_keeps KD, ?_⟩
                  simp only [wpPlan, opsAt, pick]
                  refine wpQuiet_nil ?_
                  go_wp2
                  refine ⟨cls_keeps KD, ?_⟩
                  simp only [wpPlan, opsAt, pick]
                  repeat (go_big_quiet_step (fail))
                  refine wpQuiet_nil ?_
                  refine NoPanic.normal ?_
                  have rL := hrd.keep KD
                  have KW := HI.out.keeps.trans KD
                  go_wp2_with (first
                    | (refine wpList_build25z rfl rfl ?_)
                    | (refine wpList_store25 rfl _ _ rfl g2 rfl none 0 0 false rfl _ _ rL ?_; intro w9 r9 k9))
                  refine bodyPost_ret (results_rd rfl _ _ g2 _ _ rfl r9) rfl ?_
                  refine ⟨⟨none, 0, 0, by rw [HN.out.1], by rw [HN.out.2]; rfl, by rw [HN.out.2]; exact SlI.nil _⟩, KW.trans' k9 (fun i e => .inr (by omega))⟩
        · obtain ⟨q, hq⟩ : ∃ q : Nat, (p : Int) + 4 = (q : Int) := ⟨p + 4, by omega⟩
          have hq1 : (s.size : Int) < (q : Int) := by omega
          have HN : Hid (AV = false ∧ AS = []) := by
            have hb : bad r := rd_short Hr0.out (by rw [Hcls.out]; omega)
            have := hI.no (by rw [Hr.out]; exact Hr0.out) (by rw [Hr.out]; exact hb)
            exact ⟨HV.out.symm.trans this.1, HS.out.symm.trans this.2⟩
          have rL := hI.rd
          have KW := hI.keeps
          clear hacc
          go_wp2_with (first
            | (refine wpList_build25z rfl rfl ?_)
            | (refine wpList_store25 rfl _ _ rfl g2 rfl none 0 0 false rfl _ _ rL ?_; intro w9 r9 k9))
          refine bodyPost_ret (results_rd rfl _ _ g2 _ _ rfl r9) rfl ?_
          refine ⟨⟨none, 0, 0, by rw [HN.out.1], by rw [HN.out.2]; rfl, by rw [HN.out.2]; exact SlI.nil _⟩, KW.trans' k9 (fun i e => .inr (by omega))⟩
      · have Hcls : Hid (cls (r.getD 0 0).toNat = 3) := by show _ = _; rw [Hry.out]; unfold cls; rw [if_neg (by omega), if_pos (by omega)]
        have Hc0 : Hid (c0 (r.getD 0 0).toNat = y.toNat - 224) := by show _ = _; rw [Hry.out]; unfold c0; rw [if_neg (by omega), if_pos (by omega)]
        obtain ⟨C, hC⟩ : ∃ C : Nat, (y.toNat : Int) - 224 = (C : Int) := ⟨y.toNat - 224, by omega⟩
        have hC2 : C < 256 := by omega
        have HC : Hid (y.toNat - 224 = C) := by show _ = _; omega
        have f0 : ¬ (240 : Int) ≤ (y.toNat : Int) := by omega
        have f1 : (224 : Int) ≤ (y.toNat : Int) := by omega
        clear cs
        have hacc := acc_lt r C hC2
        by_cases hle : p + 3 ≤ s.size
        · have hle' : ¬ (s.size : Int) < (p : Int) + 3 := by omega
          obtain ⟨q, hq⟩ : ∃ q : Nat, (p : Int) + 3 = (q : Int) := ⟨p + 3, by omega⟩
          have Hq : Hid (q = p + 3) := by show _ = _; omega
          have hq0 : (p : Int) ≤ (q : Int) := by omega
          have hq1 : (q : Int) ≤ (s.size : Int) := by omega
          go_wp2
          go_loopw [7, 8] (fun v t wq => ∃ k : Nat, 1 ≤ k ∧ k ≤ 3 ∧ t = .int .i64 (k : Int) ∧ v = .int .i64 ((acc r C (k - 1) : Nat) : Int) ∧ wq = wr) (fun _ t _ => 3 - (intOf t).toNat)
          case atStart => exact ⟨1, by omega, by omega, rfl, by first | rfl | (simp only [acc]; congr 1), rfl⟩
          case round =>
            obtain ⟨k, hk1, hk2, rfl, rfl, rfl⟩ := hrel
            by_cases hkn : k < 3
            · have hk' : (k : Int) < 3 := by omega
              obtain ⟨qk, hqk⟩ : ∃ qk : Nat, (p : Int) + (k : Int) = (qk : Int) := ⟨p + k, by omega⟩
              have hqs : qk < s.size := by omega
              obtain ⟨z, hz⟩ : ∃ z : UInt8, s[qk]'hqs = z := ⟨_, rfl⟩
              obtain ⟨A, hA⟩ : ∃ A, acc r C (k - 1) = A := ⟨_, rfl⟩
              have hA1 : (A : Int) < 1048576 := by
                have : k - 1 = 0 ∨ k - 1 = 1 ∨ k - 1 = 2 := by omega
                rcases this with e | e | e <;> rw [e] at hA <;> omega
              have hA0 : (0 : Int) ≤ (A : Int) := by omega
              have HA : Hid (acc r C k = A * 64 + z.toNat % 64) := by
                show _ = _
                obtain ⟨j, rfl⟩ : ∃ j, k = j + 1 := ⟨k - 1, by omega⟩
                rw [Nat.add_sub_cancel] at hA
                rw [acc, hA, Hget.out, ← hz, s_get s qk hqs]
                congr 4
                omega
              have hz6 : bits .and .i64 (z.toNat : Int) 63 = (z.toNat : Int) % 64 := and63 _ (by omega) (by have := z.toNat_lt; omega)
              have hz0 : (z.toNat : Int) < 256 := by have := z.toNat_lt; omega
              clear hacc
              go_wp2
              refine ⟨⟨k + 1, by omega, by omega, rfl, ?_, by first | rfl | trivial⟩, by simp [intOf]; omega⟩
              rw [Nat.add_sub_cancel, HA.out]
              congr 1
            · obtain rfl : k = 3 := by omega
              obtain ⟨V, hV⟩ : ∃ V, acc r C (3 - 1) = V := ⟨_, rfl⟩
              rw [hV]
              have HIff : Hid ((isS (V : Int) ∧ Lib.encodeRune (V : Int) = r.take 3) ↔ ¬ bad r) := rd_iff Hr0.out Hcls.out (by rw [Hc0.out, HC.out]; exact hV)
              have HX : Hid (s.extract p q = bs (r.take 3)) := by
                show _ = _
                rw [ext_mid s p q (by omega) (by omega), Hr.out, Hq.out, Nat.add_sub_cancel_left]
              have HI : Hid (RsI s g2 B w L p _ _) := hI
              have hrd := hI.rd
              have kd : Keeps (fun _ => False) wr wr.drew := (Keeps.refl _ _).drew
              clear hV hacc hk1 hk2 hkn hI
              by_cases hm : isS (V : Int) ∧ Lib.encodeRune (V : Int) = r.take 3
              · obtain ⟨E, hE⟩ : ∃ E, Lib.encodeRune (V : Int) = E := ⟨_, rfl⟩
                obtain ⟨m, hmE⟩ : ∃ m, E.length = m := ⟨_, rfl⟩
                obtain ⟨X, hXX⟩ : ∃ X, bs E = X := ⟨_, rfl⟩
                have cB : ∀ W, Calls Tryd.prog 53 #[.int .i64 (V : Int)] W fun e w' => (∃ g, e = .returned (.slice (some ⟨g, 0, none⟩) m m) ∧ SlU w' (some ⟨g, 0, none⟩) m m E) ∧ Keeps (fun _ => False) W w' := fun W => by
                  refine (rbytes18 W V).mono ?_
                  rintro e w' ⟨⟨⟨_, g, h1, h2⟩ | ⟨h1, _⟩⟩, k⟩
                  · rw [hE, hmE] at h1 h2
                    exact ⟨⟨g, h1, h2⟩, k⟩
                  · exact absurd hm.1 h1
                have hx : s.extract p q = X := by rw [HX.out, ← hm.2, hE, hXX]
                have HM : Hid (isS (V : Int) ∧ Lib.encodeRune (V : Int) = r.take 3) := hm
                clear hE hmE hm
                go_wp2_with fail
                refine region_plan (S := fun w' => ∃ x : Regrown, w' = grow (redrawn wr x.d) x.os) [([0, 3, 4, 5, 6, 7, 8], 1), ([], 2)] [9] (by kernel_rfl) (by kernel_rfl) (by kernel_rfl) (by kernel_rfl) (cls_keeps kd) ?_
                simp only [wpPlan, opsAt, pick]
                repeat (go_big_quiet_step (fail))
                refine wpQuiet_nil ?_
                go_wp2_with (go_at_call 53; refine (cB _).mono ?_; rintro e wd ⟨⟨gE, rfl, sU⟩, kd1⟩)
                have KD := kd.trans kd1
                refine ⟨cls_keeps KD, ?_⟩
                simp only [wpPlan, opsAt, pick]
                refine wpQuiet_nil ?_
                have hcv := conv_su sU
                rw [show (⟨E.toArray⟩ : ByteArray) = X from hXX] at hcv
                go_wp2
                refine ⟨cls_keeps KD, ?_⟩
                simp only [wpPlan, opsAt, pick]
                repeat (go_big_quiet_step (fail))
                refine wpQuiet_nil ?_
                refine NoPanic.normal ?_
                have oL := HI.out.own.keeps KD (fun _ _ h => h.elim)
                have rL := hrd.keep KD
                have KW := HI.out.keeps.trans KD
                have zB : B ≤ wd.heap.size := by have := HI.out.size; have := KD.size; omega
                go_wp2_with (first
                  | (refine wpList_build1I rfl _ rfl (V : Int) rfl ?_; intro g9 w6 b6 z6 k6; have o6 := oL.keeps k6 (fun _ _ h => h.elim))
                  | (refine wpList_appI rfl _ _ rfl B _ L rfl o6 g9 rfl (V : Int) b6 (by omega) (by have := k6.size; omega) ?_; intro v7 w7 o7 k7))
                have kA : Keeps (fun k => B ≤ k) wd w7 := (k6.mono (fun _ _ h => h.elim)).trans (k7.mono (fun i _ e => (OwnI.from o6 e).1))
                refine ⟨⟨L ++ [(V : Int)], q, rfl, ?_⟩, by simp [intOf]; have := HI.out.le; have := Hq.out; omega⟩
                rw [Hq.out]
                have HMr : Lib.encodeRune (V : Int) = (s.data.toList.drop p).take 3 := by rw [Hr.out]; exact HM.out.2
                exact HI.out.next HM.out.1 HMr (by omega) o7 (rL.keeps kA (by omega)) (KW.trans' kA (fun i h => .inr (by omega))) (by have := kA.size; omega)
              · have hb : bad r := Decidable.byContradiction fun h => hm (HIff.out.2 h)
                have HN : Hid (AV = false ∧ AS = []) := by
                  have := HI.out.no (by rw [Hr.out]; exact Hr0.out) (by rw [Hr.out]; exact hb)
                  exact ⟨HV.out.symm.trans this.1, HS.out.symm.trans this.2⟩
                obtain ⟨Y, hY⟩ : ∃ Y, s.extract p q = Y := ⟨_, rfl⟩
                have hYd : Y = bs (r.take 3) := hY.symm.trans HX.out
                clear hb
                by_cases hS : isS (V : Int)
                · obtain ⟨E, hE⟩ : ∃ E, Lib.encodeRune (V : Int) = E := ⟨_, rfl⟩
                  obtain ⟨m, hmE⟩ : ∃ m, E.length = m := ⟨_, rfl⟩
                  obtain ⟨X, hXX⟩ : ∃ X, bs E = X := ⟨_, rfl⟩
                  have cB : ∀ W, Calls Tryd.prog 53 #[.int .i64 (V : Int)] W fun e w' => (∃ g, e = .returned (.slice (some ⟨g, 0, none⟩) m m) ∧ SlU w' (some ⟨g, 0, none⟩) m m E) ∧ Keeps (fun _ => False) W w' := fun W => by
                    refine (rbytes18 W V).mono ?_
                    rintro e w' ⟨⟨⟨_, g, h1, h2⟩ | ⟨h1, _⟩⟩, k⟩
                    · rw [hE, hmE] at h1 h2
                      exact ⟨⟨g, h1, h2⟩, k⟩
                    · exact absurd hS h1
                  have hne : (X.toList == Y.toList) = false := by
                    rw [beq_eq_false_iff_ne, ne_eq, ByteArray.toList_eq, ByteArray.toList_eq, ← hXX, hYd, bs_data, bs_data, ← hE]
                    exact fun e => hm ⟨hS, e⟩
                  clear hE hmE hm hS hYd
                  go_wp2_with fail
                  refine region_plan (S := fun w' => ∃ x : Regrown, w' = grow (redrawn wr x.d) x.os) [([0, 3, 4, 5, 6, 7, 8], 1), ([], 2)] [9] (by kernel_rfl) (by kernel_rfl) (by kernel_rfl) (by kernel_rfl) (cls_keeps kd) ?_
                  simp only [wpPlan, opsAt, pick]
                  repeat (go_big_quiet_step (fail))
                  refine wpQuiet_nil ?_
                  go_wp2_with (go_at_call 53; refine (cB _).mono ?_; rintro e wd ⟨⟨gE, rfl, sU⟩, kd1⟩)
                  have KD := kd.trans kd1
                  refine ⟨cls_keeps KD, ?_⟩
                  simp only [wpPlan, opsAt, pick]
                  refine wpQuiet_nil ?_
                  have hcv := conv_su sU
                  rw [show (⟨E.toArray⟩ : ByteArray) = X from hXX] at hcv
                  go_wp2
                  refine ⟨cls_keeps KD, ?_⟩
                  simp only [wpPlan, opsAt, pick]
                  repeat (go_big_quiet_step (fail))
                  refine wpQuiet_nil ?_
                  refine NoPanic.normal ?_
                  have rL := hrd.keep KD
                  have KW := HI.out.keeps.trans KD
                  go_wp2_with (first
                    | (refine wpList_build25z rfl rfl ?_)
                    | (refine wpList_store25 rfl _ _ rfl g2 rfl none 0 0 false rfl _ _ rL ?_; intro w9 r9 k9))
                  refine bodyPost_ret (results_rd rfl _ _ g2 _ _ rfl r9) rfl ?_
                  refine ⟨⟨none, 0, 0, by rw [HN.out.1], by rw [HN.out.2]; rfl, by rw [HN.out.2]; exact SlI.nil _⟩, KW.trans' k9 (fun i e => .inr (by omega))⟩
                · have cB : ∀ W, Calls Tryd.prog 53 #[.int .i64 (V : Int)] W fun e w' => e = .returned (.slice none 0 0) ∧ Keeps (fun _ => False) W w' := fun W => by
                    refine (rbytes18 W V).mono ?_
                    rintro e w' ⟨⟨⟨h1, _⟩ | ⟨_, h1⟩⟩, k⟩
                    · exact absurd h1 hS
                    · exact ⟨h1, k⟩
                  have hcv : ∀ W, (convert 43 9 (.slice none 0 0)).run Tryd.prog W = .ok (.string ⟨#[]⟩) W := fun W => conv_su (SlU.nil W)
                  have hne : ((⟨#[]⟩ : ByteArray).toList == Y.toList) = false := by
                    rw [beq_eq_false_iff_ne, ne_eq, ByteArray.toList_eq, ByteArray.toList_eq, hYd, bs_data]
                    intro e
                    have h1 := congrArg List.length e
                    have h2 : r.length = s.size - p := hrl
                    rw [List.length_take] at h1
                    simp at h1
                    omega
                  obtain ⟨X0, hX0⟩ : ∃ X0, (⟨#[]⟩ : ByteArray) = X0 := ⟨_, rfl⟩
                  rw [hX0] at hne hcv
                  clear hm hS hYd hX0
                  go_wp2_with fail
                  refine region_plan (S := fun w' => ∃ x : Regrown, w' = grow (redrawn wr x.d) x.os) [([0, 3, 4, 5, 6, 7, 8], 1), ([], 2)] [9] (by kernel_rfl) (by kernel_rfl) (by kernel_rfl) (by kernel_rfl) (cls_keeps kd) ?_
                  simp only [wpPlan, opsAt, pick]
                  repeat (go_big_quiet_step (fail))
                  refine wpQuiet_nil ?_
                  go_wp2_with (go_at_call 53; refine (cB _).mono ?_; rintro e wd ⟨rfl, kd1⟩)
                  have KD := kd.trans kd1
                  refine ⟨cls_keeps KD, ?_⟩
                  simp only [wpPlan, opsAt, pick]
                  refine wpQuiet_nil ?_
                  go_wp2
                  refine ⟨cls_keeps KD, ?_⟩
                  simp only [wpPlan, opsAt, pick]
                  repeat (go_big_quiet_step (fail))
                  refine wpQuiet_nil ?_
                  refine NoPanic.normal ?_
                  have rL := hrd.keep KD
                  have KW := HI.out.keeps.trans KD
                  go_wp2_with (first
                    | (refine wpList_build25z rfl rfl ?_)
                    | (refine wpList_store25 rfl _ _ rfl g2 rfl none 0 0 false rfl _ _ rL ?_; intro w9 r9 k9))
                  refine bodyPost_ret (results_rd rfl _ _ g2 _ _ rfl r9) rfl ?_
                  refine ⟨⟨none, 0, 0, by rw [HN.out.1], by rw [HN.out.2]; rfl, by rw [HN.out.2]; exact SlI.nil _⟩, KW.trans' k9 (fun i e => .inr (by omega))⟩
        · obtain ⟨q, hq⟩ : ∃ q : Nat, (p : Int) + 3 = (q : Int) := ⟨p + 3, by omega⟩
          have hq1 : (s.size : Int) < (q : Int) := by omega
          have HN : Hid (AV = false ∧ AS = []) := by
            have hb : bad r := rd_short Hr0.out (by rw [Hcls.out]; omega)
            have := hI.no (by rw [Hr.out]; exact Hr0.out) (by rw [Hr.out]; exact hb)
            exact ⟨HV.out.symm.trans this.1, HS.out.symm.trans this.2⟩
          have rL := hI.rd
          have KW := hI.keeps
          clear hacc
          go_wp2_with (first
            | (refine wpList_build25z rfl rfl ?_)
            | (refine wpList_store25 rfl _ _ rfl g2 rfl none 0 0 false rfl _ _ rL ?_; intro w9 r9 k9))
          refine bodyPost_ret (results_rd rfl _ _ g2 _ _ rfl r9) rfl ?_
          refine ⟨⟨none, 0, 0, by rw [HN.out.1], by rw [HN.out.2]; rfl, by rw [HN.out.2]; exact SlI.nil _⟩, KW.trans' k9 (fun i e => .inr (by omega))⟩
      · have Hcls : Hid (cls (r.getD 0 0).toNat = 2) := by show _ = _; rw [Hry.out]; unfold cls; rw [if_neg (by omega), if_neg (by omega), if_pos (by omega)]
        have Hc0 : Hid (c0 (r.getD 0 0).toNat = y.toNat - 192) := by show _ = _; rw [Hry.out]; unfold c0; rw [if_neg (by omega), if_neg (by omega), if_pos (by omega)]
        obtain ⟨C, hC⟩ : ∃ C : Nat, (y.toNat : Int) - 192 = (C : Int) := ⟨y.toNat - 192, by omega⟩
        have hC2 : C < 256 := by omega
        have HC : Hid (y.toNat - 192 = C) := by show _ = _; omega
        have f0 : ¬ (240 : Int) ≤ (y.toNat : Int) := by omega
        have f1 : ¬ (224 : Int) ≤ (y.toNat : Int) := by omega
        have f2 : (192 : Int) ≤ (y.toNat : Int) := by omega
        clear cs
        have hacc := acc_lt r C hC2
        by_cases hle : p + 2 ≤ s.size
        · have hle' : ¬ (s.size : Int) < (p : Int) + 2 := by omega
          obtain ⟨q, hq⟩ : ∃ q : Nat, (p : Int) + 2 = (q : Int) := ⟨p + 2, by omega⟩
          have Hq : Hid (q = p + 2) := by show _ = _; omega
          have hq0 : (p : Int) ≤ (q : Int) := by omega
          have hq1 : (q : Int) ≤ (s.size : Int) := by omega
          go_wp2
          go_loopw [7, 8] (fun v t wq => ∃ k : Nat, 1 ≤ k ∧ k ≤ 2 ∧ t = .int .i64 (k : Int) ∧ v = .int .i64 ((acc r C (k - 1) : Nat) : Int) ∧ wq = wr) (fun _ t _ => 2 - (intOf t).toNat)
          case atStart => exact ⟨1, by omega, by omega, rfl, by first | rfl | (simp only [acc]; congr 1), rfl⟩
          case round =>
            obtain ⟨k, hk1, hk2, rfl, rfl, rfl⟩ := hrel
            by_cases hkn : k < 2
            · have hk' : (k : Int) < 2 := by omega
              obtain ⟨qk, hqk⟩ : ∃ qk : Nat, (p : Int) + (k : Int) = (qk : Int) := ⟨p + k, by omega⟩
              have hqs : qk < s.size := by omega
              obtain ⟨z, hz⟩ : ∃ z : UInt8, s[qk]'hqs = z := ⟨_, rfl⟩
              obtain ⟨A, hA⟩ : ∃ A, acc r C (k - 1) = A := ⟨_, rfl⟩
              have hA1 : (A : Int) < 1048576 := by
                have : k - 1 = 0 ∨ k - 1 = 1 ∨ k - 1 = 2 := by omega
                rcases this with e | e | e <;> rw [e] at hA <;> omega
              have hA0 : (0 : Int) ≤ (A : Int) := by omega
              have HA : Hid (acc r C k = A * 64 + z.toNat % 64) := by
                show _ = _
                obtain ⟨j, rfl⟩ : ∃ j, k = j + 1 := ⟨k - 1, by omega⟩
                rw [Nat.add_sub_cancel] at hA
                rw [acc, hA, Hget.out, ← hz, s_get s qk hqs]
                congr 4
                omega
              have hz6 : bits .and .i64 (z.toNat : Int) 63 = (z.toNat : Int) % 64 := and63 _ (by omega) (by have := z.toNat_lt; omega)
              have hz0 : (z.toNat : Int) < 256 := by have := z.toNat_lt; omega
              clear hacc
              go_wp2
              refine ⟨⟨k + 1, by omega, by omega, rfl, ?_, by first | rfl | trivial⟩, by simp [intOf]; omega⟩
              rw [Nat.add_sub_cancel, HA.out]
              congr 1
            · obtain rfl : k = 2 := by omega
              obtain ⟨V, hV⟩ : ∃ V, acc r C (2 - 1) = V := ⟨_, rfl⟩
              rw [hV]
              have HIff : Hid ((isS (V : Int) ∧ Lib.encodeRune (V : Int) = r.take 2) ↔ ¬ bad r) := rd_iff Hr0.out Hcls.out (by rw [Hc0.out, HC.out]; exact hV)
              have HX : Hid (s.extract p q = bs (r.take 2)) := by
                show _ = _
                rw [ext_mid s p q (by omega) (by omega), Hr.out, Hq.out, Nat.add_sub_cancel_left]
              have HI : Hid (RsI s g2 B w L p _ _) := hI
              have hrd := hI.rd
              have kd : Keeps (fun _ => False) wr wr.drew := (Keeps.refl _ _).drew
              clear hV hacc hk1 hk2 hkn hI
              by_cases hm : isS (V : Int) ∧ Lib.encodeRune (V : Int) = r.take 2
              · obtain ⟨E, hE⟩ : ∃ E, Lib.encodeRune (V : Int) = E := ⟨_, rfl⟩
                obtain ⟨m, hmE⟩ : ∃ m, E.length = m := ⟨_, rfl⟩
                obtain ⟨X, hXX⟩ : ∃ X, bs E = X := ⟨_, rfl⟩
                have cB : ∀ W, Calls Tryd.prog 53 #[.int .i64 (V : Int)] W fun e w' => (∃ g, e = .returned (.slice (some ⟨g, 0, none⟩) m m) ∧ SlU w' (some ⟨g, 0, none⟩) m m E) ∧ Keeps (fun _ => False) W w' := fun W => by
                  refine (rbytes18 W V).mono ?_
                  rintro e w' ⟨⟨⟨_, g, h1, h2⟩ | ⟨h1, _⟩⟩, k⟩
                  · rw [hE, hmE] at h1 h2
                    exact ⟨⟨g, h1, h2⟩, k⟩
                  · exact absurd hm.1 h1
                have hx : s.extract p q = X := by rw [HX.out, ← hm.2, hE, hXX]
                have HM : Hid (isS (V : Int) ∧ Lib.encodeRune (V : Int) = r.take 2) := hm
                clear hE hmE hm
                go_wp2_with fail
                refine region_plan (S := fun w' => ∃ x : Regrown, w' = grow (redrawn wr x.d) x.os) [([0, 3, 4, 5, 6, 7, 8], 1), ([], 2)] [9] (by kernel_rfl) (by kernel_rfl) (by kernel_rfl) (by kernel_rfl) (cls_keeps kd) ?_
                simp only [wpPlan, opsAt, pick]
                repeat (go_big_quiet_step (fail))
                refine wpQuiet_nil ?_
                go_wp2_with (go_at_call 53; refine (cB _).mono ?_; rintro e wd ⟨⟨gE, rfl, sU⟩, kd1⟩)
                have KD := kd.trans kd1
                refine ⟨cls_keeps KD, ?_⟩
                simp only [wpPlan, opsAt, pick]
                refine wpQuiet_nil ?_
                have hcv := conv_su sU
                rw [show (⟨E.toArray⟩ : ByteArray) = X from hXX] at hcv
                go_wp2
                refine ⟨cls_keeps KD, ?_⟩
                simp only [wpPlan, opsAt, pick]
                repeat (go_big_quiet_step (fail))
                refine wpQuiet_nil ?_
                refine NoPanic.normal ?_
                have oL := HI.out.own.keeps KD (fun _ _ h => h.elim)
                have rL := hrd.keep KD
                have KW := HI.out.keeps.trans KD
                have zB : B ≤ wd.heap.size := by have := HI.out.size; have := KD.size; omega
                go_wp2_with (first
                  | (refine wpList_build1I rfl _ rfl (V : Int) rfl ?_; intro g9 w6 b6 z6 k6; have o6 := oL.keeps k6 (fun _ _ h => h.elim))
                  | (refine wpList_appI rfl _ _ rfl B _ L rfl o6 g9 rfl (V : Int) b6 (by omega) (by have := k6.size; omega) ?_; intro v7 w7 o7 k7))
                have kA : Keeps (fun k => B ≤ k) wd w7 := (k6.mono (fun _ _ h => h.elim)).trans (k7.mono (fun i _ e => (OwnI.from o6 e).1))
                refine ⟨⟨L ++ [(V : Int)], q, rfl, ?_⟩, by simp [intOf]; have := HI.out.le; have := Hq.out; omega⟩
                rw [Hq.out]
                have HMr : Lib.encodeRune (V : Int) = (s.data.toList.drop p).take 2 := by rw [Hr.out]; exact HM.out.2
                exact HI.out.next HM.out.1 HMr (by omega) o7 (rL.keeps kA (by omega)) (KW.trans' kA (fun i h => .inr (by omega))) (by have := kA.size; omega)
              · have hb : bad r := Decidable.byContradiction fun h => hm (HIff.out.2 h)
                have HN : Hid (AV = false ∧ AS = []) := by
                  have := HI.out.no (by rw [Hr.out]; exact Hr0.out) (by rw [Hr.out]; exact hb)
                  exact ⟨HV.out.symm.trans this.1, HS.out.symm.trans this.2⟩
                obtain ⟨Y, hY⟩ : ∃ Y, s.extract p q = Y := ⟨_, rfl⟩
                have hYd : Y = bs (r.take 2) := hY.symm.trans HX.out
                clear hb
                by_cases hS : isS (V : Int)
                · obtain ⟨E, hE⟩ : ∃ E, Lib.encodeRune (V : Int) = E := ⟨_, rfl⟩
                  obtain ⟨m, hmE⟩ : ∃ m, E.length = m := ⟨_, rfl⟩
                  obtain ⟨X, hXX⟩ : ∃ X, bs E = X := ⟨_, rfl⟩
                  have cB : ∀ W, Calls Tryd.prog 53 #[.int .i64 (V : Int)] W fun e w' => (∃ g, e = .returned (.slice (some ⟨g, 0, none⟩) m m) ∧ SlU w' (some ⟨g, 0, none⟩) m m E) ∧ Keeps (fun _ => False) W w' := fun W => by
                    refine (rbytes18 W V).mono ?_
                    rintro e w' ⟨⟨⟨_, g, h1, h2⟩ | ⟨h1, _⟩⟩, k⟩
                    · rw [hE, hmE] at h1 h2
                      exact ⟨⟨g, h1, h2⟩, k⟩
                    · exact absurd hS h1
                  have hne : (X.toList == Y.toList) = false := by
                    rw [beq_eq_false_iff_ne, ne_eq, ByteArray.toList_eq, ByteArray.toList_eq, ← hXX, hYd, bs_data, bs_data, ← hE]
                    exact fun e => hm ⟨hS, e⟩
                  clear hE hmE hm hS hYd
                  go_wp2_with fail
                  refine region_plan (S := fun w' => ∃ x : Regrown, w' = grow (redrawn wr x.d) x.os) [([0, 3, 4, 5, 6, 7, 8], 1), ([], 2)] [9] (by kernel_rfl) (by kernel_rfl) (by kernel_rfl) (by kernel_rfl) (cls_keeps kd) ?_
                  simp only [wpPlan, opsAt, pick]
                  repeat (go_big_quiet_step (fail))
                  refine wpQuiet_nil ?_
                  go_wp2_with (go_at_call 53; refine (cB _).mono ?_; rintro e wd ⟨⟨gE, rfl, sU⟩, kd1⟩)
                  have KD := kd.trans kd1
                  refine ⟨cls_keeps KD, ?_⟩
                  simp only [wpPlan, opsAt, pick]
                  refine wpQuiet_nil ?_
                  have hcv := conv_su sU
                  rw [show (⟨E.toArray⟩ : ByteArray) = X from hXX] at hcv
                  go_wp2
                  refine ⟨cls_keeps KD, ?_⟩
                  simp only [wpPlan, opsAt, pick]
                  repeat (go_big_quiet_step (fail))
                  refine wpQuiet_nil ?_
                  refine NoPanic.normal ?_
                  have rL := hrd.keep KD
                  have KW := HI.out.keeps.trans KD
                  go_wp2_with (first
                    | (refine wpList_build25z rfl rfl ?_)
                    | (refine wpList_store25 rfl _ _ rfl g2 rfl none 0 0 false rfl _ _ rL ?_; intro w9 r9 k9))
                  refine bodyPost_ret (results_rd rfl _ _ g2 _ _ rfl r9) rfl ?_
                  refine ⟨⟨none, 0, 0, by rw [HN.out.1], by rw [HN.out.2]; rfl, by rw [HN.out.2]; exact SlI.nil _⟩, KW.trans' k9 (fun i e => .inr (by omega))⟩
                · have cB : ∀ W, Calls Tryd.prog 53 #[.int .i64 (V : Int)] W fun e w' => e = .returned (.slice none 0 0) ∧ Keeps (fun _ => False) W w' := fun W => by
                    refine (rbytes18 W V).mono ?_
                    rintro e w' ⟨⟨⟨h1, _⟩ | ⟨_, h1⟩⟩, k⟩
                    · exact absurd h1 hS
                    · exact ⟨h1, k⟩
                  have hcv : ∀ W, (convert 43 9 (.slice none 0 0)).run Tryd.prog W = .ok (.string ⟨#[]⟩) W := fun W => conv_su (SlU.nil W)
                  have hne : ((⟨#[]⟩ : ByteArray).toList == Y.toList) = false := by
                    rw [beq_eq_false_iff_ne, ne_eq, ByteArray.toList_eq, ByteArray.toList_eq, hYd, bs_data]
                    intro e
                    have h1 := congrArg List.length e
                    have h2 : r.length = s.size - p := hrl
                    rw [List.length_take] at h1
                    simp at h1
                    omega
                  obtain ⟨X0, hX0⟩ : ∃ X0, (⟨#[]⟩ : ByteArray) = X0 := ⟨_, rfl⟩
                  rw [hX0] at hne hcv
                  clear hm hS hYd hX0
                  go_wp2_with fail
                  refine region_plan (S := fun w' => ∃ x : Regrown, w' = grow (redrawn wr x.d) x.os) [([0, 3, 4, 5, 6, 7, 8], 1), ([], 2)] [9] (by kernel_rfl) (by kernel_rfl) (by kernel_rfl) (by kernel_rfl) (cls_keeps kd) ?_
                  simp only [wpPlan, opsAt, pick]
                  repeat (go_big_quiet_step (fail))
                  refine wpQuiet_nil ?_
                  go_wp2_with (go_at_call 53; refine (cB _).mono ?_; rintro e wd ⟨rfl, kd1⟩)
                  have KD := kd.trans kd1
                  refine ⟨cls_keeps KD, ?_⟩
                  simp only [wpPlan, opsAt, pick]
                  refine wpQuiet_nil ?_
                  go_wp2
                  refine ⟨cls_keeps KD, ?_⟩
                  simp only [wpPlan, opsAt, pick]
                  repeat (go_big_quiet_step (fail))
                  refine wpQuiet_nil ?_
                  refine NoPanic.normal ?_
                  have rL := hrd.keep KD
                  have KW := HI.out.keeps.trans KD
                  go_wp2_with (first
                    | (refine wpList_build25z rfl rfl ?_)
                    | (refine wpList_store25 rfl _ _ rfl g2 rfl none 0 0 false rfl _ _ rL ?_; intro w9 r9 k9))
                  refine bodyPost_ret (results_rd rfl _ _ g2 _ _ rfl r9) rfl ?_
                  refine ⟨⟨none, 0, 0, by rw [HN.out.1], by rw [HN.out.2]; rfl, by rw [HN.out.2]; exact SlI.nil _⟩, KW.trans' k9 (fun i e => .inr (by omega))⟩
        · obtain ⟨q, hq⟩ : ∃ q : Nat, (p : Int) + 2 = (q : Int) := ⟨p + 2, by omega⟩
          have hq1 : (s.size : Int) < (q : Int) := by omega
          have HN : Hid (AV = false ∧ AS = []) := by
            have hb : bad r := rd_short Hr0.out (by rw [Hcls.out]; omega)
            have := hI.no (by rw [Hr.out]; exact Hr0.out) (by rw [Hr.out]; exact hb)
            exact ⟨HV.out.symm.trans this.1, HS.out.symm.trans this.2⟩
          have rL := hI.rd
          have KW := hI.keeps
          clear hacc
          go_wp2_with (first
            | (refine wpList_build25z rfl rfl ?_)
            | (refine wpList_store25 rfl _ _ rfl g2 rfl none 0 0 false rfl _ _ rL ?_; intro w9 r9 k9))
          refine bodyPost_ret (results_rd rfl _ _ g2 _ _ rfl r9) rfl ?_
          refine ⟨⟨none, 0, 0, by rw [HN.out.1], by rw [HN.out.2]; rfl, by rw [HN.out.2]; exact SlI.nil _⟩, KW.trans' k9 (fun i e => .inr (by omega))⟩
      · have Hcls : Hid (cls (r.getD 0 0).toNat = 1) := by show _ = _; rw [Hry.out]; unfold cls; rw [if_neg (by omega), if_neg (by omega), if_neg (by omega)]
        have Hc0 : Hid (c0 (r.getD 0 0).toNat = y.toNat) := by show _ = _; rw [Hry.out]; unfold c0; rw [if_neg (by omega), if_neg (by omega), if_neg (by omega)]
        obtain ⟨C, hC⟩ : ∃ C : Nat, (y.toNat : Int) = (C : Int) := ⟨y.toNat, by omega⟩
        have hC2 : C < 256 := by omega
        have HC : Hid (y.toNat = C) := by show _ = _; omega
        have f0 : ¬ (240 : Int) ≤ (C : Int) := by omega
        have f1 : ¬ (224 : Int) ≤ (C : Int) := by omega
        have f2 : ¬ (192 : Int) ≤ (C : Int) := by omega
        clear cs
        have hacc := acc_lt r C hC2
        by_cases hle : p + 1 ≤ s.size
        · have hle' : ¬ (s.size : Int) < (p : Int) + 1 := by omega
          obtain ⟨q, hq⟩ : ∃ q : Nat, (p : Int) + 1 = (q : Int) := ⟨p + 1, by omega⟩
          have Hq : Hid (q = p + 1) := by show _ = _; omega
          have hq0 : (p : Int) ≤ (q : Int) := by omega
          have hq1 : (q : Int) ≤ (s.size : Int) := by omega
          go_wp2
          go_loopw [7, 8] (fun v t wq => ∃ k : Nat, 1 ≤ k ∧ k ≤ 1 ∧ t = .int .i64 (k : Int) ∧ v = .int .i64 ((acc r C (k - 1) : Nat) : Int) ∧ wq = wr) (fun _ t _ => 1 - (intOf t).toNat)
          case atStart => exact ⟨1, by omega, by omega, rfl, by first | rfl | (simp only [acc]; congr 1), rfl⟩
          case round =>
            obtain ⟨k, hk1, hk2, rfl, rfl, rfl⟩ := hrel
            by_cases hkn : k < 1
            · exact absurd hkn (by omega)
            · obtain rfl : k = 1 := by omega
              obtain ⟨V, hV⟩ : ∃ V, acc r C (1 - 1) = V := ⟨_, rfl⟩
              rw [hV]
              have HIff : Hid ((isS (V : Int) ∧ Lib.encodeRune (V : Int) = r.take 1) ↔ ¬ bad r) := rd_iff Hr0.out Hcls.out (by rw [Hc0.out, HC.out]; exact hV)
              have HX : Hid (s.extract p q = bs (r.take 1)) := by
                show _ = _
                rw [ext_mid s p q (by omega) (by omega), Hr.out, Hq.out, Nat.add_sub_cancel_left]
              have HI : Hid (RsI s g2 B w L p _ _) := hI
              have hrd := hI.rd
              have kd : Keeps (fun _ => False) wr wr.drew := (Keeps.refl _ _).drew
              clear hV hacc hk1 hk2 hkn hI
              by_cases hm : isS (V : Int) ∧ Lib.encodeRune (V : Int) = r.take 1
              · obtain ⟨E, hE⟩ : ∃ E, Lib.encodeRune (V : Int) = E := ⟨_, rfl⟩
                obtain ⟨m, hmE⟩ : ∃ m, E.length = m := ⟨_, rfl⟩
                obtain ⟨X, hXX⟩ : ∃ X, bs E = X := ⟨_, rfl⟩
                have cB : ∀ W, Calls Tryd.prog 53 #[.int .i64 (V : Int)] W fun e w' => (∃ g, e = .returned (.slice (some ⟨g, 0, none⟩) m m) ∧ SlU w' (some ⟨g, 0, none⟩) m m E) ∧ Keeps (fun _ => False) W w' := fun W => by
                  refine (rbytes18 W V).mono ?_
                  rintro e w' ⟨⟨⟨_, g, h1, h2⟩ | ⟨h1, _⟩⟩, k⟩
                  · rw [hE, hmE] at h1 h2
                    exact ⟨⟨g, h1, h2⟩, k⟩
                  · exact absurd hm.1 h1
                have hx : s.extract p q = X := by rw [HX.out, ← hm.2, hE, hXX]
                have HM : Hid (isS (V : Int) ∧ Lib.encodeRune (V : Int) = r.take 1) := hm
                clear hE hmE hm
                go_wp2_with fail
                refine region_plan (S := fun w' => ∃ x : Regrown, w' = grow (redrawn wr x.d) x.os) [([0, 3, 4, 5, 6, 7, 8], 1), ([], 2)] [9] (by kernel_rfl) (by kernel_rfl) (by kernel_rfl) (by kernel_rfl) (cls_keeps kd) ?_
                simp only [wpPlan, opsAt, pick]
                repeat (go_big_quiet_step (fail))
                refine wpQuiet_nil ?_
                go_wp2_with (go_at_call 53; refine (cB _).mono ?_; rintro e wd ⟨⟨gE, rfl, sU⟩, kd1⟩)
                have KD := kd.trans kd1
                refine ⟨cls_keeps KD, ?_⟩
                simp only [wpPlan, opsAt, pick]
                refine wpQuiet_nil ?_
                have hcv := conv_su sU
                rw [show (⟨E.toArray⟩ : ByteArray) = X from hXX] at hcv
                go_wp2
                refine ⟨cls_keeps KD, ?_⟩
                simp only [wpPlan, opsAt, pick]
                repeat (go_big_quiet_step (fail))
                refine wpQuiet_nil ?_
                refine NoPanic.normal ?_
                have oL := HI.out.own.keeps KD (fun _ _ h => h.elim)
                have rL := hrd.keep KD
                have KW := HI.out.keeps.trans KD
                have zB : B ≤ wd.heap.size := by have := HI.out.size; have := KD.size; omega
                go_wp2_with (first
                  | (refine wpList_build1I rfl _ rfl (V : Int) rfl ?_; intro g9 w6 b6 z6 k6; have o6 := oL.keeps k6 (fun _ _ h => h.elim))
                  | (refine wpList_appI rfl _ _ rfl B _ L rfl o6 g9 rfl (V : Int) b6 (by omega) (by have := k6.size; omega) ?_; intro v7 w7 o7 k7))
                have kA : Keeps (fun k => B ≤ k) wd w7 := (k6.mono (fun _ _ h => h.elim)).trans (k7.mono (fun i _ e => (OwnI.from o6 e).1))
                refine ⟨⟨L ++ [(V : Int)], q, rfl, ?_⟩, by simp [intOf]; have := HI.out.le; have := Hq.out; omega⟩
                rw [Hq.out]
                have HMr : Lib.encodeRune (V : Int) = (s.data.toList.drop p).take 1 := by rw [Hr.out]; exact HM.out.2
                exact HI.out.next HM.out.1 HMr (by omega) o7 (rL.keeps kA (by omega)) (KW.trans' kA (fun i h => .inr (by omega))) (by have := kA.size; omega)
              · have hb : bad r := Decidable.byContradiction fun h => hm (HIff.out.2 h)
                have HN : Hid (AV = false ∧ AS = []) := by
                  have := HI.out.no (by rw [Hr.out]; exact Hr0.out) (by rw [Hr.out]; exact hb)
                  exact ⟨HV.out.symm.trans this.1, HS.out.symm.trans this.2⟩
                obtain ⟨Y, hY⟩ : ∃ Y, s.extract p q = Y := ⟨_, rfl⟩
                have hYd : Y = bs (r.take 1) := hY.symm.trans HX.out
                clear hb
                by_cases hS : isS (V : Int)
                · obtain ⟨E, hE⟩ : ∃ E, Lib.encodeRune (V : Int) = E := ⟨_, rfl⟩
                  obtain ⟨m, hmE⟩ : ∃ m, E.length = m := ⟨_, rfl⟩
                  obtain ⟨X, hXX⟩ : ∃ X, bs E = X := ⟨_, rfl⟩
                  have cB : ∀ W, Calls Tryd.prog 53 #[.int .i64 (V : Int)] W fun e w' => (∃ g, e = .returned (.slice (some ⟨g, 0, none⟩) m m) ∧ SlU w' (some ⟨g, 0, none⟩) m m E) ∧ Keeps (fun _ => False) W w' := fun W => by
                    refine (rbytes18 W V).mono ?_
                    rintro e w' ⟨⟨⟨_, g, h1, h2⟩ | ⟨h1, _⟩⟩, k⟩
                    · rw [hE, hmE] at h1 h2
                      exact ⟨⟨g, h1, h2⟩, k⟩
                    · exact absurd hS h1
                  have hne : (X.toList == Y.toList) = false := by
                    rw [beq_eq_false_iff_ne, ne_eq, ByteArray.toList_eq, ByteArray.toList_eq, ← hXX, hYd, bs_data, bs_data, ← hE]
                    exact fun e => hm ⟨hS, e⟩
                  clear hE hmE hm hS hYd
                  go_wp2_with fail
                  refine region_plan (S := fun w' => ∃ x : Regrown, w' = grow (redrawn wr x.d) x.os) [([0, 3, 4, 5, 6, 7, 8], 1), ([], 2)] [9] (by kernel_rfl) (by kernel_rfl) (by kernel_rfl) (by kernel_rfl) (cls_keeps kd) ?_
                  simp only [wpPlan, opsAt, pick]
                  repeat (go_big_quiet_step (fail))
                  refine wpQuiet_nil ?_
                  go_wp2_with (go_at_call 53; refine (cB _).mono ?_; rintro e wd ⟨⟨gE, rfl, sU⟩, kd1⟩)
                  have KD := kd.trans kd1
                  refine ⟨cls_keeps KD, ?_⟩
                  simp only [wpPlan, opsAt, pick]
                  refine wpQuiet_nil ?_
                  have hcv := conv_su sU
                  rw [show (⟨E.toArray⟩ : ByteArray) = X from hXX] at hcv
                  go_wp2
                  refine ⟨cls_keeps KD, ?_⟩
                  simp only [wpPlan, opsAt, pick]
                  repeat (go_big_quiet_step (fail))
                  refine wpQuiet_nil ?_
                  refine NoPanic.normal ?_
                  have rL := hrd.keep KD
                  have KW := HI.out.keeps.trans KD
                  go_wp2_with (first
                    | (refine wpList_build25z rfl rfl ?_)
                    | (refine wpList_store25 rfl _ _ rfl g2 rfl none 0 0 false rfl _ _ rL ?_; intro w9 r9 k9))
                  refine bodyPost_ret (results_rd rfl _ _ g2 _ _ rfl r9) rfl ?_
                  refine ⟨⟨none, 0, 0, by rw [HN.out.1], by rw [HN.out.2]; rfl, by rw [HN.out.2]; exact SlI.nil _⟩, KW.trans' k9 (fun i e => .inr (by omega))⟩
                · have cB : ∀ W, Calls Tryd.prog 53 #[.int .i64 (V : Int)] W fun e w' => e = .returned (.slice none 0 0) ∧ Keeps (fun _ => False) W w' := fun W => by
                    refine (rbytes18 W V).mono ?_
                    rintro e w' ⟨⟨⟨h1, _⟩ | ⟨_, h1⟩⟩, k⟩
                    · exact absurd h1 hS
                    · exact ⟨h1, k⟩
                  have hcv : ∀ W, (convert 43 9 (.slice none 0 0)).run Tryd.prog W = .ok (.string ⟨#[]⟩) W := fun W => conv_su (SlU.nil W)
                  have hne : ((⟨#[]⟩ : ByteArray).toList == Y.toList) = false := by
                    rw [beq_eq_false_iff_ne, ne_eq, ByteArray.toList_eq, ByteArray.toList_eq, hYd, bs_data]
                    intro e
                    have h1 := congrArg List.length e
                    have h2 : r.length = s.size - p := hrl
                    rw [List.length_take] at h1
                    simp at h1
                    omega
                  obtain ⟨X0, hX0⟩ : ∃ X0, (⟨#[]⟩ : ByteArray) = X0 := ⟨_, rfl⟩
                  rw [hX0] at hne hcv
                  clear hm hS hYd hX0
                  go_wp2_with fail
                  refine region_plan (S := fun w' => ∃ x : Regrown, w' = grow (redrawn wr x.d) x.os) [([0, 3, 4, 5, 6, 7, 8], 1), ([], 2)] [9] (by kernel_rfl) (by kernel_rfl) (by kernel_rfl) (by kernel_rfl) (cls_keeps kd) ?_
                  simp only [wpPlan, opsAt, pick]
                  repeat (go_big_quiet_step (fail))
                  refine wpQuiet_nil ?_
                  go_wp2_with (go_at_call 53; refine (cB _).mono ?_; rintro e wd ⟨rfl, kd1⟩)
                  have KD := kd.trans kd1
                  refine ⟨cls_keeps KD, ?_⟩
                  simp only [wpPlan, opsAt, pick]
                  refine wpQuiet_nil ?_
                  go_wp2
                  refine ⟨cls_keeps KD, ?_⟩
                  simp only [wpPlan, opsAt, pick]
                  repeat (go_big_quiet_step (fail))
                  refine wpQuiet_nil ?_
                  refine NoPanic.normal ?_
                  have rL := hrd.keep KD
                  have KW := HI.out.keeps.trans KD
                  go_wp2_with (first
                    | (refine wpList_build25z rfl rfl ?_)
                    | (refine wpList_store25 rfl _ _ rfl g2 rfl none 0 0 false rfl _ _ rL ?_; intro w9 r9 k9))
                  refine bodyPost_ret (results_rd rfl _ _ g2 _ _ rfl r9) rfl ?_
                  refine ⟨⟨none, 0, 0, by rw [HN.out.1], by rw [HN.out.2]; rfl, by rw [HN.out.2]; exact SlI.nil _⟩, KW.trans' k9 (fun i e => .inr (by omega))⟩
        · exact absurd (show p + 1 ≤ s.size by omega) hle
    · obtain rfl : p = s.size := by have := hI.le; omega
      have hlt' : ¬ (s.size : Int) < (s.size : Int) := by omega
      have HN : Hid (AV = true ∧ AS = L) := ⟨HV.out.symm.trans hI.done.1, HS.out.symm.trans hI.done.2⟩
      obtain ⟨aa, cc, rfl, sL, _⟩ := hI.own.slice
      have rL := hI.rd
      have KW := hI.keeps
      have oL := hI.own
      obtain ⟨nn, hnn⟩ : ∃ nn, L.length = nn := ⟨_, rfl⟩
      rw [hnn] at sL oL ⊢
      clear hI
      go_wp2_with (first
        | (refine wpList_build25 rfl _ _ rfl aa nn cc true rfl rfl ?_)
        | (refine wpList_store25 rfl _ _ rfl g2 rfl aa nn cc true rfl _ _ rL ?_; intro w9 r9 k9))
      refine bodyPost_ret (results_rd rfl _ _ g2 _ _ rfl r9) rfl ?_
      refine ⟨⟨aa, nn, cc, by rw [HN.out.1], by rw [HN.out.2, hnn], ?_⟩, KW.trans' k9 (fun i e => .inr (by omega))⟩
      rw [HN.out.2]
      exact (oL.keeps k9 (fun i _ e => by omega)).atSl hnn rfl

end Go.Proofs.YtkcnnkakpkdhkaaDoor
