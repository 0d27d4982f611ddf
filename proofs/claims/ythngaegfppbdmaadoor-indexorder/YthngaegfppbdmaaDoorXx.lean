/-
  Pack of the reference's index.
-/
import Derived.Test.YthngaegfppbdmaaDoorXu
import Derived.Test.YthngaegfppbdmaaDoorXw
set_option linter.all false
namespace Go.Proofs.YthngaegfppbdmaaDoor
open Go.RowKit Go.Sort Go.Shelf
attribute [local go_sem] Oper.semAt_some

theorem size38_of {n s : Int} (h : Hid (sz n = s)) (w : World) (h0 : -9223372036854775808 ≤ n) (hn : n ≤ 9223372036854775807) : Calls Tryd.prog 38 #[.int .i64 n] w fun e w' => e = .returned (.int .i64 s) ∧ Keeps (fun _ => False) w w' := by
  rw [← h.out]; exact (size38 w n h0 hn).mono fun e w' ⟨h1, h2⟩ => ⟨h1, by rw [h2]; exact Keeps.refl _ _⟩
theorem run_slice2E (w : World) (b o n c i m : Nat) (h0 : 0 < m) (h : i + m ≤ c) (I H : Int) (hI : I = (i : Int)) (hH : H = ((i + m : Nat) : Int)) : (Instr.sliceAt 22 (.slice (some ⟨b, o, none⟩) n c) (some (.int .i64 I)) (some (.int .i64 H)) none).run Tryd.prog w = .ok (.slice (some ⟨b, o + i * 35, none⟩) m (c - i)) w := by
  subst hI hH
  rw [run_sliceAt_slice w 22 _ _ _ _ elem22, run_slice_lh w 22 _ _ _ elem22 .i64 .i64 (i : Int) ((i + m : Nat) : Int) (by omega) (by omega) (by omega), sizeOf54]
  simp only [Result.andThen_ok, sliced, Int.toNat_natCast]
  rw [if_neg (by omega)]
  simp [Addr_add]
theorem wpList_slice2E {ops : Array Oper} {rest : List Oper} {o : Oper} {a : Act} {w : World} {Q : Exit → Act → World → Prop} (hgd : o.guard = none) (x lo hi : Operand) (ho : o.op = .slice 22 x (some lo) (some hi) none) (b of n c i m : Nat) (hx : a.eval x = .slice (some ⟨b, of, none⟩) n c) (I H : Int)
    (hlo : a.eval lo = .int .i64 I) (hhi : a.eval hi = .int .i64 H) (hI : I = (i : Int)) (hH : H = ((i + m : Nat) : Int)) (h0 : 0 < m) (hm : i + m ≤ c)
    (h : wpList Tryd.prog ops Q rest (a.put o.dst (.slice (some ⟨b, of + i * 35, none⟩) m (c - i))) w) : wpList Tryd.prog ops Q (o :: rest) a w := by
  refine wpList_plain hgd fun K hK => ?_
  unfold Oper.wp execOp
  simp only [ho, hx, hlo, hhi, Option.map_some, Option.map_none, run_slice2E w b of n c i m h0 hm I H hI hH, Sem.run_bind, Result.andThen_ok, Sem.run_pure]
  exact hK _ _ h
theorem SlE.ck2 {w : World} {b o n c : Nat} {l : List En} (h : SlE w (some ⟨b, o, none⟩) n c l) {i A m : Nat} (hA : 3 * i = A) (hi : A < n) (hm : min 3 (n - A) = m) : SlE w (some ⟨b, o + A * 35, none⟩) m (c - A) (Go.Proofs.YthngaegfppbdmaaDoor.ck l i) := by
  subst hA
  have h1 := h.ck hi hm
  have h2 := h.cap
  exact ⟨h1.len, by omega, h1.keyed, h1.at_⟩

set_option maxRecDepth 100000 in
theorem rpack_no (w : World) (a : Option Addr) (n c : Nat) (l : List En) (hl : SlE w a n c l) (hn : n ≤ 9223372036854775806) (a2 : Option Addr) (n2 c2 : Nat) (hi : ix l = false) :
    Calls Tryd.prog 31 #[.slice a n c, .slice a2 n2 c2] w fun e w' => PkTold [] 0 11 e w' ∧ Keeps (fun _ => False) w w' := by
  go_enter Tryd.func31, Tryd.ntmps31
  go_wp2_with (go_at_call 35; refine (good35_at hi _ a n c hl hn).mono ?_; rintro e w3 ⟨rfl, k3⟩)
  go_ret2
  exact ⟨PkTold.nil _ _, k3⟩
set_option maxRecDepth 100000 in
theorem rpack_arg (w : World) (a : Option Addr) (n c : Nat) (l : List En) (hl : SlE w a n c l) (hn : n ≤ 9223372036854775806) (a2 : Option Addr) (n2 c2 : Nat) (hi : ix l = true) (hs : ¬ (n2 : Int) = sz (n : Int)) :
    Calls Tryd.prog 31 #[.slice a n c, .slice a2 n2 c2] w fun e w' => PkTold [] 0 1 e w' ∧ Keeps (fun _ => False) w w' := by
  obtain ⟨s, hs'⟩ : ∃ s, sz (n : Int) = s := ⟨_, rfl⟩
  have HS : Hid (sz (n : Int) = s) := hs'
  rw [hs'] at hs
  clear hs'
  go_enter Tryd.func31, Tryd.ntmps31
  go_wp2_with (first
    | (go_at_call 35; refine (good35_at hi _ a n c hl hn).mono ?_; rintro e w3 ⟨rfl, k3⟩)
    | (go_at_call 38; refine (size38_of HS _ (by omega) (by omega)).mono ?_; rintro e w4 ⟨rfl, k4⟩))
  go_ret2
  exact ⟨PkTold.nil _ _, k3.trans k4⟩
set_option maxRecDepth 100000 in
theorem rpack_nil (w : World) (a : Option Addr) (c : Nat) (l : List En) (hl : SlE w a 0 c l) (a2 : Option Addr) (c2 : Nat) (hi : ix l = true) :
    Calls Tryd.prog 31 #[.slice a 0 c, .slice a2 0 c2] w fun e w' => PkTold [] 0 0 e w' ∧ Keeps (fun _ => False) w w' := by
  have HS : Hid (sz ((0 : Nat) : Int) = 0) := rfl
  go_enter Tryd.func31, Tryd.ntmps31
  go_wp2_with (first
    | (go_at_call 35; refine (good35_at hi _ a 0 c hl (by omega)).mono ?_; rintro e w3 ⟨rfl, k3⟩)
    | (go_at_call 38; refine (size38_of HS _ (by omega) (by omega)).mono ?_; rintro e w4 ⟨rfl, k4⟩))
  go_ret2
  exact ⟨PkTold.nil _ _, k3.trans k4⟩

set_option maxRecDepth 100000 in
set_option maxHeartbeats 8000000 in
theorem rpack_ok (w : World) (b o n c : Nat) (l : List En) (hl : SlE w (some ⟨b, o, none⟩) n c l) (h0 : 0 < n) (a2 : Option Addr) (n2 c2 : Nat) (p : List Int) (hp : SlI w a2 n2 c2 p) (hi : ix l = true) (hs : (n2 : Int) = sz (n : Int)) {R : List B} {rv : Int} (hR : rootR (p.take (nck l)) = (R, rv)) :
    Calls Tryd.prog 31 #[.slice (some ⟨b, o, none⟩) n c, .slice a2 n2 c2] w fun e w' => (if rv = 0 then PkTold (lvs l (nck l) ++ R) (nck l + 1) 0 e w' else PkTold [] 0 rv e w') ∧ Keeps (fun _ => False) w w' := by
  have hlen := hl.len
  have hk := hl.keyed
  have h126 := ix_len hi
  rw [hlen] at h126
  obtain ⟨K, hK⟩ : ∃ K, nck l = K := ⟨_, rfl⟩
  have hn2 : n2 = K + 1 := by
    rw [sz_nat n h0] at hs
    rw [← hK]; unfold nck; rw [hlen]; omega
  have hK1 : K ≤ 43 := by rw [← hK]; unfold nck; omega
  have HS : Hid (sz (n : Int) = (n2 : Int)) := hs.symm
  have HI : Hid (ix l = true) := hi
  have HR : Hid (rootR (p.take K) = (R, rv)) := by show _ = _; rw [← hK]; exact hR
  have HK : Hid (nck l = K) := hK
  have Hk : Hid (Keyed l) := hk
  have Hlen : Hid (l.length = n) := hlen
  have lR := rootR_len hR
  have hnc := hl.cap
  obtain ⟨b2, o2, rfl, hb2, _⟩ := hp.ent (by omega)
  have hkc2 : (K : Int) ≤ (c2 : Int) := by have := hp.cap; omega
  have hK0 : (0 : Int) ≤ (K : Int) := by omega
  have hrv : rv = 0 ∨ rv = 11 := by
    rcases okR_ways (p.take (nck l)) with ⟨_, R', _, e, _⟩ | ⟨_, e⟩
    · rw [hR] at e; cases e; exact .inl rfl
    · rw [hR] at e; cases e; exact .inr rfl
  have hn0 : ¬ (n : Int) = 0 := by omega
  have Hn2 : Hid (n2 = K + 1) := hn2
  have hn44 : n2 ≤ 44 := by omega
  have h21 : (n2 : Int) - 1 = (K : Int) := by omega
  have Hrv : Hid (rv = 0 ∨ rv = 11) := hrv
  clear hs hR hK hlen hk hn2 hrv
  go_enter Tryd.func31, Tryd.ntmps31
  go_wp2_with (first
    | (go_at_call 35; refine (good35_at HI.out _ _ n c hl (by omega)).mono ?_; rintro e w3 ⟨rfl, k3⟩)
    | (go_at_call 38; refine (size38_of HS _ (by omega) (by omega)).mono ?_; rintro e w4 ⟨rfl, k4⟩))
  have K4 := k3.trans k4
  go_loopw [6, 7] (fun v t wr => ∃ i A : Nat, i ≤ K ∧ 3 * i = A ∧ t = .int .i64 (A : Int) ∧ OwnK wr w.heap.size v i (lvs l i) ∧ Keeps (fun _ => False) w wr) (fun v t _ => n + 3 - (intOf t).toNat)
  case atStart => exact ⟨0, 0, by omega, rfl, rfl, OwnK.nil _ _, K4⟩
  case round =>
    obtain ⟨i, A, hi, hA, rfl, O, KW⟩ := hrel
    by_cases hlt : i < K
    · have hAn : A < n := by have := Hlen.out; have := HK.out; unfold nck at this; omega
      have hlt' : (A : Int) < (n : Int) := by omega
      have hA0 : (0 : Int) ≤ (A : Int) := by omega
      obtain ⟨m, hm⟩ : ∃ m, min 3 (n - A) = m := ⟨_, rfl⟩
      have hm0 : 0 < m := by omega
      have hm3 : m ≤ 3 := by omega
      have hmn : A + m ≤ n := by omega
      have HM : Hid (min 3 (n - A) = m) := hm
      have hck := (hl.keep KW).ck2 hA hAn hm
      obtain ⟨L, hL⟩ : ∃ L, lf (ck l i) = L := ⟨_, rfl⟩
      have lL : L.length = 128 := by rw [← hL]; exact lf_len (ck_keyed Hk.out _) (by rw [ck_len]; omega)
      have HE : Hid (encR (ck l i) = (L, 0)) := by show _ = _; unfold encR; rw [ck_gd HI.out (by rw [HK.out]; exact hlt), ← hL]; rfl
      have HN : Hid (lvs l (i + 1) = lvs l i ++ L) := by show _ = _; rw [lvs_succ, hL]
      have zw := KW.size
      clear hm hL
      generalize ck l i = lc at *
      generalize hXe : lvs l i = X at *
      have HXe : Hid (lvs l i = X) := hXe
      clear hXe
      go_wp2_with (first
        | (refine wpList_min rfl _ _ rfl _ _ ((A + m : Nat) : Int) rfl rfl (by have := HM.out; split <;> omega) ?_)
        | (refine wpList_slice2E rfl _ _ _ rfl b o n c A m rfl _ _ rfl rfl rfl rfl hm0 (by omega) ?_)
        | (go_at_call 16; refine (enc_at HE.out _ _ _ _ hck (by omega)).mono ?_; rintro e w7 ⟨rfl, k7⟩)
        | (refine wpList_alloc26 rfl rfl ?_; intro g8 w8 b8 z8 k8; have z78 := k7.size)
        | (refine wpList_store26 rfl _ _ rfl g8 rfl L rfl lL _ b8 ?_; intro w9 b9 k9; have K9 : Keeps (fun _ => False) wr w9 := (k7.trans k8).trans' k9 (fun i e => .inr (by omega)))
        | (refine wpList_load26 rfl _ rfl g8 rfl L b9 ?_)
        | (refine wpList_buildK rfl _ rfl L rfl lL ?_; intro ga wa sa za ka; have Ka := K9.trans ka; have Oa := O.keep Ka; have za2 := Ka.size)
        | (refine wpList_appK rfl _ _ rfl w.heap.size _ i X rfl Oa ga 0 1 1 L rfl sa (by omega) (by omega) ?_; intro vq wb Ob kb'; have Kb : Keeps (fun _ => False) w wb := (KW.trans Ka).trans' kb' (fun i e => .inr (Oa.from e).1)))
      have Oq : OwnK wb w.heap.size vq (i + 1) (lvs l (i + 1)) := by rw [HN.out]; exact Ob
      exact ⟨⟨i + 1, by omega, by omega, Oq⟩, by simp [intOf]; omega⟩
    · obtain rfl : i = K := by omega
      have hlt' : ¬ (A : Int) < (n : Int) := by have := Hlen.out; have := HK.out; unfold nck at this; omega
      have hpV := (hp.keep KW).pre (k := i) (by have := Hn2.out; omega)
      obtain ⟨X, hX⟩ : ∃ X, lvs l i = X := ⟨_, rfl⟩
      have HX : Hid (lvs l (nck l) = X) := by show _ = _; rw [HK.out, hX]
      have zw := KW.size
      rw [hX] at O
      clear hX
      rcases Hrv.out with rfl | rfl
      · go_wp2_with (first
          | (go_at_call 20; refine (root_at HR.out _ _ _ c2 hpV).mono ?_; rintro e w7 ⟨rfl, k7⟩)
          | (refine wpList_alloc26 rfl rfl ?_; intro g8 w8 b8 z8 k8; have z78 := k7.size)
          | (refine wpList_store26 rfl _ _ rfl g8 rfl R rfl lR _ b8 ?_; intro w9 b9 k9; have K9 : Keeps (fun _ => False) wr w9 := (k7.trans k8).trans' k9 (fun i e => .inr (by omega)))
          | (refine wpList_load26 rfl _ rfl g8 rfl R b9 ?_)
          | (refine wpList_buildK rfl _ rfl R rfl lR ?_; intro ga wa sa za ka; have Ka := K9.trans ka; have Oa := O.keep Ka; have za2 := Ka.size)
          | (refine wpList_appK rfl _ _ rfl w.heap.size _ i X rfl Oa ga 0 1 1 R rfl sa (by omega) (by omega) ?_; intro vq wb Ob kb'; have Kb : Keeps (fun _ => False) w wb := (KW.trans Ka).trans' kb' (fun i e => .inr (Oa.from e).1)))
        go_ret2
        rw [HX.out, HK.out]
        obtain ⟨a9, c9, rfl, s9, _⟩ := Ob.slice
        exact ⟨⟨a9, c9, rfl, s9⟩, Kb⟩
      · go_wp2_with (first
          | (go_at_call 20; refine (root_at HR.out _ _ _ c2 hpV).mono ?_; rintro e w7 ⟨rfl, k7⟩)
          | (refine wpList_alloc26 rfl rfl ?_; intro g8 w8 b8 z8 k8; have z78 := k7.size)
          | (refine wpList_store26 rfl _ _ rfl g8 rfl R rfl lR _ b8 ?_; intro w9 b9 k9; have K9 : Keeps (fun _ => False) wr w9 := (k7.trans k8).trans' k9 (fun i e => .inr (by omega))))
        go_ret2
        exact ⟨PkTold.nil _ _, KW.trans K9⟩

theorem pack31 {l : List En} {p : List Int} {X : List B} {m : Nat} {v : Int} (h : pkR l p = (X, m, v)) (w : World) (a : Option Addr) (n c : Nat) (hl : SlE w a n c l) (hn : n ≤ 9223372036854775806) (a2 : Option Addr) (n2 c2 : Nat) (hp : SlI w a2 n2 c2 p) :
    Calls Tryd.prog 31 #[.slice a n c, .slice a2 n2 c2] w fun e w' => PkTold X m v e w' ∧ Keeps (fun _ => False) w w' := by
  unfold pkR at h
  have hlen := hl.len
  have hpn := hp.len
  split at h
  · rename_i hi
    cases h
    exact rpack_no w a n c l hl hn a2 n2 c2 hi
  · rename_i hi
    have hi' : ix l = true := by cases hx : ix l with | true => rfl | false => exact absurd hx hi
    rw [hlen, hpn] at h
    split at h
    · rename_i hs
      cases h
      exact rpack_arg w a n c l hl hn a2 n2 c2 hi' hs
    · rename_i hs
      have hs' : (n2 : Int) = sz (n : Int) := Decidable.not_not.1 hs
      split at h
      · rename_i h0
        cases h
        subst h0
        have : n2 = 0 := by rw [sz_zero] at hs'; omega
        subst this
        exact rpack_nil w a c l hl a2 c2 hi'
      · rename_i h0
        obtain ⟨b, o, rfl, _⟩ := hl.ent (i := 0) (by omega)
        split at h
        · rename_i ho
          cases h
          exact rpack_ok w b o n c l hl (by omega) a2 n2 c2 p hp hi' hs' (R := rt (p.take (nck l))) (rv := 0) (by unfold rootR; rw [if_pos ho])
        · rename_i ho
          cases h
          exact rpack_ok w b o n c l hl (by omega) a2 n2 c2 p hp hi' hs' (R := zb 128) (rv := 11) (by unfold rootR; rw [if_neg ho])

end Go.Proofs.YthngaegfppbdmaaDoor
