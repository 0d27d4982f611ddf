/-
  Leaves of the program's leaf.
-/
import Derived.Test.YthngaegfppbdmaaDoorPj
set_option linter.all false
namespace Go.Proofs.YthngaegfppbdmaaDoor
open Go.RowKit Go.Sort

theorem isRt_big {x : List B} (h : 100 < (x.getD 1 0).toNat) : isRt x = false := by
  cases hi : isRt x with
  | false => rfl
  | true =>
    exfalso
    obtain ⟨h1, h2⟩ := isRt_iff.1 hi
    have h3 := rt_1 (plcs x)
    rw [h2] at h3
    have h4 := (okR_iff.1 h1).1.2
    rw [h3] at h
    have := nb_kb ((plcs x).length : Int)
    unfold nb at this
    omega
theorem root_ways {x : List B} {L : List B} {v : Int} (hR : rootR (plcs x) = (L, v)) : (v = 0 ∧ L = x ∧ isRt x = true) ∨ (v = 0 ∧ L ≠ x ∧ isRt x = false) ∨ (v = 11 ∧ isRt x = false) := by
  unfold rootR at hR
  cases hg : okR (plcs x) with
  | true =>
    rw [hg] at hR
    simp at hR
    obtain ⟨rfl, rfl⟩ := hR
    by_cases he : rt (plcs x) = x
    · exact .inl ⟨rfl, he, isRt_iff.2 ⟨hg, he⟩⟩
    · refine .inr (.inl ⟨rfl, he, ?_⟩)
      unfold isRt; rw [decide_eq_false he, Bool.and_false]
  | false =>
    rw [hg] at hR
    simp at hR
    exact .inr (.inr ⟨hR.2.symm, by unfold isRt; rw [hg]; rfl⟩)
theorem root_len {x : List B} {L : List B} {v : Int} (hR : rootR (plcs x) = (L, v)) : L.length = 128 := by
  have : (rootR (plcs x)).1.length = 128 := by
    unfold rootR
    split
    · exact rt_len (by unfold plcs; rw [plcN_len]; omega)
    · exact zb_len _
  rw [hR] at this; exact this
theorem wpList_makeI {ops : Array Oper} {rest : List Oper} {o : Oper} {a : Act} {w : World} {Q : Exit → Act → World → Prop} (hgd : o.guard = none) (l c : Operand) (ho : o.op = .makeSlice 23 l c) (hl : a.eval l = .int .i64 0) (m : Nat) (C : Int) (hc : a.eval c = .int .i64 C) (hC : C = (m : Int)) (hm : m ≤ 100000)
    (h : ∀ w', OwnI w' w.heap.size (.slice (some ⟨w.heap.size, 0, none⟩) 0 m) [] → Keeps (fun _ => False) w w' → wpList Tryd.prog ops Q rest (a.put o.dst (.slice (some ⟨w.heap.size, 0, none⟩) 0 m)) w') : wpList Tryd.prog ops Q (o :: rest) a w := by
  obtain ⟨i, hi, hz, hsz, hby⟩ := info3'
  refine wpList_make_own w hgd l c 23 ho w.heap.size 3 i (.int .i64 0) 1 Tryd.underlying23 hi hz hsz .i64 .i64 C m hl hc hC (by rw [hby]; omega) (by unfold maxLen; omega) (Nat.le_refl _) ?_
  intro w' ho' hg
  exact h w' ⟨ho'⟩ ((Keeps.refl _ _).grown hg (fun k e => by cases e))

set_option maxRecDepth 100000 in
theorem slice_mid (g m : Nat) (hm : m ≤ 100) (w : World) : (Instr.sliceAt 25 (.pointer (some ⟨g, 0, none⟩)) (some (.int .i64 2)) (some (.int .i64 (2 + (m : Int)))) none).run Tryd.prog w = .ok (.slice (some ⟨g, 2, none⟩) m 126) w := by
  have h1 := run_sliceAt_array_lh (P := Tryd.prog) w 25 ⟨g, 0, none⟩ Tryd.underlying25 .i64 .i64 2 (2 + (m : Int)) (by omega) (by omega) (by rw [show Tryd.prog.arrayLen 25 = 128 by kernel_rfl]; omega)
  rw [h1]
  have e1 : (2 : Int).toNat = 2 := rfl
  have e2 : (2 + (m : Int)).toNat = m + 2 := by omega
  have e3 : Tryd.prog.arrayLen 25 = 128 := by kernel_rfl
  have e4 : (sizeOf (Tryd.prog.elem 25)).run Tryd.prog w = .ok 1 w := by kernel_rfl
  rw [e1, e2, e3, e4]
  simp only [Result.andThen_ok, slicedAt]
  rw [if_neg (by omega), Addr_add]
  simp
theorem leavesP_big (w : World) (x : List B) (hx : x.length = 128) (h : 100 < (x.getD 1 0).toNat) :
    Calls Tryd.prog 21 #[.agg (brow x)] w fun e w' => LvTold x e w' ∧ Keeps (fun _ => False) w w' := by
  have hI : Hid (isRt x = false) := isRt_big h
  have h3 : (100 : Int) < nb (x.getD 1 0) := by unfold nb; omega
  have hlt := nb_lt (x.getD 1 0)
  generalize hy : x.getD 1 0 = y at *
  go_enter Tryd.func21, Tryd.ntmps21
  go_wp2_with (refine wpList_box26 rfl _ rfl x hx rfl ?_; intro g1 w1 b1 z1 k1; have c1 := b1.cell (j := 1) (by omega); rw [hy] at c1)
  refine bodyPost_ret (results_two rfl _ _ _) rfl ?_
  exact ⟨.no hI.out rfl, k1⟩

set_option maxRecDepth 100000 in
set_option maxHeartbeats 2000000 in
theorem leavesP_in (w : World) (hT : Tabs w) (x : List B) (hx : x.length = 128) (m : Nat) (hm : (x.getD 1 0).toNat = m) (hm3 : m ≤ 100) :
    Calls Tryd.prog 21 #[.agg (brow x)] w fun e w' => LvTold x e w' ∧ Keeps (fun _ => False) w w' := by
  have hme : plcs x = plcN x m := by unfold plcs; rw [hm, show min m 100 = m by omega]
  have Hme : Hid (plcs x = plcN x m) := hme
  have hny : nb (x.getD 1 0) = (m : Int) := by unfold nb; omega
  have hm1 : ¬ (100 : Int) < (m : Int) := by omega
  have hm2 : (m : Int) ≤ 100 := by omega
  have hmM : (2 : Int) ≤ 2 + (m : Int) := by omega
  have hts := hT.size
  have tM : (2 + (m : Int)).toNat = 2 + m := by omega
  have tM2 : 2 + m - 2 = m := by omega
  clear hme hm
  go_enter Tryd.func21, Tryd.ntmps21
  go_wp2_with (first
    | (refine wpList_box26 rfl _ rfl x hx rfl ?_; intro g1 w1 b1 z1 k1; have c1 := b1.cell (j := 1) (by omega); rw [hny] at c1; have hsM := slice_mid g1 m hm3)
    | (refine wpList_makeI rfl _ _ rfl rfl m _ rfl (by omega) (by omega) ?_; intro w2 o2 k2; have b2 := b1.keep k2; have K2 := k1.trans k2))
  have l1 := b1.lt
  have z0 := k1.size
  have z12 := k2.size
  have Hx : Hid (x.length = 128) := hx
  clear b1 k1 k2 c1 hny hx
  go_loopw [5, 21] (fun v t wr => ∃ i : Nat, i ≤ m ∧ t = .int .i64 (i : Int) ∧ OwnI wr w1.heap.size v (plcN x i) ∧ BlAt wr g1 x ∧ w1.heap.size ≤ wr.heap.size ∧ Keeps (fun _ => False) w wr) (fun _ t _ => m - (intOf t).toNat)
  case atStart => exact ⟨0, by omega, rfl, o2, b2, z12, K2⟩
  case round =>
    clear o2 b2 K2
    obtain ⟨i, hi, rfl, O, bm, zr, KW⟩ := hrel
    by_cases hlt : i < m
    · have hlt' : (i : Int) < (m : Int) := by omega
      have hi0 : (0 : Int) ≤ (i : Int) := by omega
      have ci := bm.cell (j := 2 + i) (by omega)
      have HNe : Hid (plcN x (i + 1) = plcN x i ++ [nb (x.getD (2 + i) 0)]) := plcN_succ x i
      have hle : (plcN x i).length ≤ 100 := by rw [plcN_len]; omega
      generalize x.getD (2 + i) 0 = y at *
      have ny := nb_lt y
      generalize plcN x i = lE at *
      go_wp2_with (first
        | (refine wpList_build1I rfl _ rfl (nb y) rfl ?_; intro g8 w6 r6 z8 k6; have O6 := O.keeps k6 (fun _ _ h => h.elim); have B6 := bm.keep k6; have z6 := k6.size)
        | (refine wpList_appI rfl _ _ rfl w1.heap.size _ lE rfl O6 g8 rfl (nb y) r6 (by omega) (by omega) ?_; intro v7 w7 o7 k7; have hown : ∀ k, u5.ownBlock = some k → w1.heap.size ≤ k ∧ k < w6.heap.size := fun k hk => O6.owns.lt k hk; have B7 := B6.keeps k7 (fun h => by have := (hown _ h).1; omega); have z7'' := k7.size))
      have K7 : Keeps (fun _ => False) w w7 := (KW.trans k6).trans' k7 (fun i e => .inr (by have := (hown i e).1; omega))
      exact ⟨⟨i + 1, by omega, rfl, by rw [HNe.out]; exact o7, B7, by omega, K7⟩, by simp [intOf]; omega⟩
    · obtain rfl : i = m := by omega
      have hlt' : ¬ (i : Int) < (i : Int) := by omega
      rw [← Hme.out] at O
      obtain ⟨a4, c4, rfl, s4, _⟩ := O.slice
      have hTw := hT.keeps KW (fun h => h) (fun h => h)
      obtain ⟨L, v, hR⟩ : ∃ L v, rootR (plcs x) = (L, v) := ⟨_, _, rfl⟩
      have lL := root_len hR
      have HR : Hid (rootR (plcs x) = (L, v)) := hR
      have Htold : Hid (_ ∨ _ ∨ _) := root_ways hR
      have lx := bm.len
      clear hR O
      generalize hEn : plcs x = lE at *
      have Hen : Hid (plcs x = lE) := hEn
      have hsl : 0 < lE.length → ∀ b o, a4 = some ⟨b, o, none⟩ → b < wr.heap.size := fun h0 b o e => by
        obtain ⟨b', o', e', hb, _⟩ := s4.ent h0
        rw [e] at e'; cases e'
        exact hb
      have Hsl : Hid (0 < lE.length → ∀ b o, a4 = some ⟨b, o, none⟩ → b < wr.heap.size) := hsl
      clear hEn hsl
      rcases Htold.out with ⟨rfl, hLx, hI⟩ | ⟨rfl, hLx, hI⟩ | ⟨rfl, hI⟩
      · have heq := eq26 lL lx
        rw [decide_eq_true hLx] at heq
        have HI : Hid (isRt x = true) := hI
        clear Htold hLx hI
        go_wp2_with (first
          | (go_at_call 19; refine (rootP_at HR.out _ hTw a4 _ c4 s4).mono ?_; rintro e w5 ⟨rfl, k5⟩; have B5 := bm.keep k5; have s5 := s4.keep k5; have K5 := KW.trans k5)
          | (refine wpList_alloc26 rfl rfl ?_; intro g8 w6 b6 z8 k6; have B6 := B5.keep k6; have s6 := s5.keep k6; have h18 : g1 ≠ g8 := (by have := B5.lt; omega); have K6 := K5.trans k6)
          | (refine wpList_store26 rfl _ _ rfl g8 rfl L rfl lL _ b6 ?_; intro w7 b7 k7; have B7 := B6.keeps k7 h18; have K7 : Keeps (fun _ => False) w w7 := K6.trans' k7 (fun i e => .inr (by have := K5.size; omega)))
          | (refine wpList_load26 rfl _ rfl g8 rfl L b7 ?_)
          | (refine wpList_load26 rfl _ rfl g1 rfl x B7 ?_))
        refine bodyPost_ret (results_two rfl _ _ _) rfl ?_
        have s7 : SlI w7 a4 lE.length c4 lE := s6.keeps k7 (fun h0 b o e h => by have := Hsl.out h0 b o e; have := k5.size; omega)
        exact ⟨.ok HI.out a4 c4 (by rw [Hen.out]; rfl) (by rw [Hen.out]; exact s7), K7⟩
      · have heq := eq26 lL lx
        rw [decide_eq_false hLx] at heq
        have HI : Hid (isRt x = false) := hI
        clear Htold hLx hI
        go_wp2_with (first
          | (go_at_call 19; refine (rootP_at HR.out _ hTw a4 _ c4 s4).mono ?_; rintro e w5 ⟨rfl, k5⟩; have B5 := bm.keep k5; have K5 := KW.trans k5)
          | (refine wpList_alloc26 rfl rfl ?_; intro g8 w6 b6 z8 k6; have B6 := B5.keep k6; have h18 : g1 ≠ g8 := (by have := B5.lt; omega); have K6 := K5.trans k6)
          | (refine wpList_store26 rfl _ _ rfl g8 rfl L rfl lL _ b6 ?_; intro w7 b7 k7; have B7 := B6.keeps k7 h18; have K7 : Keeps (fun _ => False) w w7 := K6.trans' k7 (fun i e => .inr (by have := K5.size; omega)))
          | (refine wpList_load26 rfl _ rfl g8 rfl L b7 ?_)
          | (refine wpList_load26 rfl _ rfl g1 rfl x B7 ?_))
        refine bodyPost_ret (results_two rfl _ _ _) rfl ?_
        exact ⟨.no HI.out rfl, K7⟩
      · have HI : Hid (isRt x = false) := hI
        clear Htold hI
        go_wp2_with (first
          | (go_at_call 19; refine (rootP_at HR.out _ hTw a4 _ c4 s4).mono ?_; rintro e w5 ⟨rfl, k5⟩; have B5 := bm.keep k5; have K5 := KW.trans k5)
          | (refine wpList_alloc26 rfl rfl ?_; intro g8 w6 b6 z8 k6; have B6 := B5.keep k6; have h18 : g1 ≠ g8 := (by have := B5.lt; omega); have K6 := K5.trans k6)
          | (refine wpList_store26 rfl _ _ rfl g8 rfl L rfl lL _ b6 ?_; intro w7 b7 k7; have B7 := B6.keeps k7 h18; have K7 : Keeps (fun _ => False) w w7 := K6.trans' k7 (fun i e => .inr (by have := K5.size; omega)))
          | (refine wpList_load26 rfl _ rfl g8 rfl L b7 ?_)
          | (refine wpList_load26 rfl _ rfl g1 rfl x B7 ?_))
        refine bodyPost_ret (results_two rfl _ _ _) rfl ?_
        exact ⟨.no HI.out rfl, K7⟩

theorem leavesP (w : World) (hT : Tabs w) (x : List B) (hx : x.length = 128) :
    Calls Tryd.prog 21 #[.agg (brow x)] w fun e w' => LvTold x e w' ∧ Keeps (fun _ => False) w w' := by
  by_cases h : 100 < (x.getD 1 0).toNat
  · exact leavesP_big w x hx h
  · exact leavesP_in w hT x hx _ rfl (by omega)

end Go.Proofs.YthngaegfppbdmaaDoor
