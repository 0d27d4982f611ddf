
/-
  Good of the reference.
-/
import Derived.Test.YtkcnnkakpkdhkaaDoorVs
set_option linter.all false
set_option maxRecDepth 100000
namespace Go.Proofs.YtkcnnkakpkdhkaaDoor
open Go.RowKit Go.Sort Go.Shelf
attribute [local go_sem] Oper.semAt_some

/-- A word that may be. -/
def gdW (x : List UInt8) : Bool := decide (x ≠ []) && pln false x && decide (wds x = [x])
/-- A text that would be read as something else. -/
def badT (p : Pt) : Bool := decide (p.1 = 1) && (decide (p.2.length = 1) && decide (p.2.getD 0 [] = [45, 45, 45]) || decide (1 < p.2.length) && (decide (p.2.getD 0 [] = [61]) || decide (p.2.getD 0 [] = [45])))
def okK (p : Pt) : Bool := decide (1 ≤ p.1) && decide (p.1 ≤ 4) && (decide (p.1 = 4) == decide (p.2.length = 0))
def gdP (p : Pt) : Bool := okK p && p.2.all gdW && !badT p
def gdL (l : List Pt) : Bool := l.all gdP

theorem all_snocP {l : List Pt} {p : Pt → Bool} {i : Nat} (hi : i < l.length) : (l.take (i + 1)).all p = ((l.take i).all p && p (l.getD i (0, []))) := by
  rw [List.take_succ, List.all_append, List.getD_eq_getElem?_getD, List.getElem?_eq_getElem hi]; simp
theorem all_badP {l : List Pt} {p : Pt → Bool} {i : Nat} (hi : i < l.length) (h : p (l.getD i (0, [])) = false) : l.all p = false := by
  rw [List.all_eq_false]
  refine ⟨l[i], List.getElem_mem hi, ?_⟩
  rw [List.getD_eq_getElem?_getD, List.getElem?_eq_getElem hi] at h
  simpa using h
theorem all_snocW {l : List (List UInt8)} {p : List UInt8 → Bool} {i : Nat} (hi : i < l.length) : (l.take (i + 1)).all p = ((l.take i).all p && p (l.getD i [])) := by
  rw [List.take_succ, List.all_append, List.getD_eq_getElem?_getD, List.getElem?_eq_getElem hi]; simp
theorem all_badW {l : List (List UInt8)} {p : List UInt8 → Bool} {i : Nat} (hi : i < l.length) (h : p (l.getD i []) = false) : l.all p = false := by
  rw [List.all_eq_false]
  refine ⟨l[i], List.getElem_mem hi, ?_⟩
  rw [List.getD_eq_getElem?_getD, List.getElem?_eq_getElem hi] at h
  simpa using h

theorem zero41 (w : World) : (zeroValue 41).run Tryd.prog w = .ok (.agg #[.int .i64 0, .slice none 0 0]) w := by kernel_rfl
theorem size41 : (Tryd.prog.info? 41).map (·.size) = some 2 := by kernel_rfl
theorem one41 (k : Int) (ad : Option Addr) (n c : Nat) : (#[Value.int .i64 k, .slice ad n c]).all (·.oneCell') = true := by
  simp [Value.oneCell']
section
variable {ops : Array Oper} {rest : List Oper} {o : Oper} {a : Act} {w : World} {Q : Exit → Act → World → Prop}
theorem wpList_alloc41 (hgd : o.guard = none) (ho : o.op = .alloc 41)
    (h : ∀ g w', PrAt w' g (0, .slice none 0 0) → w.heap.size ≤ g → Keeps (fun _ => False) w w' → wpList Tryd.prog ops Q rest (a.put o.dst (.pointer (some ⟨g, 0, none⟩))) w') : wpList Tryd.prog ops Q (o :: rest) a w := by
  refine wpList_plain hgd fun K hK => ?_
  unfold Oper.wp execOp
  simp only [ho, Instr.alloc, zero41, newVar, newRow, Sem.run_bind, Result.andThen_ok, Sem.run_pure]
  exact hK _ _ (h w.heap.size _ ⟨heap_alloc_new w _⟩ (Nat.le_refl _) (keeps_alloc w _))
theorem wpList_store41 (hgd : o.guard = none) (x y : Operand) (ho : o.op = .store 41 x y) (g : Nat) (hx : a.eval x = .pointer (some ⟨g, 0, none⟩)) (k : Int) (ad : Option Addr) (n c : Nat) (hy : a.eval y = .agg #[.int .i64 k, .slice ad n c]) (z : Int × Value) (hb : PrAt w g z)
    (h : ∀ w', PrAt w' g (k, .slice ad n c) → Keeps (· = g) w w' → wpList Tryd.prog ops Q rest (a.put o.dst undef) w') : wpList Tryd.prog ops Q (o :: rest) a w := by
  refine wpList_plain hgd fun K hK => ?_
  unfold Oper.wp execOp
  simp only [ho, hx, hy, Instr.storeAt, Instr.sureAddr, Sem.run_bind, Sem.run_pure, Result.andThen_ok, run_storeVar_row w g 41 41 #[.int .i64 z.1, z.2] #[.int .i64 k, .slice ad n c] hb.row size41 rfl (one41 k ad n c)]
  exact hK _ _ (h _ ⟨setRow_heap w g _ _ _ _ hb.row⟩ ((Keeps.refl (· = g) w).setRow (.inl rfl) _))
theorem wpList_load41 (hgd : o.guard = none) (x : Operand) (ho : o.op = .load 41 x) (b k : Nat) (hx : a.eval x = .pointer (some ⟨b, k, none⟩)) (v1 v2 : Value) (h1 : w.cell? ⟨b, k, none⟩ = some v1) (h2 : w.cell? ⟨b, k + 1, none⟩ = some v2)
    (h : wpList Tryd.prog ops Q rest (a.put o.dst (.agg #[v1, v2])) w) : wpList Tryd.prog ops Q (o :: rest) a w := by
  refine wpList_plain hgd fun K hK => ?_
  have hr : w.rangeAt b k [v1, v2] := by
    intro j v hv
    rcases j with _ | _ | j
    · simp at hv; subst hv; exact h1
    · simp at hv; subst hv; exact h2
    · simp at hv
  unfold Oper.wp execOp
  simp only [ho, hx, Instr.loadAt, Instr.sureAddr, Sem.run_bind, Sem.run_pure, Result.andThen_ok, run_loadVar_mid w b k 41 [v1, v2] _ hr Tryd.underlying41 rfl size41]
  exact hK _ _ h
end



/-- Where one of them has been read into a block. -/
structure PIn (w : World) (g : Nat) (k : Int) (ad : Option Addr) (m c : Nat) (ws : List (List UInt8)) : Prop where
  pr : PrAt w g (k, .slice ad m c)
  sl : SlT w ad m c ws
theorem PIn.keep {w w' : World} {g : Nat} {k : Int} {ad : Option Addr} {m c : Nat} {ws : List (List UInt8)} (h : PIn w g k ad m c ws) (hk : Keeps (fun _ => False) w w') : PIn w' g k ad m c ws := ⟨⟨hk.row h.pr.row (fun h => h)⟩, h.sl.keep hk⟩
theorem PIn.c0 {w : World} {g : Nat} {k : Int} {ad : Option Addr} {m c : Nat} {ws : List (List UInt8)} (h : PIn w g k ad m c ws) : w.cell? ⟨g, 0, none⟩ = some (.int .i64 k) := by rw [cell_of_row w g 0 _ _ _ h.pr.row]; rfl
theorem PIn.c1 {w : World} {g : Nat} {k : Int} {ad : Option Addr} {m c : Nat} {ws : List (List UInt8)} (h : PIn w g k ad m c ws) : w.cell? ⟨g, 1, none⟩ = some (.slice ad m c) := by rw [cell_of_row w g 1 _ _ _ h.pr.row]; rfl

set_option maxHeartbeats 40000000 in
theorem rgood17 (w : World) (a : Option Addr) (n c : Nat) (P : List Pt) (hl : SlP w a n c P) (hn : n ≤ 100000) (hP : ∀ p ∈ P, p.2.length ≤ 90000 ∧ ∀ x ∈ p.2, x.length ≤ 90000) :
    Calls Tryd.prog 17 #[.slice a n c] w fun e w' => e = .returned (.bool (gdL P)) ∧ Keeps (fun _ => False) w w' := by
  obtain ⟨R, hR⟩ : ∃ R, gdL P = R := ⟨_, rfl⟩
  have HR : Hid (P.all gdP = R) := hR
  have HP := Hid.mk' hP
  have HL : Hid (P.length = n) := hl.len
  rw [hR]
  obtain ⟨E0, hE0⟩ : ∃ E : ByteArray, E = ⟨#[]⟩ := ⟨_, rfl⟩
  obtain ⟨E1, hE1⟩ : ∃ E : ByteArray, E = ⟨#[61]⟩ := ⟨_, rfl⟩
  obtain ⟨E2, hE2⟩ : ∃ E : ByteArray, E = ⟨#[45]⟩ := ⟨_, rfl⟩
  obtain ⟨E3, hE3⟩ : ∃ E : ByteArray, E = ⟨#[45, 45, 45]⟩ := ⟨_, rfl⟩
  have HE0 : Hid (E0 = bs []) := by show _ = _; rw [hE0]; rfl
  have HE1 : Hid (E1 = bs [61]) := by show _ = _; rw [hE1]; rfl
  have HE2 : Hid (E2 = bs [45]) := by show _ = _; rw [hE2]; rfl
  have HE3 : Hid (E3 = bs [45, 45, 45]) := by show _ = _; rw [hE3]; rfl
  clear hR hP
  go_enter Tryd.func17, Tryd.ntmps17
  rw [← hE0, ← hE1, ← hE2, ← hE3]
  clear hE0 hE1 hE2 hE3
  go_wp2
  go_loopw [3] (fun t wr => ∃ i : Nat, t = .int .i64 (i : Int) ∧ i ≤ n ∧ (P.take i).all gdP = true ∧ Keeps (fun _ => False) w wr) (fun t _ => n - (intOf t).toNat)
  case atStart => exact ⟨0, rfl, by omega, by simp, Keeps.refl _ _⟩
  case round =>
    obtain ⟨i, rfl, hi, hall, hk⟩ := hrel
    have Hall := Hid.mk' hall
    clear hall
    by_cases hlt : i < n
    · have hlt' : (i : Int) < (n : Int) := by omega
      have hi0 : (0 : Int) ≤ (i : Int) := by omega
      obtain ⟨p, hp⟩ : ∃ p, P[i]? = some p := ⟨_, List.getElem?_eq_getElem (by rw [hl.len]; exact hlt)⟩
      have Hp : Hid (P.getD i (0, []) = p) := by show _ = _; rw [List.getD_eq_getElem?_getD, hp]; rfl
      obtain ⟨hp1, hp2⟩ := HP.out p (List.mem_of_getElem? hp)
      obtain ⟨b1, o1, rfl, h1, a1, m, c1, h2, s1, _⟩ := (hl.keep hk).at_ i p hp
      obtain ⟨k, ws⟩ := p
      simp only at h1 h2 s1 hp1 hp2
      have hm9 : m ≤ 90000 := by rw [← s1.len]; exact hp1
      have HM : Hid (ws.length = m) := s1.len
      have HW := Hid.mk' hp2
      have HF : Hid (gdP (k, ws) = false → R = false) := fun h => by rw [← HR.out]; exact all_badP (by rw [HL.out]; exact hlt) (by rw [Hp.out]; exact h)
      have HA : Hid (gdP (k, ws) = true → (P.take (i + 1)).all gdP = true) := fun h => by rw [all_snocP (by rw [HL.out]; exact hlt), Hall.out, Hp.out, h]; rfl
      clear hp hp1 hp2
      by_cases hok : okK (k, ws) = true
      · obtain ⟨hk1, hk4, hkz⟩ : 1 ≤ k ∧ k ≤ 4 ∧ (k = 4 ↔ m = 0) := by
          unfold okK at hok
          simp only [Bool.and_eq_true, decide_eq_true_eq, beq_iff_eq, HM.out] at hok
          refine ⟨hok.1.1, hok.1.2, ?_⟩
          have := hok.2
          by_cases h4 : k = 4 <;> by_cases hm : m = 0 <;> simp [h4, hm] at this ⊢
        have Hok := Hid.mk' hok
        have e1 : ¬ k < (1 : Int) := by omega
        have e2 : ¬ (4 : Int) < k := by omega
        obtain ⟨u, e3, e4⟩ : ∃ u, (k == (4 : Int)) = u ∧ ((m : Int) == (0 : Int)) = u := by
          by_cases h4 : k = 4
          · refine ⟨true, by simp [h4], ?_⟩
            have := hkz.1 h4; simp [this]
          · refine ⟨false, by simp [h4], ?_⟩
            have : m ≠ 0 := fun h => h4 (hkz.2 h)
            simp; omega
        clear hok
        go_wp2_with (first
          | (have hh := h1; clear h1; refine wpList_load41 rfl _ rfl b1 (o1 + i * 2) rfl _ _ hh h2 ?_; clear hh; have hL : Hid True := trivial)
          | (have hh := hL; clear hL; refine wpList_alloc41 rfl rfl ?_; intro g w2 r2 z2 k2)
          | (have hh := r2; clear r2; refine wpList_store41 rfl _ _ rfl g rfl k a1 m c1 rfl _ hh ?_; intro w3 r3 k3; clear hh; have q0 : w3.cell? ⟨g, 0, none⟩ = some (.int .i64 k) := (by rw [cell_of_row w3 g 0 _ _ _ r3.row]; rfl); have q1 : w3.cell? ⟨g, 1, none⟩ = some (.slice a1 m c1) := (by rw [cell_of_row w3 g 1 _ _ _ r3.row]; rfl)))
        have K3 : Keeps (fun _ => False) wr w3 := k2.trans' k3 (fun k e => .inr (by omega))
        have hPI : PIn w3 g k a1 m c1 ws := ⟨r3, s1.keep K3⟩
        have HK : Hid (Keeps (fun _ => False) w w3) := hk.trans K3
        clear r3 k2 k3 z2 s1 h2 K3 hk
        go_wp2
        go_loopw [5] (fun t wr => ∃ j : Nat, t = .int .i64 (j : Int) ∧ j ≤ m ∧ (ws.take j).all gdW = true ∧ Keeps (fun _ => False) w3 wr) (fun t _ => m - (intOf t).toNat)
        case atStart => exact ⟨0, rfl, by omega, by simp, Keeps.refl _ _⟩
        case round =>
          obtain ⟨j, rfl, hj, hallw, hk2⟩ := hrel
          have Hallw := Hid.mk' hallw
          have HK2 := Hid.mk' hk2
          have hP2 := hPI.keep hk2
          have d0 := hP2.c0
          have d1 := hP2.c1
          clear hallw q0 q1
          by_cases hjm : j < m
          · have hjm' : (j : Int) < (m : Int) := by omega
            have hj0 : (0 : Int) ≤ (j : Int) := by omega
            obtain ⟨bw, ow, rfl, _, hcx⟩ := hP2.sl.ent2 hjm
            obtain ⟨x, hx⟩ : ∃ x, ws.getD j [] = x := ⟨_, rfl⟩
            rw [hx] at hcx
            have Hx : Hid (ws.getD j [] = x) := hx
            have hxl : x.length ≤ 90000 := by
              rw [← hx, List.getD_eq_getElem?_getD, List.getElem?_eq_getElem (by rw [HM.out]; exact hjm)]
              exact HW.out _ (List.getElem_mem _)
            obtain ⟨X, hX⟩ : ∃ X, bs x = X := ⟨_, rfl⟩
            have HX : Hid (X = bs x) := hX.symm
            rw [hX] at hcx
            have HXl : Hid (X.data.toList = x) := by show _ = _; rw [← hX, bs_data]
            have hXs : X.size = x.length := by rw [← sz_len, HXl.out]
            have hqp := fun W => plain22 W X (by omega) false
            have hqw := fun W => words20 W X (by omega)
            simp only [HXl.out] at hqp hqw
            have HB : Hid (gdW x = false → R = false) := fun h => HF.out (by
              unfold gdP
              rw [all_badW (by rw [HM.out]; exact hjm) (by rw [Hx.out]; exact h)]; simp)
            have HG : Hid (gdW x = true → (ws.take (j + 1)).all gdW = true) := fun h => by rw [all_snocW (by rw [HM.out]; exact hjm), Hallw.out, Hx.out, h]; rfl
            have f1 : ∀ dd os, (grow (redrawn wr dd) os).cell? ⟨g, 1, none⟩ = some (.slice (some ⟨bw, ow, none⟩) m c1) := fun dd os => cell_keeps (keeps_cls ⟨⟨dd, os⟩, rfl⟩) d1 (fun h => h)
            have f2 : ∀ dd os, (grow (redrawn wr dd) os).cell? ⟨bw, ow + j, none⟩ = some (.string X) := fun dd os => cell_keeps (keeps_cls ⟨⟨dd, os⟩, rfl⟩) hcx (fun h => h)
            clear hx hX hP2 hPI hxl hXs
            by_cases hx0 : x = []
            · have t0 : (X.toList == E0.toList) = true := by rw [HX.out, bs_eq E0 HE0.out, decide_eq_true hx0]
              have HR0 : Hid (R = false) := HB.out (by unfold gdW; simp [hx0])
              clear hqp hqw HB HG hx0
              go_wp2_with fail
              refine region_plan (S := fun w' => ∃ q : Regrown, w' = grow (redrawn wr q.d) q.os) [([0, 1, 2, 3, 4, 5, 6, 7, 8, 9, 10, 11], 12), ([13, 14, 15, 16, 17, 18, 19, 20], 21), ([], 22), ([23, 24, 25, 26, 27, 28, 29, 30, 34, 35, 36, 37, 38], 31), ([32], 33)] [39, 40] (by kernel_rfl) (by kernel_rfl) (by kernel_rfl) (by kernel_rfl) (cls_keeps ((Keeps.refl _ _).drew)) ?_
              simp only [wpPlan, opsAt, pick]
              repeat (go_big_quiet_step (fail))
              refine wpQuiet_nil ?_
              go_wp2_with fail
              have K4 := (Keeps.refl (fun _ => False) wr).drew
              refine ⟨cls_keeps K4, ?_⟩
              simp only [wpPlan, opsAt, pick]
              repeat (go_big_quiet_step (fail))
              refine wpQuiet_nil ?_
              go_wp2_with fail
              have K5 := K4
              refine ⟨cls_keeps K5, ?_⟩
              simp only [wpPlan, opsAt, pick]
              repeat (go_big_quiet_step (fail))
              refine wpQuiet_nil ?_
              go_wp2_with fail
              refine ⟨cls_keeps K5, ?_⟩
              simp only [wpPlan, opsAt, pick]
              repeat (go_big_quiet_step (fail))
              refine wpQuiet_nil ?_
              go_wp2_with fail
              have K6 := K5
              refine ⟨cls_keeps K6, ?_⟩
              simp only [wpPlan, opsAt, pick]
              repeat (go_big_quiet_step (fail))
              refine wpQuiet_nil ?_
              go_wp2_with fail
              refine ⟨cls_keeps K6, ?_⟩
              simp only [wpPlan, opsAt, pick]
              repeat (go_big_quiet_step (fail))
              refine wpQuiet_nil ?_
              refine NoPanic.normal ?_
              go_wp2
              go_ret
              exact ⟨by rw [HR0.out]; rfl, (HK.out.trans HK2.out).trans K6⟩
            · have t0 : (X.toList == E0.toList) = false := by rw [HX.out]; exact bs_ne hx0 E0 (by rw [HE0.out]; rfl)
              have Hx0 := Hid.mk' hx0
              clear hx0
              cases hpl : pln false x with
              | false =>
                have HR0 : Hid (R = false) := HB.out (by unfold gdW; simp [hpl])
                rw [hpl] at hqp
                clear hqw HB HG hpl
                go_wp2_with fail
                refine region_plan (S := fun w' => ∃ q : Regrown, w' = grow (redrawn wr q.d) q.os) [([0, 1, 2, 3, 4, 5, 6, 7, 8, 9, 10, 11], 12), ([13, 14, 15, 16, 17, 18, 19, 20], 21), ([], 22), ([23, 24, 25, 26, 27, 28, 29, 30, 34, 35, 36, 37, 38], 31), ([32], 33)] [39, 40] (by kernel_rfl) (by kernel_rfl) (by kernel_rfl) (by kernel_rfl) (cls_keeps ((Keeps.refl _ _).drew)) ?_
                simp only [wpPlan, opsAt, pick]
                repeat (go_big_quiet_step (fail))
                refine wpQuiet_nil ?_
                go_wp2_with (go_at_call 27; refine (hqp _).mono ?_; rintro e w4 ⟨rfl, k4⟩)
                have K4 := ((Keeps.refl (fun _ => False) wr).drew).trans k4
                refine ⟨cls_keeps K4, ?_⟩
                simp only [wpPlan, opsAt, pick]
                repeat (go_big_quiet_step (fail))
                refine wpQuiet_nil ?_
                go_wp2_with fail
                have K5 := K4
                refine ⟨cls_keeps K5, ?_⟩
                simp only [wpPlan, opsAt, pick]
                repeat (go_big_quiet_step (fail))
                refine wpQuiet_nil ?_
                go_wp2_with fail
                refine ⟨cls_keeps K5, ?_⟩
                simp only [wpPlan, opsAt, pick]
                repeat (go_big_quiet_step (fail))
                refine wpQuiet_nil ?_
                go_wp2_with fail
                have K6 := K5
                refine ⟨cls_keeps K6, ?_⟩
                simp only [wpPlan, opsAt, pick]
                repeat (go_big_quiet_step (fail))
                refine wpQuiet_nil ?_
                go_wp2_with fail
                refine ⟨cls_keeps K6, ?_⟩
                simp only [wpPlan, opsAt, pick]
                repeat (go_big_quiet_step (fail))
                refine wpQuiet_nil ?_
                refine NoPanic.normal ?_
                go_wp2
                go_ret
                exact ⟨by rw [HR0.out]; rfl, (HK.out.trans HK2.out).trans K6⟩
              | true =>
                rw [hpl] at hqp
                have Hpl := Hid.mk' hpl
                clear hpl
                obtain ⟨Y, hY⟩ : ∃ Y, wds x = Y := ⟨_, rfl⟩
                rw [hY] at hqw
                have HY := Hid.mk' hY
                obtain ⟨q, hq⟩ : ∃ q, Y.length = q := ⟨_, rfl⟩
                have HQ := Hid.mk' hq
                clear hY hq
                by_cases hq1 : q = 1
                · obtain ⟨z, hz⟩ : ∃ z, Y = [z] := List.length_eq_one_iff.1 (by rw [HQ.out, hq1])
                  subst hz hq1
                  obtain ⟨Z, hZ⟩ : ∃ Z, bs z = Z := ⟨_, rfl⟩
                  have HZ := Hid.mk' hZ
                  have hZX : (Z.toList == X.toList) = decide (z = x) := by rw [← hZ]; exact bs_eq X HX.out
                  clear hZ
                  by_cases hzx : z = x
                  · rw [decide_eq_true hzx] at hZX
                    have HG2 := Hid.mk' (HG.out (by unfold gdW; rw [Hpl.out, HY.out, hzx]; simp [Hx0.out]))
                    clear HB HG hzx
                    go_wp2_with fail
                    refine region_plan (S := fun w' => ∃ q : Regrown, w' = grow (redrawn wr q.d) q.os) [([0, 1, 2, 3, 4, 5, 6, 7, 8, 9, 10, 11], 12), ([13, 14, 15, 16, 17, 18, 19, 20], 21), ([], 22), ([23, 24, 25, 26, 27, 28, 29, 30, 34, 35, 36, 37, 38], 31), ([32], 33)] [39, 40] (by kernel_rfl) (by kernel_rfl) (by kernel_rfl) (by kernel_rfl) (cls_keeps ((Keeps.refl _ _).drew)) ?_
                    simp only [wpPlan, opsAt, pick]
                    repeat (go_big_quiet_step (fail))
                    refine wpQuiet_nil ?_
                    go_wp2_with (go_at_call 27; refine (hqp _).mono ?_; rintro e w4 ⟨rfl, k4⟩)
                    have K4 := ((Keeps.refl (fun _ => False) wr).drew).trans k4
                    refine ⟨cls_keeps K4, ?_⟩
                    simp only [wpPlan, opsAt, pick]
                    repeat (go_big_quiet_step (fail))
                    refine wpQuiet_nil ?_
                    go_wp2_with (go_at_call 20; refine (hqw _).mono ?_; rintro e w5 ⟨⟨v5, rfl, o5⟩, k5⟩; obtain ⟨a5, c5, e5, s5, _⟩ := o5.slice; (first | rw [HQ.out] at e5 | skip); obtain rfl : v5 = .slice a5 1 c5 := e5)
                    have K5 := K4.trans k5
                    refine ⟨cls_keeps K5, ?_⟩
                    simp only [wpPlan, opsAt, pick]
                    repeat (go_big_quiet_step (fail))
                    refine wpQuiet_nil ?_
                    go_wp2_with fail
                    refine ⟨cls_keeps K5, ?_⟩
                    simp only [wpPlan, opsAt, pick]
                    repeat (go_big_quiet_step (fail))
                    refine wpQuiet_nil ?_
                    go_wp2_with (go_at_call 20; refine (hqw _).mono ?_; rintro e w6 ⟨⟨v6, rfl, o6⟩, k6⟩; obtain ⟨a6, c6, e6, s6, _⟩ := o6.slice; obtain rfl : v6 = .slice a6 1 c6 := e6; obtain ⟨b6, f6, rfl, _, hc6⟩ := s6.ent2 (i := 0) (by simp))
                    have K6 := K5.trans k6
                    have hc6 : w6.cell? ⟨b6, f6, none⟩ = some (.string Z) := by rw [← HZ.out]; exact hc6
                    refine ⟨cls_keeps K6, ?_⟩
                    simp only [wpPlan, opsAt, pick]
                    repeat (go_big_quiet_step (fail))
                    refine wpQuiet_nil ?_
                    go_wp2_with fail
                    refine ⟨cls_keeps K6, ?_⟩
                    simp only [wpPlan, opsAt, pick]
                    repeat (go_big_quiet_step (fail))
                    refine wpQuiet_nil ?_
                    refine NoPanic.normal ?_
                    go_wp2
                    exact ⟨⟨j + 1, rfl, by omega, HG2.out, HK2.out.trans K6⟩, by simp [intOf]; omega⟩
                  · rw [decide_eq_false hzx] at hZX
                    have HR0 : Hid (R = false) := HB.out (by unfold gdW; rw [HY.out]; simp [hzx])
                    clear HB HG hzx
                    go_wp2_with fail
                    refine region_plan (S := fun w' => ∃ q : Regrown, w' = grow (redrawn wr q.d) q.os) [([0, 1, 2, 3, 4, 5, 6, 7, 8, 9, 10, 11], 12), ([13, 14, 15, 16, 17, 18, 19, 20], 21), ([], 22), ([23, 24, 25, 26, 27, 28, 29, 30, 34, 35, 36, 37, 38], 31), ([32], 33)] [39, 40] (by kernel_rfl) (by kernel_rfl) (by kernel_rfl) (by kernel_rfl) (cls_keeps ((Keeps.refl _ _).drew)) ?_
                    simp only [wpPlan, opsAt, pick]
                    repeat (go_big_quiet_step (fail))
                    refine wpQuiet_nil ?_
                    go_wp2_with (go_at_call 27; refine (hqp _).mono ?_; rintro e w4 ⟨rfl, k4⟩)
                    have K4 := ((Keeps.refl (fun _ => False) wr).drew).trans k4
                    refine ⟨cls_keeps K4, ?_⟩
                    simp only [wpPlan, opsAt, pick]
                    repeat (go_big_quiet_step (fail))
                    refine wpQuiet_nil ?_
                    go_wp2_with (go_at_call 20; refine (hqw _).mono ?_; rintro e w5 ⟨⟨v5, rfl, o5⟩, k5⟩; obtain ⟨a5, c5, e5, s5, _⟩ := o5.slice; (first | rw [HQ.out] at e5 | skip); obtain rfl : v5 = .slice a5 1 c5 := e5)
                    have K5 := K4.trans k5
                    refine ⟨cls_keeps K5, ?_⟩
                    simp only [wpPlan, opsAt, pick]
                    repeat (go_big_quiet_step (fail))
                    refine wpQuiet_nil ?_
                    go_wp2_with fail
                    refine ⟨cls_keeps K5, ?_⟩
                    simp only [wpPlan, opsAt, pick]
                    repeat (go_big_quiet_step (fail))
                    refine wpQuiet_nil ?_
                    go_wp2_with (go_at_call 20; refine (hqw _).mono ?_; rintro e w6 ⟨⟨v6, rfl, o6⟩, k6⟩; obtain ⟨a6, c6, e6, s6, _⟩ := o6.slice; obtain rfl : v6 = .slice a6 1 c6 := e6; obtain ⟨b6, f6, rfl, _, hc6⟩ := s6.ent2 (i := 0) (by simp))
                    have K6 := K5.trans k6
                    have hc6 : w6.cell? ⟨b6, f6, none⟩ = some (.string Z) := by rw [← HZ.out]; exact hc6
                    refine ⟨cls_keeps K6, ?_⟩
                    simp only [wpPlan, opsAt, pick]
                    repeat (go_big_quiet_step (fail))
                    refine wpQuiet_nil ?_
                    go_wp2_with fail
                    refine ⟨cls_keeps K6, ?_⟩
                    simp only [wpPlan, opsAt, pick]
                    repeat (go_big_quiet_step (fail))
                    refine wpQuiet_nil ?_
                    refine NoPanic.normal ?_
                    go_wp2
                    go_ret
                    exact ⟨by rw [HR0.out]; rfl, (HK.out.trans HK2.out).trans K6⟩
                · have t2 : ((q : Int) != (1 : Int)) = true := by simp; omega
                  have HR0 : Hid (R = false) := HB.out (by
                    unfold gdW
                    have : wds x ≠ [x] := fun h => hq1 (by rw [← HQ.out, ← HY.out, h]; rfl)
                    simp [this])
                  clear HB HG hq1
                  go_wp2_with fail
                  refine region_plan (S := fun w' => ∃ q : Regrown, w' = grow (redrawn wr q.d) q.os) [([0, 1, 2, 3, 4, 5, 6, 7, 8, 9, 10, 11], 12), ([13, 14, 15, 16, 17, 18, 19, 20], 21), ([], 22), ([23, 24, 25, 26, 27, 28, 29, 30, 34, 35, 36, 37, 38], 31), ([32], 33)] [39, 40] (by kernel_rfl) (by kernel_rfl) (by kernel_rfl) (by kernel_rfl) (cls_keeps ((Keeps.refl _ _).drew)) ?_
                  simp only [wpPlan, opsAt, pick]
                  repeat (go_big_quiet_step (fail))
                  refine wpQuiet_nil ?_
                  go_wp2_with (go_at_call 27; refine (hqp _).mono ?_; rintro e w4 ⟨rfl, k4⟩)
                  have K4 := ((Keeps.refl (fun _ => False) wr).drew).trans k4
                  refine ⟨cls_keeps K4, ?_⟩
                  simp only [wpPlan, opsAt, pick]
                  repeat (go_big_quiet_step (fail))
                  refine wpQuiet_nil ?_
                  go_wp2_with (go_at_call 20; refine (hqw _).mono ?_; rintro e w5 ⟨⟨v5, rfl, o5⟩, k5⟩; obtain ⟨a5, c5, e5, s5, _⟩ := o5.slice; (first | rw [HQ.out] at e5 | skip); obtain rfl : v5 = .slice a5 q c5 := e5)
                  have K5 := K4.trans k5
                  refine ⟨cls_keeps K5, ?_⟩
                  simp only [wpPlan, opsAt, pick]
                  repeat (go_big_quiet_step (fail))
                  refine wpQuiet_nil ?_
                  go_wp2_with fail
                  refine ⟨cls_keeps K5, ?_⟩
                  simp only [wpPlan, opsAt, pick]
                  repeat (go_big_quiet_step (fail))
                  refine wpQuiet_nil ?_
                  go_wp2_with fail
                  have K6 := K5
                  refine ⟨cls_keeps K6, ?_⟩
                  simp only [wpPlan, opsAt, pick]
                  repeat (go_big_quiet_step (fail))
                  refine wpQuiet_nil ?_
                  go_wp2_with fail
                  refine ⟨cls_keeps K6, ?_⟩
                  simp only [wpPlan, opsAt, pick]
                  repeat (go_big_quiet_step (fail))
                  refine wpQuiet_nil ?_
                  refine NoPanic.normal ?_
                  go_wp2
                  go_ret
                  exact ⟨by rw [HR0.out]; rfl, (HK.out.trans HK2.out).trans K6⟩
          · obtain rfl : m = j := by omega
            have hjm' : ¬ (m : Int) < (m : Int) := by omega
            have HgW : Hid (ws.all gdW = true) := by
              have h := Hallw.out
              rw [List.take_of_length_le (by rw [HM.out]; exact Nat.le_refl _)] at h
              exact h
            have HGP : Hid (gdP (k, ws) = !badT (k, ws)) := by show _ = _; unfold gdP; rw [Hok.out, HgW.out]; rfl
            clear hj hjm Hallw Hok
            by_cases hk1' : k = 1
            · subst hk1'
              have hm0 : m ≠ 0 := fun h => by have := hkz.2 h; omega
              obtain ⟨bw, ow, rfl, _, hcx⟩ := hP2.sl.ent2 (i := 0) (by omega)
              obtain ⟨y, hy⟩ : ∃ y, ws.getD 0 [] = y := ⟨_, rfl⟩
              rw [hy] at hcx
              have Hy := Hid.mk' hy
              obtain ⟨Y, hY⟩ : ∃ Y, bs y = Y := ⟨_, rfl⟩
              rw [hY] at hcx
              have u1 : (Y.toList == E1.toList) = decide (y = [61]) := by rw [← hY]; exact bs_eq E1 HE1.out
              have u2 : (Y.toList == E2.toList) = decide (y = [45]) := by rw [← hY]; exact bs_eq E2 HE2.out
              have u3 : (Y.toList == E3.toList) = decide (y = [45, 45, 45]) := by rw [← hY]; exact bs_eq E3 HE3.out
              have hcx : wr.cell? ⟨bw, ow, none⟩ = some (.string Y) := hcx
              have HBT : Hid (badT (1, ws) = (decide (m = 1) && decide (y = [45, 45, 45]) || decide (1 < m) && (decide (y = [61]) || decide (y = [45])))) := by
                show _ = _; unfold badT; rw [show ((1 : Int), ws).2 = ws from rfl, HM.out, Hy.out]; simp
              clear hy hY hP2 hPI hkz
              by_cases hm1 : m = 1
              · have t1 : ((m : Int) == (1 : Int)) = true := by simp [hm1]
                have t2 : ¬ (1 : Int) < (m : Int) := by omega
                by_cases hq : y = [45, 45, 45]
                · rw [decide_eq_true hq] at u3
                  have HR0 : Hid (R = false) := HF.out (by rw [HGP.out, HBT.out, hm1, decide_eq_true hq]; rfl)
                  clear HF HA hq u1 u2
                  go_wp2
                  go_ret
                  exact ⟨by rw [HR0.out]; rfl, HK.out.trans HK2.out⟩
                · rw [decide_eq_false hq] at u3
                  have HA0 := Hid.mk' (HA.out (by rw [HGP.out, HBT.out, hm1, decide_eq_false hq]; rfl))
                  clear HF HA hq u1 u2
                  go_wp2
                  exact ⟨⟨i + 1, rfl, by omega, HA0.out, HK.out.trans HK2.out⟩, by simp [intOf]; omega⟩
              · have t1 : ((m : Int) == (1 : Int)) = false := by simp; omega
                have t2 : (1 : Int) < (m : Int) := by omega
                have Ht2 : Hid (1 < m) := by show _ < _; omega
                have Hm1 := Hid.mk' hm1
                clear u3 hm1
                by_cases hq : y = [61]
                · rw [decide_eq_true hq] at u1
                  have HR0 : Hid (R = false) := HF.out (by rw [HGP.out, HBT.out, decide_eq_true hq, decide_eq_true Ht2.out]; simp)
                  clear HF HA hq u2
                  go_wp2
                  go_ret
                  exact ⟨by rw [HR0.out]; rfl, HK.out.trans HK2.out⟩
                · rw [decide_eq_false hq] at u1
                  have Hq := Hid.mk' hq
                  clear hq
                  by_cases hq : y = [45]
                  · rw [decide_eq_true hq] at u2
                    have HR0 : Hid (R = false) := HF.out (by rw [HGP.out, HBT.out, decide_eq_true hq, decide_eq_true Ht2.out]; simp)
                    clear HF HA hq
                    go_wp2
                    go_ret
                    exact ⟨by rw [HR0.out]; rfl, HK.out.trans HK2.out⟩
                  · rw [decide_eq_false hq] at u2
                    have HA0 := Hid.mk' (HA.out (by rw [HGP.out, HBT.out, decide_eq_false hq, decide_eq_false Hq.out, decide_eq_false Hm1.out]; simp))
                    clear HF HA hq
                    go_wp2
                    exact ⟨⟨i + 1, rfl, by omega, HA0.out, HK.out.trans HK2.out⟩, by simp [intOf]; omega⟩
            · have t0 : (k == (1 : Int)) = false := by simp; exact hk1'
              have HA0 := Hid.mk' (HA.out (by rw [HGP.out]; unfold badT; simp [hk1']))
              clear HF HA hP2 hPI hkz
              go_wp2
              exact ⟨⟨i + 1, rfl, by omega, HA0.out, HK.out.trans HK2.out⟩, by simp [intOf]; omega⟩
      · have HR0 : Hid (R = false) := HF.out (by unfold gdP; simp at hok; simp [hok])
        have hok2 : k < 1 ∨ (1 ≤ k ∧ 4 < k) ∨ (1 ≤ k ∧ k ≤ 4 ∧ k = 4 ∧ m ≠ 0) ∨ (1 ≤ k ∧ k ≤ 4 ∧ k ≠ 4 ∧ m = 0) := by
          unfold okK at hok
          simp only [HM.out] at hok
          by_cases c1 : k < 1
          · exact .inl c1
          by_cases c2 : 4 < k
          · exact .inr (.inl ⟨by omega, c2⟩)
          by_cases c3 : k = 4
          · refine .inr (.inr (.inl ⟨by omega, by omega, c3, fun h => hok ?_⟩))
            subst c3; simp [h]
          · by_cases c4 : m = 0
            · exact .inr (.inr (.inr ⟨by omega, by omega, c3, c4⟩))
            · refine absurd ?_ hok
              simp [c3, c4]; omega
        clear hok HF HA
        rcases hok2 with e1 | ⟨e0, e1⟩ | ⟨e0, e1, rfl, e3⟩ | ⟨e0, e1, e2, rfl⟩
        · go_wp2_with (first
            | (have hh := h1; clear h1; refine wpList_load41 rfl _ rfl b1 (o1 + i * 2) rfl _ _ hh h2 ?_; clear hh; have hL : Hid True := trivial)
            | (have hh := hL; clear hL; refine wpList_alloc41 rfl rfl ?_; intro g w2 r2 z2 k2)
            | (have hh := r2; clear r2; refine wpList_store41 rfl _ _ rfl g rfl _ a1 _ c1 rfl _ hh ?_; intro w3 r3 k3; clear hh; have q0 : w3.cell? ⟨g, 0, none⟩ = some (.int .i64 _) := (by rw [cell_of_row w3 g 0 _ _ _ r3.row]; rfl); have q1 : w3.cell? ⟨g, 1, none⟩ = some (.slice a1 _ c1) := (by rw [cell_of_row w3 g 1 _ _ _ r3.row]; rfl)))
          have K3 : Keeps (fun _ => False) wr w3 := k2.trans' k3 (fun k e => .inr (by omega))
          go_ret
          exact ⟨by rw [HR0.out]; rfl, hk.trans K3⟩
        · have e2 : ¬ k < (1 : Int) := by omega
          go_wp2_with (first
            | (have hh := h1; clear h1; refine wpList_load41 rfl _ rfl b1 (o1 + i * 2) rfl _ _ hh h2 ?_; clear hh; have hL : Hid True := trivial)
            | (have hh := hL; clear hL; refine wpList_alloc41 rfl rfl ?_; intro g w2 r2 z2 k2)
            | (have hh := r2; clear r2; refine wpList_store41 rfl _ _ rfl g rfl _ a1 _ c1 rfl _ hh ?_; intro w3 r3 k3; clear hh; have q0 : w3.cell? ⟨g, 0, none⟩ = some (.int .i64 _) := (by rw [cell_of_row w3 g 0 _ _ _ r3.row]; rfl); have q1 : w3.cell? ⟨g, 1, none⟩ = some (.slice a1 _ c1) := (by rw [cell_of_row w3 g 1 _ _ _ r3.row]; rfl)))
          have K3 : Keeps (fun _ => False) wr w3 := k2.trans' k3 (fun k e => .inr (by omega))
          go_ret
          exact ⟨by rw [HR0.out]; rfl, hk.trans K3⟩
        · have e4 : ((m : Int) == (0 : Int)) = false := by simp; exact e3
          go_wp2_with (first
            | (have hh := h1; clear h1; refine wpList_load41 rfl _ rfl b1 (o1 + i * 2) rfl _ _ hh h2 ?_; clear hh; have hL : Hid True := trivial)
            | (have hh := hL; clear hL; refine wpList_alloc41 rfl rfl ?_; intro g w2 r2 z2 k2)
            | (have hh := r2; clear r2; refine wpList_store41 rfl _ _ rfl g rfl _ a1 _ c1 rfl _ hh ?_; intro w3 r3 k3; clear hh; have q0 : w3.cell? ⟨g, 0, none⟩ = some (.int .i64 _) := (by rw [cell_of_row w3 g 0 _ _ _ r3.row]; rfl); have q1 : w3.cell? ⟨g, 1, none⟩ = some (.slice a1 _ c1) := (by rw [cell_of_row w3 g 1 _ _ _ r3.row]; rfl)))
          have K3 : Keeps (fun _ => False) wr w3 := k2.trans' k3 (fun k e => .inr (by omega))
          go_ret
          exact ⟨by rw [HR0.out]; rfl, hk.trans K3⟩
        · have e3 : (k == (4 : Int)) = false := by simp; exact e2
          have e4 : ¬ k < (1 : Int) := by omega
          have e5 : ¬ (4 : Int) < k := by omega
          go_wp2_with (first
            | (have hh := h1; clear h1; refine wpList_load41 rfl _ rfl b1 (o1 + i * 2) rfl _ _ hh h2 ?_; clear hh; have hL : Hid True := trivial)
            | (have hh := hL; clear hL; refine wpList_alloc41 rfl rfl ?_; intro g w2 r2 z2 k2)
            | (have hh := r2; clear r2; refine wpList_store41 rfl _ _ rfl g rfl _ a1 _ c1 rfl _ hh ?_; intro w3 r3 k3; clear hh; have q0 : w3.cell? ⟨g, 0, none⟩ = some (.int .i64 _) := (by rw [cell_of_row w3 g 0 _ _ _ r3.row]; rfl); have q1 : w3.cell? ⟨g, 1, none⟩ = some (.slice a1 _ c1) := (by rw [cell_of_row w3 g 1 _ _ _ r3.row]; rfl)))
          have K3 : Keeps (fun _ => False) wr w3 := k2.trans' k3 (fun k e => .inr (by omega))
          go_ret
          exact ⟨by rw [HR0.out]; rfl, hk.trans K3⟩
    · obtain rfl : i = n := by omega
      have hlt' : ¬ (i : Int) < (i : Int) := by omega
      have HR0 : Hid (R = true) := by
        show _ = _
        have h := Hall.out
        rw [List.take_of_length_le (by rw [HL.out]; exact Nat.le_refl _)] at h
        rw [← HR.out, h]
      have HK := Hid.mk' hk
      clear hk hlt hi Hall
      go_wp2
      go_ret
      exact ⟨by rw [HR0.out]; rfl, HK.out⟩

end Go.Proofs.YtkcnnkakpkdhkaaDoor
