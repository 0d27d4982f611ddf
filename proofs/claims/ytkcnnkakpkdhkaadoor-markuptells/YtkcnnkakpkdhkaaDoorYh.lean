/-
  Parts of one's own.
-/
import Derived.Test.YtkcnnkakpkdhkaaDoorYg
set_option linter.all false
set_option maxRecDepth 100000
namespace Go.Proofs.YtkcnnkakpkdhkaaDoor
open Go.RowKit Go.Sort Go.Shelf
attribute [local go_sem] Oper.semAt_some

/-- A world in which two cells are known. -/
structure CellW2 (a : Addr) (z : Value) (b : Addr) (y : Value) where
  w : World
  h : w.cell? a = some z
  h2 : w.cell? b = some y

/-- What Own tells. -/
structure OwnA (w w' : World) (P : List Pt) (e : Ending) : Prop where
  out : ∃ v l, e = .returned v ∧ OwnP w' w.heap.size v l ∧ AllW w' l P

/-- The first i of them are one's own. -/
structure OwI (w : World) (P : List Pt) (i : Nat) (v : Value) (wr : World) : Prop where
  out : ∃ l, OwnP wr w.heap.size v l ∧ AllW wr l (P.take i)
  keep : Keeps (fun _ => False) w wr

set_option maxHeartbeats 8000000 in
theorem own12 (w : World) (a : Option Addr) (n c : Nat) (P : List Pt) (hl : SlP w a n c P) (hn : n ≤ 200) (hP : ∀ p ∈ P, p.2.length ≤ 300) :
    Calls Tryd.prog 12 #[.slice a n c] w fun e w' => OwnA w w' P e ∧ Keeps (fun _ => False) w w' := by
  have HL : Hid (P.length = n) := hl.len
  have HP := Hid.mk' hP
  clear hP
  go_enter Tryd.func12, Tryd.ntmps12
  go_wp2
  go_loopw [3, 4] (fun v t wr => ∃ i : Nat, t = .int .i64 (i : Int) ∧ i ≤ n ∧ OwI w P i v wr) (fun _ t _ => n - (intOf t).toNat)
  case atStart => exact ⟨0, rfl, by omega, ⟨⟨[], OwnP.nil _ _, by simpa using AllW.nil w⟩, Keeps.refl _ _⟩⟩
  case round =>
    obtain ⟨i, rfl, hi, HI0⟩ := hrel
    have HI := Hid.mk' HI0
    clear HI0
    by_cases hlt : i < n
    · have hlt' : (i : Int) < (n : Int) := by omega
      have hi0 : (0 : Int) ≤ (i : Int) := by omega
      obtain ⟨p, hp⟩ : ∃ p, P[i]? = some p := ⟨_, List.getElem?_eq_getElem (by rw [hl.len]; exact hlt)⟩
      have HT : Hid (P.take (i + 1) = P.take i ++ [p]) := by show _ = _; rw [List.take_succ, hp]; rfl
      have hm3 := HP.out p (List.mem_of_getElem? hp)
      obtain ⟨b1, o1, rfl, h1w, a1, m, c1, h2w, s1w, z1⟩ := hl.at_ i p hp
      obtain ⟨k, ws⟩ := p
      simp only at h1w h2w s1w hm3
      have h1 := cell_keeps HI.out.keep h1w (fun h => h)
      have h2 := cell_keeps HI.out.keep h2w (fun h => h)
      have s1 := s1w.keep HI.out.keep
      have H1w := Hid.mk' h1w
      have H2w := Hid.mk' h2w
      have hm3' : m ≤ 300 := by rw [← s1.len]; exact hm3
      obtain ⟨l, oP, aP⟩ := HI.out.out
      have hll : l.length ≤ 200 := by
        have e := aP.len
        rw [List.length_take, HL.out] at e
        omega
      have HoP := Hid.mk' oP
      have HaP := Hid.mk' aP
      have Hs1 := Hid.mk' s1
      clear hp oP aP s1 s1w h1w h2w
      go_wp2_with fail
      have kd : Keeps (fun _ => False) wr wr.drew := (Keeps.refl _ _).drew
      have d1 := cell_keeps kd h1 (fun h => h)
      have d2 := cell_keeps kd h2 (fun h => h)
      have ne0 : Nonempty (CellW2 ⟨b1, o1 + i * 2, none⟩ (.int .i64 k) ⟨b1, o1 + i * 2 + 1, none⟩ (.slice a1 m c1)) := ⟨⟨_, d1, d2⟩⟩
      have hc1 : ∀ q : CellW2 ⟨b1, o1 + i * 2, none⟩ (.int .i64 k) ⟨b1, o1 + i * 2 + 1, none⟩ (.slice a1 m c1), q.w.cell? ⟨b1, o1 + i * 2, none⟩ = some (.int .i64 k) := fun q => q.h
      have hc2 : ∀ q : CellW2 ⟨b1, o1 + i * 2, none⟩ (.int .i64 k) ⟨b1, o1 + i * 2 + 1, none⟩ (.slice a1 m c1), q.w.cell? ⟨b1, o1 + i * 2 + 1, none⟩ = some (.slice a1 m c1) := fun q => q.h2
      refine region_plan (S := fun w' => ∃ q : CellW2 ⟨b1, o1 + i * 2, none⟩ (.int .i64 k) ⟨b1, o1 + i * 2 + 1, none⟩ (.slice a1 m c1), w' = q.w) [([0, 1, 2, 3, 4, 5, 7, 8, 9, 10, 11], 6), ([], 12), ([], 13), ([], 14), ([], 15)] [16] (by kernel_rfl) (by kernel_rfl) (by kernel_rfl) (by kernel_rfl) ⟨⟨_, d1, d2⟩, rfl⟩ ?_
      simp only [wpPlan, opsAt, pick]
      repeat (go_big_quiet_step (fail))
      refine wpQuiet_nil ?_
      go_wp2_with (refine wpList_build0T rfl rfl ?_; intro g6 w6 o6 z6 k6)
      have e1 := cell_keeps k6 d1 (fun h => h)
      have e2 := cell_keeps k6 d2 (fun h => h)
      refine ⟨⟨⟨_, e1, e2⟩, rfl⟩, ?_⟩
      simp only [wpPlan, opsAt, pick]
      repeat (go_big_quiet_step (fail))
      refine wpQuiet_nil ?_
      have K6 := kd.trans k6
      have s6 := Hs1.out.keep K6
      have hsz6 : wr.drew.heap.size ≤ w6.heap.size := k6.size
      go_wp2_with (refine wpList_appTs rfl _ _ rfl wr.drew.heap.size _ [] rfl o6 a1 m c1 ws rfl s6 z1 (by simp; omega) hsz6 ?_; intro v12 w12 o12 k12; obtain ⟨a12, n12, c12, rfl⟩ := o12.shape)
      have K12 : Keeps (fun _ => False) wr w12 := K6.trans' k12 (fun k e => .inr (by have := o6.from e; have := kd.size; omega))
      have f1 := cell_keeps K12 h1 (fun h => h)
      have f2 := cell_keeps K12 h2 (fun h => h)
      have W12 := Hid.mk' o12.wd
      refine ⟨⟨⟨_, f1, f2⟩, rfl⟩, ?_⟩
      clear o12 s6 o6 k12 k6 K6 e1 e2 d1 d2 hsz6 hc1 hc2
      simp only [wpPlan, opsAt, pick]
      repeat (go_big_quiet_step (fail))
      refine wpQuiet_nil ?_
      go_wp2_with (refine wpList_bP rfl _ _ rfl k a12 n12 c12 rfl rfl ?_)
      refine ⟨⟨⟨_, f1, f2⟩, rfl⟩, ?_⟩
      simp only [wpPlan, opsAt, pick]
      repeat (go_big_quiet_step (fail))
      refine wpQuiet_nil ?_
      go_wp2_with (refine wpList_build1P rfl _ rfl k a12 n12 c12 rfl ?_; intro g14 w14 r14 z14 k14)
      have K14 := K12.trans k14
      have W14 := Hid.mk' (W12.out.keep k14)
      have oP14 := HoP.out.keep K14
      have hb14 : w.heap.size ≤ w14.heap.size := Nat.le_trans HI.out.keep.size K14.size
      refine ⟨⟨⟨_, cell_keeps K14 h1 (fun h => h), cell_keeps K14 h2 (fun h => h)⟩, rfl⟩, ?_⟩
      simp only [wpPlan, opsAt, pick]
      repeat (go_big_quiet_step (fail))
      refine wpQuiet_nil ?_
      go_wp2_with (refine wpList_appP rfl _ _ rfl w.heap.size _ l rfl oP14 g14 rfl k a12 n12 c12 r14 (by omega) hb14 ?_; intro v15 w15 o15 k15)
      have K15 : Keeps (fun _ => False) w w15 := (HI.out.keep.trans K14).trans' k15 (fun k e => .inr (oP14.from e).1)
      have hno := oP14.no9
      have A15 : AllW w15 (l ++ [(k, .slice a12 n12 c12)]) (P.take i ++ [(k, ws)]) := ((HaP.out.keep K14).keeps k15 hno).snoc (W14.out.keeps k15 hno)
      have j1 : w15.cell? ⟨b1, o1 + i * 2, none⟩ = some (.int .i64 k) := cell_keeps K15 H1w.out (fun h => h)
      have j2 : w15.cell? ⟨b1, o1 + i * 2 + 1, none⟩ = some (.slice a1 m c1) := cell_keeps K15 H2w.out (fun h => h)
      refine ⟨⟨⟨_, j1, j2⟩, rfl⟩, ?_⟩
      have HN : Hid (OwI w P (i + 1) v15 w15) := ⟨⟨_, o15, by rw [HT.out]; exact A15⟩, K15⟩
      clear o15 A15 k15 oP14 hno
      simp only [wpPlan, opsAt, pick]
      repeat (go_big_quiet_step (fail))
      refine wpQuiet_nil ?_
      refine NoPanic.normal ?_
      go_wp2
      exact ⟨⟨i + 1, rfl, by omega, HN.out⟩, by simp [intOf]; omega⟩
    · obtain rfl : i = n := by omega
      have hlt' : ¬ (i : Int) < (i : Int) := by omega
      obtain ⟨l, oP, aP⟩ := HI.out.out
      have OP := Hid.mk' oP
      have AP := Hid.mk' aP
      clear oP aP
      go_wp2
      go_ret
      exact ⟨⟨_, l, rfl, OP.out, by have := AP.out; rw [List.take_of_length_le (by rw [HL.out]; exact Nat.le_refl _)] at this; exact this⟩, HI.out.keep⟩

end Go.Proofs.YtkcnnkakpkdhkaaDoor
