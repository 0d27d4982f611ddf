/-
  The entries of a list, one behind the other, and whether their Keys rise: the iterator.
-/
import Derived.Test.YthngaegfppbdmaaDoorPa
import Derived.Test.YthngaegfppbdmaaDoorPz
set_option linter.all false
namespace Go.Proofs.YthngaegfppbdmaaDoor
open Go.RowKit Go.Sort Go.Shelf

theorem grown_of_keeps {w w' : World} (h : Keeps (fun _ => False) w w') : w.grownBy w' none := ⟨h.os, h.tape, h.output, h.size, fun k hk _ => h.block k hk (fun h => h)⟩
/-- Entry i stands behind the one ahead of it. -/
def ordB (l : List En) (i : Nat) : Bool := decide (i = 0) || lessB (l.getD (i - 1) default).key (l.getD i default).key
def ords (l : List En) : List (En × Bool) := (List.range l.length).map fun i => (l.getD i default, ordB l i)
def encO (x : En × Bool) : Array Value := #[.agg x.1.cells.toArray, .bool x.2]
theorem ords_len (l : List En) : (ords l).length = l.length := by simp [ords]
theorem ords_at {l : List En} {i : Nat} (h : i < l.length) : (ords l)[i]? = some (l.getD i default, ordB l i) := by simp [ords, h]
theorem split_at {α : Type} {l : List α} {i : Nat} {x : α} (h : l[i]? = some x) : l = l.take i ++ x :: l.drop (i + 1) := by
  obtain ⟨h1, h2⟩ := List.getElem?_eq_some_iff.1 h
  rw [← h2, ← List.drop_eq_getElem_cons h1, List.take_append_drop]
theorem take_snocL {α : Type} {l : List α} {i : Nat} {x : α} (h : l[i]? = some x) : l.take (i + 1) = l.take i ++ [x] := by
  obtain ⟨h1, h2⟩ := List.getElem?_eq_some_iff.1 h
  rw [← h2, List.take_succ_eq_append_getElem h1]

theorem EnAt.kpx {S : Nat → Prop} {w w' : World} {b o : Nat} {e : En} (h : EnAt w b o e) (hk : KpX S w w') (hs : ¬ S b) : EnAt w' b o e := ⟨h.len, fun j v hv => hk.cell (h.at_ j v hv) hs⟩
theorem SlE.kpx {S : Nat → Prop} {w w' : World} {a : Option Addr} {n c : Nat} {l : List En} (h : SlE w a n c l) (hk : KpX S w w') (hs : 0 < n → ∀ b o, a = some ⟨b, o, none⟩ → ¬ S b) : SlE w' a n c l :=
  ⟨h.len, h.cap, h.keyed, fun j x hx => by
    obtain ⟨b, o, e, hc⟩ := h.at_ j x hx
    refine ⟨b, o, e, hk.cell hc (hs ?_ b o e)⟩
    have h1 := (List.getElem?_eq_some_iff.1 hx).1
    rw [ecs_len h.keyed, h.len] at h1
    omega⟩

/-- What the iterator has at hand. -/
structure OrIn (l : List En) (g : Nat) (a : Option Addr) (n c : Nat) (J : List (En × Bool) → World → Prop) (W : World) (pre : List (En × Bool)) (wr : World) : Prop where
  j : J pre wr
  cell : wr.heap[g]? = some (.cells #[.slice a n c] 22 (0, 0))
  sl : SlE wr a n c l
  size : W.heap.size ≤ wr.heap.size
theorem OrIn.keep {l : List En} {g : Nat} {a : Option Addr} {n c : Nat} {J : List (En × Bool) → World → Prop} {W wr w' : World} {pre : List (En × Bool)} (hJ : OwnFrom W.heap.size J) (h : OrIn l g a n c J W pre wr) (kp : Keeps (fun _ => False) wr w') : OrIn l g a n c J W pre w' :=
  ⟨hJ pre wr w' none h.j (grown_of_keeps kp) (fun r e => by cases e), kp.row h.cell (fun h => h), h.sl.keep kp, Nat.le_trans h.size kp.size⟩

set_option maxRecDepth 100000 in
set_option maxHeartbeats 2000000 in
theorem ords61 (S : Nat → Prop) (w : World) (g : Nat) (a : Option Addr) (n c : Nat) (l : List En) (hg : w.heap[g]? = some (.cells #[.slice a n c] 22 (0, 0))) (hl : SlE w a n c l) (hn : n ≤ 9223372036854775807) (hS1 : ¬ S g) (hS2 : 0 < n → ∀ b o, a = some ⟨b, o, none⟩ → ¬ S b) :
    SeqO Tryd.prog 61 #[.pointer (some ⟨g, 0, none⟩)] encO (KpX S) (ords l) w := by
  intro ly ny J Jx W hW hJ hJx hY h0
  have hwW : Keeps (fun _ => False) w W := ⟨hW.os, hW.tape, hW.output, hW.size, fun k hk _ => hW.block k hk⟩
  have hI : OrIn l g a n c J W [] W := ⟨h0, hwW.row hg (fun h => h), hl.keep hwW, Nat.le_refl _⟩
  have hlen := hl.len
  have HJ : Hid (OwnFrom W.heap.size J) := hJ
  have HS2 : Hid (0 < n → ∀ b o, a = some ⟨b, o, none⟩ → ¬ S b) := hS2
  have cg : W.cell? ⟨g, 0, none⟩ = some (.slice a n c) := by simp [World.cell?, hI.cell]
  clear hg hl hwW h0 hJ hJx hS2
  refine callsIn_of_wp Tryd.func61 rfl trivial ?_ rfl
  simp only [Tryd.ntmps61, List.size_toArray, List.length_cons, List.length_nil, Nat.reduceAdd, Nat.reduceSub, Array.replicate_succ, Array.replicate_zero, List.push_toArray, List.append_toArray, List.nil_append, List.cons_append]
  gi_wp2
  clear cg
  gi_loopw [7] (fun t wr => ∃ i : Nat, i ≤ n ∧ t = .int .i64 (i : Int) ∧ OrIn l g a n c J W ((ords l).take i) wr) (fun t _ => n - (intOf t).toNat)
  case atStart => exact ⟨0, by omega, rfl, hI⟩
  case round =>
    clear hI
    obtain ⟨i, hi, rfl, hR⟩ := hrel
    by_cases hlt : i < n
    · have hlt' : (i : Int) < (n : Int) := by omega
      have hi0 : (0 : Int) ≤ (i : Int) := by omega
      obtain ⟨b, o, rfl, hE⟩ := hR.sl.ent hlt
      have hkey := hE.len
      have hat := ords_at (l := l) (i := i) (by omega)
      have HX : Hid (ords l = (ords l).take i ++ (l.getD i default, ordB l i) :: (ords l).drop (i + 1)) := split_at hat
      have HN : Hid ((ords l).take (i + 1) = (ords l).take i ++ [(l.getD i default, ordB l i)]) := take_snocL hat
      have HnS : Hid (0 < n → ∀ b' o', some ⟨b, o, none⟩ = some (⟨b', o', none⟩ : Addr) → ¬ S b') := HS2.out
      have hY1 : Hid (∀ w1, J ((ords l).take i) w1 → _) := fun w1 hj1 => hY _ _ _ w1 HX.out hj1
      clear hY hat
      obtain ⟨v, hv⟩ : ∃ v, ordB l i = v := ⟨_, rfl⟩
      rw [hv] at HX HN hY1
      by_cases hz : i = 0
      · subst hz
        obtain rfl : v = true := by rw [← hv]; rfl
        clear hv
        generalize l.getD 0 default = e at *
        rw [show o + 0 * 35 = o by omega] at hE
        gi_wp2_with (first
          | (refine in_wide (fun _ h => by cases h) ?_; refine wpList_load46 rfl _ rfl b o rfl e hE ?_; refine OnlyN.go ?_)
          | (refine in_wide (fun _ h => by cases h) ?_; refine wpList_load46 rfl _ rfl b (o + 0 * 35) rfl e (by simpa using hE) ?_; refine OnlyN.go ?_)
          | (refine in_wide (fun _ h => by cases h) ?_; refine wpList_alloc46 rfl rfl ?_; intro g4 w1 r1 z1 k1; refine OnlyN.go ?_)
          | (refine in_wide (fun _ h => by cases h) ?_; refine wpList_store46 rfl _ _ rfl g4 rfl e rfl hkey _ r1 ?_; intro w2 r2 k2; refine OnlyN.go ?_))
        have K2 : Keeps (fun _ => False) wr w2 := k1.trans' k2 (fun i e => .inr (by omega))
        have R2 := hR.keep HJ.out K2
        clear hE hR k1 k2 r1
        simp only [Act.put, List.setIfInBounds_toArray, List.set_cons_zero, List.set_cons_succ]
        refine region_plan_y (S := fun w' => ∃ p : Regrown, w' = grow (redrawn w2 p.d) p.os) 15 [16] [([0, 1, 2, 3, 4, 5, 6, 7, 8, 9, 10, 11, 12], 13)] [14] (sem_wide _) (by kernel_rfl) (by kernel_rfl) (by kernel_rfl) (by kernel_rfl) (cls_keeps ((Keeps.refl _ _).drew)) ?_
        simp only [wpPlanY, opsAt, pick]
        repeat (first
          | (go_big_quiet_want; refine quiet_load46 _ rfl g4 0 rfl e (fun w' hp => r2.at_.cls hp) ?_; simp only [Act.put, List.setIfInBounds_toArray, List.set_cons_zero, List.set_cons_succ]; go_big_quiet_on)
          | go_big_quiet_step (fail))
        refine wpQuiet_nil ?_
        have Hc : Hid (encO (e, true) = #[.agg e.cells.toArray, .bool true]) := rfl
        gi_wp2_with (refine ⟨trivial, ?_⟩)
        refine ⟨cls_keeps ((Keeps.refl _ _).drew), ?_⟩
        simp only [wpPlanY, opsAt, pick]
        repeat (go_big_quiet_step (fail))
        refine wpQuiet_nil ?_
        have RD := R2.keep HJ.out ((Keeps.refl (fun _ => False) w2).drew)
        obtain ⟨fn, tmps, assign, body, hy, hRd⟩ := hY1.out _ RD.j
        rw [Hc.out] at hy
        gi_wp2
        refine ⟨fun h => by (cases h), hRd.mono ?_⟩
        rintro ed W3 ⟨hkf3, (⟨rfl, hJ3, hk3⟩ | ⟨rfl, hJx3⟩)⟩
        · have hC3 := hk3.2 g _ _ _ RD.cell hS1
          have hL3 := RD.sl.kpx hk3 HS2.out
          have hs3 : W.heap.size ≤ W3.heap.size := by have := hk3.1; have := RD.size; omega
          gi_wp2
          refine ⟨trivial, ?_⟩
          simp only [wpTail, opsAt, pick]
          gi_wp2
          refine ⟨trivial, ?_⟩
          simp only [wpTail, opsAt, pick]
          refine NoPanic.normal ?_
          gi_wp2
          exact ⟨⟨1, by omega, rfl, by rw [show (1 : Nat) = 0 + 1 from rfl, HN.out]; exact ⟨hJ3, hC3, hL3, hs3⟩⟩, by simp [intOf]; omega⟩
        · gi_wp2
          refine ⟨trivial, ?_⟩
          simp only [wpTail, opsAt, pick]
          gi_wp2
          refine ⟨trivial, ?_⟩
          simp only [wpTail, opsAt, pick]
          refine NoPanic.normal ?_
          gi_wp2
          refine bodyPost_ret (results_none rfl _ _ _) rfl ?_
          exact ⟨⟨_, rfl⟩, .inr ⟨_, _, _, HX.out, hJx3⟩⟩
      · have hne : ¬ (i : Int) = 0 := by omega
        have hbe : ((i : Int) == 0) = false := by simp; omega
        have hi1 : (0 : Int) < (i : Int) := by omega
        obtain ⟨j, hj⟩ : ∃ j, i = j + 1 := ⟨i - 1, by omega⟩
        have hji : (i : Int) - 1 = (j : Int) := by omega
        have hj0 : (0 : Int) ≤ (j : Int) := by omega
        have hjn : (j : Int) < (n : Int) := by omega
        obtain ⟨b', o', e', hE'⟩ := hR.sl.ent (i := j) (by omega)
        cases e'
        have hkey' := hE'.len
        have Hv : Hid (lessB (l.getD j default).key (l.getD i default).key = v) := by
          show _ = _
          rw [← hv]
          unfold ordB
          rw [decide_eq_false hz, Bool.false_or, show i - 1 = j by omega]
        clear hv hj
        generalize l.getD i default = e at *
        generalize l.getD j default = d at *
        gi_wp2_with (first
          | (refine in_wide (fun _ h => by cases h) ?_; refine wpList_load46 rfl _ rfl b (o + i * 35) rfl e hE ?_; refine OnlyN.go ?_)
          | (refine in_wide (fun _ h => by cases h) ?_; refine wpList_alloc46 rfl rfl ?_; intro g4 w1 r1 z1 k1; refine OnlyN.go ?_)
          | (refine in_wide (fun _ h => by cases h) ?_; refine wpList_store46 rfl _ _ rfl g4 rfl e rfl hkey _ r1 ?_; intro w2 r2 k2; refine OnlyN.go ?_))
        have K2 : Keeps (fun _ => False) wr w2 := k1.trans' k2 (fun i e => .inr (by omega))
        have R2 := hR.keep HJ.out K2
        have hD2 := hE'.keep K2
        have cg : ∀ d os, (grow (redrawn w2 d) os).cell? ⟨g, 0, none⟩ = some (.slice (some ⟨b, o, none⟩) n c) := fun d os => by
          have := (keeps_cls (w := w2) ⟨⟨d, os⟩, rfl⟩).row R2.cell (fun h => h)
          simp [World.cell?, this]
        clear hE hE' hR k1 k2 r1
        simp only [Act.put, List.setIfInBounds_toArray, List.set_cons_zero, List.set_cons_succ]
        refine region_plan_y (S := fun w' => ∃ p : Regrown, w' = grow (redrawn w2 p.d) p.os) 15 [16] [([0, 1, 2, 3, 4, 5, 6, 7, 8, 9, 10, 11, 12], 13)] [14] (sem_wide _) (by kernel_rfl) (by kernel_rfl) (by kernel_rfl) (by kernel_rfl) (cls_keeps ((Keeps.refl _ _).drew)) ?_
        simp only [wpPlanY, opsAt, pick]
        repeat (first
          | (go_big_quiet_want; refine quiet_load46 _ rfl g4 0 rfl e (fun w' hp => r2.at_.cls hp) ?_; simp only [Act.put, List.setIfInBounds_toArray, List.set_cons_zero, List.set_cons_succ]; go_big_quiet_on)
          | (go_big_quiet_want; refine quiet_key _ rfl b (o + j * 35) rfl d (fun w' hp => hD2.cls hp) hkey' ?_; simp only [Act.put, List.setIfInBounds_toArray, List.set_cons_zero, List.set_cons_succ]; go_big_quiet_on)
          | (go_big_quiet_want; refine quiet_key _ rfl g4 0 rfl e (fun w' hp => r2.at_.cls hp) hkey ?_; simp only [Act.put, List.setIfInBounds_toArray, List.set_cons_zero, List.set_cons_succ]; go_big_quiet_on)
          | go_big_quiet_step (fail))
        refine wpQuiet_nil ?_
        have Hc : Hid (encO (e, v) = #[.agg e.cells.toArray, .bool v]) := rfl
        gi_wp2_with (refine ⟨trivial, (fun h => by cases h), ?_⟩; gi_at_call 62; refine (callsIn_wide.2 (less_of Hv _ hkey' hkey)).mono ?_; rintro ed w3 ⟨rfl, k3⟩)
        have kd3 : Keeps (fun _ => False) w2 w3 := ((Keeps.refl (fun _ => False) w2).drew).trans k3
        refine ⟨cls_keeps kd3, ?_⟩
        simp only [wpPlanY, opsAt, pick]
        repeat (go_big_quiet_step (fail))
        refine wpQuiet_nil ?_
        have RD := R2.keep HJ.out kd3
        obtain ⟨fn, tmps, assign, body, hy, hRd⟩ := hY1.out _ RD.j
        rw [Hc.out] at hy
        gi_wp2
        refine ⟨fun h => by (cases h), hRd.mono ?_⟩
        rintro ed W3 ⟨hkf3, (⟨rfl, hJ3, hk3⟩ | ⟨rfl, hJx3⟩)⟩
        · have hC3 := hk3.2 g _ _ _ RD.cell hS1
          have hL3 := RD.sl.kpx hk3 HS2.out
          have hs3 : W.heap.size ≤ W3.heap.size := by have := hk3.1; have := RD.size; omega
          gi_wp2
          refine ⟨trivial, ?_⟩
          simp only [wpTail, opsAt, pick]
          gi_wp2
          refine ⟨trivial, ?_⟩
          simp only [wpTail, opsAt, pick]
          refine NoPanic.normal ?_
          gi_wp2
          exact ⟨⟨i + 1, by omega, rfl, by rw [HN.out]; exact ⟨hJ3, hC3, hL3, hs3⟩⟩, by simp [intOf]; omega⟩
        · gi_wp2
          refine ⟨trivial, ?_⟩
          simp only [wpTail, opsAt, pick]
          gi_wp2
          refine ⟨trivial, ?_⟩
          simp only [wpTail, opsAt, pick]
          refine NoPanic.normal ?_
          gi_wp2
          refine bodyPost_ret (results_none rfl _ _ _) rfl ?_
          exact ⟨⟨_, rfl⟩, .inr ⟨_, _, _, HX.out, hJx3⟩⟩
    · obtain rfl : i = n := by omega
      have hlt' : ¬ (i : Int) < (i : Int) := by omega
      have hT : (ords l).take i = ords l := List.take_of_length_le (by rw [ords_len]; omega)
      rw [hT] at hR
      clear hT
      gi_wp2
      go_end0
      exact ⟨⟨_, rfl⟩, .inl hR.j⟩

end Go.Proofs.YthngaegfppbdmaaDoor
