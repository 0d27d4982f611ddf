/-
  LeafCodes: the walk.
-/
import Derived.Test.YthngaegfppbdmaaDoorGJ
import Derived.Test.YthngaegfppbdmaaDoorLb
set_option linter.all false
namespace Go.Proofs.YthngaegfppbdmaaDoor
open Go.RowKit Go.Sort

def decT (x : List B) : List En × Int := if isLf x = true then (ents x, 0) else ([], 11)
def lvT (x : List B) : List Int × Int := if isRt x = true then (plcs x, 0) else ([], 11)
theorem told_dec {x : List B} {l : List En} {v : Int} {e : Ending} {w' : World} (h : decT x = (l, v)) (hd : DecTold x e w') : ∃ a c, e = .returned (.tuple #[.slice a l.length c, .int .i64 v]) ∧ SlE w' a l.length c l := by
  unfold decT at h
  cases hd with
  | ok hi a c he hs =>
    rw [if_pos hi] at h
    cases h
    exact ⟨a, c, he, hs⟩
  | no hi he =>
    rw [if_neg (by rw [hi]; decide)] at h
    cases h
    exact ⟨none, 0, he, SlE.nil w'⟩
theorem told_lv {x : List B} {l : List Int} {v : Int} {e : Ending} {w' : World} (h : lvT x = (l, v)) (hd : LvTold x e w') : ∃ a c, e = .returned (.tuple #[.slice a l.length c, .int .i64 v]) ∧ SlI w' a l.length c l := by
  unfold lvT at h
  cases hd with
  | ok hi a c he hs =>
    rw [if_pos hi] at h
    cases h
    exact ⟨a, c, he, hs⟩
  | no hi he =>
    rw [if_neg (by rw [hi]; decide)] at h
    cases h
    exact ⟨none, 0, he, SlI.nil w'⟩
theorem decT_len {x : List B} {l : List En} {v : Int} (h : decT x = (l, v)) : l.length ≤ 3 := by
  unfold decT at h
  split at h
  · cases h; unfold ents; rw [entN_len]; omega
  · cases h; simp
theorem lvT_len {x : List B} {l : List Int} {v : Int} (h : lvT x = (l, v)) : l.length ≤ 100 := by
  unfold lvT at h
  split at h
  · cases h; unfold plcs; rw [plcN_len]; omega
  · cases h; simp
theorem encR_len {l : List En} (hk : Keyed l) {X : List B} {v : Int} (h : encR l = (X, v)) : X.length = 128 := by
  rcases gd_ways hk with ⟨_, Y, hY, _, e, _⟩ | ⟨_, e⟩
  · rw [h] at e; cases e; exact hY
  · rw [h] at e; cases e; exact zb_len _
theorem rootR_len {l : List Int} {X : List B} {v : Int} (h : rootR l = (X, v)) : X.length = 128 := by
  rcases okR_ways l with ⟨_, Y, hY, e, _⟩ | ⟨_, e⟩
  · rw [h] at e; cases e; exact hY
  · rw [h] at e; cases e; exact zb_len _

theorem wpList_appSEo {ops : Array Oper} {rest : List Oper} {o : Oper} {a : Act} {w : World} {Q : Exit → Act → World → Prop} (hgd : o.guard = none) (s x : Operand) (ho : o.op = .call { callee := .builtin .append, args := #[s, x], argTypes := #[22, 22] })
    (base : Nat) (v : Value) (hs : a.eval s = v) (hown : OwnE w base v []) (ad : Option Addr) (m c : Nat) (l1 : List En) (hx : a.eval x = .slice ad m c) (hl : SlE w ad m c l1) (hnc : ad = none → c = 0) (hlen : m ≤ 100000) (hbase : base ≤ w.heap.size)
    (h : ∀ v' w', OwnE w' base v' l1 → Keeps (fun k => v.ownBlock = some k) w w' → wpList Tryd.prog ops Q rest (a.put o.dst v') w') : wpList Tryd.prog ops Q (o :: rest) a w := by
  cases ad with
  | none =>
    obtain rfl : c = 0 := hnc rfl
    have hm : m = 0 := by have := hl.cap; omega
    subst hm
    obtain rfl : l1 = [] := List.eq_nil_of_length_eq_zero hl.len
    obtain ⟨i, hi, _⟩ := info46'
    refine wpList_append_own_none hgd s x 22 ho base 54 i 35 Tryd.underlying22 hi v 0 _ hs hown.owns hx ?_
    exact h v w hown (Keeps.refl _ _)
  | some ad =>
    obtain ⟨i, hi, hz, hsz, hby⟩ := info46'
    have hlen1 := hl.len
    refine wpList_append_own _ hgd s x 22 ho base 54 i (.agg (e0 0 0 0).cells.toArray) 35 56 Tryd.underlying22 hi hz hsz hby (by show (e0 0 0 0).cells.toArray.size = 35; rw [List.size_toArray, En.cells_len (zb_len _)]) (by omega) v 0 _ hs hown.owns ad m c (ecs l1) hx (by rw [ecs_len hl.keyed, hlen1]) (fun j u hu => ?_) (fun u hu => by
      unfold ecs at hu
      obtain ⟨e, _, he⟩ := List.mem_flatMap.1 hu
      have := cells_one e
      rw [Array.all_eq_true_iff_forall_mem] at this
      exact this u (by simpa using he)) (by unfold maxLen; omega) (by omega) hbase ?_
    · obtain ⟨b', o', e', hc⟩ := hl.at_ j u hu
      cases e'
      rw [Addr_add]
      exact hc
    · intro v' w' ho' hg _
      refine h v' w' ⟨?_, hl.keyed⟩ ⟨hg.os, hg.tape, hg.output, hg.size, fun k hk hb => hg.block k hk fun e => hb e.symm⟩
      rw [hlen1]
      simp only [show ecs [] = [] from rfl, List.nil_append, Nat.zero_add] at ho'
      exact ho'
theorem run_build0F (w : World) : (Instr.buildSlice 22 0 #[]).run Tryd.prog w = .ok (.slice (some ⟨w.heap.size, 0, none⟩) 0 0) (w.alloc (.cells #[] 54)) := by
  obtain ⟨i0, hi0, hz0, hz1, hz2⟩ := info46'
  unfold Instr.buildSlice
  have hsize : (sizeOf 54).run Tryd.prog w = .ok 35 w := by simp [sizeOf, typeInfo, hi0, hz1]
  simp only [Sem.run_bind, run_underlying Tryd.underlying22, hsize, Result.andThen_ok]
  simp [newRow, Instr.fill]
  have e : ∀ f : Nat → Value, Array.map f (Array.range 0) = #[] := fun f => Array.eq_empty_of_size_eq_zero (by simp)
  rw [e]
theorem wpList_build0F {ops : Array Oper} {rest : List Oper} {o : Oper} {a : Act} {w : World} {Q : Exit → Act → World → Prop} (hgd : o.guard = none) (ho : o.op = .buildSlice 22 0 #[])
    (h : ∀ g w', OwnE w' w.heap.size (.slice (some ⟨g, 0, none⟩) 0 0) [] → w.heap.size ≤ g → Keeps (fun _ => False) w w' → wpList Tryd.prog ops Q rest (a.put o.dst (.slice (some ⟨g, 0, none⟩) 0 0)) w') : wpList Tryd.prog ops Q (o :: rest) a w := by
  refine wpList_plain hgd fun K hK => ?_
  unfold Oper.wp execOp
  simp only [ho, List.map_toArray, List.map_nil, run_build0F, Sem.run_bind, Result.andThen_ok, Sem.run_pure]
  refine hK _ _ (h w.heap.size _ ⟨⟨by simp [ecs], .inr ⟨w.heap.size, 0, #[], rfl, Nat.le_refl _, heap_alloc_new w _, Nat.le_refl _, by unfold maxLen; omega, by simp, by simp [ecs]⟩⟩, fun e he => by cases he⟩ (Nat.le_refl _) (keeps_alloc w _))

theorem run_build0I (w : World) : (Instr.buildSlice 23 0 #[]).run Tryd.prog w = .ok (.slice (some ⟨w.heap.size, 0, none⟩) 0 0) (w.alloc (.cells #[] 3)) := by kernel_rfl
theorem wpList_build0I {ops : Array Oper} {rest : List Oper} {o : Oper} {a : Act} {w : World} {Q : Exit → Act → World → Prop} (hgd : o.guard = none) (ho : o.op = .buildSlice 23 0 #[])
    (h : ∀ g w', OwnI w' w.heap.size (.slice (some ⟨g, 0, none⟩) 0 0) [] → w.heap.size ≤ g → Keeps (fun _ => False) w w' → wpList Tryd.prog ops Q rest (a.put o.dst (.slice (some ⟨g, 0, none⟩) 0 0)) w') : wpList Tryd.prog ops Q (o :: rest) a w := by
  refine wpList_plain hgd fun K hK => ?_
  unfold Oper.wp execOp
  simp only [ho, List.map_toArray, List.map_nil, run_build0I, Sem.run_bind, Result.andThen_ok, Sem.run_pure]
  refine hK _ _ (h w.heap.size _ ⟨⟨by simp, .inr ⟨w.heap.size, 0, #[], rfl, Nat.le_refl _, heap_alloc_new w _, Nat.le_refl _, by unfold maxLen; omega, by simp, by simp⟩⟩⟩ (Nat.le_refl _) (keeps_alloc w _))
theorem wpList_appSIo {ops : Array Oper} {rest : List Oper} {o : Oper} {a : Act} {w : World} {Q : Exit → Act → World → Prop} (hgd : o.guard = none) (s x : Operand) (ho : o.op = .call { callee := .builtin .append, args := #[s, x], argTypes := #[23, 23] })
    (base : Nat) (v : Value) (hs : a.eval s = v) (hown : OwnI w base v []) (ad : Option Addr) (m c : Nat) (l1 : List Int) (hx : a.eval x = .slice ad m c) (hl : SlI w ad m c l1) (hnc : ad = none → c = 0) (hlen : m ≤ 100000) (hbase : base ≤ w.heap.size)
    (h : ∀ v' w', OwnI w' base v' l1 → Keeps (fun k => v.ownBlock = some k) w w' → wpList Tryd.prog ops Q rest (a.put o.dst v') w') : wpList Tryd.prog ops Q (o :: rest) a w := by
  obtain ⟨i, hi, hz, hsz, hby⟩ := info3'
  cases ad with
  | none =>
    obtain rfl : c = 0 := hnc rfl
    have hm : m = 0 := by have := hl.cap; omega
    subst hm
    obtain rfl : l1 = [] := List.eq_nil_of_length_eq_zero hl.len
    refine wpList_append_own_none hgd s x 23 ho base 3 i 1 Tryd.underlying23 hi v 0 _ hs hown.owns hx ?_
    exact h v w hown (Keeps.refl _ _)
  | some ad =>
    refine wpList_append_own _ hgd s x 23 ho base 3 i (.int .i64 0) 1 8 Tryd.underlying23 hi hz hsz hby rfl (by omega) v 0 _ hs hown.owns ad m c (l1.map (Value.int .i64)) hx (by rw [List.length_map, hl.len]; omega) (fun j u hu => ?_) (fun u hu => by
      obtain ⟨z, _, rfl⟩ := List.mem_map.1 hu
      rfl) (by unfold maxLen; omega) (by omega) hbase ?_
    · rw [List.getElem?_map] at hu
      cases hq : l1[j]? with
      | none => rw [hq] at hu; cases hu
      | some z =>
        rw [hq] at hu
        obtain ⟨b', o', e', hc⟩ := hl.at_ j z hq
        cases e'
        cases hu
        rw [Addr_add]
        exact hc
    · intro v' w' ho' hg _
      refine h v' w' ⟨?_⟩ ⟨hg.os, hg.tape, hg.output, hg.size, fun k hk hb => hg.block k hk fun e => hb e.symm⟩
      rw [hl.len]
      simpa using ho'
theorem OwnI.from {w : World} {base g : Nat} {v : Value} {l : List Int} (h : OwnI w base v l) (e : v.ownBlock = some g) : base ≤ g ∧ g < w.heap.size := h.owns.lt g e

set_option maxRecDepth 100000 in
theorem codes_long (w : World) (hT : Tabs w) (a1 a2 : Option Addr) (n1 c1 n2 c2 : Nat) (D : List B) (hD : D.length = 128) (h : 20 < n1 ∨ 300 < n2) :
    Calls Tryd.prog 3 #[.slice a1 n1 c1, .slice a2 n2 c2, .agg (brow D)] w fun e w' => e = .returned (.bool true) ∧ Keeps (fun _ => False) w w' := by
  have cs : (20 : Int) < (n1 : Int) ∨ (¬ (20 : Int) < (n1 : Int) ∧ (300 : Int) < (n2 : Int)) := by omega
  clear h
  go_enter Tryd.func3, Tryd.ntmps3
  rcases cs with h1 | ⟨h1, h2⟩
  all_goals
    go_wp2_with (first
      | (refine wpList_box26 rfl _ rfl D hD rfl ?_; intro g5 w1 b1 z1 k1)
      | (go_at_call 14; refine (wakes14 _ (hT.keeps k1 (fun h => h) (fun h => h))).mono ?_; rintro e w2 ⟨rfl, k2⟩))
    go_ret
    exact ⟨rfl, k1.trans k2⟩

set_option maxRecDepth 100000 in
set_option maxHeartbeats 4000000 in
theorem codes_in (w : World) (hT : Tabs w) (a1 a2 : Option Addr) (n1 c1 n2 c2 : Nat) (l : List En) (p : List Int) (hl : SlE w a1 n1 c1 l) (hp : SlI w a2 n2 c2 p) (h1 : n1 ≤ 20) (h2 : n2 ≤ 300) (hc1 : a1 = none → c1 = 0) (hc2 : a2 = none → c2 = 0) (D : List B) (hD : D.length = 128) :
    Calls Tryd.prog 3 #[.slice a1 n1 c1, .slice a2 n2 c2, .agg (brow D)] w fun e w' => e = .returned (.bool true) ∧ Keeps (fun _ => False) w w' := by
  have h1' : ¬ (20 : Int) < (n1 : Int) := by omega
  have h2' : ¬ (300 : Int) < (n2 : Int) := by omega
  obtain ⟨X, ev, hX⟩ : ∃ X ev, encR l = (X, ev) := ⟨_, _, rfl⟩
  obtain ⟨R, rv, hR⟩ : ∃ R rv, rootR p = (R, rv) := ⟨_, _, rfl⟩
  obtain ⟨lD, dv, hDd⟩ : ∃ lD dv, decT D = (lD, dv) := ⟨_, _, rfl⟩
  obtain ⟨pD, qv, hDq⟩ : ∃ pD qv, lvT D = (pD, qv) := ⟨_, _, rfl⟩
  obtain ⟨gv, hgv⟩ : ∃ gv, gd l = gv := ⟨_, rfl⟩
  have lX := encR_len hl.keyed hX
  have lR := rootR_len hR
  have ld := decT_len hDd
  have lq := lvT_len hDq
  have HX : Hid (encR l = (X, ev)) := hX
  have HR : Hid (rootR p = (R, rv)) := hR
  have HD : Hid (decT D = (lD, dv)) := hDd
  have HQ : Hid (lvT D = (pD, qv)) := hDq
  have HG : Hid (gd l = gv) := hgv
  have Hc1 : Hid (a1 = none → c1 = 0) := hc1
  have Hc2 : Hid (a2 = none → c2 = 0) := hc2
  have hXX := eq26_at (x := X) (y := X) (v := true) (decide_eq_true rfl) lX lX
  have hRR := eq26_at (x := R) (y := R) (v := true) (decide_eq_true rfl) lR lR
  have hts := hT.size
  have hln := hl.len
  have hpn := hp.len
  have Hln : Hid (l.length = n1) := hln
  have Hpn : Hid (p.length = n2) := hpn
  clear hX hR hDd hDq hgv hc1 hc2 hln hpn
  go_enter Tryd.func3, Tryd.ntmps3
  go_wp2_with (first
    | (refine wpList_box26 rfl _ rfl D hD rfl ?_; intro g5 w1 b1 z1 k1; have l5 := b1.lt)
    | (refine wpList_build0F rfl rfl ?_; intro gA w2 o2 zA k2; have K2 := k1.trans k2)
    | (refine wpList_appSEo rfl _ _ rfl w1.heap.size _ rfl o2 a1 n1 c1 l rfl (hl.keep K2) Hc1.out (by omega) (by have := k2.size; omega) ?_; intro v3 w3 o3 k3; have K3 : Keeps (fun _ => False) w w3 := K2.trans' k3 (fun i e => .inr (by have := (o2.from e).1; have := k1.size; omega)); have b3 := (b1.keep k2).keeps k3 (fun e => by have := (o2.from e).1; omega); obtain ⟨a7, c7, rfl, s3, _⟩ := o3.slice)
    | (refine wpList_build0I rfl rfl ?_; intro gB w4 o4 zB k4; have K4 := K3.trans k4; have b4 := b3.keep k4; have s4 := s3.keep k4; have h34 : ∀ b o, a7 = some ⟨b, o, none⟩ → 0 < l.length → b < w3.heap.size := (fun b o e h0 => by obtain ⟨b', o', e', hE⟩ := s3.ent (i := 0) h0; rw [e] at e'; cases e'; exact slb_lt hE.slb (by omega) rfl))
    | (refine wpList_appSIo rfl _ _ rfl w3.heap.size _ rfl o4 a2 n2 c2 p rfl (hp.keep K4) Hc2.out (by omega) (by have := k4.size; omega) ?_; intro v5 w5 o5 k5; have K5 : Keeps (fun _ => False) w w5 := K4.trans' k5 (fun i e => .inr (by have := (o4.from e).1; have := K3.size; omega)); have b5 := b4.keeps k5 (fun e => by have := (o4.from e).1; have := b3.lt; omega); have s5 := s4.keeps k5 (fun h0 b o e h => by have := h34 b o e h0; have := (o4.from h).1; omega); obtain ⟨a8, c8, rfl, t5, _⟩ := o5.slice)
    | (go_at_call 15; refine (encP_at HX.out _ (hT.keeps K5 (fun h => h) (fun h => h)) _ _ _ s5).mono ?_; rintro e w6 ⟨rfl, k6⟩)
    | (go_at_call 16; refine (enc_at HX.out _ _ _ _ (hl.keep (K5.trans Q8)) (by omega)).mono ?_; rintro e w9 ⟨rfl, k9⟩)
    | (go_at_call 17; refine (decP _ (hT.keeps (K5.trans Qb) (fun h => h) (fun h => h)) D hD).mono ?_; rintro e wc ⟨hdc, kc⟩; obtain ⟨a13, c13, rfl, s13⟩ := told_dec HD.out hdc; have Qc := Qb.trans kc; have bc := b5.keep Qc)
    | (go_at_call 18; refine (dec16 _ D hD).mono ?_; rintro e wd ⟨hdd, kd⟩; obtain ⟨a15, c15, rfl, s15⟩ := told_dec HD.out hdd; have Qd := Qc.trans kd)
    | (go_at_call 19; refine (rootP_at HR.out _ (hT.keeps (K5.trans Qd) (fun h => h) (fun h => h)) _ _ _ (t5.keep Qd)).mono ?_; rintro e we ⟨rfl, ke⟩)
    | (go_at_call 20; refine (root_at HR.out _ _ _ _ (hp.keep (K5.trans Qg))).mono ?_; rintro e wh ⟨rfl, kh⟩)
    | (go_at_call 21; refine (leavesP _ (hT.keeps (K5.trans Qj) (fun h => h) (fun h => h)) D hD).mono ?_; rintro e wk ⟨hdk, kk⟩; obtain ⟨a21, c21, rfl, t21⟩ := told_lv HQ.out hdk; have Qk := Qj.trans kk; have bk := b5.keep Qk)
    | (go_at_call 22; refine (leaves17 _ D hD).mono ?_; rintro e wl ⟨hdl, kl⟩; obtain ⟨a23, c23, rfl, t23⟩ := told_lv HQ.out hdl; have Ql := Qk.trans kl)
    | (go_at_call 23; refine (good23_at HG.out _ _ _ _ (s5.keep Ql)).mono ?_; rintro e v1 ⟨rfl, r1⟩)
    | (go_at_call 24; refine (good_at HG.out _ _ _ _ (hl.keep ((K5.trans Ql).trans r1)) (by omega)).mono ?_; rintro e v2 ⟨rfl, r2⟩; have R2 := (kk.trans kl).trans (r1.trans r2); have x9 := f8.keep (((k9.trans k9b).trans (kc.trans kd)).trans (((ke.trans keg).trans (kh.trans khj)).trans R2)); have x11 := fb.keep ((kc.trans kd).trans (((ke.trans keg).trans (kh.trans khj)).trans R2)); have P13 := s13.keep (kd.trans (((ke.trans keg).trans (kh.trans khj)).trans R2)); have P15 := s15.keep (((ke.trans keg).trans (kh.trans khj)).trans R2))
    | (go_at_call 26; have := r5; refine (ints_at (decide_eq_true rfl) _ _ _ _ _ _ _ (t5.keep (((Ql.trans (r1.trans r2)).trans r3).trans (r4.trans r5))) (hp.keep (K5.trans (((Ql.trans (r1.trans r2)).trans r3).trans (r4.trans r5)))) (by rw [Hpn.out]; omega)).mono ?_; rintro e v6 ⟨rfl, r6⟩)
    | (go_at_call 26; refine (ints_at (decide_eq_true rfl) _ _ _ _ _ _ _ (t21.keep (kl.trans ((r1.trans r2).trans r3))) (t23.keep ((r1.trans r2).trans r3)) (by omega)).mono ?_; rintro e v4 ⟨rfl, r4⟩)
    | (go_at_call 25; have := r4; refine (entries_at (decide_eq_true rfl) _ _ _ _ _ _ _ (s5.keep (((Ql.trans (r1.trans r2)).trans r3).trans r4)) (hl.keep (K5.trans (((Ql.trans (r1.trans r2)).trans r3).trans r4))) (by rw [Hln.out]; omega)).mono ?_; rintro e v5 ⟨rfl, r5⟩)
    | (go_at_call 25; refine (entries_at (decide_eq_true rfl) _ _ _ _ _ _ _ P13 P15 (by omega)).mono ?_; rintro e v3 ⟨rfl, r3⟩; have x17 := fg.keep ((kh.trans khj).trans (((kk.trans kl).trans (r1.trans r2)).trans r3)); have x19 := fj.keep (((kk.trans kl).trans (r1.trans r2)).trans r3))
    | (go_at_call 14; refine (wakes14 _ (hT.keeps (K5.trans ((((Ql.trans (r1.trans r2)).trans r3).trans (r4.trans r5)).trans r6)) (fun h => h) (fun h => h))).mono ?_; rintro e v7 ⟨rfl, r7⟩)
    | (refine wpList_alloc26 rfl rfl ?_; have := kh; intro g19 wi fi zi ki)
    | (refine wpList_alloc26 rfl rfl ?_; have := ke; intro g17 wf ff zf kf)
    | (refine wpList_alloc26 rfl rfl ?_; have := k9; intro g11 wa fa za ka)
    | (refine wpList_alloc26 rfl rfl ?_; intro g9 w7 f7 z7 k7)
    | (refine wpList_store26 rfl _ _ rfl g19 rfl R rfl lR _ fi ?_; intro wj fj kj'; have khj : Keeps (fun _ => False) wh wj := ki.trans' kj' (fun i e => .inr (by omega)); have Qj := Qg.trans (kh.trans khj); have bj := b5.keep Qj)
    | (refine wpList_store26 rfl _ _ rfl g17 rfl R rfl lR _ ff ?_; intro wg fg kg'; have keg : Keeps (fun _ => False) we wg := kf.trans' kg' (fun i e => .inr (by omega)); have Qg := Qd.trans (ke.trans keg))
    | (refine wpList_store26 rfl _ _ rfl g11 rfl X rfl lX _ fa ?_; intro wb fb kb'; have k9b : Keeps (fun _ => False) w9 wb := ka.trans' kb' (fun i e => .inr (by omega)); have Qb := Q8.trans (k9.trans k9b); have bb := b5.keep Qb)
    | (refine wpList_store26 rfl _ _ rfl g9 rfl X rfl lX _ f7 ?_; intro w8 f8 k8'; have k68 : Keeps (fun _ => False) w6 w8 := k7.trans' k8' (fun i e => .inr (by omega)); have Q8 := k6.trans k68)
    | (refine wpList_load26 rfl _ rfl g19 rfl R x19 ?_)
    | (refine wpList_load26 rfl _ rfl g17 rfl R x17 ?_)
    | (refine wpList_load26 rfl _ rfl g11 rfl X x11 ?_)
    | (refine wpList_load26 rfl _ rfl g9 rfl X x9 ?_)
    | (refine wpList_load26 rfl _ rfl g5 rfl D bk ?_)
    | (refine wpList_load26 rfl _ rfl g5 rfl D bj ?_)
    | (refine wpList_load26 rfl _ rfl g5 rfl D bc ?_)
    | (refine wpList_load26 rfl _ rfl g5 rfl D bb ?_))
  go_ret
  exact ⟨rfl, K5.trans (((((Ql.trans (r1.trans r2)).trans r3).trans (r4.trans r5)).trans r6).trans r7)⟩

theorem codesL (w : World) (hT : Tabs w) (a1 : Option Addr) (n1 c1 : Nat) (l : List En) (hl : SlE w a1 n1 c1 l) (hn1 : n1 ≤ 9223372036854775807) (hz1 : a1 = none → c1 = 0) (a2 : Option Addr) (n2 c2 : Nat) (p : List Int) (hp : SlI w a2 n2 c2 p) (hn2 : n2 ≤ 9223372036854775807) (hz2 : a2 = none → c2 = 0) (D : List B) (hD : D.length = 128) :
    Calls Tryd.prog 3 #[.slice a1 n1 c1, .slice a2 n2 c2, .agg (brow D)] w fun e w' => e = .returned (.bool true) ∧ Keeps (fun _ => False) w w' := by
  by_cases h : 20 < n1 ∨ 300 < n2
  · exact codes_long w hT a1 a2 n1 c1 n2 c2 D hD h
  · exact codes_in w hT a1 a2 n1 c1 n2 c2 l p hl hp (by omega) (by omega) hz1 hz2 D hD

section
open Go.ChangeShapes Go.WideShapes Go.ChangeAt Go.RowKit Go.Deep
theorem nilE {H : Type} {enc : TypeId × Value → H} {W : World} {a : Option Addr} {n c : Nat} {d : DataW H} {p : List MemPlace} (h : DataW.Trod enc Tryd.prog W 0 (fun _ => true) true 22 (.slice a n c) d p) : a = none → c = 0 := by
  obtain ⟨fuel, hf⟩ := h
  rcases open_slice Tryd.underlying22 hf with ⟨hcs, _⟩ | ⟨a', len, cap, m, n', D, Pl, hcs, _⟩
  · simp [Value.cells] at hcs
    exact fun _ => hcs.2.2
  · simp [Value.cells] at hcs
    rw [hcs.1]
    exact fun h => by cases h
theorem nilI {H : Type} {enc : TypeId × Value → H} {W : World} {a : Option Addr} {n c : Nat} {d : DataW H} {p : List MemPlace} (h : DataW.Trod enc Tryd.prog W 0 (fun _ => true) true 23 (.slice a n c) d p) : a = none → c = 0 := by
  obtain ⟨fuel, hf⟩ := h
  rcases open_slice Tryd.underlying23 hf with ⟨hcs, _⟩ | ⟨a', len, cap, m, n', D, Pl, hcs, _⟩
  · simp [Value.cells] at hcs
    exact fun _ => hcs.2.2
  · simp [Value.cells] at hcs
    rw [hcs.1]
    exact fun h => by cases h
end

end Go.Proofs.YthngaegfppbdmaaDoor
