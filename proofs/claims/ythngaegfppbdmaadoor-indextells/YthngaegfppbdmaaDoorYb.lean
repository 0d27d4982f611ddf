/-
  IndexTells: the walk.
-/
import Derived.Test.YthngaegfppbdmaaDoorXy
set_option linter.all false
namespace Go.Proofs.YthngaegfppbdmaaDoor
open Go.RowKit Go.Sort Go.Shelf
attribute [local go_sem] Oper.semAt_some

theorem size37u (w : World) (n : Int) (hn : n ≤ 9223372036854775807) : Calls Tryd.prog 37 #[.int .i64 n] w fun e w' => e = .returned (.int .i64 (sz n)) ∧ w' = w := by
  by_cases h : n ≤ 0
  · have H : Hid (sz n = 0) := if_pos h
    go_enter Tryd.func37, Tryd.ntmps37
    go_wp2
    go_ret
    exact ⟨by rw [H.out]; rfl, rfl⟩
  · exact size37 w n (by omega) hn
theorem size38u (w : World) (n : Int) (hn : n ≤ 9223372036854775807) : Calls Tryd.prog 38 #[.int .i64 n] w fun e w' => e = .returned (.int .i64 (sz n)) ∧ w' = w := by
  by_cases h : n ≤ 0
  · have H : Hid (sz n = 0) := if_pos h
    have h1 : n < 1 := by omega
    go_enter Tryd.func38, Tryd.ntmps38
    go_wp2
    go_ret
    exact ⟨by rw [H.out]; rfl, rfl⟩
  · exact size38 w n (by omega) hn
theorem size37_at {n s : Int} (h : Hid (sz n = s)) (w : World) (hn : n ≤ 9223372036854775807) : Calls Tryd.prog 37 #[.int .i64 n] w fun e w' => e = .returned (.int .i64 s) ∧ Keeps (fun _ => False) w w' := by
  rw [← h.out]; exact (size37u w n hn).mono fun e w' ⟨h1, h2⟩ => ⟨h1, by rw [h2]; exact Keeps.refl _ _⟩
theorem size38_at {n s : Int} (h : Hid (sz n = s)) (w : World) (hn : n ≤ 9223372036854775807) : Calls Tryd.prog 38 #[.int .i64 n] w fun e w' => e = .returned (.int .i64 s) ∧ Keeps (fun _ => False) w w' := by
  rw [← h.out]; exact (size38u w n hn).mono fun e w' ⟨h1, h2⟩ => ⟨h1, by rw [h2]; exact Keeps.refl _ _⟩

theorem run_build0K (w : World) : (Instr.buildSlice 57 0 #[]).run Tryd.prog w = .ok (.slice (some ⟨w.heap.size, 0, none⟩) 0 0) (w.alloc (.cells #[] 25)) := by kernel_rfl
theorem wpList_build0K {ops : Array Oper} {rest : List Oper} {o : Oper} {a : Act} {w : World} {Q : Exit → Act → World → Prop} (hgd : o.guard = none) (ho : o.op = .buildSlice 57 0 #[])
    (h : ∀ g w', OwnK w' w.heap.size (.slice (some ⟨g, 0, none⟩) 0 0) 0 [] → w.heap.size ≤ g → Keeps (fun _ => False) w w' → wpList Tryd.prog ops Q rest (a.put o.dst (.slice (some ⟨g, 0, none⟩) 0 0)) w') : wpList Tryd.prog ops Q (o :: rest) a w := by
  refine wpList_plain hgd fun K hK => ?_
  unfold Oper.wp execOp
  simp only [ho, List.map_toArray, List.map_nil, run_build0K, Sem.run_bind, Result.andThen_ok, Sem.run_pure]
  exact hK _ _ (h _ _ ⟨World.ownsRow_made w #[] 0 (Nat.le_refl _) (by unfold maxLen; omega) rfl⟩ (Nat.le_refl _) (keeps_alloc w _))
theorem wpList_appKo {ops : Array Oper} {rest : List Oper} {o : Oper} {a : Act} {w : World} {Q : Exit → Act → World → Prop} (hgd : o.guard = none) (s x : Operand) (ho : o.op = .call { callee := .builtin .append, args := #[s, x], argTypes := #[57, 57] })
    (base : Nat) (v : Value) (hs : a.eval s = v) (hown : OwnK w base v 0 []) (ad : Option Addr) (m c : Nat) (L1 : List B) (hx : a.eval x = .slice ad m c) (hl : SlB w ad (m * 128) (c * 128) L1) (hnc : ad = none → c = 0) (hlen : m ≤ 100000) (hbase : base ≤ w.heap.size)
    (h : ∀ v' w', OwnK w' base v' m L1 → Keeps (fun k => v.ownBlock = some k) w w' → wpList Tryd.prog ops Q rest (a.put o.dst v') w') : wpList Tryd.prog ops Q (o :: rest) a w := by
  obtain ⟨i, hi, hz, hsz, hby⟩ := info25'
  cases ad with
  | none =>
    obtain rfl : c = 0 := hnc rfl
    have hm : m = 0 := by have := hl.cap; omega
    subst hm
    obtain rfl : L1 = [] := List.eq_nil_of_length_eq_zero hl.len
    refine wpList_append_own_none hgd s x 57 ho base 25 i 128 Tryd.underlying57 hi v 0 _ hs hown.owns hx ?_
    exact h v w hown (Keeps.refl _ _)
  | some ad =>
    refine wpList_append_own _ hgd s x 57 ho base 25 i (.agg (brow (zb 128))) 128 128 Tryd.underlying57 hi hz hsz hby (by show (brow (zb 128)).size = 128; rw [size_brow, zb_len]) (by omega) v 0 _ hs hown.owns ad m c (L1.map vb) hx (by rw [List.length_map, hl.len]) (fun j u hu => ?_) (one_bytes L1) (by unfold maxLen; omega) (by omega) hbase ?_
    · rw [List.getElem?_map] at hu
      cases hq : L1[j]? with
      | none => rw [hq] at hu; cases hu
      | some y =>
        rw [hq] at hu
        obtain ⟨b', o', e', hc⟩ := hl.at_ j y hq
        cases e'
        rw [Addr_add]
        cases hu
        exact hc
    · intro v' w' ho' hg _
      refine h v' w' ⟨?_⟩ ⟨hg.os, hg.tape, hg.output, hg.size, fun k hk hb => hg.block k hk fun e => hb e.symm⟩
      simpa using ho'
theorem pkR_m {l : List En} {p : List Int} {X : List B} {m : Nat} {v : Int} (h : pkR l p = (X, m, v)) : m ≤ l.length + 1 := by
  unfold pkR at h
  split at h
  · cases h; omega
  split at h
  · cases h; omega
  split at h
  · cases h; omega
  split at h
  · cases h; unfold nck; omega
  · cases h; omega
theorem unR_l {X : List B} {m : Nat} {l : List En} {v : Int} (h : unR X m = (l, v)) : l.length ≤ 3 * m := by
  unfold unR at h
  split at h
  · cases h; exact ual_len X m
  · cases h; simp

set_option maxRecDepth 100000 in
theorem tells_long (w : World) (hT : Tabs w) (a1 a2 a3 : Option Addr) (n1 c1 n2 c2 n3 c3 : Nat) (h : 200 < n1 ∨ 200 < n2 ∨ 100 < n3) :
    Calls Tryd.prog 8 #[.slice a1 n1 c1, .slice a2 n2 c2, .slice a3 n3 c3] w fun e w' => e = .returned (.bool true) ∧ Keeps (fun _ => False) w w' := by
  have cs : (200 : Int) < (n1 : Int) ∨ (¬ (200 : Int) < (n1 : Int) ∧ (200 : Int) < (n2 : Int)) ∨ (¬ (200 : Int) < (n1 : Int) ∧ ¬ (200 : Int) < (n2 : Int) ∧ (100 : Int) < (n3 : Int)) := by omega
  clear h
  go_enter Tryd.func8, Tryd.ntmps8
  rcases cs with h1 | ⟨h1, h2⟩ | ⟨h1, h2, h3⟩
  all_goals
    go_wp2_with (go_at_call 29; refine (wakes29 _ hT).mono ?_; rintro e w1 ⟨rfl, k1⟩)
    go_ret
    exact ⟨rfl, k1⟩

set_option maxRecDepth 100000 in
set_option maxHeartbeats 8000000 in
theorem tells_in (w : World) (hT : Tabs w) (a1 a2 a3 : Option Addr) (n1 c1 n2 c2 n3 c3 : Nat) (l : List En) (p : List Int) (X : List B) (hl : SlE w a1 n1 c1 l) (hp : SlI w a2 n2 c2 p) (hX : SlB w a3 (n3 * 128) (c3 * 128) X) (h1 : n1 ≤ 200) (h2 : n2 ≤ 200) (h3 : n3 ≤ 100) (hc1 : a1 = none → c1 = 0) (hc2 : a2 = none → c2 = 0) (hc3 : a3 = none → c3 = 0) :
    Calls Tryd.prog 8 #[.slice a1 n1 c1, .slice a2 n2 c2, .slice a3 n3 c3] w fun e w' => e = .returned (.bool true) ∧ Keeps (fun _ => False) w w' := by
  have h1' : ¬ (200 : Int) < (n1 : Int) := by omega
  have h2' : ¬ (200 : Int) < (n2 : Int) := by omega
  have h3' : ¬ (100 : Int) < (n3 : Int) := by omega
  obtain ⟨P, mP, ev, hP⟩ : ∃ P mP ev, pkR l p = (P, mP, ev) := ⟨_, _, _, rfl⟩
  obtain ⟨lU, uv, hU⟩ : ∃ lU uv, unR X n3 = (lU, uv) := ⟨_, _, rfl⟩
  obtain ⟨gv, hgv⟩ : ∃ gv, ix l = gv := ⟨_, rfl⟩
  have hmP := pkR_m hP
  have hlU := unR_l hU
  have HP : Hid (pkR l p = (P, mP, ev)) := hP
  have HU : Hid (unR X n3 = (lU, uv)) := hU
  have HG : Hid (ix l = gv) := hgv
  have Hc1 : Hid (a1 = none → c1 = 0) := hc1
  have Hc2 : Hid (a2 = none → c2 = 0) := hc2
  have Hc3 : Hid (a3 = none → c3 = 0) := hc3
  have Hln : Hid (l.length = n1) := hl.len
  have Hpn : Hid (p.length = n2) := hp.len
  have HmP : Hid (mP ≤ 1000) := by show _ ≤ _; have := hl.len; omega
  have HlU : Hid (lU.length ≤ 1000) := by show _ ≤ _; omega
  have hts := hT.size
  obtain ⟨k, hk⟩ : ∃ k : Int, k = if n2 = 0 then (n1 : Int) else p.getD 0 0 := ⟨_, rfl⟩
  obtain ⟨s, hs⟩ : ∃ s, sz k = s := ⟨_, rfl⟩
  have HS : Hid (sz k = s) := hs
  have cs : (n2 = 0 ∧ k = (n1 : Int)) ∨ (0 < n2 ∧ k = p.getD 0 0 ∧ k ≤ 1099511627776) ∨ (0 < n2 ∧ k = p.getD 0 0 ∧ 1099511627776 < k) := by
    by_cases h : n2 = 0
    · rw [if_pos h] at hk; exact .inl ⟨h, hk⟩
    · rw [if_neg h] at hk
      by_cases h4 : k ≤ 1099511627776
      · exact .inr (.inl ⟨by omega, hk, h4⟩)
      · exact .inr (.inr ⟨by omega, hk, by omega⟩)
  clear hP hU hgv hc1 hc2 hc3 hmP hlU hs hk
  rcases cs with ⟨h20n, rfl⟩ | ⟨h20, hke, hk4⟩ | ⟨h20, hke, hk4⟩
  · have hk9 : (n1 : Int) ≤ 9223372036854775807 := by omega
    have hk4 : ¬ (1099511627776 : Int) < (n1 : Int) := by omega
    have h20 : ¬ (0 : Int) < (n2 : Int) := by omega
    clear h20n
    go_enter Tryd.func8, Tryd.ntmps8
    go_wp2_with (first
      | (refine wpList_build0F rfl rfl ?_; intro gA w2 o2 zA k2; have K2 := k2)
      | (refine wpList_appSEo rfl _ _ rfl w.heap.size _ rfl o2 a1 n1 c1 l rfl (hl.keep K2) Hc1.out (by omega) (by have := k2.size; omega) ?_; intro v3 w3 o3 k3; have K3 : Keeps (fun _ => False) w w3 := K2.trans' k3 (fun i e => .inr (by have := (o2.from e).1; omega)); obtain ⟨a7, c7, rfl, s3, _⟩ := o3.slice)
      | (refine wpList_build0I rfl rfl ?_; intro gB w4 o4 zB k4; have K4 := K3.trans k4; have s4 := s3.keep k4; have h34 : ∀ b o, a7 = some ⟨b, o, none⟩ → 0 < l.length → b < w3.heap.size := (fun b o e h0 => by obtain ⟨b', o', e', hE⟩ := s3.ent (i := 0) h0; rw [e] at e'; cases e'; exact slb_lt hE.slb (by omega) rfl))
      | (refine wpList_appSIo rfl _ _ rfl w3.heap.size _ rfl o4 _ n2 c2 p rfl (hp.keep K4) Hc2.out (by omega) (by have := k4.size; omega) ?_; intro v5 w5 o5 k5; have K5 : Keeps (fun _ => False) w w5 := K4.trans' k5 (fun i e => .inr (by have := (o4.from e).1; have := K3.size; omega)); have s5 := s4.keeps k5 (fun h0 b o e h => by have := h34 b o e h0; have := (o4.from h).1; omega); obtain ⟨a8, c8, rfl, t5, _⟩ := o5.slice)
      | (go_at_call 30; refine (pack30 HP.out _ (hT.keeps K5 (fun h => h) (fun h => h)) _ _ _ s5 (by rw [Hln.out]; omega) _ _ _ t5).mono ?_; rintro e w6 ⟨⟨aP, cP, rfl, sP⟩, k6⟩; have K6 := K5.trans k6)
      | (go_at_call 31; refine (pack31 HP.out _ _ _ _ (hl.keep K6) (by omega) _ _ _ (hp.keep K6)).mono ?_; rintro e w7 ⟨⟨aQ, cQ, rfl, sQ⟩, k7⟩; have K7 := K6.trans k7)
      | (refine wpList_build0K rfl rfl ?_; intro gC w8 o8 zC k8; have K8 := K7.trans k8)
      | (refine wpList_appKo rfl _ _ rfl w7.heap.size _ rfl o8 a3 n3 c3 X rfl (hX.keeps K8 (fun _ _ _ _ h => h)) Hc3.out (by omega) (by have := k8.size; omega) ?_; intro v9 w9 o9 k9; have q79 : Keeps (fun _ => False) w7 w9 := k8.trans' k9 (fun i e => .inr (by have := (o8.from e).1; omega)); have K9 := K7.trans q79; obtain ⟨aX, cX, rfl, sX, _⟩ := o9.slice)
      | (go_at_call 32; refine (unpack32_is HU.out _ (hT.keeps K9 (fun h => h) (fun h => h)) _ cX sX (by omega)).mono ?_; rintro e wa ⟨⟨aM, cM, rfl, sM⟩, ka⟩; have Ka := K9.trans ka)
      | (go_at_call 33; refine (unpack33_is HU.out _ _ c3 (hX.keeps Ka (fun _ _ _ _ h => h)) (by omega)).mono ?_; rintro e wb ⟨⟨aN, cN, rfl, sN⟩, kb⟩; have Kb := Ka.trans kb; have J6 := ((k7.trans q79).trans ka).trans kb; have s6 := (s5.keep k6).keep J6; have t6 := (t5.keep k6).keep J6; have sP6 := sP.keeps J6 (fun _ _ _ _ h => h); have sQ6 := sQ.keeps ((q79.trans ka).trans kb) (fun _ _ _ _ h => h); have sM6 := sM.keep kb; have hpb := hp.keep Kb; have hlb := hl.keep Kb)
      | (go_at_call 34; refine (good34_at HG.out _ _ _ _ s6 (by rw [Hln.out]; omega)).mono ?_; rintro e y1 ⟨rfl, j1⟩)
      | (go_at_call 35; refine (good35_at HG.out _ _ _ _ (hlb.keep j1) (by omega)).mono ?_; rintro e y2 ⟨rfl, j2⟩; have J2 := j1.trans j2)
      | (go_at_call 36; refine (blocks_at (decide_eq_true rfl) _ _ _ _ _ _ _ (sP6.keeps J2 (fun _ _ _ _ h => h)) (sQ6.keeps J2 (fun _ _ _ _ h => h)) (by have := HmP.out; omega)).mono ?_; rintro e y3 ⟨rfl, j3⟩; have J3 := J2.trans j3)
      | (go_at_call 25; have := JS; refine (entries_at (decide_eq_true rfl) _ _ _ _ _ _ _ (s6.keep JS) (hlb.keep JS) (by rw [Hln.out]; omega)).mono ?_; rintro e y7 ⟨rfl, j7⟩; have J7 := JS.trans j7)
      | (go_at_call 25; refine (entries_at (decide_eq_true rfl) _ _ _ _ _ _ _ (sM6.keep J3) (sN.keep J3) (by have := HlU.out; omega)).mono ?_; rintro e y4 ⟨rfl, j4⟩; have J4 := J3.trans j4)
      | (go_at_call 37; refine (size37_at HS _ hk9).mono ?_; rintro e y5 ⟨rfl, j5⟩; have J5 := J4.trans j5)
      | (go_at_call 38; refine (size38_at HS _ hk9).mono ?_; rintro e y6 ⟨rfl, j6⟩; have JS := J5.trans j6)
      | (go_at_call 26; refine (ints_at (decide_eq_true rfl) _ _ _ _ _ _ _ (t6.keep J7) (hpb.keep J7) (by rw [Hpn.out]; omega)).mono ?_; rintro e y8 ⟨rfl, j8⟩; have J8 := J7.trans j8)
      | (go_at_call 29; refine (wakes29 _ (hT.keeps (Kb.trans J8) (fun h => h) (fun h => h))).mono ?_; rintro e y9 ⟨rfl, j9⟩))
    go_ret
    exact ⟨rfl, (Kb.trans J8).trans j9⟩
  · have hk9 : k ≤ 9223372036854775807 := by omega
    have hk4' : ¬ (1099511627776 : Int) < k := by omega
    have h20' : (0 : Int) < (n2 : Int) := by omega
    obtain ⟨b2, o2, rfl, hb2, hcell⟩ := hp.ent h20
    have HC : Hid (∀ w', Keeps (fun _ => False) w w' → w'.cell? ⟨b2, o2, none⟩ = some (.int .i64 k)) := fun w' h => by have := hcell w' h 0 h20; rw [Nat.add_zero] at this; rw [this, hke]
    clear hcell hke hk4
    go_enter Tryd.func8, Tryd.ntmps8
    go_wp2_with (first
      | (refine wpList_build0F rfl rfl ?_; intro gA w2 o2 zA k2; have K2 := k2)
      | (refine wpList_appSEo rfl _ _ rfl w.heap.size _ rfl o2 a1 n1 c1 l rfl (hl.keep K2) Hc1.out (by omega) (by have := k2.size; omega) ?_; intro v3 w3 o3 k3; have K3 : Keeps (fun _ => False) w w3 := K2.trans' k3 (fun i e => .inr (by have := (o2.from e).1; omega)); obtain ⟨a7, c7, rfl, s3, _⟩ := o3.slice)
      | (refine wpList_build0I rfl rfl ?_; intro gB w4 o4 zB k4; have K4 := K3.trans k4; have s4 := s3.keep k4; have h34 : ∀ b o, a7 = some ⟨b, o, none⟩ → 0 < l.length → b < w3.heap.size := (fun b o e h0 => by obtain ⟨b', o', e', hE⟩ := s3.ent (i := 0) h0; rw [e] at e'; cases e'; exact slb_lt hE.slb (by omega) rfl))
      | (refine wpList_appSIo rfl _ _ rfl w3.heap.size _ rfl o4 _ n2 c2 p rfl (hp.keep K4) Hc2.out (by omega) (by have := k4.size; omega) ?_; intro v5 w5 o5 k5; have K5 : Keeps (fun _ => False) w w5 := K4.trans' k5 (fun i e => .inr (by have := (o4.from e).1; have := K3.size; omega)); have s5 := s4.keeps k5 (fun h0 b o e h => by have := h34 b o e h0; have := (o4.from h).1; omega); obtain ⟨a8, c8, rfl, t5, _⟩ := o5.slice)
      | (go_at_call 30; refine (pack30 HP.out _ (hT.keeps K5 (fun h => h) (fun h => h)) _ _ _ s5 (by rw [Hln.out]; omega) _ _ _ t5).mono ?_; rintro e w6 ⟨⟨aP, cP, rfl, sP⟩, k6⟩; have K6 := K5.trans k6)
      | (go_at_call 31; refine (pack31 HP.out _ _ _ _ (hl.keep K6) (by omega) _ _ _ (hp.keep K6)).mono ?_; rintro e w7 ⟨⟨aQ, cQ, rfl, sQ⟩, k7⟩; have K7 := K6.trans k7)
      | (refine wpList_build0K rfl rfl ?_; intro gC w8 o8 zC k8; have K8 := K7.trans k8)
      | (refine wpList_appKo rfl _ _ rfl w7.heap.size _ rfl o8 a3 n3 c3 X rfl (hX.keeps K8 (fun _ _ _ _ h => h)) Hc3.out (by omega) (by have := k8.size; omega) ?_; intro v9 w9 o9 k9; have q79 : Keeps (fun _ => False) w7 w9 := k8.trans' k9 (fun i e => .inr (by have := (o8.from e).1; omega)); have K9 := K7.trans q79; obtain ⟨aX, cX, rfl, sX, _⟩ := o9.slice)
      | (go_at_call 32; refine (unpack32_is HU.out _ (hT.keeps K9 (fun h => h) (fun h => h)) _ cX sX (by omega)).mono ?_; rintro e wa ⟨⟨aM, cM, rfl, sM⟩, ka⟩; have Ka := K9.trans ka)
      | (go_at_call 33; refine (unpack33_is HU.out _ _ c3 (hX.keeps Ka (fun _ _ _ _ h => h)) (by omega)).mono ?_; rintro e wb ⟨⟨aN, cN, rfl, sN⟩, kb⟩; have Kb := Ka.trans kb; have J6 := ((k7.trans q79).trans ka).trans kb; have s6 := (s5.keep k6).keep J6; have t6 := (t5.keep k6).keep J6; have sP6 := sP.keeps J6 (fun _ _ _ _ h => h); have sQ6 := sQ.keeps ((q79.trans ka).trans kb) (fun _ _ _ _ h => h); have sM6 := sM.keep kb; have hpb := hp.keep Kb; have hlb := hl.keep Kb; have c0 := HC.out _ Kb)
      | (go_at_call 34; refine (good34_at HG.out _ _ _ _ s6 (by rw [Hln.out]; omega)).mono ?_; rintro e y1 ⟨rfl, j1⟩)
      | (go_at_call 35; refine (good35_at HG.out _ _ _ _ (hlb.keep j1) (by omega)).mono ?_; rintro e y2 ⟨rfl, j2⟩; have J2 := j1.trans j2)
      | (go_at_call 36; refine (blocks_at (decide_eq_true rfl) _ _ _ _ _ _ _ (sP6.keeps J2 (fun _ _ _ _ h => h)) (sQ6.keeps J2 (fun _ _ _ _ h => h)) (by have := HmP.out; omega)).mono ?_; rintro e y3 ⟨rfl, j3⟩; have J3 := J2.trans j3)
      | (go_at_call 25; have := JS; refine (entries_at (decide_eq_true rfl) _ _ _ _ _ _ _ (s6.keep JS) (hlb.keep JS) (by rw [Hln.out]; omega)).mono ?_; rintro e y7 ⟨rfl, j7⟩; have J7 := JS.trans j7)
      | (go_at_call 25; refine (entries_at (decide_eq_true rfl) _ _ _ _ _ _ _ (sM6.keep J3) (sN.keep J3) (by have := HlU.out; omega)).mono ?_; rintro e y4 ⟨rfl, j4⟩; have J4 := J3.trans j4)
      | (go_at_call 37; refine (size37_at HS _ hk9).mono ?_; rintro e y5 ⟨rfl, j5⟩; have J5 := J4.trans j5)
      | (go_at_call 38; refine (size38_at HS _ hk9).mono ?_; rintro e y6 ⟨rfl, j6⟩; have JS := J5.trans j6)
      | (go_at_call 26; refine (ints_at (decide_eq_true rfl) _ _ _ _ _ _ _ (t6.keep J7) (hpb.keep J7) (by rw [Hpn.out]; omega)).mono ?_; rintro e y8 ⟨rfl, j8⟩; have J8 := J7.trans j8)
      | (go_at_call 29; refine (wakes29 _ (hT.keeps (Kb.trans J8) (fun h => h) (fun h => h))).mono ?_; rintro e y9 ⟨rfl, j9⟩))
    go_ret
    exact ⟨rfl, (Kb.trans J8).trans j9⟩
  · have h20' : (0 : Int) < (n2 : Int) := by omega
    obtain ⟨b2, o2, rfl, hb2, hcell⟩ := hp.ent h20
    have HC : Hid (∀ w', Keeps (fun _ => False) w w' → w'.cell? ⟨b2, o2, none⟩ = some (.int .i64 k)) := fun w' h => by have := hcell w' h 0 h20; rw [Nat.add_zero] at this; rw [this, hke]
    clear hcell hke
    go_enter Tryd.func8, Tryd.ntmps8
    go_wp2_with (first
      | (refine wpList_build0F rfl rfl ?_; intro gA w2 o2 zA k2; have K2 := k2)
      | (refine wpList_appSEo rfl _ _ rfl w.heap.size _ rfl o2 a1 n1 c1 l rfl (hl.keep K2) Hc1.out (by omega) (by have := k2.size; omega) ?_; intro v3 w3 o3 k3; have K3 : Keeps (fun _ => False) w w3 := K2.trans' k3 (fun i e => .inr (by have := (o2.from e).1; omega)); obtain ⟨a7, c7, rfl, s3, _⟩ := o3.slice)
      | (refine wpList_build0I rfl rfl ?_; intro gB w4 o4 zB k4; have K4 := K3.trans k4; have s4 := s3.keep k4; have h34 : ∀ b o, a7 = some ⟨b, o, none⟩ → 0 < l.length → b < w3.heap.size := (fun b o e h0 => by obtain ⟨b', o', e', hE⟩ := s3.ent (i := 0) h0; rw [e] at e'; cases e'; exact slb_lt hE.slb (by omega) rfl))
      | (refine wpList_appSIo rfl _ _ rfl w3.heap.size _ rfl o4 _ n2 c2 p rfl (hp.keep K4) Hc2.out (by omega) (by have := k4.size; omega) ?_; intro v5 w5 o5 k5; have K5 : Keeps (fun _ => False) w w5 := K4.trans' k5 (fun i e => .inr (by have := (o4.from e).1; have := K3.size; omega)); have s5 := s4.keeps k5 (fun h0 b o e h => by have := h34 b o e h0; have := (o4.from h).1; omega); obtain ⟨a8, c8, rfl, t5, _⟩ := o5.slice)
      | (go_at_call 30; refine (pack30 HP.out _ (hT.keeps K5 (fun h => h) (fun h => h)) _ _ _ s5 (by rw [Hln.out]; omega) _ _ _ t5).mono ?_; rintro e w6 ⟨⟨aP, cP, rfl, sP⟩, k6⟩; have K6 := K5.trans k6)
      | (go_at_call 31; refine (pack31 HP.out _ _ _ _ (hl.keep K6) (by omega) _ _ _ (hp.keep K6)).mono ?_; rintro e w7 ⟨⟨aQ, cQ, rfl, sQ⟩, k7⟩; have K7 := K6.trans k7)
      | (refine wpList_build0K rfl rfl ?_; intro gC w8 o8 zC k8; have K8 := K7.trans k8)
      | (refine wpList_appKo rfl _ _ rfl w7.heap.size _ rfl o8 a3 n3 c3 X rfl (hX.keeps K8 (fun _ _ _ _ h => h)) Hc3.out (by omega) (by have := k8.size; omega) ?_; intro v9 w9 o9 k9; have q79 : Keeps (fun _ => False) w7 w9 := k8.trans' k9 (fun i e => .inr (by have := (o8.from e).1; omega)); have K9 := K7.trans q79; obtain ⟨aX, cX, rfl, sX, _⟩ := o9.slice)
      | (go_at_call 32; refine (unpack32_is HU.out _ (hT.keeps K9 (fun h => h) (fun h => h)) _ cX sX (by omega)).mono ?_; rintro e wa ⟨⟨aM, cM, rfl, sM⟩, ka⟩; have Ka := K9.trans ka)
      | (go_at_call 33; refine (unpack33_is HU.out _ _ c3 (hX.keeps Ka (fun _ _ _ _ h => h)) (by omega)).mono ?_; rintro e wb ⟨⟨aN, cN, rfl, sN⟩, kb⟩; have Kb := Ka.trans kb; have J6 := ((k7.trans q79).trans ka).trans kb; have s6 := (s5.keep k6).keep J6; have t6 := (t5.keep k6).keep J6; have sP6 := sP.keeps J6 (fun _ _ _ _ h => h); have sQ6 := sQ.keeps ((q79.trans ka).trans kb) (fun _ _ _ _ h => h); have sM6 := sM.keep kb; have hpb := hp.keep Kb; have hlb := hl.keep Kb; have c0 := HC.out _ Kb)
      | (go_at_call 34; refine (good34_at HG.out _ _ _ _ s6 (by rw [Hln.out]; omega)).mono ?_; rintro e y1 ⟨rfl, j1⟩)
      | (go_at_call 35; refine (good35_at HG.out _ _ _ _ (hlb.keep j1) (by omega)).mono ?_; rintro e y2 ⟨rfl, j2⟩; have J2 := j1.trans j2)
      | (go_at_call 36; refine (blocks_at (decide_eq_true rfl) _ _ _ _ _ _ _ (sP6.keeps J2 (fun _ _ _ _ h => h)) (sQ6.keeps J2 (fun _ _ _ _ h => h)) (by have := HmP.out; omega)).mono ?_; rintro e y3 ⟨rfl, j3⟩; have J3 := J2.trans j3)
      | (go_at_call 25; have := JS; refine (entries_at (decide_eq_true rfl) _ _ _ _ _ _ _ (s6.keep JS) (hlb.keep JS) (by rw [Hln.out]; omega)).mono ?_; rintro e y7 ⟨rfl, j7⟩; have J7 := JS.trans j7)
      | (go_at_call 25; refine (entries_at (decide_eq_true rfl) _ _ _ _ _ _ _ (sM6.keep J3) (sN.keep J3) (by have := HlU.out; omega)).mono ?_; rintro e y4 ⟨rfl, j4⟩; have J4 := J3.trans j4; have JS := J4)
      | (go_at_call 37; refine (size37_at HS _ hk9).mono ?_; rintro e y5 ⟨rfl, j5⟩; have J5 := J4.trans j5)
      | (go_at_call 38; refine (size38_at HS _ hk9).mono ?_; rintro e y6 ⟨rfl, j6⟩; have JS := J5.trans j6)
      | (go_at_call 26; refine (ints_at (decide_eq_true rfl) _ _ _ _ _ _ _ (t6.keep J7) (hpb.keep J7) (by rw [Hpn.out]; omega)).mono ?_; rintro e y8 ⟨rfl, j8⟩; have J8 := J7.trans j8)
      | (go_at_call 29; refine (wakes29 _ (hT.keeps (Kb.trans J8) (fun h => h) (fun h => h))).mono ?_; rintro e y9 ⟨rfl, j9⟩))
    go_ret
    exact ⟨rfl, (Kb.trans J8).trans j9⟩

theorem tellsL (w : World) (hT : Tabs w) (a1 : Option Addr) (n1 c1 : Nat) (l : List En) (hl : SlE w a1 n1 c1 l) (hn1 : n1 ≤ 9223372036854775807) (hz1 : a1 = none → c1 = 0) (a2 : Option Addr) (n2 c2 : Nat) (p : List Int) (hp : SlI w a2 n2 c2 p) (hn2 : n2 ≤ 9223372036854775807) (hz2 : a2 = none → c2 = 0) (a3 : Option Addr) (n3 c3 : Nat) (X : List B) (hX : SlB w a3 (n3 * 128) (c3 * 128) X) (hz3 : a3 = none → c3 = 0) :
    Calls Tryd.prog 8 #[.slice a1 n1 c1, .slice a2 n2 c2, .slice a3 n3 c3] w fun e w' => e = .returned (.bool true) ∧ Keeps (fun _ => False) w w' := by
  by_cases h : 200 < n1 ∨ 200 < n2 ∨ 100 < n3
  · exact tells_long w hT a1 a2 a3 n1 c1 n2 c2 n3 c3 h
  · exact tells_in w hT a1 a2 a3 n1 c1 n2 c2 n3 c3 l p X hl hp hX (by omega) (by omega) (by omega) hz1 hz2 hz3

end Go.Proofs.YthngaegfppbdmaaDoor
