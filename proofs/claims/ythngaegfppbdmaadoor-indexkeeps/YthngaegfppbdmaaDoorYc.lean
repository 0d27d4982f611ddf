/-
  Entries laid in and taken out, in plain mathematics; slices' laws for drawn regions; IndexKeeps: the walk.
-/
import Derived.Test.YthngaegfppbdmaaDoorXy
set_option linter.all false
namespace Go.Proofs.YthngaegfppbdmaaDoor
open Go.RowKit Go.Sort Go.Shelf
attribute [local go_sem] Oper.semAt_some

theorem less_eq {x y : List B} (h1 : lessB x y = false) (h2 : lessB y x = false) : x = y := by
  rcases less_ways x y [] with ⟨_, _, h⟩ | ⟨_, h, _⟩ | ⟨h, _⟩ | ⟨h, _⟩
  · exact of_decide_eq_true h
  · rw [h2] at h; cases h
  · rw [h1] at h; cases h
  · rw [h1] at h; cases h
theorem fnd_lt {key : List B} : ∀ {l : List En} {t : Nat}, t < fnd l key → lessB (l.getD t default).key key = true
  | [], t, h => by simp [fnd] at h
  | e :: l, t, h => by
    unfold fnd at h
    split at h
    · rename_i h1
      cases t with
      | zero => exact h1
      | succ t => exact fnd_lt (l := l) (t := t) (by omega)
    · omega
theorem fnd_ge {key : List B} : ∀ {l : List En}, fnd l key < l.length → lessB (l.getD (fnd l key) default).key key = false
  | [], h => by simp at h
  | e :: l, h => by
    unfold fnd at h ⊢
    split
    · rename_i h1
      rw [if_pos h1] at h
      exact fnd_ge (l := l) (by simpa using h)
    · rename_i h1
      simpa using h1
theorem ths_at {l : List En} {key : List B} (h : ths l key = true) : fnd l key < l.length ∧ (l.getD (fnd l key) default).key = key := by
  unfold ths at h
  simp only [Bool.and_eq_true, decide_eq_true_eq, Bool.not_eq_true'] at h
  exact ⟨h.1, less_eq (fnd_ge h.1) h.2⟩
theorem ths_not {l : List En} {key : List B} (h : ths l key = false) (hk : fnd l key < l.length) : lessB key (l.getD (fnd l key) default).key = true := by
  unfold ths at h
  rw [decide_eq_true hk, Bool.true_and] at h
  simpa using h

theorem ins_len (l : List En) (x : En) : (ins l x).length = l.length + 1 := by
  have := fnd_le x.key l
  unfold ins
  simp; omega
theorem ins_lt {l : List En} {x : En} {t : Nat} (h : t < fnd l x.key) : (ins l x).getD t default = l.getD t default := by
  have := fnd_le x.key l
  unfold ins
  rw [List.getD_eq_getElem?_getD, List.getD_eq_getElem?_getD, List.getElem?_append_left (by rw [List.length_take]; omega), List.getElem?_take, if_pos h]
theorem ins_eq (l : List En) (x : En) : (ins l x).getD (fnd l x.key) default = x := by
  have := fnd_le x.key l
  unfold ins
  rw [List.getD_eq_getElem?_getD, List.getElem?_append_right (by rw [List.length_take]; omega), List.length_take, Nat.min_eq_left this, Nat.sub_self]
  rfl
theorem ins_gt {l : List En} {x : En} {t : Nat} (h : fnd l x.key < t) : (ins l x).getD t default = l.getD (t - 1) default := by
  have := fnd_le x.key l
  unfold ins
  rw [List.getD_eq_getElem?_getD, List.getD_eq_getElem?_getD, List.getElem?_append_right (by rw [List.length_take]; omega), List.length_take, Nat.min_eq_left this]
  obtain ⟨d, rfl⟩ : ∃ d, t = fnd l x.key + 1 + d := ⟨t - (fnd l x.key + 1), by omega⟩
  rw [show fnd l x.key + 1 + d - fnd l x.key = d + 1 by omega, List.singleton_append, List.getElem?_cons_succ, List.getElem?_drop, show fnd l x.key + 1 + d - 1 = fnd l x.key + d by omega]
theorem rises_ins {l : List En} {x : En} (hr : rises l = true) (ht : ths l x.key = false) : rises (ins l x) = true := by
  refine rises_iff.2 fun i hi => ?_
  rw [ins_len] at hi
  unfold ordB
  by_cases h0 : i = 0
  · subst h0; rfl
  · rw [decide_eq_false h0, Bool.false_or]
    obtain ⟨j, rfl⟩ : ∃ j, i = j + 1 := ⟨i - 1, by omega⟩
    rw [Nat.add_sub_cancel]
    rcases Nat.lt_trichotomy (j + 1) (fnd l x.key) with h | h | h
    · rw [ins_lt h, ins_lt (by omega)]
      exact rises_less hr (by have := fnd_le x.key l; omega)
    · rw [ins_lt (by omega), h, ins_eq]
      exact fnd_lt (by omega)
    · rw [ins_gt h, Nat.add_sub_cancel]
      by_cases e : j = fnd l x.key
      · rw [e, ins_eq]
        exact ths_not ht (by omega)
      · rw [ins_gt (by omega)]
        obtain ⟨q, rfl⟩ : ∃ q, j = q + 1 := ⟨j - 1, by omega⟩
        exact rises_less hr (by omega)
theorem fnd_ins (l : List En) (x : En) : fnd (ins l x) x.key = fnd l x.key := by
  have := fnd_le x.key l
  refine fnd_is (by rw [ins_len]; omega) (fun t ht => ?_) (fun _ => ?_)
  · rw [ins_lt ht]; exact fnd_lt ht
  · rw [ins_eq]; exact less_self _
theorem ths_ins (l : List En) (x : En) : ths (ins l x) x.key = true := by
  have := fnd_le x.key l
  unfold ths
  rw [fnd_ins, ins_eq, less_self, decide_eq_true (by rw [ins_len]; omega)]; rfl
theorem ins_take (l : List En) (x : En) : (ins l x).take (fnd l x.key) = l.take (fnd l x.key) := by
  have := fnd_le x.key l
  unfold ins
  rw [List.take_append_of_le_length (by rw [List.length_take]; omega), List.take_take, Nat.min_self]
theorem ins_drop (l : List En) (x : En) : (ins l x).drop (fnd l x.key + 1) = l.drop (fnd l x.key) := by
  have := fnd_le x.key l
  unfold ins
  rw [List.drop_append, List.drop_of_length_le (by rw [List.length_take]; omega), List.length_take, Nat.min_eq_left this, List.nil_append, show fnd l x.key + 1 - fnd l x.key = 1 by omega]
  rfl
theorem del_ins (l : List En) (x : En) : del (ins l x) x.key = l := by
  unfold del
  rw [fnd_ins, ins_take, ins_drop, List.take_append_drop]
theorem del_take {l : List En} {key : List B} (h : fnd l key < l.length) : (del l key).take (fnd l key) = l.take (fnd l key) := by
  unfold del
  rw [List.take_append_of_le_length (by rw [List.length_take]; omega), List.take_take, Nat.min_self]
theorem del_drop {l : List En} {key : List B} (h : fnd l key < l.length) : (del l key).drop (fnd l key) = l.drop (fnd l key + 1) := by
  unfold del
  rw [List.drop_append, List.drop_of_length_le (by rw [List.length_take]; omega), List.length_take, Nat.min_eq_left (by omega), List.nil_append, Nat.sub_self, List.drop_zero]
theorem del_len {l : List En} {key : List B} (h : fnd l key < l.length) : (del l key).length = l.length - 1 := by
  unfold del
  rw [List.length_append, List.length_take, List.length_drop]; omega

/-! Slices of entries. -/
def sufA (a : Option Addr) (c k : Nat) : Option Addr := if c = k then a else a.map (·.add (k * 35))
theorem SlE.sufO {w : World} {a : Option Addr} {n c : Nat} {l : List En} (h : SlE w a n c l) {k : Nat} (hk : k ≤ n) : SlE w (sufA a c k) (n - k) (c - k) (l.drop k) := by
  have hl := h.len
  by_cases e : n = k
  · subst e
    rw [List.drop_of_length_le (by omega), Nat.sub_self]
    exact SlE.void _ _ _
  · obtain ⟨b, o, e', _⟩ := h.ent (i := 0) (by omega)
    subst e'
    have := h.sufI hk
    unfold sufA
    simpa using this
theorem map_add0 (a : Option Addr) : a.map (·.add 0) = a := by cases a <;> simp [Addr.add]
theorem run_preE (w : World) (a : Option Addr) (n c k : Nat) (h : k ≤ c) (H : Int) (hH : H = (k : Int)) : (Instr.sliceAt 22 (.slice a n c) none (some (.int .i64 H)) none).run Tryd.prog w = .ok (.slice a k c) w := by
  subst hH
  rw [run_sliceAt_slice w 22 _ _ _ _ elem22, run_slice_h w 22 _ _ _ elem22 .i64 (k : Int) (by omega) (by omega), sizeOf54]
  simp only [Result.andThen_ok, sliced, Int.toNat_natCast, Nat.zero_mul, map_add0, ite_self, Nat.sub_zero]
theorem run_sufE (w : World) (a : Option Addr) (n c k : Nat) (h : k ≤ n) (H : Int) (hH : H = (k : Int)) : (Instr.sliceAt 22 (.slice a n c) (some (.int .i64 H)) none none).run Tryd.prog w = .ok (.slice (sufA a c k) (n - k) (c - k)) w := by
  subst hH
  rw [run_sliceAt_slice w 22 _ _ _ _ elem22, run_slice_l w 22 _ _ _ elem22 .i64 (k : Int) (by omega) (by omega), sizeOf54]
  simp only [Result.andThen_ok, sliced, Int.toNat_natCast]
  rfl
theorem quiet_preE {o : Oper} {a : Act} {C : World → Prop} {K : Act → Prop} (x hi : Operand) (ho : o.op = .slice 22 x none (some hi) none) (ad : Option Addr) (n c k : Nat) (hx : a.eval x = .slice ad n c) (H : Int) (hhi : a.eval hi = .int .i64 H) (hH : H = (k : Int)) (hk' : k ≤ c) (hk : K (a.put o.dst (.slice ad k c))) : o.quiet Tryd.prog a C K := by
  refine ⟨.slice ad k c, fun w hw => ?_, hk⟩
  unfold Oper.quietAt execOp
  simp only [ho, hx, hhi, Option.map_some, Option.map_none, run_preE w ad n c k hk' H hH, Sem.run_bind, Sem.run_pure, Result.andThen_ok]
  exact ⟨rfl, rfl⟩
theorem quiet_sufE {o : Oper} {a : Act} {C : World → Prop} {K : Act → Prop} (x lo : Operand) (ho : o.op = .slice 22 x (some lo) none none) (ad : Option Addr) (n c k : Nat) (hx : a.eval x = .slice ad n c) (H : Int) (hlo : a.eval lo = .int .i64 H) (hH : H = (k : Int)) (hk' : k ≤ n) (hk : K (a.put o.dst (.slice (sufA ad c k) (n - k) (c - k)))) : o.quiet Tryd.prog a C K := by
  refine ⟨.slice (sufA ad c k) (n - k) (c - k), fun w hw => ?_, hk⟩
  unfold Oper.quietAt execOp
  simp only [ho, hx, hlo, Option.map_some, Option.map_none, run_sufE w ad n c k hk' H hH, Sem.run_bind, Sem.run_pure, Result.andThen_ok]
  exact ⟨rfl, rfl⟩

theorem rising_at {l : List En} {v : Bool} (h : rises l = v) (w : World) (a : Option Addr) (n c : Nat) (hl : SlE w a n c l) (hn : n ≤ 9223372036854775807) :
    Calls Tryd.prog 39 #[.slice a n c] w fun e w' => e = .returned (.bool v) ∧ Keeps (fun _ => False) w w' := by
  rw [← h]; exact rising39 w a n c l hl hn
theorem OwnE.sliceN {w : World} {base n : Nat} {v : Value} {l : List En} (h : OwnE w base v l) (hn : l.length = n) : ∃ a c, v = .slice a n c ∧ SlE w a n c l ∧ (∀ b o, a = some ⟨b, o, none⟩ → base ≤ b) ∧ (a = none → c = 0) := by
  obtain ⟨a, c, e, s, hb⟩ := h.slice
  rw [hn] at e s
  refine ⟨a, c, e, s, hb, fun ha => ?_⟩
  subst ha
  obtain ⟨_, ⟨e', _⟩ | ⟨g, cap, cur, e', _⟩⟩ := h.owns
  · rw [e] at e'; cases e'; rfl
  · rw [e] at e'; cases e'

set_option maxRecDepth 100000 in
theorem keeps_long (w : World) (hT : Tabs w) (a : Option Addr) (n c : Nat) (l : List En) (hl : SlE w a n c l) (hn : n ≤ 9223372036854775807) (x : En) (lx : x.key.length = 32) (h : 200 < n ∨ rises l = false) :
    Calls Tryd.prog 10 #[.slice a n c, .agg x.cells.toArray] w fun e w' => e = .returned (.bool true) ∧ Keeps (fun _ => False) w w' := by
  have cs : (200 : Int) < (n : Int) ∨ (¬ (200 : Int) < (n : Int) ∧ rises l = false) := by
    by_cases h2 : 200 < n
    · exact .inl (by omega)
    · exact .inr ⟨by omega, by rcases h with h | h; exact absurd h h2; exact h⟩
  clear h
  go_enter Tryd.func10, Tryd.ntmps10
  rcases cs with h1 | ⟨h1, h2⟩
  · go_wp2_with (first
      | (refine wpList_box46 rfl _ rfl x lx rfl ?_; intro g1 w1 b1 z1 k1)
      | (go_at_call 29; refine (wakes29 _ (hT.keeps k1 (fun h => h) (fun h => h))).mono ?_; rintro e w2 ⟨rfl, k2⟩))
    go_ret
    exact ⟨rfl, k1.trans k2⟩
  · have H2 : Hid (rises l = false) := h2
    clear h2
    go_wp2_with (first
      | (refine wpList_box46 rfl _ rfl x lx rfl ?_; intro g1 w1 b1 z1 k1)
      | (go_at_call 39; refine (rising_at H2.out _ _ _ _ (hl.keep k1) hn).mono ?_; rintro e w2 ⟨rfl, k2⟩)
      | (go_at_call 29; refine (wakes29 _ (hT.keeps (k1.trans k2) (fun h => h) (fun h => h))).mono ?_; rintro e w3 ⟨rfl, k3⟩))
    go_ret
    exact ⟨rfl, (k1.trans k2).trans k3⟩

set_option maxRecDepth 100000 in
set_option maxHeartbeats 8000000 in
theorem keeps_there (w : World) (hT : Tabs w) (a : Option Addr) (n c : Nat) (l : List En) (hl : SlE w a n c l) (hnc : a = none → c = 0) (h200 : n ≤ 200) (x : En) (lx : x.key.length = 32) (hr : rises l = true) (ht : ths l x.key = true) :
    Calls Tryd.prog 10 #[.slice a n c, .agg x.cells.toArray] w fun e w' => e = .returned (.bool true) ∧ Keeps (fun _ => False) w w' := by
  have hlen := hl.len
  have Hln : Hid (l.length = n) := hlen
  obtain ⟨hfl, _⟩ := ths_at ht
  have hD1 := del_len hfl
  have hD2 := del_take hfl
  have hD3 := del_drop hfl
  obtain ⟨k, hk⟩ : ∃ k, fnd l x.key = k := ⟨_, rfl⟩
  obtain ⟨D, hD⟩ : ∃ D, del l x.key = D := ⟨_, rfl⟩
  obtain ⟨m, hm⟩ : ∃ m, n = m + 1 := ⟨n - 1, by omega⟩
  rw [hk, hD] at hD2 hD3
  rw [hD] at hD1
  rw [hk] at hfl
  have hkm : k ≤ m := by omega
  have HR : Hid (rises l = true) := hr
  have HF : Hid (fnd l x.key = k) := hk
  have HT : Hid (ths l x.key = true) := ht
  have HD : Hid (del l x.key = D) := hD
  have HDm : Hid (D.length = m) := by show _ = _; omega
  have Hm : Hid (n = m + 1) := hm
  have hm' : (n : Int) - 1 = (m : Int) := by omega
  obtain ⟨T, hTk⟩ : ∃ T, l.take k = T := ⟨_, rfl⟩
  obtain ⟨U, hUk⟩ : ∃ U, l.drop (k + 1) = U := ⟨_, rfl⟩
  have HT1 : Hid (l.take k = T) := hTk
  have HU1 : Hid (l.drop (k + 1) = U) := hUk
  have HT2 : Hid (D.take k = T) := by show _ = _; rw [hD2, hTk]
  have HU2 : Hid (D.drop k = U) := by show _ = _; rw [hD3, hUk]
  have Hnc : Hid (a = none → c = 0) := hnc
  have h2' : ¬ (200 : Int) < (n : Int) := by omega
  have hkn : k + 1 ≤ n := by omega
  have hcap := hl.cap
  have hts := hT.size
  clear hlen hD1 hD2 hD3 hk hD hm hTk hUk hr ht hnc hfl
  go_enter Tryd.func10, Tryd.ntmps10
  go_wp2_with (first
    | (refine wpList_box46 rfl _ rfl x lx rfl ?_; intro g1 w1 b1 z1 k1)
    | (go_at_call 39; refine (rising_at HR.out _ _ _ _ (hl.keep k1) (by omega)).mono ?_; rintro e w2 ⟨rfl, k2⟩; have K2 := k1.trans k2; have b2 := b1.keep k2)
    | (refine wpList_build0F rfl rfl ?_; intro gA w3 o3 zA k3; have K3 := K2.trans k3; have b3 := b2.keep k3)
    | (refine wpList_appSEo rfl _ _ rfl w2.heap.size _ rfl o3 a n c l rfl (hl.keep K3) Hnc.out (by omega) (by have := k3.size; omega) ?_; intro v4 w4 o4 k4; have K4 : Keeps (fun _ => False) w w4 := K3.trans' k4 (fun i e => .inr (by have := (o3.from e).1; have := K2.size; omega)); have b4 := b3.keeps k4 (fun e => by have := (o3.from e).1; have := slb_lt b2.slb (by omega) rfl; omega); obtain ⟨a7, c7, e7, s4, _, hn7⟩ := o4.sliceN Hln.out; subst e7; have Hn7 : Hid (a7 = none → c7 = 0) := hn7; clear hn7)
    | (refine wpList_key rfl _ rfl g1 0 rfl x b4 ?_)
    | (go_at_call 40; refine (find40_is HR.out HF.out HT.out _ _ n c7 s4 (by omega) lx).mono ?_; rintro e w5 ⟨rfl, k5⟩; have b5 := b4.keep k5; have s5 := s4.keep k5; have K5 := K4.trans k5)
    | (refine wpList_key rfl _ rfl g1 0 rfl x b5 ?_)
    | (go_at_call 41; refine (find41_is HF.out HT.out _ _ n c (hl.keep K5) (by omega) lx).mono ?_; rintro e w6 ⟨rfl, k6⟩; have b6 := b5.keep k6; have s6 := s5.keep k6; have K6 := K5.trans k6)
    | (refine wpList_load46 rfl _ rfl g1 0 rfl x b6 ?_)
    | (go_at_call 42; refine (insert42_there _ a7 n c7 l s6 Hn7.out (by omega) HR.out x lx HT.out).mono ?_; rintro e w7 ⟨rfl, k7⟩; have b7 := b6.keep k7; have s7 := s6.keep k7; have K7 := K6.trans k7)
    | (refine wpList_key rfl _ rfl g1 0 rfl x b7 ?_)
    | (go_at_call 43; refine (remove_is HD.out HDm.out HR.out HT.out _ a7 n c7 s7 Hn7.out (by omega) lx).mono ?_; rintro e w8 ⟨⟨a8, c8, rfl, s8, _⟩, k8⟩; have r8 := s7.keep k8; have K8 := K7.trans k8)
    | (go_at_call 25; refine (entries_at (decide_eq_true rfl) _ _ _ _ _ _ _ r8 (hl.keep K8) (by omega)).mono ?_; rintro e w9 ⟨rfl, k9⟩; have s9 := s8.keep k9; have K9 := K8.trans k9))
  obtain ⟨k', hk'⟩ : ∃ k', k + 1 = k' := ⟨_, rfl⟩
  have hl9 := hl.keep K9
  rw [hk'] at hkn HU1
  have p1 := s9.pre (k := k) hkm
  have p2 := hl9.pre (k := k) (by omega)
  have q1 := s9.sufO (k := k) hkm
  have q2 := hl9.sufO (k := k') hkn
  rw [HT2.out] at p1
  rw [HT1.out] at p2
  rw [HU2.out] at q1
  rw [HU1.out] at q2
  have hk8 : k ≤ c8 := by have := s9.cap; omega
  have hk1 : (k : Int) + 1 = (k' : Int) := by omega
  clear hk'
  have hT9 := hT.keeps K9 (fun h => h) (fun h => h)
  refine wp_region_quiet_below (by kernel_rfl) (by kernel_rfl) ?_
  iterate 21 (first
    | (go_big_quiet_want; refine quiet_preE _ _ rfl a8 m c8 k rfl _ rfl rfl hk8 ?_; simp only [Act.put, List.setIfInBounds_toArray, List.set_cons_zero, List.set_cons_succ]; go_big_quiet_on)
    | (go_big_quiet_want; refine quiet_preE _ _ rfl a n c k rfl _ rfl rfl (by omega) ?_; simp only [Act.put, List.setIfInBounds_toArray, List.set_cons_zero, List.set_cons_succ]; go_big_quiet_on)
    | (go_big_quiet_want; refine quiet_sufE _ _ rfl a8 m c8 k rfl _ rfl rfl hkm ?_; simp only [Act.put, List.setIfInBounds_toArray, List.set_cons_zero, List.set_cons_succ]; go_big_quiet_on)
    | (go_big_quiet_want; refine quiet_sufE _ _ rfl a n c k' rfl _ rfl rfl hkn ?_; simp only [Act.put, List.setIfInBounds_toArray, List.set_cons_zero, List.set_cons_succ]; go_big_quiet_on)
    | go_big_quiet_step (fail)
    | (have := Q2; go_big_quiet_want; go_big_quiet_op; apply Exists.intro; refine ⟨fun _ => call_cls (wakes29 _ (hT9.keeps (keeps_cls ⟨_, rfl⟩) (fun h => h) (fun h => h))) ⟨_, rfl⟩, ?_⟩; go_big_quiet_on)
    | (have := Q1; go_big_quiet_want; go_big_quiet_op; apply Exists.intro; refine ⟨fun _ => call_cls (entries_at (decide_eq_true rfl) _ _ _ _ _ _ _ (q1.keep (keeps_cls ⟨_, rfl⟩)) (q2.keep (keeps_cls ⟨_, rfl⟩)) (by omega)) ⟨_, rfl⟩, ?_⟩; have Q2 : Hid True := trivial; go_big_quiet_on)
    | (go_big_quiet_want; go_big_quiet_op; apply Exists.intro; refine ⟨fun _ => call_cls (entries_at (decide_eq_true rfl) _ _ _ _ _ _ _ (p1.keep (keeps_cls ⟨_, rfl⟩)) (p2.keep (keeps_cls ⟨_, rfl⟩)) (by omega)) ⟨_, rfl⟩, ?_⟩; have Q1 : Hid True := trivial; go_big_quiet_on))
  refine wpQuiet_nil ?_
  intro wz hwz
  go_wp2
  go_ret
  exact ⟨rfl, K9.trans (keeps_cls hwz)⟩

set_option maxRecDepth 100000 in
set_option maxHeartbeats 8000000 in
theorem keeps_new (w : World) (hT : Tabs w) (a : Option Addr) (n c : Nat) (l : List En) (hl : SlE w a n c l) (hnc : a = none → c = 0) (h200 : n ≤ 200) (x : En) (lx : x.key.length = 32) (hr : rises l = true) (ht : ths l x.key = false) :
    Calls Tryd.prog 10 #[.slice a n c, .agg x.cells.toArray] w fun e w' => e = .returned (.bool true) ∧ Keeps (fun _ => False) w w' := by
  have hlen := hl.len
  have Hln : Hid (l.length = n) := hlen
  have hkl := fnd_le x.key l
  have i1 := ins_take l x
  have i2 := ins_drop l x
  have i3 := ins_eq l x
  have i4 := ins_len l x
  have i5 := rises_ins hr ht
  have i6 := ths_ins l x
  have i7 := del_ins l x
  obtain ⟨k, hk⟩ : ∃ k, fnd l x.key = k := ⟨_, rfl⟩
  obtain ⟨M, hM⟩ : ∃ M, ins l x = M := ⟨_, rfl⟩
  obtain ⟨k', hk'⟩ : ∃ k', k + 1 = k' := ⟨_, rfl⟩
  obtain ⟨m, hm⟩ : ∃ m, n + 1 = m := ⟨_, rfl⟩
  rw [hk] at i1 i2 i3 hkl
  rw [hM] at i1 i2 i3 i4 i5 i6 i7
  rw [hk'] at i2
  rw [hlen] at hkl i4
  have HR : Hid (rises l = true) := hr
  have HF : Hid (fnd l x.key = k) := hk
  have HT : Hid (ths l x.key = false) := ht
  have HM : Hid (ins l x = M) := hM
  have HMm : Hid (M.length = m) := by show _ = _; omega
  have HMr : Hid (rises M = true) := i5
  have HMt : Hid (ths M x.key = true) := i6
  have HMd : Hid (del M x.key = l) := i7
  have HMx : Hid (M.getD k default = x) := i3
  have Hm : Hid (n + 1 = m) := hm
  have hm' : (n : Int) + 1 = (m : Int) := by omega
  have hk1 : (k : Int) + 1 = (k' : Int) := by omega
  have hk0 : (0 : Int) ≤ (k : Int) := by omega
  have hkm : (k : Int) < (m : Int) := by omega
  have hkm' : k' ≤ m := by omega
  have hm201 : m ≤ 201 := by omega
  obtain ⟨T, hTk⟩ : ∃ T, l.take k = T := ⟨_, rfl⟩
  obtain ⟨U, hUk⟩ : ∃ U, l.drop k = U := ⟨_, rfl⟩
  have HT1 : Hid (l.take k = T) := hTk
  have HU1 : Hid (l.drop k = U) := hUk
  have HT2 : Hid (M.take k = T) := by show _ = _; rw [i1, hTk]
  have HU2 : Hid (M.drop k' = U) := by show _ = _; rw [i2, hUk]
  have Hnc : Hid (a = none → c = 0) := hnc
  have h2' : ¬ (200 : Int) < (n : Int) := by omega
  have hcap := hl.cap
  have hts := hT.size
  have hxx := eq46_at (x := x) (y := x) (v := true) (decide_eq_true rfl) lx lx
  clear hlen i1 i2 i3 i4 i5 i6 i7 hk hM hm hTk hUk hr ht hnc hk'
  go_enter Tryd.func10, Tryd.ntmps10
  go_wp2_with (first
    | (refine wpList_box46 rfl _ rfl x lx rfl ?_; intro g1 w1 b1 z1 k1)
    | (go_at_call 39; refine (rising_at HR.out _ _ _ _ (hl.keep k1) (by omega)).mono ?_; rintro e w2 ⟨rfl, k2⟩; have K2 := k1.trans k2; have b2 := b1.keep k2)
    | (refine wpList_build0F rfl rfl ?_; intro gA w3 o3 zA k3; have K3 := K2.trans k3; have b3 := b2.keep k3)
    | (refine wpList_appSEo rfl _ _ rfl w2.heap.size _ rfl o3 a n c l rfl (hl.keep K3) Hnc.out (by omega) (by have := k3.size; omega) ?_; intro v4 w4 o4 k4; have K4 : Keeps (fun _ => False) w w4 := K3.trans' k4 (fun i e => .inr (by have := (o3.from e).1; have := K2.size; omega)); have b4 := b3.keeps k4 (fun e => by have := (o3.from e).1; have := slb_lt b2.slb (by omega) rfl; omega); obtain ⟨a7, c7, e7, s4, _, hn7⟩ := o4.sliceN Hln.out; subst e7; have Hn7 : Hid (a7 = none → c7 = 0) := hn7; clear hn7)
    | (refine wpList_key rfl _ rfl g1 0 rfl x b4 ?_)
    | (go_at_call 40; refine (find40_is HR.out HF.out HT.out _ _ n c7 s4 (by omega) lx).mono ?_; rintro e w5 ⟨rfl, k5⟩; have b5 := b4.keep k5; have s5 := s4.keep k5; have K5 := K4.trans k5)
    | (refine wpList_key rfl _ rfl g1 0 rfl x b5 ?_)
    | (go_at_call 41; refine (find41_is HF.out HT.out _ _ n c (hl.keep K5) (by omega) lx).mono ?_; rintro e w6 ⟨rfl, k6⟩; have b6 := b5.keep k6; have s6 := s5.keep k6; have K6 := K5.trans k6)
    | (refine wpList_load46 rfl _ rfl g1 0 rfl x b6 ?_)
    | (go_at_call 42; refine (insert_is HM.out HMm.out HR.out HT.out _ a7 n c7 s6 Hn7.out (by omega) lx).mono ?_; rintro e w7 ⟨⟨g8, c8, rfl, s8, _, _⟩, k7⟩; have b7 := b6.keep k7; have s7 := s6.keep k7; have K7 := K6.trans k7)
    | (refine wpList_key rfl _ rfl g1 0 rfl x b7 ?_)
    | (go_at_call 43; refine (remove43_none _ a7 n c7 l s7 Hn7.out (by omega) HR.out x.key lx HT.out).mono ?_; rintro e w8 ⟨rfl, k8⟩; have r8 := s7.keep k8; have t8 := s8.keep k8; have b8 := b7.keep k8; have K8 := K7.trans k8)
    | (go_at_call 25; refine (entries_at (decide_eq_true rfl) _ _ _ _ _ _ _ r8 (hl.keep K8) (by omega)).mono ?_; rintro e w9 ⟨rfl, k9⟩; have s9 := t8.keep k9; have b9 := b8.keep k9; have K9 := K8.trans k9))
  have hl9 := hl.keep K9
  have p1 := s9.pre (k := k) (by omega)
  have p2 := hl9.pre (k := k) hkl
  have q1 := s9.sufO (k := k') hkm'
  have q2 := hl9.sufO (k := k) hkl
  rw [HT2.out] at p1
  rw [HT1.out] at p2
  rw [HU2.out] at q1
  rw [HU1.out] at q2
  have hk8 : k ≤ c8 := by have := s9.cap; omega
  have hkc : k ≤ c := by omega
  have hT9 := hT.keeps K9 (fun h => h) (fun h => h)
  obtain ⟨bE, oE, eE, E9⟩ := s9.ent (i := k) (by omega)
  cases eE
  rw [HMx.out] at E9
  refine wp_region_quiet_below (by kernel_rfl) (by kernel_rfl) ?_
  iterate 53 (first
    | (go_big_quiet_want; refine quiet_preE _ _ rfl (some ⟨g8, 0, none⟩) m c8 k rfl _ rfl rfl hk8 ?_; simp only [Act.put, List.setIfInBounds_toArray, List.set_cons_zero, List.set_cons_succ]; go_big_quiet_on)
    | (go_big_quiet_want; refine quiet_preE _ _ rfl a n c k rfl _ rfl rfl hkc ?_; simp only [Act.put, List.setIfInBounds_toArray, List.set_cons_zero, List.set_cons_succ]; go_big_quiet_on)
    | (go_big_quiet_want; refine quiet_sufE _ _ rfl (some ⟨g8, 0, none⟩) m c8 k' rfl _ rfl rfl hkm' ?_; simp only [Act.put, List.setIfInBounds_toArray, List.set_cons_zero, List.set_cons_succ]; go_big_quiet_on)
    | (go_big_quiet_want; refine quiet_sufE _ _ rfl a n c k rfl _ rfl rfl hkl ?_; simp only [Act.put, List.setIfInBounds_toArray, List.set_cons_zero, List.set_cons_succ]; go_big_quiet_on)
    | (go_big_quiet_want; refine quiet_load46 _ rfl g8 (0 + k * 35) rfl x (fun w' hp => E9.cls hp) ?_; simp only [Act.put, List.setIfInBounds_toArray, List.set_cons_zero, List.set_cons_succ]; go_big_quiet_on)
    | (go_big_quiet_want; refine quiet_load46 _ rfl g8 (k * 35) rfl x (fun w' hp => by have := E9.cls hp; rwa [Nat.zero_add] at this) ?_; simp only [Act.put, List.setIfInBounds_toArray, List.set_cons_zero, List.set_cons_succ]; go_big_quiet_on)
    | (go_big_quiet_want; refine quiet_load46 _ rfl g1 0 rfl x (fun w' hp => b9.cls hp) ?_; simp only [Act.put, List.setIfInBounds_toArray, List.set_cons_zero, List.set_cons_succ]; go_big_quiet_on)
    | go_big_quiet_step (fail)
    | (have := Q2; go_big_quiet_want; go_big_quiet_op; apply Exists.intro; refine ⟨fun _ => call_cls (rising_at HMr.out _ _ _ _ (s9.keep (keeps_cls ⟨_, rfl⟩)) (by omega)) ⟨_, rfl⟩, ?_⟩; go_big_quiet_on)
    | (have := Q1; go_big_quiet_want; go_big_quiet_op; apply Exists.intro; refine ⟨fun _ => call_cls (entries_at (decide_eq_true rfl) _ _ _ _ _ _ _ (q1.keep (keeps_cls ⟨_, rfl⟩)) (q2.keep (keeps_cls ⟨_, rfl⟩)) (by omega)) ⟨_, rfl⟩, ?_⟩; have Q2 : Hid True := trivial; go_big_quiet_on)
    | (go_big_quiet_want; go_big_quiet_op; apply Exists.intro; refine ⟨fun _ => call_cls (entries_at (decide_eq_true rfl) _ _ _ _ _ _ _ (p1.keep (keeps_cls ⟨_, rfl⟩)) (p2.keep (keeps_cls ⟨_, rfl⟩)) (by omega)) ⟨_, rfl⟩, ?_⟩; have Q1 : Hid True := trivial; go_big_quiet_on))
  refine wpQuiet_nil ?_
  intro wz hwz
  have kz := keeps_cls hwz
  have KZ := K9.trans kz
  have bz := b9.keep kz
  have sz9 := s9.keep kz
  go_wp2_with (first
    | (refine wpList_key rfl _ rfl g1 0 rfl x bz ?_)
    | (go_at_call 43; refine (remove_is HMd.out Hln.out HMr.out HMt.out _ _ m c8 sz9 (fun h => by cases h) (by omega) lx).mono ?_; rintro e y1 ⟨⟨ay, cy, rfl, sy, _⟩, j1⟩; have J1 := KZ.trans j1)
    | (go_at_call 25; refine (entries_at (decide_eq_true rfl) _ _ _ _ _ _ _ sy (hl.keep J1) (by omega)).mono ?_; rintro e y2 ⟨rfl, j2⟩; have J2 := J1.trans j2)
    | (go_at_call 29; refine (wakes29 _ (hT.keeps J2 (fun h => h) (fun h => h))).mono ?_; rintro e y3 ⟨rfl, j3⟩))
  go_ret
  exact ⟨rfl, J2.trans j3⟩

theorem keepsL (w : World) (hT : Tabs w) (a : Option Addr) (n c : Nat) (l : List En) (hl : SlE w a n c l) (hn : n ≤ 9223372036854775807) (hnc : a = none → c = 0) (x : En) (lx : x.key.length = 32) :
    Calls Tryd.prog 10 #[.slice a n c, .agg x.cells.toArray] w fun e w' => e = .returned (.bool true) ∧ Keeps (fun _ => False) w w' := by
  by_cases h : 200 < n
  · exact keeps_long w hT a n c l hl hn x lx (.inl h)
  · cases hr : rises l with
    | false => exact keeps_long w hT a n c l hl hn x lx (.inr hr)
    | true =>
      cases ht : ths l x.key with
      | true => exact keeps_there w hT a n c l hl hnc (by omega) x lx hr ht
      | false => exact keeps_new w hT a n c l hl hnc (by omega) x lx hr ht

end Go.Proofs.YthngaegfppbdmaaDoor
