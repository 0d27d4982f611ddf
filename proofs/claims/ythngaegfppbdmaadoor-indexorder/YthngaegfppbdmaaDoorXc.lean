/-
  Whether the entries' blocks stand apart: the program's, over a row of marks.
-/
import Derived.Test.YthngaegfppbdmaaDoorXb
set_option linter.all false
namespace Go.Proofs.YthngaegfppbdmaaDoor
open Go.RowKit Go.Sort Go.Shelf
attribute [local go_sem] Oper.semAt_some

def inE (e : En) (p : Int) : Bool := decide (e.place ≤ p ∧ p < e.place + e.blocks)
def tkn (l : List En) (i : Nat) (p : Int) : Bool := (List.range i).any fun k => inE (l.getD k default) p
def mkd (l : List En) (i b p : Nat) : Bool := tkn l i p || decide ((l.getD i default).place ≤ (p : Int) ∧ (p : Int) < (l.getD i default).place + b)
def mks (l : List En) (i b : Nat) : Array Value := ((List.range 128).map fun p => Value.bool (mkd l i b p)).toArray
def ovl (l : List En) (k i : Nat) : Bool := decide ((l.getD k default).place < (l.getD i default).place + (l.getD i default).blocks ∧ (l.getD i default).place < (l.getD k default).place + (l.getD k default).blocks)
def okI (l : List En) (i : Nat) : Bool := one (l.getD i default) && (List.range i).all fun k => !ovl l k i
def apt (l : List En) : Bool := (List.range l.length).all (okI l)
theorem apt_iff {l : List En} : apt l = true ↔ ∀ i, i < l.length → okI l i = true := by simp [apt]
theorem apt_no {l : List En} {i : Nat} (hi : i < l.length) (h : okI l i = false) : apt l = false := by
  cases hr : apt l with
  | false => rfl
  | true => rw [apt_iff.1 hr i hi] at h; cases h
theorem okI_iff {l : List En} {i : Nat} : okI l i = true ↔ one (l.getD i default) = true ∧ ∀ k, k < i → ovl l k i = false := by simp [okI]
theorem okI_one {l : List En} {i : Nat} (h : one (l.getD i default) = false) : okI l i = false := by unfold okI; rw [h]; rfl
theorem mks_size (l : List En) (i b : Nat) : (mks l i b).size = 128 := by simp [mks]
theorem mks_get {l : List En} {i b p : Nat} (h : p < 128) : (mks l i b)[p]? = some (.bool (mkd l i b p)) := by simp [mks, h]
theorem mks_set {l : List En} {i b p : Nat} (h : (p : Int) = (l.getD i default).place + b) : (mks l i b).setIfInBounds p (.bool true) = mks l i (b + 1) := by
  apply Array.ext (by simp [mks])
  intro j h1 h2
  simp only [mks, List.size_toArray, List.length_map, List.length_range, Array.size_setIfInBounds] at h1
  simp only [mks, List.setIfInBounds_toArray, List.getElem_toArray, List.getElem_set, List.getElem_map, List.getElem_range]
  split
  · rename_i e; subst e
    congr 1
    unfold mkd
    rw [decide_eq_true (by omega : (l.getD i default).place ≤ (p : Int) ∧ (p : Int) < (l.getD i default).place + ((b + 1 : Nat) : Int)), Bool.or_true]
  · congr 1
    unfold mkd
    congr 1
    apply decide_eq_decide.2
    omega
theorem mks_next {l : List En} {i b : Nat} (h : (l.getD i default).blocks = (b : Int)) : mks l i b = mks l (i + 1) 0 := by
  unfold mks
  congr 1
  apply List.map_congr_left
  intro p _
  congr 1
  unfold mkd tkn
  rw [List.range_succ, List.any_append]
  simp only [List.any_cons, List.any_nil, Bool.or_false]
  rw [decide_eq_false (by omega : ¬ ((l.getD (i + 1) default).place ≤ (p : Int) ∧ (p : Int) < (l.getD (i + 1) default).place + ((0 : Nat) : Int))), Bool.or_false]
  unfold inE
  rw [h]
theorem mks_zero (l : List En) : mks l 0 0 = (List.replicate 128 (Value.bool false)).toArray := by
  unfold mks
  congr 1
  have : ∀ p ∈ List.range 128, Value.bool (mkd l 0 0 p) = Value.bool false := fun p _ => by
    congr 1
    unfold mkd tkn
    rw [decide_eq_false (by omega)]; rfl
  rw [List.map_congr_left this]
  rfl
theorem mkd_at {l : List En} {i b p : Nat} (h : (p : Int) = (l.getD i default).place + b) : mkd l i b p = tkn l i p := by
  unfold mkd
  rw [decide_eq_false (by omega), Bool.or_false]
theorem ovl_of {l : List En} {i b p : Nat} (h : (p : Int) = (l.getD i default).place + b) (hb : (b : Int) < (l.getD i default).blocks) (ht : tkn l i p = true) : okI l i = false := by
  unfold tkn at ht
  rw [List.any_eq_true] at ht
  obtain ⟨k, hk, hi⟩ := ht
  have hk' := List.mem_range.1 hk
  cases ho : okI l i with
  | false => rfl
  | true =>
    have := (okI_iff.1 ho).2 k hk'
    unfold ovl at this
    unfold inE at hi
    simp only [decide_eq_true_eq, decide_eq_false_iff_not] at this hi
    omega
theorem okI_of {l : List En} {i : Nat} (h1 : one (l.getD i default) = true) (h0 : 0 ≤ (l.getD i default).place) (h : ∀ b p : Nat, (b : Int) < (l.getD i default).blocks → (p : Int) = (l.getD i default).place + b → tkn l i p = false) (hp : ∀ k, k < i → 0 ≤ (l.getD k default).place ∧ 1 ≤ (l.getD k default).blocks) (hb : 1 ≤ (l.getD i default).blocks) : okI l i = true := by
  refine okI_iff.2 ⟨h1, fun k hk => ?_⟩
  cases ho : ovl l k i with
  | false => rfl
  | true =>
    exfalso
    unfold ovl at ho
    simp only [decide_eq_true_eq] at ho
    obtain ⟨q1, q2⟩ := hp k hk
    obtain ⟨p, hp⟩ : ∃ p : Nat, (p : Int) = max (l.getD k default).place (l.getD i default).place := ⟨(max (l.getD k default).place (l.getD i default).place).toNat, by omega⟩
    obtain ⟨b, hb⟩ : ∃ b : Nat, (p : Int) = (l.getD i default).place + b := ⟨((p : Int) - (l.getD i default).place).toNat, by omega⟩
    have := h b p (by omega) hb
    unfold tkn at this
    rw [List.any_eq_false] at this
    have := this k (List.mem_range.2 hk)
    unfold inE at this
    simp only [decide_eq_true_eq] at this
    omega
theorem gd_sing (e : En) : gd [e] = one e := by
  unfold gd okAll badAt
  simp
theorem SlE.just {w : World} {b o c : Nat} {e : En} (h : EnAt w b o e) (hc : 1 ≤ c) : SlE w (some ⟨b, o, none⟩) 1 c [e] :=
  ⟨rfl, hc, (fun x hx => by obtain rfl : x = e := (by simpa using hx); exact h.len), fun j v hv => by
    simp only [ecs, List.flatMap_cons, List.flatMap_nil, List.append_nil] at hv
    exact ⟨b, o, rfl, h.at_ j v hv⟩⟩
theorem rowTy113 : RowTy 113 128 := ⟨⟨_, Tryd.underlying113, rfl⟩, by kernel_rfl⟩
theorem zero113 (w : World) : (zeroValue 113).run Tryd.prog w = .ok (.agg (List.replicate 128 (Value.bool false)).toArray) w := by kernel_rfl
theorem RoAt.live {w : World} {g : Nat} {t : TypeId} {cs : Array Value} (h : RoAt w g t cs) (j : Nat) : w.frozen? ⟨g, j, none⟩ = false := frozen_of_row w g j _ _ h.row
theorem RoAt.set {w : World} {g : Nat} {t : TypeId} {cs : Array Value} (h : RoAt w g t cs) (j : Nat) (v : Value) : RoAt (w.setCell ⟨g, j, none⟩ v) g t (cs.setIfInBounds j v) := ⟨heap_setCell_same w _ _ _ _ _ h.row⟩

set_option maxRecDepth 100000 in
set_option maxHeartbeats 4000000 in
theorem apart57 (w : World) (a : Option Addr) (n c : Nat) (l : List En) (hl : SlE w a n c l) (hn : n ≤ 9223372036854775806) :
    Calls Tryd.prog 57 #[.slice a n c] w fun e w' => e = .returned (.bool (apt l)) ∧ Keeps (fun _ => False) w w' := by
  have Hlen : Hid (l.length = n) := hl.len
  have hcap := hl.cap
  have hsl : 0 < n → ∀ b o, a = some ⟨b, o, none⟩ → b < w.heap.size := fun h0 b o e => by
    obtain ⟨b', o', e', hE⟩ := hl.ent h0
    rw [e] at e'; cases e'
    exact slb_lt hE.slb (by omega) rfl
  have Hsl : Hid (0 < n → ∀ b o, a = some ⟨b, o, none⟩ → b < w.heap.size) := hsl
  clear hsl
  go_enter Tryd.func57, Tryd.ntmps57
  go_wp2_with (refine wpList_allocR rfl 113 rfl _ zero113 ?_; intro g3 w1 b1 z1 k1; rw [← mks_zero l] at b1)
  have hl1 := hl.keep k1
  go_loopw [9] (fun t wr => ∃ i : Nat, i ≤ n ∧ t = .int .i64 (i : Int) ∧ RoAt wr g3 113 (mks l i 0) ∧ Hid (∀ j, j < i → okI l j = true) ∧ Keeps (fun k => k = g3) w1 wr) (fun t _ => n - (intOf t).toNat)
  case atStart => exact ⟨0, by omega, rfl, b1, (fun j hj => by omega), Keeps.refl _ _⟩
  case round =>
    obtain ⟨i, hi, rfl, B, HA, KW⟩ := hrel
    by_cases hlt : i < n
    · have hlt' : (i : Int) < (n : Int) := by omega
      have hi0 : (0 : Int) ≤ (i : Int) := by omega
      have hic : (i : Int) ≤ (i : Int) + 1 := by omega
      have hcc : (i : Int) + 1 ≤ (c : Int) := by omega
      have hc1 : 1 ≤ c - i := by omega
      obtain ⟨b, o, rfl, E1⟩ := (hl1.keeps KW (fun h0 b o e h => by have := Hsl.out h0 b o e; omega)).ent hlt
      obtain ⟨e, he⟩ : ∃ e, l.getD i default = e := ⟨_, rfl⟩
      have HE : Hid (l.getD i default = e) := he
      rw [he] at E1
      clear he
      have le := E1.len
      have lb := B.lt
      cases ho : one e with
      | false =>
        have HG : Hid (gd [e] = false) := by show _ = _; rw [gd_sing, ho]
        have HO : Hid (okI l i = false) := okI_one (by rw [HE.out]; exact ho)
        clear ho
        go_wp2_with (first
          | (refine wpList_load46 rfl _ rfl b (o + i * 35) rfl e E1 ?_)
          | (refine wpList_alloc46 rfl rfl ?_; intro ge w6 r6 z6 k6)
          | (refine wpList_store46 rfl _ _ rfl ge rfl e rfl le _ r6 ?_; intro w7 r7 k7; have E7 := (E1.keep k6).keeps k7 (fun e => by have := slb_lt E1.slb (by omega) rfl; omega))
          | (go_at_call 23; refine (good23_at HG.out _ _ _ _ (SlE.just E7 hc1)).mono ?_; rintro e w8 ⟨rfl, k8⟩))
        go_ret
        exact ⟨by rw [apt_no (by rw [Hlen.out]; exact hlt) HO.out]; rfl, (k1.trans' KW (fun i e => .inr (by omega))).trans ((k6.trans' k7 (fun i e => .inr (by omega))).trans k8)⟩
      | true =>
        have HG : Hid (gd [e] = true) := by show _ = _; rw [gd_sing, ho]
        have HO : Hid (one (l.getD i default) = true) := by show _ = _; rw [HE.out]; exact ho
        unfold one at ho
        simp only [decide_eq_true_eq] at ho
        obtain ⟨p1, p2, p3, p4, p5, p6, p7⟩ := ho
        clear p6 p7
        obtain ⟨bn, hbn⟩ : ∃ bn : Nat, e.blocks = (bn : Int) := ⟨e.blocks.toNat, by omega⟩
        obtain ⟨pn, hpn⟩ : ∃ pn : Nat, e.place = (pn : Int) := ⟨e.place.toNat, by omega⟩
        rw [hpn] at p1 p2 p5
        rw [hbn] at p3 p4 p5
        have HB : Hid ((l.getD i default).blocks = (bn : Int)) := by show _ = _; rw [HE.out, hbn]
        have HP : Hid ((l.getD i default).place = (pn : Int)) := by show _ = _; rw [HE.out, hpn]
        have p5' : pn + bn ≤ 128 := by omega
        go_wp2_with (first
          | (refine wpList_load46 rfl _ rfl b (o + i * 35) rfl e E1 ?_)
          | (refine wpList_alloc46 rfl rfl ?_; intro ge w6 r6 z6 k6)
          | (refine wpList_store46 rfl _ _ rfl ge rfl e rfl le _ r6 ?_; intro w7 r7 k7; have E7 := (E1.keep k6).keeps k7 (fun e => by have := slb_lt E1.slb (by omega) rfl; omega))
          | (go_at_call 23; refine (good23_at HG.out _ _ _ _ (SlE.just E7 hc1)).mono ?_; rintro ed w8 ⟨rfl, k8⟩; have r8 := r7.keep k8; have c33 := r8.at_.blocks; rw [Nat.zero_add, hbn] at c33))
        have K8 : Keeps (fun _ => False) wr w8 := (k6.trans' k7 (fun i e => .inr (by omega))).trans k8
        have B8 := B.keep K8
        have hge : ge ≠ g3 := by omega
        clear r6 r7 k6 k7 k8 E7 c33 B
        go_loopw [23] (fun t wq => ∃ j : Nat, j ≤ bn ∧ t = .int .i64 (j : Int) ∧ RoAt wq g3 113 (mks l i j) ∧ Hid (∀ q p : Nat, q < j → (p : Int) = (pn : Int) + q → tkn l i p = false) ∧ Keeps (fun k => k = g3) w8 wq) (fun t _ => bn - (intOf t).toNat)
        case atStart => exact ⟨0, by omega, rfl, B8, (fun q p hq => by omega), Keeps.refl _ _⟩
        case round =>
          obtain ⟨j, hj, rfl, BQ, HQ, KQ⟩ := hrel
          by_cases hjb : j < bn
          · have hjb' : (j : Int) < (bn : Int) := by omega
            obtain ⟨P, hP⟩ : ∃ P : Nat, pn + j = P := ⟨_, rfl⟩
            have hPi : (pn : Int) + (j : Int) = (P : Int) := by omega
            have hP0 : (0 : Int) ≤ (P : Int) := by omega
            have hP1 : (P : Int) < 128 := by omega
            have hP2 : P < 128 := by omega
            have HPp : Hid ((P : Int) = (l.getD i default).place + (j : Int)) := by show _ = _; rw [HP.out]; omega
            have c32 := (r8.keeps KQ hge).at_.place
            rw [Nat.zero_add, hpn] at c32
            have f3 := BQ.live P
            have cm := BQ.cell P
            rw [mks_get hP2, mkd_at HPp.out] at cm
            obtain ⟨v, hv⟩ : ∃ v, tkn l i P = v := ⟨_, rfl⟩
            have HV : Hid (tkn l i P = v) := hv
            rw [hv] at cm
            have HS : Hid ((mks l i j).setIfInBounds P (.bool true) = mks l i (j + 1)) := mks_set HPp.out
            clear hv hP
            cases v with
            | true =>
              go_wp2
              go_ret
              have HO2 : okI l i = false := ovl_of HPp.out (by rw [HB.out]; exact hjb') HV.out
              exact ⟨by rw [apt_no (by rw [Hlen.out]; exact hlt) HO2]; rfl, k1.trans' (KW.trans (K8.mono (fun _ _ h => h.elim) |>.trans KQ)) (fun i e => .inr (by omega))⟩
            | false =>
              go_wp2
              have KS := KQ.setCell (p := ⟨g3, P, none⟩) (.inl rfl) (.bool true)
              have BS := BQ.set P (.bool true)
              rw [HS.out] at BS
              exact ⟨⟨j + 1, by omega, by go_num, BS, (fun q p hq hp => by
                by_cases h : q < j
                · exact HQ.out q p h hp
                · obtain rfl : q = j := (by omega)
                  obtain rfl : p = P := (by omega)
                  exact HV.out), KS⟩, by simp [intOf]; omega⟩
          · obtain rfl : j = bn := by omega
            have hjb' : ¬ (j : Int) < (j : Int) := by omega
            have HO2 : Hid (okI l i = true) := okI_of HO.out (by rw [HP.out]; omega) (fun q p hq hp => HQ.out q p (by rw [HB.out] at hq; omega) (by rw [HP.out] at hp; exact hp)) (fun k hk => by
              have := (okI_iff.1 (HA.out k hk)).1
              unfold one at this
              simp only [decide_eq_true_eq] at this
              omega) (by rw [HB.out]; omega)
            rw [mks_next HB.out] at BQ
            go_wp2
            exact ⟨⟨i + 1, by omega, by go_num, BQ, (fun q hq => by
              by_cases h : q < i
              · exact HA.out q h
              · obtain rfl : q = i := (by omega)
                exact HO2.out), KW.trans (K8.mono (fun _ _ h => h.elim) |>.trans KQ)⟩, by simp [intOf]; omega⟩
    · have hlt' : ¬ (i : Int) < (n : Int) := by omega
      have HR : Hid (apt l = true) := apt_iff.2 fun j hj => HA.out j (by rw [Hlen.out] at hj; omega)
      go_wp2
      go_ret
      exact ⟨by rw [HR.out]; rfl, k1.trans' KW (fun i e => .inr (by omega))⟩
theorem apart_at {l : List En} {v : Bool} (h : apt l = v) (w : World) (a : Option Addr) (n c : Nat) (hl : SlE w a n c l) (hn : n ≤ 9223372036854775806) :
    Calls Tryd.prog 57 #[.slice a n c] w fun e w' => e = .returned (.bool v) ∧ Keeps (fun _ => False) w w' := by
  rw [← h]; exact apart57 w a n c l hl hn

/-- An index. -/
def ix (l : List En) : Bool := rises l && apt l
set_option maxRecDepth 100000 in
theorem good34 (w : World) (a : Option Addr) (n c : Nat) (l : List En) (hl : SlE w a n c l) (hn : n ≤ 9223372036854775806) :
    Calls Tryd.prog 34 #[.slice a n c] w fun e w' => e = .returned (.bool (ix l)) ∧ Keeps (fun _ => False) w w' := by
  obtain ⟨v, hv⟩ : ∃ v, rises l = v := ⟨_, rfl⟩
  obtain ⟨u, hu⟩ : ∃ u, apt l = u := ⟨_, rfl⟩
  have HV : Hid (rises l = v) := hv
  have HU : Hid (apt l = u) := hu
  have HI : Hid (ix l = (v && u)) := by show _ = _; unfold ix; rw [hv, hu]
  clear hv hu
  cases v
  all_goals
    go_enter Tryd.func34, Tryd.ntmps34
    go_wp2_with (first
      | (go_at_call 55; refine (byKey55 _ a n c).mono ?_; rintro e w1 ⟨rfl, k1⟩)
      | (go_at_call 56; refine (rises_at HV.out _ a n c (hl.keep k1) (by omega)).mono ?_; rintro e w2 ⟨rfl, k2⟩; have K2 := k1.trans k2)
      | (go_at_call 57; refine (apart_at HU.out _ a n c (hl.keep K2) hn).mono ?_; rintro e w3 ⟨rfl, k3⟩))
    go_ret
  · exact ⟨by rw [HI.out]; rfl, K2⟩
  · exact ⟨by rw [HI.out]; rfl, K2.trans k3⟩

end Go.Proofs.YthngaegfppbdmaaDoor
