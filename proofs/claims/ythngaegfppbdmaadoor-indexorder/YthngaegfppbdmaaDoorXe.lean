/-
  The finding of a key, of the program and of the reference.
-/
import Derived.Test.YthngaegfppbdmaaDoorXd
set_option linter.all false
namespace Go.Proofs.YthngaegfppbdmaaDoor
open Go.RowKit Go.Sort Go.Shelf
attribute [local go_sem] Oper.semAt_some

def fnd : List En → List B → Nat
  | [], _ => 0
  | e :: l, key => if lessB e.key key = true then fnd l key + 1 else 0
def ths (l : List En) (key : List B) : Bool := decide (fnd l key < l.length) && !lessB key (l.getD (fnd l key) default).key
theorem fnd_is {key : List B} : ∀ {l : List En} {k : Nat}, k ≤ l.length → (∀ t, t < k → lessB (l.getD t default).key key = true) → (k < l.length → lessB (l.getD k default).key key = false) → fnd l key = k
  | [], k, hk, _, _ => by simp at hk; subst hk; rfl
  | e :: l, 0, _, _, h2 => by
    have := h2 (by simp)
    simp at this
    unfold fnd
    rw [this]; rfl
  | e :: l, k + 1, hk, h1, h2 => by
    have h0 := h1 0 (by omega)
    simp at h0
    unfold fnd
    rw [if_pos h0, fnd_is (l := l) (k := k) (by simp at hk; omega) (fun t ht => by have := h1 (t + 1) (by omega); simpa using this) (fun h => by have := h2 (by simp; omega); simpa using this)]
theorem less_tr {x y z : List B} (h1 : lessB x y = true) (h2 : lessB y z = true) : lessB x z = true := by
  unfold lessB at *
  simp only [decide_eq_true_eq] at *
  exact cmp_trans _ _ _ h1 h2
theorem rises_lt {l : List En} (h : rises l = true) (s : Nat) : ∀ t, s < t → t < l.length → lessB (l.getD s default).key (l.getD t default).key = true
  | 0, h1, _ => by omega
  | t + 1, h1, h2 => by
    have ho := rises_iff.1 h (t + 1) h2
    unfold ordB at ho
    rw [decide_eq_false (by omega), Bool.false_or, Nat.add_sub_cancel] at ho
    by_cases e : s = t
    · subst e; exact ho
    · exact less_tr (rises_lt h s t (by omega) (by omega)) ho
theorem rises_mono {l : List En} (h : rises l = true) (key : List B) (i j : Nat) (hij : i ≤ j) (hj : j < l.length) (hp : (!lessB (l.getD i default).key key) = true) : (!lessB (l.getD j default).key key) = true := by
  by_cases e : i = j
  · subst e; exact hp
  · cases hq : lessB (l.getD j default).key key with
    | false => rfl
    | true =>
      have := less_tr (rises_lt h i j (by omega) hj) hq
      rw [this] at hp; cases hp

set_option maxHeartbeats 4000000 in
theorem find58 (w : World) (a : Option Addr) (n c : Nat) (l : List En) (hl : SlE w a n c l) (hn : n ≤ 4611686018427387903) (hr : rises l = true) (key : List B) (lk : key.length = 32) :
    Calls Tryd.prog 58 #[bk a n c, .agg (brow key)] w fun e w' => e = .returned (.tuple #[.int .i64 (fnd l key : Nat), .bool (ths l key)]) ∧ Keeps (fun _ => False) w w' := by
  have Hlen : Hid (l.length = n) := hl.len
  have HM : Hid (∀ i j, i ≤ j → j < n → (!lessB (l.getD i default).key key) = true → (!lessB (l.getD j default).key key) = true) := fun i j hij hj => rises_mono hr key i j hij (by rw [Hlen.out]; exact hj)
  clear hr
  unfold bk
  go_enter Tryd.func58, Tryd.ntmps58
  go_wp2_with (first
    | (refine wpList_boxR rfl 95 _ rfl _ rfl ?_; intro g2 w1 b1 z1 k1)
    | (refine wpList_boxR rfl 52 _ rfl _ rfl ?_; intro g3 w2 b2 z2 k2; have K2 := k1.trans k2; have d1 := b1.keep k2; have cl0 := d1.cell 0; simp only [List.getElem?_toArray, List.getElem?_cons_zero] at cl0)
    | (go_at_call 71; refine (search71 _ n hn _ _ (fun i => !lessB (l.getD i default).key key) (fun wr kr i hi => (below72 wr a n c l ((hl.keep K2).keep kr) key lk g2 g3 (d1.keep kr) (b2.keep kr) i hi)) HM.out).mono ?_; rintro e w3 ⟨k, rfl, hk, hA, hB, k3⟩; have HA : Hid (∀ t, t < k → (!lessB (l.getD t default).key key) = false) := hA; have HB : Hid (∀ t, k ≤ t → t < n → (!lessB (l.getD t default).key key) = true) := hB; clear hA hB))
  have B2 := d1.keep k3
  have B3 := b2.keep k3
  have HF : Hid (fnd l key = k) := fnd_is (by rw [Hlen.out]; exact hk) (fun t ht => by have := HA.out t ht; simpa using this) (fun h => by have := HB.out k (Nat.le_refl _) (by rw [← Hlen.out]; exact h); simpa using this)
  have c0 : ∀ d os, (grow (redrawn w3 d) os).cell? ⟨g2, 0, none⟩ = some (.slice a n c) := fun d os => (B2.cls ⟨⟨d, os⟩, rfl⟩).cell 0
  have c1 : ∀ d os, (grow (redrawn w3 d) os).cell? ⟨g2, 1, none⟩ = some (.func (.func 70) #[] #[]) := fun d os => (B2.cls ⟨⟨d, os⟩, rfl⟩).cell 1
  have c2 : ∀ d os, (grow (redrawn w3 d) os).cell? ⟨g2, 2, none⟩ = some (.func (.func 62) #[] #[]) := fun d os => (B2.cls ⟨⟨d, os⟩, rfl⟩).cell 2
  have K3 := K2.trans k3
  by_cases hlt : k < n
  · have hlt' : (k : Int) < (n : Int) := by omega
    have hi0 : (0 : Int) ≤ (k : Int) := by omega
    obtain ⟨b, o, rfl, E1⟩ := (hl.keep K3).ent hlt
    obtain ⟨v, hv⟩ : ∃ v, lessB key (l.getD k default).key = v := ⟨_, rfl⟩
    have HL : Hid (lessB key (l.getD k default).key = v) := hv
    have HT : Hid (ths l key = !v) := by show _ = _; unfold ths; rw [HF.out, decide_eq_true (by rw [Hlen.out]; exact hlt), Bool.true_and, hv]
    clear hv
    generalize l.getD k default = e1 at *
    have l1 := E1.len
    refine wp_region_quiet_below (by kernel_rfl) (by kernel_rfl) ?_
    repeat (first
      | go_big_quiet_step (fail)
      | (go_big_quiet_want; refine quiet_load46 _ rfl b (o + k * 35) rfl e1 (fun w' hp => E1.cls hp) ?_; simp only [Act.put, List.setIfInBounds_toArray, List.set_cons_zero, List.set_cons_succ]; go_big_quiet_on)
      | (go_big_quiet_want; refine quiet_loadR 52 _ rfl g3 rfl (brow key) (by rw [size_brow, lk]; exact rowTy52) (fun w' hp => B3.cls hp) ?_; simp only [Act.put, List.setIfInBounds_toArray, List.set_cons_zero, List.set_cons_succ]; go_big_quiet_on)
      | (go_big_quiet_want; go_big_quiet_op; apply Exists.intro; refine ⟨fun _ => call_cls (less_of HL _ lk l1) ⟨_, rfl⟩, ?_⟩; go_big_quiet_on)
      | (go_big_quiet_want; go_big_quiet_op; apply Exists.intro; refine ⟨fun _ => call_cls (key70 _ e1 l1) ⟨_, rfl⟩, ?_⟩; go_big_quiet_on))
    refine wpQuiet_nil ?_
    intro w5 hw5
    go_wp2
    go_ret2
    exact ⟨by rw [HF.out, HT.out]; rfl, K3.trans (keeps_cls hw5)⟩
  · have hlt' : ¬ (k : Int) < (n : Int) := by omega
    have HT : Hid (ths l key = false) := by show _ = _; unfold ths; rw [HF.out, decide_eq_false (by rw [Hlen.out]; exact hlt), Bool.false_and]
    refine wp_region_quiet_below (by kernel_rfl) (by kernel_rfl) ?_
    repeat (first
      | go_big_quiet_step (fail))
    refine wpQuiet_nil ?_
    intro w5 hw5
    go_wp2
    go_ret2
    exact ⟨by rw [HF.out, HT.out]; rfl, K3.trans (keeps_cls hw5)⟩

end Go.Proofs.YthngaegfppbdmaaDoor
