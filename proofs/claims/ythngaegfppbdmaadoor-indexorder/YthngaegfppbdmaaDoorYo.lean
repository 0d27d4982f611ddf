/-
  IndexOrder: the walk.
-/
import Derived.Test.YthngaegfppbdmaaDoorXy
set_option linter.all false
namespace Go.Proofs.YthngaegfppbdmaaDoor
open Go.RowKit Go.Sort Go.Shelf
attribute [local go_sem] Oper.semAt_some

theorem less_eq {x y : List B} (h1 : lessB x y = false) (h2 : lessB y x = false) : x = y := by
  rcases less_ways x y [] with ⟨_, _, h⟩ | ⟨_, h, _⟩ | ⟨h, _⟩ | ⟨h, _⟩
  · exact of_decide_eq_true h
  · rw [h2] at h; cases h
  · rw [h1] at h; cases h
  · rw [h1] at h; cases h
theorem fnd_lt {key : List B} : ∀ {l : List En} {t : Nat}, t < fnd l key → lessB (l.getD t default).key key = true
  | [], t, h => by simp [fnd] at h
  | e :: l, t, h => by
    unfold fnd at h
    split at h
    · rename_i h1
      cases t with
      | zero => exact h1
      | succ t => exact fnd_lt (l := l) (t := t) (by omega)
    · omega
theorem fnd_ge {key : List B} : ∀ {l : List En}, fnd l key < l.length → lessB (l.getD (fnd l key) default).key key = false
  | [], h => by simp at h
  | e :: l, h => by
    unfold fnd at h ⊢
    split
    · rename_i h1
      rw [if_pos h1] at h
      exact fnd_ge (l := l) (by simpa using h)
    · rename_i h1
      simpa using h1
theorem ths_at {l : List En} {key : List B} (h : ths l key = true) : fnd l key < l.length ∧ (l.getD (fnd l key) default).key = key := by
  unfold ths at h
  simp only [Bool.and_eq_true, decide_eq_true_eq, Bool.not_eq_true'] at h
  exact ⟨h.1, less_eq (fnd_ge h.1) h.2⟩
theorem ths_not {l : List En} {key : List B} (h : ths l key = false) (hk : fnd l key < l.length) : lessB key (l.getD (fnd l key) default).key = true := by
  unfold ths at h
  rw [decide_eq_true hk, Bool.true_and] at h
  simpa using h

theorem ins_len (l : List En) (x : En) : (ins l x).length = l.length + 1 := by
  have := fnd_le x.key l
  unfold ins
  simp; omega
theorem ins_lt {l : List En} {x : En} {t : Nat} (h : t < fnd l x.key) : (ins l x).getD t default = l.getD t default := by
  have := fnd_le x.key l
  unfold ins
  rw [List.getD_eq_getElem?_getD, List.getD_eq_getElem?_getD, List.getElem?_append_left (by rw [List.length_take]; omega), List.getElem?_take, if_pos h]
theorem ins_eq (l : List En) (x : En) : (ins l x).getD (fnd l x.key) default = x := by
  have := fnd_le x.key l
  unfold ins
  rw [List.getD_eq_getElem?_getD, List.getElem?_append_right (by rw [List.length_take]; omega), List.length_take, Nat.min_eq_left this, Nat.sub_self]
  rfl
theorem ins_gt {l : List En} {x : En} {t : Nat} (h : fnd l x.key < t) : (ins l x).getD t default = l.getD (t - 1) default := by
  have := fnd_le x.key l
  unfold ins
  rw [List.getD_eq_getElem?_getD, List.getD_eq_getElem?_getD, List.getElem?_append_right (by rw [List.length_take]; omega), List.length_take, Nat.min_eq_left this]
  obtain ⟨d, rfl⟩ : ∃ d, t = fnd l x.key + 1 + d := ⟨t - (fnd l x.key + 1), by omega⟩
  rw [show fnd l x.key + 1 + d - fnd l x.key = d + 1 by omega, List.singleton_append, List.getElem?_cons_succ, List.getElem?_drop, show fnd l x.key + 1 + d - 1 = fnd l x.key + d by omega]
theorem rises_ins {l : List En} {x : En} (hr : rises l = true) (ht : ths l x.key = false) : rises (ins l x) = true := by
  refine rises_iff.2 fun i hi => ?_
  rw [ins_len] at hi
  unfold ordB
  by_cases h0 : i = 0
  · subst h0; rfl
  · rw [decide_eq_false h0, Bool.false_or]
    obtain ⟨j, rfl⟩ : ∃ j, i = j + 1 := ⟨i - 1, by omega⟩
    rw [Nat.add_sub_cancel]
    rcases Nat.lt_trichotomy (j + 1) (fnd l x.key) with h | h | h
    · rw [ins_lt h, ins_lt (by omega)]
      exact rises_less hr (by have := fnd_le x.key l; omega)
    · rw [ins_lt (by omega), h, ins_eq]
      exact fnd_lt (by omega)
    · rw [ins_gt h, Nat.add_sub_cancel]
      by_cases e : j = fnd l x.key
      · rw [e, ins_eq]
        exact ths_not ht (by omega)
      · rw [ins_gt (by omega)]
        obtain ⟨q, rfl⟩ : ∃ q, j = q + 1 := ⟨j - 1, by omega⟩
        exact rises_less hr (by omega)
theorem fnd_ins (l : List En) (x : En) : fnd (ins l x) x.key = fnd l x.key := by
  have := fnd_le x.key l
  refine fnd_is (by rw [ins_len]; omega) (fun t ht => ?_) (fun _ => ?_)
  · rw [ins_lt ht]; exact fnd_lt ht
  · rw [ins_eq]; exact less_self _
theorem ths_ins (l : List En) (x : En) : ths (ins l x) x.key = true := by
  have := fnd_le x.key l
  unfold ths
  rw [fnd_ins, ins_eq, less_self, decide_eq_true (by rw [ins_len]; omega)]; rfl
theorem ins_take (l : List En) (x : En) : (ins l x).take (fnd l x.key) = l.take (fnd l x.key) := by
  have := fnd_le x.key l
  unfold ins
  rw [List.take_append_of_le_length (by rw [List.length_take]; omega), List.take_take, Nat.min_self]
theorem ins_drop (l : List En) (x : En) : (ins l x).drop (fnd l x.key + 1) = l.drop (fnd l x.key) := by
  have := fnd_le x.key l
  unfold ins
  rw [List.drop_append, List.drop_of_length_le (by rw [List.length_take]; omega), List.length_take, Nat.min_eq_left this, List.nil_append, show fnd l x.key + 1 - fnd l x.key = 1 by omega]
  rfl
theorem del_ins (l : List En) (x : En) : del (ins l x) x.key = l := by
  unfold del
  rw [fnd_ins, ins_take, ins_drop, List.take_append_drop]
theorem del_take {l : List En} {key : List B} (h : fnd l key < l.length) : (del l key).take (fnd l key) = l.take (fnd l key) := by
  unfold del
  rw [List.take_append_of_le_length (by rw [List.length_take]; omega), List.take_take, Nat.min_self]
theorem del_drop {l : List En} {key : List B} (h : fnd l key < l.length) : (del l key).drop (fnd l key) = l.drop (fnd l key + 1) := by
  unfold del
  rw [List.drop_append, List.drop_of_length_le (by rw [List.length_take]; omega), List.length_take, Nat.min_eq_left (by omega), List.nil_append, Nat.sub_self, List.drop_zero]
theorem del_len {l : List En} {key : List B} (h : fnd l key < l.length) : (del l key).length = l.length - 1 := by
  unfold del
  rw [List.length_append, List.length_take, List.length_drop]; omega

theorem rising_at {l : List En} {v : Bool} (h : rises l = v) (w : World) (a : Option Addr) (n c : Nat) (hl : SlE w a n c l) (hn : n ≤ 9223372036854775807) :
    Calls Tryd.prog 39 #[.slice a n c] w fun e w' => e = .returned (.bool v) ∧ Keeps (fun _ => False) w w' := by
  rw [← h]; exact rising39 w a n c l hl hn
theorem OwnE.sliceN {w : World} {base n : Nat} {v : Value} {l : List En} (h : OwnE w base v l) (hn : l.length = n) : ∃ a c, v = .slice a n c ∧ SlE w a n c l ∧ (∀ b o, a = some ⟨b, o, none⟩ → base ≤ b) ∧ (a = none → c = 0) := by
  obtain ⟨a, c, e, s, hb⟩ := h.slice
  rw [hn] at e s
  refine ⟨a, c, e, s, hb, fun ha => ?_⟩
  subst ha
  obtain ⟨_, ⟨e', _⟩ | ⟨g, cap, cur, e', _⟩⟩ := h.owns
  · rw [e] at e'; cases e'; rfl
  · rw [e] at e'; cases e'

theorem set_keyed {M : List En} (h : Keyed M) {i : Nat} {e : En} (he : e.key.length = 32) : Keyed (M.set i e) := fun x hx => by
  rcases List.mem_or_eq_of_mem_set hx with h1 | h1
  · exact h x h1
  · rw [h1]; exact he
theorem OwnE.n {w : World} {base g n c : Nat} {M : List En} (h : OwnE w base (.slice (some ⟨g, 0, none⟩) n c) M) : M.length = n := by
  obtain ⟨h1, ⟨e, _⟩ | ⟨g', cap, cur, e, _⟩⟩ := h.owns <;> cases e
  rfl
theorem OwnE.at_ {w : World} {base g n c : Nat} {M : List En} (h : OwnE w base (.slice (some ⟨g, 0, none⟩) n c) M) : SlE w (some ⟨g, 0, none⟩) n c M := by
  obtain ⟨a, c', e, s, _⟩ := h.slice
  rw [h.n] at e s
  cases e
  exact s
theorem OwnE.blk {w : World} {base n : Nat} {v : Value} {l : List En} (h : OwnE w base v l) (hn : l.length = n) (h0 : 0 < n) : ∃ g c, v = .slice (some ⟨g, 0, none⟩) n c ∧ base ≤ g ∧ g < w.heap.size := by
  obtain ⟨h1, ⟨_, e⟩ | ⟨g', cap, cur, e, hb, hg, _⟩⟩ := h.owns
  · omega
  · exact ⟨g', cap, by rw [e, hn], hb, lt_of_row hg⟩


/-! Entries laid in one by one. -/
def addR (L : List En) (x : En) : List En := if ths L x.key = true then L else ins L x
def bld (f : Nat → En) : Nat → List En
  | 0 => []
  | i + 1 => addR (bld f i) (f i)
def rep : List En → En → En
  | [], e => e
  | d :: l, e => if d.key = e.key then d else rep l e
theorem rises_add {L : List En} (h : rises L = true) (x : En) : rises (addR L x) = true := by
  unfold addR
  split
  · exact h
  · rename_i ht
    exact rises_ins h (by simpa using ht)
theorem rises_bld (f : Nat → En) : ∀ i, rises (bld f i) = true
  | 0 => rfl
  | i + 1 => rises_add (rises_bld f i) _
theorem mem_ins {L : List En} {x y : En} : y ∈ ins L x ↔ y = x ∨ y ∈ L := by
  have h : L = L.take (fnd L x.key) ++ L.drop (fnd L x.key) := (List.take_append_drop _ _).symm
  unfold ins
  constructor
  · intro hy
    rcases List.mem_append.1 hy with h1 | h1
    · exact .inr (List.mem_of_mem_take h1)
    · rcases List.mem_append.1 h1 with h2 | h2
      · exact .inl (by simpa using h2)
      · exact .inr (List.mem_of_mem_drop h2)
  · rintro (rfl | hy)
    · simp
    · rw [h] at hy
      rcases List.mem_append.1 hy with h1 | h1
      · exact List.mem_append.2 (.inl h1)
      · exact List.mem_append.2 (.inr (List.mem_append.2 (.inr h1)))
theorem getD_of_mem {L : List En} {y : En} (h : y ∈ L) : ∃ i, i < L.length ∧ L.getD i default = y := by
  obtain ⟨i, hi, rfl⟩ := List.getElem_of_mem h
  exact ⟨i, hi, by rw [List.getD_eq_getElem?_getD, List.getElem?_eq_getElem hi]; rfl⟩
theorem ths_mem {L : List En} (h : rises L = true) {y : En} (hy : y ∈ L) : ths L y.key = true := by
  obtain ⟨i, hi, rfl⟩ := getD_of_mem hy
  have hf : fnd L (L.getD i default).key = i := fnd_is (by omega) (fun t ht => rises_lt h t i ht hi) (fun _ => less_self _)
  unfold ths
  rw [hf, decide_eq_true hi, less_self]; rfl
theorem mem_of_ths {L : List En} {k : List B} (h : ths L k = true) : ∃ y ∈ L, y.key = k := ⟨_, getD_mem (ths_at h).1, (ths_at h).2⟩
theorem bld_mem {f : Nat → En} : ∀ {i : Nat} {y : En}, y ∈ bld f i → ∃ j, j < i ∧ y = f j
  | 0, y, h => by cases h
  | i + 1, y, h => by
    unfold bld addR at h
    split at h
    · obtain ⟨j, h1, h2⟩ := bld_mem h
      exact ⟨j, by omega, h2⟩
    · rcases mem_ins.1 h with rfl | h
      · exact ⟨i, by omega, rfl⟩
      · obtain ⟨j, h1, h2⟩ := bld_mem h
        exact ⟨j, by omega, h2⟩
theorem bld_has {f : Nat → En} : ∀ {i j : Nat}, j < i → ∃ y ∈ bld f i, y.key = (f j).key
  | 0, j, h => by omega
  | i + 1, j, h => by
    unfold bld addR
    by_cases e : j = i
    · subst e
      split
      · rename_i ht; exact mem_of_ths ht
      · exact ⟨f j, mem_ins.2 (.inl rfl), rfl⟩
    · obtain ⟨y, h1, h2⟩ := bld_has (f := f) (i := i) (j := j) (by omega)
      split
      · exact ⟨y, h1, h2⟩
      · exact ⟨y, mem_ins.2 (.inr h1), h2⟩
theorem bld_len (f : Nat → En) : ∀ i, (bld f i).length ≤ i
  | 0 => Nat.le_refl _
  | i + 1 => by
    have := bld_len f i
    unfold bld addR
    split
    · omega
    · rw [ins_len]; omega
theorem rep_key : ∀ (l : List En) (e : En), (rep l e).key = e.key
  | [], e => rfl
  | d :: l, e => by
    unfold rep
    split
    · assumption
    · exact rep_key l e
theorem rep_congr {e d : En} (h : e.key = d.key) : ∀ {l : List En}, (∃ x ∈ l, x.key = e.key) → rep l e = rep l d
  | [], ⟨x, hx, _⟩ => by cases hx
  | y :: l, ⟨x, hx, hk⟩ => by
    unfold rep
    rw [h]
    split
    · rfl
    · rename_i hn
      rcases List.mem_cons.1 hx with rfl | hx
      · exact absurd (hk.trans h) hn
      · exact rep_congr h ⟨x, hx, hk⟩
theorem rep_at {e : En} : ∀ {l : List En} {i : Nat}, i < l.length → (l.getD i default).key = e.key → (∀ j, j < i → (l.getD j default).key ≠ e.key) → rep l e = l.getD i default
  | [], i, hi, _, _ => by simp at hi
  | d :: l, 0, _, h, _ => by unfold rep; rw [if_pos (by simpa using h)]; rfl
  | d :: l, i + 1, hi, h, hn => by
    unfold rep
    rw [if_neg (by have := hn 0 (by omega); simpa using this)]
    rw [rep_at (l := l) (i := i) (by simpa using hi) (by simpa using h) (fun j hj => by have := hn (j + 1) (by omega); simpa using this)]
    simp
theorem rep_no {e : En} : ∀ {l : List En}, (∀ j, j < l.length → (l.getD j default).key ≠ e.key) → rep l e = e
  | [], _ => rfl
  | d :: l, hn => by
    unfold rep
    rw [if_neg (by have := hn 0 (by simp); simpa using this)]
    exact rep_no fun j hj => by have := hn (j + 1) (by simpa using hj); simpa using this
theorem pw_of_rises {L : List En} (h : rises L = true) : L.Pairwise fun x y => lessB x.key y.key = true := by
  refine List.pairwise_iff_getElem.2 fun i j hi hj hij => ?_
  have := rises_lt h i j hij hj
  rw [List.getD_eq_getElem?_getD, List.getD_eq_getElem?_getD, List.getElem?_eq_getElem hi, List.getElem?_eq_getElem hj] at this
  exact this
theorem pw_ext : ∀ {A C : List En}, (A.Pairwise fun x y => lessB x.key y.key = true) → (C.Pairwise fun x y => lessB x.key y.key = true) → (∀ x, x ∈ A ↔ x ∈ C) → A = C
  | [], [], _, _, _ => rfl
  | [], c :: C, _, _, h => by have := (h c).2 (by simp); cases this
  | a :: A, [], _, _, h => by have := (h a).1 (by simp); cases this
  | a :: A, c :: C, hA, hC, h => by
    obtain ⟨h1, h2⟩ := List.pairwise_cons.1 hA
    obtain ⟨h3, h4⟩ := List.pairwise_cons.1 hC
    have e : a = c := by
      rcases List.mem_cons.1 ((h a).1 (by simp)) with e | e
      · exact e
      · rcases List.mem_cons.1 ((h c).2 (by simp)) with e' | e'
        · exact e'.symm
        · have := less_asymm (h3 a e)
          rw [h1 c e'] at this; cases this
    subst e
    rw [pw_ext h2 h4 fun x => ⟨fun hx => by
      rcases List.mem_cons.1 ((h x).1 (List.mem_cons_of_mem _ hx)) with rfl | h5
      · have := h1 x hx; rw [less_self] at this; cases this
      · exact h5, fun hx => by
      rcases List.mem_cons.1 ((h x).2 (List.mem_cons_of_mem _ hx)) with rfl | h5
      · have := h3 x hx; rw [less_self] at this; cases this
      · exact h5⟩]
theorem bld_sub {f g : Nat → En} {n : Nat} (hr : ∀ j, j < n → ∃ i, i < n ∧ f j = g i) (hc : ∀ i j, i < n → j < n → (g i).key = (g j).key → g i = g j) : ∀ x, x ∈ bld f n → x ∈ bld g n := fun x hx => by
  obtain ⟨j, hj, rfl⟩ := bld_mem hx
  obtain ⟨i, hi, e⟩ := hr j hj
  obtain ⟨y, hy, hk⟩ := bld_has (f := g) (i := n) hi
  obtain ⟨q, hq, rfl⟩ := bld_mem hy
  rw [e, ← hc q i hq hi hk]; exact hy
/-- The entries of O are those of l, in some order. -/
structure Prm (l O : List En) : Prop where
  len : O.length = l.length
  to : ∀ j, j < l.length → ∃ i, i < l.length ∧ O.getD j default = l.getD i default
  fro : ∀ j, j < l.length → ∃ i, i < l.length ∧ l.getD j default = O.getD i default
theorem Prm.refl (l : List En) : Prm l l := ⟨rfl, fun j hj => ⟨j, hj, rfl⟩, fun j hj => ⟨j, hj, rfl⟩⟩
theorem bld_eq {l O : List En} (h : Prm l O) : bld (fun j => rep l (l.getD j default)) l.length = bld (fun j => rep l (O.getD j default)) l.length := by
  have hin : ∀ j, j < l.length → ∃ x ∈ l, x.key = (l.getD j default).key := fun j hj => ⟨_, getD_mem hj, rfl⟩
  have hc1 : ∀ i j, i < l.length → j < l.length → (rep l (l.getD i default)).key = (rep l (l.getD j default)).key → rep l (l.getD i default) = rep l (l.getD j default) := fun i j hi hj hk => by
    rw [rep_key, rep_key] at hk
    exact rep_congr hk (hin i hi)
  refine pw_ext (pw_of_rises (rises_bld _ _)) (pw_of_rises (rises_bld _ _)) fun x => ⟨bld_sub (fun j hj => ?_) (fun i j hi hj hk => ?_) x, bld_sub (fun j hj => ?_) hc1 x⟩
  · obtain ⟨i, hi, e⟩ := h.fro j hj
    exact ⟨i, hi, by rw [e]⟩
  · obtain ⟨i', hi', e⟩ := h.to i hi
    obtain ⟨j', hj', e'⟩ := h.to j hj
    rw [e, e'] at hk ⊢
    exact hc1 i' j' hi' hj' hk
  · obtain ⟨i, hi, e⟩ := h.to j hj
    exact ⟨i, hi, by rw [e]⟩
def swp2 (O : List En) (i k : Nat) : List En := (O.set i (O.getD k default)).set k (O.getD i default)
def sg2 (i k j : Nat) : Nat := if j = k then i else if j = i then k else j
theorem swp2_len (O : List En) (i k : Nat) : (swp2 O i k).length = O.length := by simp [swp2]
theorem swp2_get {O : List En} {i k j : Nat} (hj : j < O.length) : (swp2 O i k).getD j default = O.getD (sg2 i k j) default := by
  unfold swp2 sg2
  rw [List.getD_eq_getElem?_getD, List.getElem?_set]
  by_cases e1 : k = j
  · rw [if_pos e1, if_pos (by simpa [e1] using hj), if_pos e1.symm]; rfl
  · rw [if_neg e1, if_neg (Ne.symm e1), List.getElem?_set]
    by_cases e2 : i = j
    · rw [if_pos e2, if_pos (by rw [e2]; exact hj), if_pos e2.symm]; rfl
    · rw [if_neg e2, if_neg (Ne.symm e2), List.getD_eq_getElem?_getD]
theorem sg2_lt {i k j n : Nat} (hi : i < n) (hk : k < n) (hj : j < n) : sg2 i k j < n := by unfold sg2; split; exact hi; split; exact hk; exact hj
theorem sg2_sg2 (i k j : Nat) : sg2 i k (sg2 i k j) = j := by unfold sg2; split <;> split <;> (try split) <;> omega
theorem Prm.swap {l O : List En} (h : Prm l O) {i k : Nat} (hi : i < l.length) (hk : k < l.length) : Prm l (swp2 O i k) :=
  ⟨by rw [swp2_len, h.len], fun j hj => by
    rw [swp2_get (by rw [h.len]; exact hj)]
    exact h.to _ (sg2_lt hi hk hj), fun j hj => by
    obtain ⟨q, hq, e⟩ := h.fro j hj
    refine ⟨sg2 i k q, sg2_lt hi hk hq, ?_⟩
    rw [swp2_get (by rw [h.len]; exact sg2_lt hi hk hq), sg2_sg2]; exact e⟩

/-! A whole entry stored among one's own. -/
theorem ecs_cut {M : List En} (h : Keyed M) {i : Nat} (hi : i < M.length) (e : En) : ecs (M.set i e) = (ecs M).take (i * 35) ++ e.cells ++ (ecs M).drop (i * 35 + 35) := by
  have h1 : M.set i e = M.take i ++ e :: M.drop (i + 1) := by rw [List.set_eq_take_append_cons_drop, if_pos hi]
  have h2 : ecs M = ecs (M.take i) ++ ((M.getD i default).cells ++ ecs (M.drop (i + 1))) := by
    have : M = M.take i ++ M.getD i default :: M.drop (i + 1) := by
      have h3 := split_at (l := M) (i := i) (x := M.getD i default) (by rw [List.getElem?_eq_getElem hi, List.getD_eq_getElem?_getD, List.getElem?_eq_getElem hi]; rfl)
      exact h3
    conv => lhs; rw [this]
    simp [ecs]
  have l1 : (ecs (M.take i)).length = i * 35 := by rw [ecs_len (fun e he => h e (List.mem_of_mem_take he)), List.length_take]; omega
  have l2 : (M.getD i default).cells.length = 35 := En.cells_len (h _ (getD_mem hi))
  rw [h1]
  have h4 : ecs (M.take i ++ e :: M.drop (i + 1)) = ecs (M.take i) ++ (e.cells ++ ecs (M.drop (i + 1))) := by simp [ecs]
  have t1 : (ecs (M.take i) ++ ((M.getD i default).cells ++ ecs (M.drop (i + 1)))).take (i * 35) = ecs (M.take i) := by rw [← l1]; exact List.take_left
  have t2 : (ecs (M.take i) ++ ((M.getD i default).cells ++ ecs (M.drop (i + 1)))).drop (i * 35 + 35) = ecs (M.drop (i + 1)) := by
    rw [← List.append_assoc, show i * 35 + 35 = (ecs (M.take i) ++ (M.getD i default).cells).length by rw [List.length_append, l1, l2]]
    exact List.drop_left
  rw [h4, h2, t1, t2, List.append_assoc]
theorem OwnE.putE {w : World} {base g n c i : Nat} {M : List En} {e : En} (h : OwnE w base (.slice (some ⟨g, 0, none⟩) n c) M) (hi : i < n) (he : e.key.length = 32) : ∃ w', (storeVar 54 ⟨g, i * 35, none⟩ (.agg e.cells.toArray)).run Tryd.prog w = .ok () w' ∧ OwnE w' base (.slice (some ⟨g, 0, none⟩) n c) (M.set i e) ∧ Keeps (· = g) w w' := by
  obtain ⟨h1, ⟨e', _⟩ | ⟨g', cap, cur, e', hb, hg, hn, hc, hs, ht⟩⟩ := h.owns
  · cases e'
  · cases e'
    have hl := En.cells_len he
    have hk := set_keyed h.keyed (i := i) he
    have hfit : i * 35 + 35 ≤ M.length * 35 := by omega
    have hcur : M.length * 35 ≤ cur.size := by rw [hs]; exact Nat.mul_le_mul_right _ hn
    have hone : ∀ v ∈ e.cells, v.oneCell' = true := fun u hu => by
      have := cells_one e
      rw [Array.all_eq_true_iff_forall_mem] at this
      exact this u (by simpa using hu)
    have hr := run_storeCells_at (P := Tryd.prog) g (i * 35) 54 e.cells 0 cur w hg (by rw [hl]; omega) hone
    simp only [Nat.add_zero, hl] at hr
    obtain ⟨i0, hi0, hz0, hz1, hz2⟩ := info46'
    refine ⟨w.setRow g (List.take (i * 35) cur.toList ++ e.cells ++ List.drop (i * 35 + 35) cur.toList).toArray, ?_, ⟨⟨by rw [ecs_len hk, List.length_set], .inr ⟨g, c, _, by rw [List.length_set], hb, setRow_heap w g cur _ 54 _ hg, by rw [List.length_set]; exact hn, hc, ?_, ?_⟩⟩, hk⟩, (Keeps.refl (· = g) w).setRow (.inl rfl) _⟩
    · have hsz : (sizeOf 54).run Tryd.prog w = .ok 35 w := by simp [sizeOf, typeInfo, hi0, hz1]
      unfold storeVar
      have hcs : (Value.agg e.cells.toArray).cells = e.cells.toArray := rfl
      simp only [hcs, Sem.run_bind, hsz, Result.andThen_ok, List.size_toArray, hl]
      rw [if_neg (by decide)]
      simpa using hr
    · simp only [List.size_toArray, List.length_append, List.length_take, List.length_drop, Array.length_toList, hl]
      rw [← hs]; omega
    · rw [List.length_set, ecs_cut h.keyed hi, ← ht]
      have la : (cur.toList.take (i * 35)).length = i * 35 := by rw [List.length_take, Array.length_toList]; omega
      rw [List.take_append, List.take_of_length_le (by rw [List.length_append, la, hl]; exact hfit), List.length_append, la, hl, List.take_take, Nat.min_eq_left (by omega), List.drop_take]
theorem wpList_storeEn {ops : Array Oper} {rest : List Oper} {o : Oper} {a : Act} {w : World} {Q : Exit → Act → World → Prop} (hgd : o.guard = none) (x y : Operand) (ho : o.op = .store 54 x y) (g off : Nat) (hx : a.eval x = .pointer (some ⟨g, off, none⟩)) (e : En) (hy : a.eval y = .agg e.cells.toArray) (he : e.key.length = 32)
    (base n c : Nat) (M : List En) (hown : OwnE w base (.slice (some ⟨g, 0, none⟩) n c) M) (i : Nat) (hi : i < n) (hoff : off = i * 35)
    (h : ∀ w', OwnE w' base (.slice (some ⟨g, 0, none⟩) n c) (M.set i e) → Keeps (· = g) w w' → wpList Tryd.prog ops Q rest (a.put o.dst undef) w') : wpList Tryd.prog ops Q (o :: rest) a w := by
  subst hoff
  obtain ⟨w', hr, ho', hk⟩ := hown.putE hi he
  refine wpList_plain hgd fun K hK => ?_
  unfold Oper.wp execOp
  simp only [ho, hx, hy, Instr.storeAt, Instr.sureAddr, Sem.run_bind, Sem.run_pure, Result.andThen_ok, hr]
  exact hK _ _ (h w' ho' hk)

theorem rowTy54 : RowTy 54 35 := ⟨⟨_, Tryd.underlying54, rfl⟩, by kernel_rfl⟩
set_option maxRecDepth 100000 in
set_option maxHeartbeats 4000000 in
theorem same44 (w : World) (a : Option Addr) (n c : Nat) (l : List En) (hl : SlE w a n c l) (hn : n ≤ 1000) (e : En) (le : e.key.length = 32) :
    Calls Tryd.prog 44 #[.slice a n c, .agg e.cells.toArray] w fun x w' => x = .returned (.agg (rep l e).cells.toArray) ∧ Keeps (fun _ => False) w w' := by
  have Hlen : Hid (l.length = n) := hl.len
  go_enter Tryd.func44, Tryd.ntmps44
  go_wp2_with (first
    | (refine wpList_box46 rfl _ rfl e le rfl ?_; intro g3 w1 b1 z1 k1)
    | (refine wpList_alloc46 rfl rfl ?_; intro g4 w2 r2 z2 k2; have b2 := b1.keep k2; have K2 := k1.trans k2))
  have hl2 := hl.keep K2
  have l4 := r2.lt
  have q1 := k1.size
  have hg34 : g3 ≠ g4 := by have := slb_lt b1.slb (by omega) rfl; omega
  go_loopw [5] (fun t wr => ∃ i : Nat, i ≤ n ∧ t = .int .i64 (i : Int) ∧ Hid (∀ j, j < i → (l.getD j default).key ≠ e.key) ∧ Keeps (fun _ => False) w2 wr) (fun t _ => n - (intOf t).toNat)
  case atStart => exact ⟨0, by omega, rfl, (fun j hj => by omega), Keeps.refl _ _⟩
  case round =>
    obtain ⟨i, hi, rfl, HA, KW⟩ := hrel
    have bE := b2.keep KW
    have rE := r2.keep KW
    by_cases hlt : i < n
    · have hlt' : (i : Int) < (n : Int) := by omega
      have hi0 : (0 : Int) ≤ (i : Int) := by omega
      obtain ⟨b, o, rfl, E1⟩ := (hl2.keep KW).ent hlt
      obtain ⟨d, hd⟩ : ∃ d, l.getD i default = d := ⟨_, rfl⟩
      have HE : Hid (l.getD i default = d) := hd
      rw [hd] at E1
      clear hd
      have ld := E1.len
      obtain ⟨v, hv⟩ : ∃ v, decide (d.key = e.key) = v := ⟨_, rfl⟩
      have HV : Hid (decide (d.key = e.key) = v) := hv
      have HQ := eqKey_at (x := d.key) (y := e.key) (v := v) hv ld le
      clear hv
      go_wp2_with fail
      refine wp_region_quiet_below (by kernel_rfl) (by kernel_rfl) ?_
      repeat (first
        | go_big_quiet_step (fail)
        | (go_big_quiet_want; refine quiet_key _ rfl b (o + i * 35) rfl d (fun w' hp => E1.cls hp) ld ?_; simp only [Act.put, List.setIfInBounds_toArray, List.set_cons_zero, List.set_cons_succ]; go_big_quiet_on)
        | (go_big_quiet_want; refine quiet_key _ rfl g3 0 rfl e (fun w' hp => bE.cls hp) le ?_; simp only [Act.put, List.setIfInBounds_toArray, List.set_cons_zero, List.set_cons_succ]; go_big_quiet_on))
      refine wpQuiet_nil ?_
      intro w5 hw5
      have k5 := keeps_cls hw5
      have E5 := E1.keep k5
      have r5 := rE.keep k5
      cases v with
      | true =>
        have HRp : Hid (rep l e = d) := by
          show _ = _
          rw [← HE.out]
          exact rep_at (by rw [Hlen.out]; exact hlt) (by rw [HE.out]; exact of_decide_eq_true HV.out) HA.out
        go_wp2_with (first
          | (refine wpList_load46 rfl _ rfl b (o + i * 35) rfl d E5 ?_)
          | (refine wpList_store46 rfl _ _ rfl g4 rfl d rfl ld _ r5 ?_; intro w6 r6 k6))
        rw [HRp.out]
        exact bodyPost_ret (v := .agg d.cells.toArray) (results_ro rfl _ _ g4 _ rfl ⟨r6.row⟩ (by rw [List.size_toArray, En.cells_len ld]; exact rowTy54)) rfl ⟨rfl, ((K2.trans KW).trans k5).trans' k6 (fun i e => .inr (by omega))⟩
      | false =>
        go_wp2
        exact ⟨⟨i + 1, by omega, by go_num, (fun j hj => by
          by_cases h : j < i
          · exact HA.out j h
          · obtain rfl : j = i := (by omega)
            rw [HE.out]; exact of_decide_eq_false HV.out), KW.trans k5⟩, by simp [intOf]; omega⟩
    · obtain rfl : i = n := by omega
      have hlt' : ¬ (i : Int) < (i : Int) := by omega
      have HRp : Hid (rep l e = e) := rep_no fun j hj => HA.out j (by rw [Hlen.out] at hj; exact hj)
      go_wp2_with (first
        | (refine wpList_load46 rfl _ rfl g3 0 rfl e bE ?_)
        | (refine wpList_store46 rfl _ _ rfl g4 rfl e rfl le _ rE ?_; intro w6 r6 k6))
      rw [HRp.out]
      exact bodyPost_ret (v := .agg e.cells.toArray) (results_ro rfl _ _ g4 _ rfl ⟨r6.row⟩ (by rw [List.size_toArray, En.cells_len le]; exact rowTy54)) rfl ⟨rfl, (K2.trans KW).trans' k6 (fun i e => .inr (by omega))⟩
theorem same_is {l : List En} {e x : En} (h : rep l e = x) (w : World) (a : Option Addr) (n c : Nat) (hl : SlE w a n c l) (hn : n ≤ 1000) (le : e.key.length = 32) :
    Calls Tryd.prog 44 #[.slice a n c, .agg e.cells.toArray] w fun y w' => y = .returned (.agg x.cells.toArray) ∧ Keeps (fun _ => False) w w' := by
  rw [← h]; exact same44 w a n c l hl hn e le


set_option maxRecDepth 100000 in
theorem order_long (w : World) (hT : Tabs w) (a1 a2 : Option Addr) (n1 c1 n2 c2 : Nat) (h : 60 < n1 ∨ 200 < n2) :
    Calls Tryd.prog 11 #[.slice a1 n1 c1, .slice a2 n2 c2] w fun e w' => e = .returned (.bool true) ∧ Keeps (fun _ => False) w w' := by
  have cs : (60 : Int) < (n1 : Int) ∨ (¬ (60 : Int) < (n1 : Int) ∧ (200 : Int) < (n2 : Int)) := by omega
  clear h
  go_enter Tryd.func11, Tryd.ntmps11
  rcases cs with h1 | ⟨h1, h2⟩
  all_goals
    go_wp2_with (go_at_call 29; refine (wakes29 _ hT).mono ?_; rintro e w1 ⟨rfl, k1⟩)
    go_ret
    exact ⟨rfl, k1⟩

/-- A slice that holds the entries L, nil or not. -/
def Acc (w : World) (v : Value) (L : List En) : Prop := ∃ a n c, v = .slice a n c ∧ SlE w a n c L ∧ (a = none → c = 0)
theorem Acc.keep {w w' : World} {v : Value} {L : List En} (h : Acc w v L) (hk : Keeps (fun _ => False) w w') : Acc w' v L := by
  obtain ⟨a, n, c, e, s, hn⟩ := h
  exact ⟨a, n, c, e, s.keep hk, hn⟩

set_option maxRecDepth 100000 in
set_option maxHeartbeats 8000000 in
theorem order_in (w : World) (hT : Tabs w) (a1 a2 : Option Addr) (n1 c1 n2 c2 : Nat) (l : List En) (TB : List B) (hl : SlE w a1 n1 c1 l) (hnc : a1 = none → c1 = 0) (ht : SlB w a2 n2 c2 TB) (h60 : n1 ≤ 60) (h200 : n2 ≤ 200) :
    Calls Tryd.prog 11 #[.slice a1 n1 c1, .slice a2 n2 c2] w fun e w' => e = .returned (.bool true) ∧ Keeps (fun _ => False) w w' := by
  have Hlen : Hid (l.length = n1) := hl.len
  have Hnc : Hid (a1 = none → c1 = 0) := hnc
  have h1' : ¬ (60 : Int) < (n1 : Int) := by omega
  have h2' : ¬ (200 : Int) < (n2 : Int) := by omega
  have hcap := hl.cap
  clear hnc
  go_enter Tryd.func11, Tryd.ntmps11
  go_wp2_with (first
    | (refine wpList_build0F rfl rfl ?_; intro gA w2 o2 zA k2; have K2 := k2)
    | (refine wpList_appSEo rfl _ _ rfl w.heap.size _ rfl o2 a1 n1 c1 l rfl (hl.keep K2) Hnc.out (by omega) (by have := k2.size; omega) ?_; intro v3 w3 o3 k3; have K3 : Keeps (fun _ => False) w w3 := K2.trans' k3 (fun i e => .inr (o2.from e).1); obtain ⟨a7, c7, e7, s3, _, _⟩ := o3.sliceN Hlen.out; subst e7))
  go_loopw [8] (fun t wr => ∃ i : Nat, i ≤ n1 ∧ t = .int .i64 (i : Int) ∧ (∃ Or, OwnE wr w.heap.size (.slice a7 n1 c7) Or ∧ Hid (Prm l Or)) ∧ Keeps (fun _ => False) w wr) (fun t _ => n1 - (intOf t).toNat)
  case atStart => exact ⟨0, by omega, rfl, ⟨l, o3, Prm.refl l⟩, K3⟩
  case round =>
    obtain ⟨i0, hi0, rfl, ⟨Or, O, HP⟩, KE⟩ := hrel
    by_cases hgo : i0 < n1 ∧ 0 < n2
    · obtain ⟨hlt, hn20⟩ := hgo
      have hlt' : (i0 : Int) < (n1 : Int) := by omega
      have hn20' : (0 : Int) < (n2 : Int) := by omega
      have hn10' : (0 : Int) < (n1 : Int) := by omega
      have hn2z : ¬ (n2 : Int) = 0 := by omega
      have hn1z : ¬ (n1 : Int) = 0 := by omega
      have hi00 : (0 : Int) ≤ (i0 : Int) := by omega
      have hOn : Or.length = n1 := by rw [HP.out.len]; exact Hlen.out
      obtain ⟨g7, c', e7, hbg, _⟩ := O.blk hOn (by omega)
      cases e7
      obtain ⟨q, hq⟩ : ∃ q : Nat, (i0 : Int) % (n2 : Int) = (q : Int) := ⟨((i0 : Int) % (n2 : Int)).toNat, by have := Int.emod_nonneg (i0 : Int) (b := (n2 : Int)) (by omega); omega⟩
      have hqn : q < n2 := by have := Int.emod_lt_of_pos (i0 : Int) (b := (n2 : Int)) (by omega); omega
      have hq0 : (0 : Int) ≤ (q : Int) := by omega
      have hqn' : (q : Int) < (n2 : Int) := by omega
      have lTB := ht.len
      obtain ⟨bt, ot, et, hby, _⟩ := (ht.keeps KE (fun _ _ _ _ h => h)).bytes n2 hn20 (Nat.le_refl _)
      subst et
      obtain ⟨y, hy⟩ : ∃ y, TB.getD q 0 = y := ⟨_, rfl⟩
      have cq := hby q y (by rw [List.getElem?_take, if_pos hqn, List.getElem?_eq_getElem (by omega), ← hy, List.getD_eq_getElem?_getD, List.getElem?_eq_getElem (by omega)]; rfl)
      have hny := nb_lt y
      obtain ⟨Y, hY⟩ : ∃ Y : Int, nb y = Y := ⟨_, rfl⟩
      rw [hY] at cq hny
      obtain ⟨K, hK⟩ : ∃ K : Nat, Y % (n1 : Int) = (K : Int) := ⟨(Y % (n1 : Int)).toNat, by have := Int.emod_nonneg Y (b := (n1 : Int)) (by omega); omega⟩
      have hKn : K < n1 := by have := Int.emod_lt_of_pos Y (b := (n1 : Int)) (by omega); omega
      have hK0 : (0 : Int) ≤ (K : Int) := by omega
      have hKn' : (K : Int) < (n1 : Int) := by omega
      clear hby hy hY
      obtain ⟨hny0, hny1⟩ := (show 0 ≤ Y ∧ Y < 256 by omega)
      go_wp2_with fail
      have kd : Keeps (fun _ => False) wr wr.drew := (Keeps.refl _ _).drew
      have Od := O.kept kd (fun _ _ h => h)
      have Kd := KE.trans kd
      obtain ⟨b', o', e', EK⟩ := Od.at_.ent (i := K) hKn
      cases e'
      obtain ⟨b', o', e', EI⟩ := Od.at_.ent (i := i0) hlt
      cases e'
      have lEK := EK.len
      have lEI := EI.len
      have HPs : Hid (Prm l (swp2 Or i0 K)) := HP.out.swap (by rw [Hlen.out]; exact hlt) (by rw [Hlen.out]; exact hKn)
      have HSw : Hid ((Or.set i0 (Or.getD K default)).set K (Or.getD i0 default) = swp2 Or i0 K) := rfl
      obtain ⟨dK, hdK⟩ : ∃ dK, Or.getD K default = dK := ⟨_, rfl⟩
      obtain ⟨dI, hdI⟩ : ∃ dI, Or.getD i0 default = dI := ⟨_, rfl⟩
      rw [hdK] at EK lEK HSw
      rw [hdI] at EI lEI HSw
      clear hdK hdI
      rw [Nat.zero_add] at EK EI
      refine region_tree (S := fun w' => ∃ p : Regrown, w' = grow (redrawn w p.d) p.os) (.two [0, 1, 2, 3, 4, 5, 6, 8, 9, 10] 7 (.one [] 11 (.one [12] 13 (.one [14] 15 (.last [])))) 11 (.one [] 7 (.one [12] 13 (.one [14] 15 (.last []))))) (by kernel_rfl) (by kernel_rfl) (by kernel_rfl) (by kernel_rfl) (cls_keeps Kd) ?_
      simp only [wpTree, opsAt, pick]
      repeat (go_big_quiet_step (fail))
      refine wpQuiet_nil ⟨?_, ?_⟩
      all_goals
        go_wp2_with (first
          | (refine wpList_load46 rfl _ rfl g7 (K * 35) rfl dK EK ?_)
          | (refine wpList_load46 rfl _ rfl g7 (i0 * 35) rfl dI EI ?_)
          | (refine wpList_load46 rfl _ rfl g7 (0 + K * 35) rfl dK (by rw [Nat.zero_add]; exact EK) ?_)
          | (refine wpList_load46 rfl _ rfl g7 (0 + i0 * 35) rfl dI (by rw [Nat.zero_add]; exact EI) ?_))
        refine ⟨cls_keeps Kd, ?_⟩
        simp only [wpTree, opsAt, pick]
        refine wpQuiet_nil ?_
        go_wp2_with (first
          | (refine wpList_load46 rfl _ rfl g7 (K * 35) rfl dK EK ?_)
          | (refine wpList_load46 rfl _ rfl g7 (i0 * 35) rfl dI EI ?_)
          | (refine wpList_load46 rfl _ rfl g7 (0 + K * 35) rfl dK (by rw [Nat.zero_add]; exact EK) ?_)
          | (refine wpList_load46 rfl _ rfl g7 (0 + i0 * 35) rfl dI (by rw [Nat.zero_add]; exact EI) ?_))
        refine ⟨cls_keeps Kd, ?_⟩
        simp only [wpTree, opsAt, pick]
        repeat (go_big_quiet_step (fail))
        refine wpQuiet_nil ?_
        go_wp2_with (refine wpList_storeEn rfl _ _ rfl g7 _ rfl dK rfl lEK w.heap.size n1 c7 Or Od i0 hlt (by omega) ?_; intro w6 o6 k6)
        have q6 : Keeps (fun _ => False) w w6 := Kd.trans' k6 (fun i e => .inr (by omega))
        refine ⟨cls_keeps q6, ?_⟩
        simp only [wpTree, opsAt, pick]
        repeat (go_big_quiet_step (fail))
        refine wpQuiet_nil ?_
        go_wp2_with (refine wpList_storeEn rfl _ _ rfl g7 _ rfl dI rfl lEI w.heap.size n1 c7 _ o6 K hKn (by omega) ?_; intro w7 o7 k7)
        have q7 : Keeps (fun _ => False) w w7 := q6.trans' k7 (fun i e => .inr (by omega))
        rw [HSw.out] at o7
        refine ⟨cls_keeps q7, ?_⟩
        simp only [wpTree, opsAt, pick]
        refine wpQuiet_nil ?_
        refine NoPanic.normal ?_
        go_wp2
        exact ⟨⟨i0 + 1, by omega, by go_num, ⟨_, o7, HPs⟩, q7⟩, by simp [intOf]; omega⟩
    · have cs : (i0 < n1 ∧ ¬ (0 : Int) < (n2 : Int) ∧ (i0 : Int) < (n1 : Int)) ∨ (n1 ≤ i0 ∧ ¬ (i0 : Int) < (n1 : Int)) := by
        by_cases h : i0 < n1
        · exact .inl ⟨h, by omega, by omega⟩
        · exact .inr ⟨by omega, by omega⟩
      obtain ⟨fa, hfa⟩ : ∃ fa : Nat → En, ∀ j, fa j = rep l (l.getD j default) := ⟨fun j => rep l (l.getD j default), fun _ => rfl⟩
      obtain ⟨fb, hfb⟩ : ∃ fb : Nat → En, ∀ j, fb j = rep l (Or.getD j default) := ⟨fun j => rep l (Or.getD j default), fun _ => rfl⟩
      have hbld : bld fa n1 = bld fb n1 := by
        have := bld_eq HP.out
        rw [Hlen.out] at this
        rw [show fa = fun j => rep l (l.getD j default) from funext hfa, show fb = fun j => rep l (Or.getD j default) from funext hfb]; exact this
      obtain ⟨wE, hwE⟩ : ∃ wE, wE = wr := ⟨_, rfl⟩
      subst hwE
      have hlE := hl.keep KE
      have hOn : Or.length = n1 := by rw [HP.out.len]; exact Hlen.out
      obtain ⟨aO, cO, eO, sOE, _, _⟩ := O.sliceN hOn
      cases eO
      have hg7 : ∀ {j : Nat}, j < n1 → ∀ g o, a7 = some ⟨g, o, none⟩ → o = 0 := fun {j} hj g o e => by
        obtain ⟨g', c', e', _⟩ := O.blk hOn (by omega)
        cases e'
        cases e; rfl
      rcases cs with ⟨g1, g2, g3⟩ | ⟨g1, g2⟩
      all_goals
        go_wp2
        go_loopw [5, 6, 10] (fun v u t wr => ∃ i : Nat, i ≤ n1 ∧ t = .int .i64 (i : Int) ∧ Acc wr v (bld fa i) ∧ Acc wr u (bld fb i) ∧ Keeps (fun _ => False) wE wr) (fun v u t _ => n1 - (intOf t).toNat)
        case atStart => exact ⟨0, by omega, rfl, ⟨none, 0, 0, rfl, SlE.nil _, fun _ => rfl⟩, ⟨none, 0, 0, rfl, SlE.nil _, fun _ => rfl⟩, Keeps.refl _ _⟩
        case round =>
          obtain ⟨i, hi, rfl, ⟨aA, nA, cA, rfl, SA, hnnA⟩, ⟨aB, nB, cB, rfl, SB, hnnB⟩, KW⟩ := hrel
          have lA := bld_len fa i
          have lB := bld_len fb i
          rw [SA.len] at lA
          rw [SB.len] at lB
          have hnA : nA ≤ 1000 := by omega
          have hnB : nB ≤ 1000 := by omega
          have HnA : Hid (aA = none → cA = 0) := hnnA
          have HnB : Hid (aB = none → cB = 0) := hnnB
          have hlr := hlE.keep KW
          have sOr := sOE.keep KW
          clear hnnA hnnB
          by_cases hlt : i < n1
          · have hlt' : (i : Int) < (n1 : Int) := by omega
            have hi0 : (0 : Int) ≤ (i : Int) := by omega
            obtain ⟨b, o, eb, E1⟩ := hlr.ent hlt
            subst eb
            obtain ⟨g7, o7, e7, FO⟩ := sOr.ent hlt
            have e70 : o7 = 0 := hg7 hlt g7 o7 e7
            subst e7 e70
            have HA1 : Hid (bld fa (i + 1) = if ths (bld fa i) (fa i).key = true then bld fa i else ins (bld fa i) (fa i)) := rfl
            have HB1 : Hid (bld fb (i + 1) = if ths (bld fb i) (fb i).key = true then bld fb i else ins (bld fb i) (fb i)) := rfl
            have HrA : Hid (rises (bld fa i) = true) := rises_bld fa i
            have HrB : Hid (rises (bld fb i) = true) := rises_bld fb i
            obtain ⟨d1, hd1⟩ : ∃ d1, l.getD i default = d1 := ⟨_, rfl⟩
            obtain ⟨d2, hd2⟩ : ∃ d2, Or.getD i default = d2 := ⟨_, rfl⟩
            obtain ⟨x1, hx1⟩ : ∃ x1, fa i = x1 := ⟨_, rfl⟩
            obtain ⟨x2, hx2⟩ : ∃ x2, fb i = x2 := ⟨_, rfl⟩
            rw [hd1] at E1
            rw [hd2] at FO
            have ld1 := E1.len
            have ld2 := FO.len
            have HR1 : Hid (rep l d1 = x1) := by show _ = _; rw [← hx1, ← hd1, ← hfa]
            have HR2 : Hid (rep l d2 = x2) := by show _ = _; rw [← hx2, ← hd2, ← hfb]
            have lx1 : x1.key.length = 32 := by rw [← HR1.out, rep_key]; exact ld1
            have lx2 : x2.key.length = 32 := by rw [← HR2.out, rep_key]; exact ld2
            rw [hx1] at HA1
            rw [hx2] at HB1
            clear hx1 hx2 hd1 hd2
            obtain ⟨A, hAe⟩ : ∃ A, bld fa i = A := ⟨_, rfl⟩
            obtain ⟨B', hBe⟩ : ∃ B', bld fb i = B' := ⟨_, rfl⟩
            rw [hAe] at HA1 HrA SA
            rw [hBe] at HB1 HrB SB
            obtain ⟨A1, hA1⟩ : ∃ A1, ins A x1 = A1 := ⟨_, rfl⟩
            obtain ⟨B1, hB1⟩ : ∃ B1, ins B' x2 = B1 := ⟨_, rfl⟩
            have HiA : Hid (ins A x1 = A1) := hA1
            have HiB : Hid (ins B' x2 = B1) := hB1
            clear hAe hBe hA1 hB1 lA lB
            rcases hh1 : ths A x1.key with _ | _ <;> rcases hh2 : ths B' x2.key with _ | _
            · have HtA : Hid (ths A x1.key = false) := hh1
              have HtB : Hid (ths B' x2.key = false) := hh2
              clear hh1 hh2
              go_wp2_with (first
                | (refine wpList_load46 rfl _ rfl b (o + i * 35) rfl d1 E1 ?_)
                | (go_at_call 44; have := J2; refine (same_is HR2.out _ _ _ _ (hlr.keep J2) (by omega) ld2).mono ?_; rintro e y3 ⟨rfl, j3⟩; have J3 := J2.trans j3; have SB3 := SB.keep J3)
                | (go_at_call 44; refine (same_is HR1.out _ _ _ _ hlr (by omega) ld1).mono ?_; rintro e y1 ⟨rfl, j1⟩; have J1 := (Keeps.refl (fun _ => False) wr).trans j1; have SA1 := SA.keep J1)
                | (go_at_call 42; have := J3; refine (insert_is HiB.out rfl HrB.out HtB.out _ aB nB cB SB3 HnB.out hnB lx2).mono ?_; rintro e y4 ⟨⟨gB, kB, rfl, RB, _, _⟩, j4⟩; have J4 := J3.trans j4)
                | (go_at_call 42; refine (insert_is HiA.out rfl HrA.out HtA.out _ aA nA cA SA1 HnA.out hnA lx1).mono ?_; rintro e y2 ⟨⟨gA, kA, rfl, RA, _, _⟩, j2⟩; have J2 := J1.trans j2; have E2 := (FO.keep J2))
                | (refine wpList_load46 rfl _ rfl g7 (0 + i * 35) rfl d2 E2 ?_)
                | (refine wpList_load46 rfl _ rfl g7 (i * 35) rfl d2 (by have := E2; rwa [Nat.zero_add] at this) ?_))
              have fA : Acc y4 (.slice (some ⟨gA, 0, none⟩) A1.length kA) (bld fa (i + 1)) := by rw [HA1.out, if_neg (by rw [HtA.out]; decide), HiA.out]; exact ⟨_, _, _, rfl, RA.keep (j3.trans j4), fun h => by cases h⟩
              have fB : Acc y4 (.slice (some ⟨gB, 0, none⟩) B1.length kB) (bld fb (i + 1)) := by rw [HB1.out, if_neg (by rw [HtB.out]; decide), HiB.out]; exact ⟨_, _, _, rfl, RB, fun h => by cases h⟩
              exact ⟨⟨i + 1, by omega, by go_num, fA, fB, KW.trans J4⟩, by simp [intOf]; omega⟩
            · have HtA : Hid (ths A x1.key = false) := hh1
              have HtB : Hid (ths B' x2.key = true) := hh2
              clear hh1 hh2
              go_wp2_with (first
                | (refine wpList_load46 rfl _ rfl b (o + i * 35) rfl d1 E1 ?_)
                | (go_at_call 44; have := J2; refine (same_is HR2.out _ _ _ _ (hlr.keep J2) (by omega) ld2).mono ?_; rintro e y3 ⟨rfl, j3⟩; have J3 := J2.trans j3; have SB3 := SB.keep J3)
                | (go_at_call 44; refine (same_is HR1.out _ _ _ _ hlr (by omega) ld1).mono ?_; rintro e y1 ⟨rfl, j1⟩; have J1 := (Keeps.refl (fun _ => False) wr).trans j1; have SA1 := SA.keep J1)
                | (go_at_call 42; have := J3; refine (insert42_there _ aB nB cB B' SB3 HnB.out hnB HrB.out x2 lx2 HtB.out).mono ?_; rintro e y4 ⟨rfl, j4⟩; have J4 := J3.trans j4; have RB := SB.keep J4)
                | (go_at_call 42; refine (insert_is HiA.out rfl HrA.out HtA.out _ aA nA cA SA1 HnA.out hnA lx1).mono ?_; rintro e y2 ⟨⟨gA, kA, rfl, RA, _, _⟩, j2⟩; have J2 := J1.trans j2; have E2 := (FO.keep J2))
                | (refine wpList_load46 rfl _ rfl g7 (0 + i * 35) rfl d2 E2 ?_)
                | (refine wpList_load46 rfl _ rfl g7 (i * 35) rfl d2 (by have := E2; rwa [Nat.zero_add] at this) ?_))
              have fA : Acc y4 (.slice (some ⟨gA, 0, none⟩) A1.length kA) (bld fa (i + 1)) := by rw [HA1.out, if_neg (by rw [HtA.out]; decide), HiA.out]; exact ⟨_, _, _, rfl, RA.keep (j3.trans j4), fun h => by cases h⟩
              have fB : Acc y4 (.slice aB nB cB) (bld fb (i + 1)) := by rw [HB1.out, if_pos HtB.out]; exact ⟨aB, nB, cB, rfl, RB, HnB.out⟩
              exact ⟨⟨i + 1, by omega, by go_num, fA, fB, KW.trans J4⟩, by simp [intOf]; omega⟩
            · have HtA : Hid (ths A x1.key = true) := hh1
              have HtB : Hid (ths B' x2.key = false) := hh2
              clear hh1 hh2
              go_wp2_with (first
                | (refine wpList_load46 rfl _ rfl b (o + i * 35) rfl d1 E1 ?_)
                | (go_at_call 44; have := J2; refine (same_is HR2.out _ _ _ _ (hlr.keep J2) (by omega) ld2).mono ?_; rintro e y3 ⟨rfl, j3⟩; have J3 := J2.trans j3; have SB3 := SB.keep J3)
                | (go_at_call 44; refine (same_is HR1.out _ _ _ _ hlr (by omega) ld1).mono ?_; rintro e y1 ⟨rfl, j1⟩; have J1 := (Keeps.refl (fun _ => False) wr).trans j1; have SA1 := SA.keep J1)
                | (go_at_call 42; have := J3; refine (insert_is HiB.out rfl HrB.out HtB.out _ aB nB cB SB3 HnB.out hnB lx2).mono ?_; rintro e y4 ⟨⟨gB, kB, rfl, RB, _, _⟩, j4⟩; have J4 := J3.trans j4)
                | (go_at_call 42; refine (insert42_there _ aA nA cA A SA1 HnA.out hnA HrA.out x1 lx1 HtA.out).mono ?_; rintro e y2 ⟨rfl, j2⟩; have J2 := J1.trans j2; have E2 := (FO.keep J2))
                | (refine wpList_load46 rfl _ rfl g7 (0 + i * 35) rfl d2 E2 ?_)
                | (refine wpList_load46 rfl _ rfl g7 (i * 35) rfl d2 (by have := E2; rwa [Nat.zero_add] at this) ?_))
              have fA : Acc y4 (.slice aA nA cA) (bld fa (i + 1)) := by rw [HA1.out, if_pos HtA.out]; exact ⟨aA, nA, cA, rfl, SA.keep J4, HnA.out⟩
              have fB : Acc y4 (.slice (some ⟨gB, 0, none⟩) B1.length kB) (bld fb (i + 1)) := by rw [HB1.out, if_neg (by rw [HtB.out]; decide), HiB.out]; exact ⟨_, _, _, rfl, RB, fun h => by cases h⟩
              exact ⟨⟨i + 1, by omega, by go_num, fA, fB, KW.trans J4⟩, by simp [intOf]; omega⟩
            · have HtA : Hid (ths A x1.key = true) := hh1
              have HtB : Hid (ths B' x2.key = true) := hh2
              clear hh1 hh2
              go_wp2_with (first
                | (refine wpList_load46 rfl _ rfl b (o + i * 35) rfl d1 E1 ?_)
                | (go_at_call 44; have := J2; refine (same_is HR2.out _ _ _ _ (hlr.keep J2) (by omega) ld2).mono ?_; rintro e y3 ⟨rfl, j3⟩; have J3 := J2.trans j3; have SB3 := SB.keep J3)
                | (go_at_call 44; refine (same_is HR1.out _ _ _ _ hlr (by omega) ld1).mono ?_; rintro e y1 ⟨rfl, j1⟩; have J1 := (Keeps.refl (fun _ => False) wr).trans j1; have SA1 := SA.keep J1)
                | (go_at_call 42; have := J3; refine (insert42_there _ aB nB cB B' SB3 HnB.out hnB HrB.out x2 lx2 HtB.out).mono ?_; rintro e y4 ⟨rfl, j4⟩; have J4 := J3.trans j4; have RB := SB.keep J4)
                | (go_at_call 42; refine (insert42_there _ aA nA cA A SA1 HnA.out hnA HrA.out x1 lx1 HtA.out).mono ?_; rintro e y2 ⟨rfl, j2⟩; have J2 := J1.trans j2; have E2 := (FO.keep J2))
                | (refine wpList_load46 rfl _ rfl g7 (0 + i * 35) rfl d2 E2 ?_)
                | (refine wpList_load46 rfl _ rfl g7 (i * 35) rfl d2 (by have := E2; rwa [Nat.zero_add] at this) ?_))
              have fA : Acc y4 (.slice aA nA cA) (bld fa (i + 1)) := by rw [HA1.out, if_pos HtA.out]; exact ⟨aA, nA, cA, rfl, SA.keep J4, HnA.out⟩
              have fB : Acc y4 (.slice aB nB cB) (bld fb (i + 1)) := by rw [HB1.out, if_pos HtB.out]; exact ⟨aB, nB, cB, rfl, RB, HnB.out⟩
              exact ⟨⟨i + 1, by omega, by go_num, fA, fB, KW.trans J4⟩, by simp [intOf]; omega⟩
          · obtain rfl : i = n1 := by omega
            have hlt' : ¬ (i : Int) < (i : Int) := by omega
            have hAB := hbld
            obtain ⟨A, hAe⟩ : ∃ A, bld fa i = A := ⟨_, rfl⟩
            rw [← hAB] at SB
            rw [hAe] at SA SB
            have HrA : Hid (rises A = true) := by show _ = _; rw [← hAe]; exact rises_bld fa i
            have HhA : Hid (∀ j, j < i → ∃ y ∈ A, y.key = (l.getD j default).key) := fun j hj => by
              obtain ⟨y, hy, hk⟩ := bld_has (f := fa) (i := i) hj
              rw [hAe] at hy
              exact ⟨y, hy, by rw [hk, hfa, rep_key]⟩
            have hnAi : (nA : Int) ≤ (i : Int) := by omega
            have KWW := KE.trans KW
            clear hAe hAB lA lB
            go_wp2_with (first
              | (go_at_call 25; refine (entries_at (decide_eq_true rfl) _ _ _ _ _ _ _ SA SB (by omega)).mono ?_; rintro e z1 ⟨rfl, q1⟩; have P1 := KWW.trans q1)
              | (go_at_call 39; refine (rising_at HrA.out _ _ _ _ (SA.keep q1) (by omega)).mono ?_; rintro e z2 ⟨rfl, q2⟩; have P2 := P1.trans q2))
            have SA2 := (SA.keep q1).keep q2
            go_loopw [15] (fun t wr => ∃ j : Nat, j ≤ i ∧ t = .int .i64 (j : Int) ∧ Keeps (fun _ => False) z2 wr) (fun t _ => i - (intOf t).toNat)
            case atStart => exact ⟨0, by omega, rfl, Keeps.refl _ _⟩
            case round =>
              obtain ⟨j, hj, rfl, KQ⟩ := hrel
              have hlz := (hl.keep P2).keep KQ
              have SAz := SA2.keep KQ
              by_cases hlj : j < i
              · have hlj' : (j : Int) < (i : Int) := by omega
                have hj0 : (0 : Int) ≤ (j : Int) := by omega
                obtain ⟨b, o, eb, E1⟩ := hlz.ent hlj
                subst eb
                obtain ⟨d, hd⟩ : ∃ d, l.getD j default = d := ⟨_, rfl⟩
                have HD := HhA.out j hlj
                rw [hd] at E1 HD
                have ld := E1.len
                obtain ⟨y, hy, hyk⟩ := HD
                have hth : ths A d.key = true := by rw [← hyk]; exact ths_mem HrA.out hy
                obtain ⟨hf1, hf2⟩ := ths_at hth
                obtain ⟨k, hk⟩ : ∃ k, fnd A d.key = k := ⟨_, rfl⟩
                rw [hk] at hf1 hf2
                have HF : Hid (fnd A d.key = k) := hk
                have HTh : Hid (ths A d.key = true) := hth
                have hkn : k < nA := by rw [← SAz.len]; exact hf1
                obtain ⟨bA, oA, ea, EA⟩ := SAz.ent hkn
                subst ea
                obtain ⟨f, hfe⟩ : ∃ f, A.getD k default = f := ⟨_, rfl⟩
                rw [hfe] at EA hf2
                have lf' := EA.len
                have HQ := eqKey_at (x := f.key) (y := d.key) (v := true) (decide_eq_true hf2) lf' ld
                have hk0 : (0 : Int) ≤ (k : Int) := by omega
                have hk0' : ((k : Int) < 0) = False := eq_false (by omega)
                have hk0d : decide ((k : Int) < 0) = false := decide_eq_false (by omega)
                have hged : decide ((nA : Int) ≤ (k : Int)) = false := decide_eq_false (by omega)
                have hkn' : (k : Int) < (nA : Int) := by omega
                have hge : ((nA : Int) ≤ (k : Int)) = False := eq_false (by omega)
                clear hd hy hyk hth hf1 hf2 hk hfe
                go_wp2_with (first
                  | (refine wpList_key rfl _ rfl b (o + j * 35) rfl d E1 ?_)
                  | (go_at_call 40; refine (find40_is HrA.out HF.out HTh.out _ _ nA cA SAz (by omega) ld).mono ?_; rintro e s1 ⟨rfl, t1⟩))
                have E1s := E1.keep t1
                have EAs := EA.keep t1
                refine wp_region_quiet_below (by kernel_rfl) (by kernel_rfl) ?_
                repeat (first
                  | (go_big_quiet_want; refine quiet_key _ rfl b (o + j * 35) rfl d (fun w' hp => E1s.cls hp) ld ?_; simp only [Act.put, List.setIfInBounds_toArray, List.set_cons_zero, List.set_cons_succ]; go_big_quiet_on)
                  | (go_big_quiet_want; refine quiet_key _ rfl bA (oA + k * 35) rfl f (fun w' hp => EAs.cls hp) lf' ?_; simp only [Act.put, List.setIfInBounds_toArray, List.set_cons_zero, List.set_cons_succ]; go_big_quiet_on)
                  | go_big_quiet_step (fail))
                refine wpQuiet_nil ?_
                intro s2 hs2
                go_wp2
                exact ⟨⟨j + 1, by omega, by go_num, (KQ.trans t1).trans (keeps_cls hs2)⟩, by simp [intOf]; omega⟩
              · obtain rfl : j = i := by omega
                have hlj' : ¬ (j : Int) < (j : Int) := by omega
                go_wp2_with (go_at_call 29; refine (wakes29 _ (hT.keeps (P2.trans KQ) (fun h => h) (fun h => h))).mono ?_; rintro e s1 ⟨rfl, t1⟩)
                go_ret
                exact ⟨rfl, (P2.trans KQ).trans t1⟩

theorem orderL11 (w : World) (hT : Tabs w) (a1 : Option Addr) (n1 c1 : Nat) (l : List En) (hl : SlE w a1 n1 c1 l) (hn1 : n1 ≤ 9223372036854775807) (hnc : a1 = none → c1 = 0) (a2 : Option Addr) (n2 c2 : Nat) (TB : List B) (ht : SlB w a2 n2 c2 TB) (hz2 : a2 = none → c2 = 0) :
    Calls Tryd.prog 11 #[.slice a1 n1 c1, .slice a2 n2 c2] w fun e w' => e = .returned (.bool true) ∧ Keeps (fun _ => False) w w' := by
  by_cases h : 60 < n1 ∨ 200 < n2
  · exact order_long w hT a1 a2 n1 c1 n2 c2 h
  · exact order_in w hT a1 a2 n1 c1 n2 c2 l TB hl hnc ht (by omega) (by omega)
end Go.Proofs.YthngaegfppbdmaaDoor
