/-
  IndexApart: the walk.
-/
import Derived.Test.YthngaegfppbdmaaDoorXy
set_option linter.all false
namespace Go.Proofs.YthngaegfppbdmaaDoor
open Go.RowKit Go.Sort Go.Shelf
attribute [local go_sem] Oper.semAt_some

/-! A place, a number of blocks stored into an entry of one's own. -/
def setP (M : List En) (i : Nat) (p : Int) : List En := M.set i { M.getD i default with place := p }
def setB (M : List En) (i : Nat) (p : Int) : List En := M.set i { M.getD i default with blocks := p }
theorem setP_len (M : List En) (i : Nat) (p : Int) : (setP M i p).length = M.length := by simp [setP]
theorem setB_len (M : List En) (i : Nat) (p : Int) : (setB M i p).length = M.length := by simp [setB]
theorem setP_get {M : List En} {i j : Nat} (p : Int) (hj : j < M.length) : (setP M i p).getD j default = if i = j then { M.getD i default with place := p } else M.getD j default := by
  unfold setP
  rw [List.getD_eq_getElem?_getD, List.getElem?_set]
  split
  · rename_i h; subst h
    rw [if_pos hj]; rfl
  · rw [List.getD_eq_getElem?_getD]
theorem setB_get {M : List En} {i j : Nat} (p : Int) (hj : j < M.length) : (setB M i p).getD j default = if i = j then { M.getD i default with blocks := p } else M.getD j default := by
  unfold setB
  rw [List.getD_eq_getElem?_getD, List.getElem?_set]
  split
  · rename_i h; subst h
    rw [if_pos hj]; rfl
  · rw [List.getD_eq_getElem?_getD]
theorem set_keyed {M : List En} (h : Keyed M) {i : Nat} {e : En} (he : e.key.length = 32) : Keyed (M.set i e) := fun x hx => by
  rcases List.mem_or_eq_of_mem_set hx with h1 | h1
  · exact h x h1
  · rw [h1]; exact he
theorem ecs_set {M : List En} (h : Keyed M) {i : Nat} (hi : i < M.length) {e : En} (he : e.key.length = 32) {f : Nat} {v : Value} (hv : e.cells[f]? = some v) (hf : f < 35) (ho : ∀ r, r ≠ f → e.cells[r]? = (M.getD i default).cells[r]?) : ecs (M.set i e) = (ecs M).set (i * 35 + f) v := by
  have hk := set_keyed h (i := i) he
  apply List.ext_getElem?
  intro j
  rcases Nat.lt_or_ge j (M.length * 35) with hj | hj
  · obtain ⟨q, r, rfl, hr, hq⟩ : ∃ q r, j = q * 35 + r ∧ r < 35 ∧ q < M.length := ⟨j / 35, j % 35, by omega, by omega, by omega⟩
    rw [ecs_get hk (by simpa using hq) hr, List.getElem?_set, ecs_get h hq hr, ecs_len h]
    have hg : (M.set i e).getD q default = if i = q then e else M.getD q default := by
      rw [List.getD_eq_getElem?_getD, List.getElem?_set]
      split
      · rename_i e'; subst e'; rfl
      · rw [List.getD_eq_getElem?_getD]
    rw [hg]
    by_cases e1 : i = q
    · subst e1
      rw [if_pos rfl]
      by_cases e2 : r = f
      · subst e2
        rw [if_pos rfl, if_pos (by omega)]; exact hv
      · rw [if_neg (by omega)]; exact ho r e2
    · rw [if_neg e1, if_neg (by omega)]
  · rw [List.getElem?_eq_none (by rw [ecs_len hk, List.length_set]; omega), List.getElem?_eq_none (by rw [List.length_set, ecs_len h]; omega)]
theorem num_cells (e : En) (he : e.key.length = 32) : e.cells[32]? = some (.int .i64 e.place) ∧ e.cells[33]? = some (.int .i64 e.blocks) := ⟨cells_num he 0, cells_num he 1⟩
theorem cells_but {e d : En} (he : e.key.length = 32) (hd : d.key.length = 32) (hk : e.key = d.key) {f : Nat} (h : ∀ t, 32 + t ≠ f → [Value.int .i64 e.place, .int .i64 e.blocks, .int .i64 e.refs][t]? = [Value.int .i64 d.place, .int .i64 d.blocks, .int .i64 d.refs][t]?) : ∀ r, r ≠ f → e.cells[r]? = d.cells[r]? := fun r hr => by
  rcases Nat.lt_or_ge r 32 with h1 | h1
  · rw [cells_key he h1, cells_key hd h1, hk]
  · obtain ⟨t, rfl⟩ : ∃ t, r = 32 + t := ⟨r - 32, by omega⟩
    rw [cells_num he, cells_num hd]; exact h t hr
theorem OwnE.put1 {w : World} {base g n c j : Nat} {M M' : List En} {v : Value} (h : OwnE w base (.slice (some ⟨g, 0, none⟩) n c) M) (hM : M'.length = M.length) (hk : Keyed M') (he : ecs M' = (ecs M).set j v) : OwnE (w.setCell ⟨g, j, none⟩ v) base (.slice (some ⟨g, 0, none⟩) n c) M' := by
  obtain ⟨h1, ⟨e, _⟩ | ⟨g', cap, cur, e, hb, hg, hn, hc, hs, ht⟩⟩ := h.owns
  · cases e
  · cases e
    refine ⟨⟨by rw [he, List.length_set, hM]; exact h1, .inr ⟨g, c, cur.setIfInBounds j v, by rw [hM], hb, heap_setCell_same _ _ _ _ _ _ hg, by rw [hM]; exact hn, hc, by simpa using hs, ?_⟩⟩, hk⟩
    rw [hM, he, ← ht, Array.toList_setIfInBounds, List.take_set]
theorem OwnE.n {w : World} {base g n c : Nat} {M : List En} (h : OwnE w base (.slice (some ⟨g, 0, none⟩) n c) M) : M.length = n := by
  obtain ⟨h1, ⟨e, _⟩ | ⟨g', cap, cur, e, _⟩⟩ := h.owns <;> cases e
  rfl
theorem OwnE.live {w : World} {base g n c j : Nat} {M : List En} (h : OwnE w base (.slice (some ⟨g, 0, none⟩) n c) M) (hj : j < n * 35) : (∃ u, w.cell? ⟨g, j, none⟩ = some u) ∧ w.frozen? ⟨g, j, none⟩ = false := by
  obtain ⟨h1, ⟨e, _⟩ | ⟨g', cap, cur, e, hb, hg, hn, hc, hs, ht⟩⟩ := h.owns
  · cases e
  · cases e
    have : j < cur.size := by rw [hs]; have := Nat.mul_le_mul_right 35 hn; omega
    exact ⟨⟨cur[j], by rw [cell_of_row w g j _ _ _ hg]; simp [this]⟩, frozen_of_row w g j _ _ hg⟩
theorem OwnE.at_ {w : World} {base g n c : Nat} {M : List En} (h : OwnE w base (.slice (some ⟨g, 0, none⟩) n c) M) : SlE w (some ⟨g, 0, none⟩) n c M := by
  obtain ⟨a, c', e, s, _⟩ := h.slice
  rw [h.n] at e s
  cases e
  exact s
theorem run_storeF {w : World} {g off : Nat} (hc : ∃ u, w.cell? ⟨g, off, none⟩ = some u) (hf : w.frozen? ⟨g, off, none⟩ = false) (p : Int) : (Instr.storeAt 3 (.pointer (some ⟨g, off, none⟩)) (.int .i64 p)).run Tryd.prog w = .ok () (w.setCell ⟨g, off, none⟩ (.int .i64 p)) := by
  obtain ⟨u, hu'⟩ := hc
  have hu := Tryd.underlying3
  simp [go_sem, Instr.storeAt, Instr.sureAddr, storeVar, hu', hf]
theorem wpList_storeP {ops : Array Oper} {rest : List Oper} {o : Oper} {a : Act} {w : World} {Q : Exit → Act → World → Prop} (hgd : o.guard = none) (x y : Operand) (ho : o.op = .store 3 x y) (g off : Nat) (hx : a.eval x = .pointer (some ⟨g, off, none⟩)) (p : Int) (hy : a.eval y = .int .i64 p)
    (base n c : Nat) (M : List En) (hown : OwnE w base (.slice (some ⟨g, 0, none⟩) n c) M) (i : Nat) (hi : i < n) (hoff : off = i * 35 + 32)
    (h : ∀ w', OwnE w' base (.slice (some ⟨g, 0, none⟩) n c) (setP M i p) → Keeps (· = g) w w' → wpList Tryd.prog ops Q rest (a.put o.dst undef) w') : wpList Tryd.prog ops Q (o :: rest) a w := by
  subst hoff
  have hn := hown.n
  obtain ⟨hc, hf⟩ := hown.live (j := i * 35 + 32) (by omega)
  refine wpList_plain hgd fun K hK => ?_
  unfold Oper.wp execOp
  simp only [ho, hx, hy, run_storeF hc hf, Sem.run_bind, Sem.run_pure, Result.andThen_ok]
  have hd := hown.keyed _ (getD_mem (i := i) (l := M) (by omega))
  have he : ({ M.getD i default with place := p } : En).key.length = 32 := hd
  refine hK _ _ (h _ (hown.put1 (setP_len _ _ _) (set_keyed hown.keyed he) (ecs_set hown.keyed (by omega) he (num_cells _ he).1 (by omega) (cells_but he hd rfl fun t ht => ?_))) ((Keeps.refl (· = g) w).setCell (p := ⟨g, _, none⟩) (.inl rfl) _))
  match t, ht with
  | 0, ht => exact absurd rfl ht
  | t + 1, _ => rfl
theorem wpList_storeB {ops : Array Oper} {rest : List Oper} {o : Oper} {a : Act} {w : World} {Q : Exit → Act → World → Prop} (hgd : o.guard = none) (x y : Operand) (ho : o.op = .store 3 x y) (g off : Nat) (hx : a.eval x = .pointer (some ⟨g, off, none⟩)) (p : Int) (hy : a.eval y = .int .i64 p)
    (base n c : Nat) (M : List En) (hown : OwnE w base (.slice (some ⟨g, 0, none⟩) n c) M) (i : Nat) (hi : i < n) (hoff : off = i * 35 + 33)
    (h : ∀ w', OwnE w' base (.slice (some ⟨g, 0, none⟩) n c) (setB M i p) → Keeps (· = g) w w' → wpList Tryd.prog ops Q rest (a.put o.dst undef) w') : wpList Tryd.prog ops Q (o :: rest) a w := by
  subst hoff
  have hn := hown.n
  obtain ⟨hc, hf⟩ := hown.live (j := i * 35 + 33) (by omega)
  refine wpList_plain hgd fun K hK => ?_
  unfold Oper.wp execOp
  simp only [ho, hx, hy, run_storeF hc hf, Sem.run_bind, Sem.run_pure, Result.andThen_ok]
  have hd := hown.keyed _ (getD_mem (i := i) (l := M) (by omega))
  have he : ({ M.getD i default with blocks := p } : En).key.length = 32 := hd
  refine hK _ _ (h _ (hown.put1 (setB_len _ _ _) (set_keyed hown.keyed he) (ecs_set hown.keyed (by omega) he (num_cells _ he).2 (by omega) (cells_but he hd rfl fun t ht => ?_))) ((Keeps.refl (· = g) w).setCell (p := ⟨g, _, none⟩) (.inl rfl) _))
  match t, ht with
  | 0, _ => rfl
  | 1, ht => exact absurd rfl ht
  | t + 2, _ => rfl

/-! What the law wants of it. -/
def swp (l : List En) (A B : Nat) : List En := setB (setB (setP (setP l A (l.getD B default).place) B (l.getD A default).place) A (l.getD B default).blocks) B (l.getD A default).blocks
def sg (A B i : Nat) : Nat := if i = B then A else if i = A then B else i
theorem swp_len (l : List En) (A B : Nat) : (swp l A B).length = l.length := by simp [swp, setB_len, setP_len]
theorem swp_get {l : List En} {A B : Nat} (hA : A < l.length) (hB : B < l.length) {i : Nat} (hi : i < l.length) : (swp l A B).getD i default = ⟨(l.getD i default).key, (l.getD (sg A B i) default).place, (l.getD (sg A B i) default).blocks, (l.getD i default).refs⟩ := by
  unfold swp sg
  simp only [setB_get, setP_get, setB_len, setP_len, hi, hA, hB]
  by_cases e1 : i = B
  · subst e1
    by_cases e2 : A = i
    · subst e2; simp
    · simp [e2]
  · by_cases e2 : i = A
    · subst e2
      simp [e1, Ne.symm e1]
    · simp [e1, e2, Ne.symm e1, Ne.symm e2]
theorem sg_inj {A B i j : Nat} (h : sg A B i = sg A B j) : i = j := by
  unfold sg at h
  split at h <;> split at h <;> (try split at h) <;> (try split at h) <;> omega
theorem sg_lt {A B i n : Nat} (hA : A < n) (hB : B < n) (hi : i < n) : sg A B i < n := by unfold sg; split; exact hA; split; exact hB; exact hi
theorem apt_pair {l : List En} (h : apt l = true) {i j : Nat} (hi : i < l.length) (hj : j < l.length) (hne : i ≠ j) : ¬ ((l.getD i default).place < (l.getD j default).place + (l.getD j default).blocks ∧ (l.getD j default).place < (l.getD i default).place + (l.getD i default).blocks) := by
  rcases Nat.lt_or_gt_of_ne hne with h1 | h1
  · have := (okI_iff.1 (apt_iff.1 h j hj)).2 i h1
    unfold ovl at this
    simpa using this
  · have := (okI_iff.1 (apt_iff.1 h i hi)).2 j h1
    unfold ovl at this
    simp only [decide_eq_false_iff_not] at this
    exact fun ⟨q1, q2⟩ => this ⟨q2, q1⟩
theorem one_get {l : List En} (h : ix l = true) {i : Nat} (hi : i < l.length) : one (l.getD i default) = true := (okI_iff.1 (apt_iff.1 (ix_iff.1 h).2 i hi)).1
theorem ix_swp {l : List En} (h : ix l = true) {A B : Nat} (hA : A < l.length) (hB : B < l.length) : ix (swp l A B) = true := by
  obtain ⟨h1, h2⟩ := ix_iff.1 h
  refine ix_iff.2 ⟨rises_iff.2 fun i hi => ?_, apt_iff.2 fun i hi => okI_iff.2 ⟨?_, fun k hk => ?_⟩⟩
  · rw [swp_len] at hi
    have := rises_iff.1 h1 i hi
    unfold ordB at *
    rw [swp_get hA hB hi, swp_get hA hB (show i - 1 < l.length by omega)]
    exact this
  · rw [swp_len] at hi
    have o1 := one_get h (sg_lt hA hB hi)
    have o2 := one_get h hi
    rw [swp_get hA hB hi]
    unfold one at *
    simp only [decide_eq_true_eq] at *
    omega
  · rw [swp_len] at hi
    have hne : sg A B k ≠ sg A B i := fun e => by have := sg_inj e; omega
    have := apt_pair h2 (sg_lt hA hB (show k < l.length by omega)) (sg_lt hA hB hi) hne
    unfold ovl
    rw [swp_get hA hB hi, swp_get hA hB (show k < l.length by omega)]
    simpa using this
theorem swp_B {l : List En} {A B : Nat} (hA : A < l.length) (hB : B < l.length) : ((swp l A B).getD B default).place = (l.getD A default).place := by
  rw [swp_get hA hB hB]; unfold sg; rw [if_pos rfl]
theorem ext_getE {M N : List En} (hl : M.length = N.length) (h : ∀ j, j < M.length → M.getD j default = N.getD j default) : M = N := by
  apply List.ext_getElem hl
  intro j h1 h2
  have := h j h1
  rw [List.getD_eq_getElem?_getD, List.getD_eq_getElem?_getD, List.getElem?_eq_getElem h1, List.getElem?_eq_getElem h2] at this
  simpa using this
theorem ix_over {l : List En} (h : ix l = true) {A B : Nat} (hA : A < l.length) (hB : B < l.length) : ix (setP (swp l A B) A (l.getD A default).place) = decide (A = B) := by
  by_cases e : A = B
  · subst e
    rw [decide_eq_true rfl]
    have hs : setP (swp l A A) A (l.getD A default).place = swp l A A := by
      refine ext_getE (by rw [setP_len]) fun j hj => ?_
      rw [setP_len, swp_len] at hj
      rw [setP_get _ (by rw [swp_len]; exact hj)]
      split
      · rename_i e; subst e
        rw [swp_get hA hA hA]; simp [sg]
      · rfl
    rw [hs]; exact ix_swp h hA hA
  · rw [decide_eq_false e]
    cases hx : ix (setP (swp l A B) A (l.getD A default).place) with
    | false => rfl
    | true =>
      exfalso
      have hp := apt_pair (ix_iff.1 hx).2 (i := A) (j := B) (by rw [setP_len, swp_len]; exact hA) (by rw [setP_len, swp_len]; exact hB) e
      have o1 := one_get hx (i := A) (by rw [setP_len, swp_len]; exact hA)
      have o2 := one_get hx (i := B) (by rw [setP_len, swp_len]; exact hB)
      have g1 : ((setP (swp l A B) A (l.getD A default).place).getD A default).place = (l.getD A default).place := by rw [setP_get _ (by rw [swp_len]; exact hA), if_pos rfl]
      have g2 : ((setP (swp l A B) A (l.getD A default).place).getD B default).place = (l.getD A default).place := by rw [setP_get _ (by rw [swp_len]; exact hB), if_neg e]; exact swp_B hA hB
      unfold one at o1 o2
      simp only [decide_eq_true_eq] at o1 o2
      rw [g1] at hp o1
      rw [g2] at hp o2
      exact hp ⟨by omega, by omega⟩

theorem good35v_at {l : List En} {v : Bool} (h : ix l = v) (w : World) (a : Option Addr) (n c : Nat) (hl : SlE w a n c l) (hn : n ≤ 9223372036854775807) :
    Calls Tryd.prog 35 #[.slice a n c] w fun e w' => e = .returned (.bool v) ∧ Keeps (fun _ => False) w w' := by
  rw [← h]; exact good35u w a n c l hl hn
theorem rowTy67' : RowTy 67 2 := ⟨⟨_, Tryd.underlying67, rfl⟩, by kernel_rfl⟩
set_option maxRecDepth 100000 in
theorem apart_no (w : World) (hT : Tabs w) (a : Option Addr) (n c : Nat) (l : List En) (hl : SlE w a n c l) (hn : n ≤ 9223372036854775807) (x y : Int) (h : ix l = false ∨ n < 2 ∨ 60 < n) :
    Calls Tryd.prog 13 #[.slice a n c, .agg #[.int .u8 x, .int .u8 y]] w fun e w' => e = .returned (.bool true) ∧ Keeps (fun _ => False) w w' := by
  have cs : (ix l = false) ∨ (ix l = true ∧ (n : Int) < 2) ∨ (ix l = true ∧ ¬ (n : Int) < 2 ∧ (60 : Int) < (n : Int)) := by
    cases hi : ix l with
    | false => exact .inl rfl
    | true =>
      rcases h with h | h | h
      · rw [hi] at h; cases h
      · exact .inr (.inl ⟨rfl, by omega⟩)
      · exact .inr (.inr ⟨rfl, by omega, by omega⟩)
  clear h
  rcases cs with hi | ⟨hi, h2⟩ | ⟨hi, h2, h3⟩
  all_goals
    have HI : Hid (ix l = _) := hi
    clear hi
    go_enter Tryd.func13, Tryd.ntmps13
    go_wp2_with (first
      | (refine wpList_boxR rfl 67 _ rfl _ rfl ?_; intro g3 w1 b1 z1 k1)
      | (go_at_call 35; refine (good35v_at HI.out _ _ _ _ (hl.keep k1) hn).mono ?_; rintro e w2 ⟨rfl, k2⟩; have K2 := k1.trans k2)
      | (go_at_call 29; refine (wakes29 _ (hT.keeps K2 (fun h => h) (fun h => h))).mono ?_; rintro e w3 ⟨rfl, k3⟩))
    go_ret
    exact ⟨rfl, K2.trans k3⟩

theorem OwnE.blk {w : World} {base n : Nat} {v : Value} {l : List En} (h : OwnE w base v l) (hn : l.length = n) (h0 : 0 < n) : ∃ g c, v = .slice (some ⟨g, 0, none⟩) n c ∧ base ≤ g ∧ g < w.heap.size := by
  obtain ⟨h1, ⟨_, e⟩ | ⟨g', cap, cur, e, hb, hg, _⟩⟩ := h.owns
  · omega
  · exact ⟨g', cap, by rw [e, hn], hb, lt_of_row hg⟩

set_option maxRecDepth 100000 in
set_option maxHeartbeats 4000000 in
theorem apart_ok (w : World) (hT : Tabs w) (a : Option Addr) (n c : Nat) (l : List En) (hl : SlE w a n c l) (h2 : 2 ≤ n) (h60 : n ≤ 60) (hi : ix l = true) (x y : Int) (hx : 0 ≤ x ∧ x < 256) (hy : 0 ≤ y ∧ y < 256) :
    Calls Tryd.prog 13 #[.slice a n c, .agg #[.int .u8 x, .int .u8 y]] w fun e w' => e = .returned (.bool true) ∧ Keeps (fun _ => False) w w' := by
  have hlen := hl.len
  obtain ⟨b, o, rfl, E0⟩ := hl.ent (i := 0) (by omega)
  have hbw : b < w.heap.size := slb_lt E0.slb (by omega) rfl
  obtain ⟨hx0, hx1⟩ := hx
  obtain ⟨hy0, hy1⟩ := hy
  obtain ⟨A, hA⟩ : ∃ A : Nat, x % (n : Int) = (A : Int) := ⟨(x % (n : Int)).toNat, by have := Int.emod_nonneg x (b := (n : Int)) (by omega); omega⟩
  obtain ⟨B', hB⟩ : ∃ B' : Nat, y % (n : Int) = (B' : Int) := ⟨(y % (n : Int)).toNat, by have := Int.emod_nonneg y (b := (n : Int)) (by omega); omega⟩
  have hAn : A < n := by have := Int.emod_lt_of_pos x (b := (n : Int)) (by omega); omega
  have hBn : B' < n := by have := Int.emod_lt_of_pos y (b := (n : Int)) (by omega); omega
  have hAi : (A : Int) < (n : Int) := by omega
  have hBi : (B' : Int) < (n : Int) := by omega
  have hA0 : (0 : Int) ≤ (A : Int) := by omega
  have hB0 : (0 : Int) ≤ (B' : Int) := by omega
  have hn0 : ¬ (n : Int) = 0 := by omega
  have hn2 : ¬ (n : Int) < 2 := by omega
  have hn60 : ¬ (60 : Int) < (n : Int) := by omega
  have hnp : (0 : Int) < (n : Int) := by omega
  have Hlen : Hid (l.length = n) := hlen
  have HI : Hid (ix l = true) := hi
  have HW : Hid (ix (swp l A B') = true) := ix_swp hi (by omega) (by omega)
  obtain ⟨u, hu⟩ : ∃ u, decide (A = B') = u := ⟨_, rfl⟩
  have HO : Hid (ix (setP (swp l A B') A (l.getD A default).place) = u) := by show _ = _; rw [← hu]; exact ix_over hi (by omega) (by omega)
  have HP : Hid (((swp l A B').getD B' default).place = (l.getD A default).place) := swp_B (by omega) (by omega)
  have hab : ((A : Int) == (B' : Int)) = u := by rw [← hu]; by_cases e : A = B'; subst e; simp; simp [e]; omega
  have hts := hT.size
  have hcap := hl.cap
  clear hi hu hlen E0
  go_enter Tryd.func13, Tryd.ntmps13
  go_wp2_with (first
    | (refine wpList_boxR rfl 67 _ rfl _ rfl ?_; intro g3 w1 b1 z1 k1)
    | (go_at_call 35; refine (good35v_at HI.out _ _ _ _ (hl.keep k1) (by omega)).mono ?_; rintro e w2 ⟨rfl, k2⟩; have K2 := k1.trans k2; have b2 := b1.keep k2))
  have c0 : ∀ d os, (grow (redrawn w2 d) os).cell? ⟨g3, 0, none⟩ = some (.int .u8 x) := fun d os => (b2.cls ⟨⟨d, os⟩, rfl⟩).cell 0
  have c1 : ∀ d os, (grow (redrawn w2 d) os).cell? ⟨g3, 1, none⟩ = some (.int .u8 y) := fun d os => (b2.cls ⟨⟨d, os⟩, rfl⟩).cell 1
  refine wp_region_quiet_below (by kernel_rfl) (by kernel_rfl) ?_
  repeat (go_big_quiet_step (fail))
  refine wpQuiet_nil ?_
  intro w3 hw3
  have K3 := K2.trans (keeps_cls hw3)
  clear c0 c1
  go_wp2_with (first
    | (refine wpList_build0F rfl rfl ?_; intro gA w4 o4 zA k4; have K4 := K3.trans k4)
    | (refine wpList_appSEo rfl _ _ rfl w3.heap.size _ rfl o4 _ n c l rfl (hl.keep K4) (fun h => by cases h) (by omega) (by have := k4.size; omega) ?_; intro v5 w5 o5 k5; have K5 : Keeps (fun _ => False) w w5 := K4.trans' k5 (fun i e => .inr (by have := (o4.from e).1; have := K3.size; omega)); have k35 : Keeps (fun _ => False) w3 w5 := k4.trans' k5 (fun i e => .inr (o4.from e).1); obtain ⟨g7, c7, e7, hb7, _⟩ := o5.blk Hlen.out (by omega); subst e7))
  have hl3 := hl.keep K3
  obtain ⟨pa, hpa⟩ : ∃ pa, (l.getD A default).place = pa := ⟨_, rfl⟩
  obtain ⟨pb, hpb⟩ : ∃ pb, (l.getD B' default).place = pb := ⟨_, rfl⟩
  obtain ⟨qa, hqa⟩ : ∃ qa, (l.getD A default).blocks = qa := ⟨_, rfl⟩
  obtain ⟨qb, hqb⟩ : ∃ qb, (l.getD B' default).blocks = qb := ⟨_, rfl⟩
  have HSw : Hid (setB (setB (setP (setP l A pb) B' pa) A qb) B' qa = swp l A B') := by show _ = _; rw [← hpa, ← hpb, ← hqa, ← hqb]; rfl
  have HO2 : Hid (ix (setP (swp l A B') A pa) = u) := by show _ = _; rw [← hpa]; exact HO.out
  have HP2 : Hid (((swp l A B').getD B' default).place = pa) := by show _ = _; rw [← hpa]; exact HP.out
  obtain ⟨b', o', e', EA⟩ := hl3.ent (i := A) hAn
  cases e'
  obtain ⟨b', o', e', EB⟩ := hl3.ent (i := B') hBn
  cases e'
  have c1 : ∀ d os, (grow (redrawn w3 d) os).cell? ⟨b, o + A * 35 + 32, none⟩ = some (.int .i64 pa) := fun d os => by rw [← hpa]; exact (EA.cls ⟨⟨d, os⟩, rfl⟩).place
  have c2 : ∀ d os, (grow (redrawn w3 d) os).cell? ⟨b, o + B' * 35 + 32, none⟩ = some (.int .i64 pb) := fun d os => by rw [← hpb]; exact (EB.cls ⟨⟨d, os⟩, rfl⟩).place
  have c3 : ∀ d os, (grow (redrawn w3 d) os).cell? ⟨b, o + A * 35 + 33, none⟩ = some (.int .i64 qa) := fun d os => by rw [← hqa]; exact (EA.cls ⟨⟨d, os⟩, rfl⟩).blocks
  have c4 : ∀ d os, (grow (redrawn w3 d) os).cell? ⟨b, o + B' * 35 + 33, none⟩ = some (.int .i64 qb) := fun d os => by rw [← hqb]; exact (EB.cls ⟨⟨d, os⟩, rfl⟩).blocks
  clear hpa hpb hqa hqb HO HP
  have kd5 : Keeps (fun _ => False) w5 w5.drew := (Keeps.refl _ _).drew
  have o5d := o5.kept kd5 (fun _ _ h => h)
  have q5 := k35.trans kd5
  refine region_plan (S := fun w' => ∃ p : Regrown, w' = grow (redrawn w3 p.d) p.os) [([0, 1, 2, 3, 4, 5, 6, 7, 8, 9, 10, 11, 12, 13, 14, 15], 16), ([17, 18], 19)] [] (by kernel_rfl) (by kernel_rfl) (by kernel_rfl) (by kernel_rfl) (cls_keeps q5) ?_
  simp only [wpPlan, opsAt, pick]
  repeat (go_big_quiet_step (fail))
  refine wpQuiet_nil ?_
  go_wp2_with (refine wpList_storeP rfl _ _ rfl g7 _ rfl pb rfl w3.heap.size n c7 l o5d A hAn (by omega) ?_; intro w6 o6 k6)
  have q6 : Keeps (fun _ => False) w3 w6 := q5.trans' k6 (fun i e => .inr (by omega))
  refine ⟨cls_keeps q6, ?_⟩
  simp only [wpPlan, opsAt, pick]
  repeat (go_big_quiet_step (fail))
  refine wpQuiet_nil ?_
  go_wp2_with (refine wpList_storeP rfl _ _ rfl g7 _ rfl pa rfl w3.heap.size n c7 _ o6 B' hBn (by omega) ?_; intro w7 o7 k7)
  have q7 : Keeps (fun _ => False) w3 w7 := q6.trans' k7 (fun i e => .inr (by omega))
  refine ⟨cls_keeps q7, ?_⟩
  simp only [wpPlan, opsAt, pick]
  refine wpQuiet_nil ?_
  refine NoPanic.normal ?_
  go_wp2_with fail
  have kd7 : Keeps (fun _ => False) w7 w7.drew := (Keeps.refl _ _).drew
  have o7d := o7.kept kd7 (fun _ _ h => h)
  have q7d := q7.trans kd7
  refine region_plan (S := fun w' => ∃ p : Regrown, w' = grow (redrawn w3 p.d) p.os) [([0, 1, 2, 3, 4, 5, 6, 7, 8, 9, 10, 11, 12, 13, 14, 15], 16), ([17, 18], 19)] [] (by kernel_rfl) (by kernel_rfl) (by kernel_rfl) (by kernel_rfl) (cls_keeps q7d) ?_
  simp only [wpPlan, opsAt, pick]
  repeat (go_big_quiet_step (fail))
  refine wpQuiet_nil ?_
  go_wp2_with (refine wpList_storeB rfl _ _ rfl g7 _ rfl qb rfl w3.heap.size n c7 _ o7d A hAn (by omega) ?_; intro w8 o8 k8)
  have q8 : Keeps (fun _ => False) w3 w8 := q7d.trans' k8 (fun i e => .inr (by omega))
  refine ⟨cls_keeps q8, ?_⟩
  simp only [wpPlan, opsAt, pick]
  repeat (go_big_quiet_step (fail))
  refine wpQuiet_nil ?_
  go_wp2_with (refine wpList_storeB rfl _ _ rfl g7 _ rfl qa rfl w3.heap.size n c7 _ o8 B' hBn (by omega) ?_; intro w9 o9 k9)
  have q9 : Keeps (fun _ => False) w3 w9 := q8.trans' k9 (fun i e => .inr (by omega))
  refine ⟨cls_keeps q9, ?_⟩
  simp only [wpPlan, opsAt, pick]
  refine wpQuiet_nil ?_
  refine NoPanic.normal ?_
  clear c1 c2 c3 c4
  have hwg : w.heap.size ≤ g7 := by have := K3.size; omega
  have KW9 : Keeps (fun _ => False) w w9 := K3.trans q9
  rw [HSw.out] at o9
  go_wp2_with (first
    | (go_at_call 34; have := KWB; refine (good34_at HO2.out _ _ n c7 oB.at_ (by omega)).mono ?_; rintro e wC ⟨rfl, kC⟩)
    | (go_at_call 34; refine (good34_at HW.out _ _ n c7 o9.at_ (by omega)).mono ?_; rintro e wA ⟨rfl, kA⟩; have oA := o9.kept kA (fun _ _ h => h); have KWA := KW9.trans kA; obtain ⟨b', o', e', EM⟩ := oA.at_.ent (i := B') hBn; cases e'; have c1 := EM.place; rw [HP2.out, Nat.zero_add] at c1)
    | (refine wpList_storeP rfl _ _ rfl g7 _ rfl pa rfl w3.heap.size n c7 _ oA A hAn (by omega) ?_; intro wB oB kB; have KWB : Keeps (fun _ => False) w wB := KWA.trans' kB (fun i e => .inr (by omega)))
    | (go_at_call 29; refine (wakes29 _ (hT.keeps (KWB.trans kC) (fun h => h) (fun h => h))).mono ?_; rintro e wD ⟨rfl, kD⟩))
  go_ret
  exact ⟨rfl, (KWB.trans kC).trans kD⟩

theorem apartL (w : World) (hT : Tabs w) (a : Option Addr) (n c : Nat) (l : List En) (hl : SlE w a n c l) (hn : n ≤ 9223372036854775807) (x y : Int) (hx : 0 ≤ x ∧ x < 256) (hy : 0 ≤ y ∧ y < 256) :
    Calls Tryd.prog 13 #[.slice a n c, .agg #[.int .u8 x, .int .u8 y]] w fun e w' => e = .returned (.bool true) ∧ Keeps (fun _ => False) w w' := by
  by_cases h : n < 2 ∨ 60 < n
  · exact apart_no w hT a n c l hl hn x y (.inr h)
  · cases hi : ix l with
    | false => exact apart_no w hT a n c l hl hn x y (.inl hi)
    | true => exact apart_ok w hT a n c l hl (by omega) (by omega) hi x y hx hy

end Go.Proofs.YthngaegfppbdmaaDoor
