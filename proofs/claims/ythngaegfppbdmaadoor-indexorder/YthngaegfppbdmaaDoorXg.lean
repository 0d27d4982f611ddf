/-
  slices.Grow and slices.Concat over entries.
-/
import Derived.Test.YthngaegfppbdmaaDoorXf
import Derived.Test.YthngaegfppbdmaaDoorLc
import Derived.Shelf.Spec.SlicesGrow
set_option linter.all false
namespace Go.Proofs
open Go.Shelf
shelf_lay_g Lays8.n4 Nm8 4 at Tryd 80 as Tryd.growE
end Go.Proofs
namespace Go.Proofs.YthngaegfppbdmaaDoor
open Go.RowKit Go.Sort Go.Shelf
attribute [local go_sem] Oper.semAt_some

theorem grow80 (w : World) (n : Nat) (hn : n ≤ 100000) :
    Calls Tryd.prog 80 #[.slice none 0 0, .int .i64 (n : Int)] w fun e w' => ∃ v, e = .returned v ∧ OwnE w' w.heap.size v [] ∧ Keeps (fun _ => False) w w' := by
  by_cases h : n = 0
  · subst h
    have := Any8.slices_Grow_room Tryd.growE none 0 0 0 w (by omega) (by omega) (by omega) (by omega)
    change Calls Tryd.prog 80 _ _ _ at this
    refine this.mono ?_
    rintro e w' ⟨rfl, rfl⟩
    exact ⟨_, rfl, OwnE.nil _ _, Keeps.refl _ _⟩
  · obtain ⟨i, hi, hz, hs, hb⟩ := info46'
    have := Any8.slices_Grow_grow Tryd.growE i _ hi hz (by omega) none 0 0 n [] w (by omega) (by omega) (by rw [hb]; omega) (by omega) (by simp) (fun _ => rfl) (fun a h => by cases h)
    change Calls Tryd.prog 80 _ _ _ at this
    refine this.mono ?_
    rintro e w' ⟨rfl, rfl⟩
    refine ⟨_, rfl, ⟨⟨by simp [ecs], .inr ⟨w.heap.size, _, _, rfl, Nat.le_refl _, heap_alloc_new w.drew _, Nat.zero_le _, ?_, ?_, by simp [ecs]⟩⟩, fun e he => by cases he⟩, ((Keeps.refl _ _).drew).trans (keeps_alloc _ _)⟩
    · exact grownCap_le_maxLen w (0 + n) 0 54 (by unfold maxLen; omega)
    · have hg := grownCap_ge w (0 + n) 0 54
      have hz35 : (Value.agg (e0 0 0 0).cells.toArray).cells.size = 35 := by show (e0 0 0 0).cells.toArray.size = 35; rw [List.size_toArray, En.cells_len (zb_len _)]
      change ((#[] : Array Value) ++ Builtin.zeroCells (Value.agg (e0 0 0 0).cells.toArray).cells (0 + n - 0) ++ Builtin.zeroCells (Value.agg (e0 0 0 0).cells.toArray).cells (grownCap w (0 + n) 0 54 - (0 + n))).size = grownCap w (0 + n) 0 54 * 35
      generalize grownCap w (0 + n) 0 54 = G at *
      rw [Array.size_append, Array.size_append, size_zeroCells, size_zeroCells, hz35]
      simp only [Array.size_empty]
      omega

theorem wpList_appSEg {ops : Array Oper} {rest : List Oper} {o : Oper} {a : Act} {w : World} {Q : Exit → Act → World → Prop} (hgd : o.guard = none) (s x : Operand) (ho : o.op = .call { callee := .builtin .append, args := #[s, x], argTypes := #[22, 22] })
    (base : Nat) (v : Value) (l : List En) (hs : a.eval s = v) (hown : OwnE w base v l) (ad : Option Addr) (m c : Nat) (l1 : List En) (hx : a.eval x = .slice ad m c) (hl : SlE w ad m c l1) (hnc : ad = none → c = 0) (hlen : l.length + m ≤ 100000) (hbase : base ≤ w.heap.size)
    (h : ∀ v' w', OwnE w' base v' (l ++ l1) → Keeps (fun k => v.ownBlock = some k) w w' → wpList Tryd.prog ops Q rest (a.put o.dst v') w') : wpList Tryd.prog ops Q (o :: rest) a w := by
  cases ad with
  | none =>
    obtain rfl : c = 0 := hnc rfl
    have hm : m = 0 := by have := hl.cap; omega
    subst hm
    obtain rfl : l1 = [] := List.eq_nil_of_length_eq_zero hl.len
    obtain ⟨i, hi, _⟩ := info46'
    refine wpList_append_own_none hgd s x 22 ho base 54 i 35 Tryd.underlying22 hi v l.length _ hs hown.owns hx ?_
    exact h v w (by rw [List.append_nil]; exact hown) (Keeps.refl _ _)
  | some ad =>
    obtain ⟨i, hi, hz, hsz, hby⟩ := info46'
    have hlen1 := hl.len
    refine wpList_append_own _ hgd s x 22 ho base 54 i (.agg (e0 0 0 0).cells.toArray) 35 56 Tryd.underlying22 hi hz hsz hby (by show (e0 0 0 0).cells.toArray.size = 35; rw [List.size_toArray, En.cells_len (zb_len _)]) (by omega) v l.length _ hs hown.owns ad m c (ecs l1) hx (by rw [ecs_len hl.keyed, hlen1]) (fun j u hu => ?_) (fun u hu => by
      unfold ecs at hu
      obtain ⟨e, _, he⟩ := List.mem_flatMap.1 hu
      have := cells_one e
      rw [Array.all_eq_true_iff_forall_mem] at this
      exact this u (by simpa using he)) (by unfold maxLen; omega) (by omega) hbase ?_
    · obtain ⟨b', o', e', hc⟩ := hl.at_ j u hu
      cases e'
      rw [Addr_add]
      exact hc
    · intro v' w' ho' hg _
      refine h v' w' ⟨?_, ?_⟩ ⟨hg.os, hg.tape, hg.output, hg.size, fun k hk hb => hg.block k hk fun e => hb e.symm⟩
      · have : ecs (l ++ l1) = ecs l ++ ecs l1 := by simp [ecs]
        rw [this, List.length_append, hlen1]; exact ho'
      · intro x hx'
        rcases List.mem_append.1 hx' with h1 | h1
        · exact hown.keyed x h1
        · exact hl.keyed x h1

/-- A slice as it is handed on. -/
structure Sv where
  a : Option Addr
  n : Nat
  c : Nat
  l : List En
deriving Inhabited
def Sv.v (x : Sv) : Value := .slice x.a x.n x.c
structure Sv.Ok (w : World) (x : Sv) : Prop where
  sl : SlE w x.a x.n x.c x.l
  nil : x.a = none → x.c = 0
def cat (xs : List Sv) : List En := xs.flatMap (·.l)
theorem cat_snoc {xs : List Sv} {j : Nat} (h : j < xs.length) : cat (xs.take (j + 1)) = cat (xs.take j) ++ (xs.getD j default).l := by
  unfold cat
  rw [List.take_succ_eq_append_getElem h, List.flatMap_append, List.getD_eq_getElem?_getD, List.getElem?_eq_getElem h]
  simp
theorem cat_le (xs : List Sv) (j : Nat) : (cat (xs.take j)).length ≤ (cat xs).length := by
  have : cat xs = cat (xs.take j) ++ cat (xs.drop j) := by
    unfold cat
    rw [← List.flatMap_append, List.take_append_drop]
  rw [this, List.length_append]; omega

set_option maxHeartbeats 4000000 in
theorem concat73 (w : World) (g m : Nat) (xs : List Sv) (hR : RoAt w g 22 (xs.map Sv.v).toArray) (hm : xs.length = m) (hx : ∀ x ∈ xs, x.Ok w) (hs : (cat xs).length ≤ 100000) (hm1 : m ≤ 1000) :
    Calls Tryd.prog 73 #[.slice (some ⟨g, 0, none⟩) m m] w fun e w' => ∃ v, e = .returned v ∧ OwnE w' w.heap.size v (cat xs) ∧ Keeps (fun _ => False) w w' := by
  have Hm : Hid (xs.length = m) := hm
  have Hx : Hid (∀ x ∈ xs, x.Ok w) := hx
  have HC : Hid (∀ j, (cat (xs.take j)).length ≤ 100000) := fun j => Nat.le_trans (cat_le xs j) hs
  have HN : Hid (∀ j, j < m → cat (xs.take (j + 1)) = cat (xs.take j) ++ (xs.getD j default).l) := fun j hj => cat_snoc (by rw [hm]; exact hj)
  have HV : Hid (∀ j, j < m → (xs.map Sv.v).toArray[j]? = some (xs.getD j default).v) := fun j hj => by
    rw [List.getElem?_toArray, List.getElem?_map, List.getElem?_eq_getElem (by omega), List.getD_eq_getElem?_getD, List.getElem?_eq_getElem (by omega)]; rfl
  have HM : Hid (∀ j, j < m → xs.getD j default ∈ xs) := fun j hj => by rw [List.getD_eq_getElem?_getD, List.getElem?_eq_getElem (by omega)]; exact List.getElem_mem _
  clear hm hx hs
  go_enter Tryd.func73, Tryd.ntmps73
  go_wp2
  go_loop [3, 11] (fun s t => ∃ j : Nat, j ≤ m ∧ t = .int .i64 (j : Int) ∧ s = .int .i64 ((cat (xs.take j)).length : Int)) (fun s t => m - (intOf t).toNat)
  case atStart => exact ⟨0, by omega, rfl, by simp [cat]⟩
  case round =>
    obtain ⟨j, hj, rfl, rfl⟩ := hrel
    by_cases hlt : j < m
    · have hlt' : (j : Int) < (m : Int) := by omega
      have hj0 : (0 : Int) ≤ (j : Int) := by omega
      have c1 := hR.cell j
      rw [HV.out j hlt] at c1
      have h1 := HC.out j
      have h2 := HC.out (j + 1)
      have h3 := HN.out j hlt
      have h4 := (Hx.out _ (HM.out j hlt)).sl.len
      have h5 : (cat (xs.take (j + 1))).length = (cat (xs.take j)).length + (xs.getD j default).n := by rw [h3, List.length_append, h4]
      have H5 : Hid ((cat (xs.take (j + 1))).length = (cat (xs.take j)).length + (xs.getD j default).n) := h5
      rw [h5] at h2
      clear h3 h4 h5
      generalize (cat (xs.take j)).length = S at *
      generalize xs.getD j default = x at *
      obtain ⟨xa, xn, xc, xl⟩ := x
      simp only [Sv.v] at c1 h2 H5
      have h6 : ¬ ((S : Int) + (xn : Int) < 0) := by omega
      go_wp2
      exact ⟨⟨j + 1, by omega, by go_num, by rw [H5.out]; go_num⟩, by simp [intOf]; omega⟩
    · obtain rfl : j = m := by omega
      have hlt' : ¬ (j : Int) < (j : Int) := by omega
      have hS : (cat xs).length ≤ 100000 := by have := HC.out j; rwa [List.take_of_length_le (by rw [Hm.out]; omega)] at this
      rw [List.take_of_length_le (by rw [Hm.out]; omega)]
      go_wp2_with (go_at_call 80; refine (grow80 _ _ hS).mono ?_; rintro e w1 ⟨v0, rfl, o1, k1⟩)
      have R1 := hR.keep k1
      clear hS
      go_loopw [6, 27] (fun v t wr => ∃ i : Nat, i ≤ j ∧ t = .int .i64 (i : Int) ∧ OwnE wr w.heap.size v (cat (xs.take i)) ∧ Keeps (fun _ => False) w wr) (fun v t _ => j - (intOf t).toNat)
      case atStart => exact ⟨0, by omega, rfl, by simpa [cat] using o1, k1⟩
      case round =>
        obtain ⟨i, hi, rfl, O, KW⟩ := hrel
        by_cases hlt2 : i < j
        · have hlt2' : (i : Int) < (j : Int) := by omega
          have hi0 : (0 : Int) ≤ (i : Int) := by omega
          have c1 := (hR.keep KW).cell i
          rw [HV.out i hlt2] at c1
          have h2 := HC.out (i + 1)
          have HE : Hid (cat (xs.take (i + 1)) = cat (xs.take i) ++ (xs.getD i default).l) := HN.out i hlt2
          have hk := (Hx.out _ (HM.out i hlt2)).nil
          have HK : Hid ((xs.getD i default).a = none → (xs.getD i default).c = 0) := hk
          have h4 := (Hx.out _ (HM.out i hlt2)).sl.keep KW
          rw [HE.out, List.length_append, h4.len] at h2
          have z1 := KW.size
          clear hk
          generalize cat (xs.take i) = F at *
          generalize xs.getD i default = x at *
          obtain ⟨xa, xn, xc, xl⟩ := x
          simp only [Sv.v] at c1 h2 h4
          go_wp2_with (refine wpList_appSEg rfl _ _ rfl w.heap.size _ F rfl O xa xn xc xl rfl h4 HK.out h2 z1 ?_; intro v7 w7 o7 k7)
          have K7 : Keeps (fun _ => False) w w7 := KW.trans' k7 (fun i e => .inr (O.from e).1)
          exact ⟨⟨i + 1, by omega, by go_num, by rw [HE.out]; exact o7, K7⟩, by simp [intOf]; omega⟩
        · obtain rfl : i = j := by omega
          have hlt2' : ¬ (i : Int) < (i : Int) := by omega
          rw [List.take_of_length_le (by rw [Hm.out]; omega)] at O
          go_wp2
          go_ret
          exact ⟨_, rfl, O, KW⟩

end Go.Proofs.YthngaegfppbdmaaDoor
