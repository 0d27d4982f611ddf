/-
  wakes of the index's laws.
-/
import Derived.Test.YthngaegfppbdmaaDoorXx
import Derived.Test.YthngaegfppbdmaaDoorXj
set_option linter.all false
namespace Go.Proofs.YthngaegfppbdmaaDoor
open Go.RowKit Go.Sort Go.Shelf
attribute [local go_sem] Oper.semAt_some

/-! Contracts with letters. -/
theorem unpack32_is {X : List B} {m : Nat} {l : List En} {v : Int} (h : unR X m = (l, v)) (w : World) (hT : Tabs w) (a : Option Addr) (c : Nat) (hX : SlB w a (m * 128) (c * 128) X) (hm : m ≤ 1000) :
    Calls Tryd.prog 32 #[.slice a m c] w fun e w' => (∃ a' c', e = .returned (.tuple #[.slice a' l.length c', .int .i64 v]) ∧ SlE w' a' l.length c' l) ∧ Keeps (fun _ => False) w w' := by
  have := unpack32 w hT a m c X hX hm
  rw [h] at this; exact this
theorem unpack33_is {X : List B} {m : Nat} {l : List En} {v : Int} (h : unR X m = (l, v)) (w : World) (a : Option Addr) (c : Nat) (hX : SlB w a (m * 128) (c * 128) X) (hm : m ≤ 1000) :
    Calls Tryd.prog 33 #[.slice a m c] w fun e w' => (∃ a' c', e = .returned (.tuple #[.slice a' l.length c', .int .i64 v]) ∧ SlE w' a' l.length c' l) ∧ Keeps (fun _ => False) w w' := by
  have := unpack33 w a m c X hX hm
  rw [h] at this; exact this
theorem find40_is {l : List En} {key : List B} {k : Nat} {v : Bool} (hr : rises l = true) (hk : fnd l key = k) (ht : ths l key = v) (w : World) (a : Option Addr) (n c : Nat) (hl : SlE w a n c l) (hn : n ≤ 4611686018427387903) (lk : key.length = 32) :
    Calls Tryd.prog 40 #[.slice a n c, .agg (brow key)] w fun e w' => e = .returned (.tuple #[.int .i64 (k : Nat), .bool v]) ∧ Keeps (fun _ => False) w w' := by
  rw [← hk, ← ht]; exact find40 w a n c l hl hn hr key lk
theorem find41_is {l : List En} {key : List B} {k : Nat} {v : Bool} (hk : fnd l key = k) (ht : ths l key = v) (w : World) (a : Option Addr) (n c : Nat) (hl : SlE w a n c l) (hn : n ≤ 9223372036854775806) (lk : key.length = 32) :
    Calls Tryd.prog 41 #[.slice a n c, .agg (brow key)] w fun e w' => e = .returned (.tuple #[.int .i64 (k : Nat), .bool v]) ∧ Keeps (fun _ => False) w w' := by
  rw [← hk, ← ht]; exact find41 w a n c l hl hn key lk
theorem insert_is {l L : List En} {x : En} {n' : Nat} (hL : ins l x = L) (hn' : L.length = n') (hr : rises l = true) (ht : ths l x.key = false) (w : World) (a : Option Addr) (n c : Nat) (hl : SlE w a n c l) (hnc : a = none → c = 0) (hn : n ≤ 1000) (lk : x.key.length = 32) :
    Calls Tryd.prog 42 #[.slice a n c, .agg x.cells.toArray] w fun e w' => (∃ b c', e = .returned (.tuple #[.slice (some ⟨b, 0, none⟩) n' c', .int .i64 0]) ∧ SlE w' (some ⟨b, 0, none⟩) n' c' L ∧ w.heap.size ≤ b ∧ b < w'.heap.size) ∧ Keeps (fun _ => False) w w' :=
  (insert42_new w a n c l hl hnc hn hr x lk ht).mono fun e w' ⟨⟨v, he, ho⟩, hk⟩ => by
    rw [hL] at ho
    have hp : 0 < L.length := by rw [← hL]; unfold ins; simp; omega
    obtain ⟨_, ⟨rfl, h0⟩ | ⟨g, cap, cur, rfl, hb, hg, _⟩⟩ := ho.owns
    · omega
    · obtain ⟨a', c', e', s', _⟩ := ho.slice
      cases e'
      rw [hn'] at s' he
      exact ⟨⟨g, cap, he, s', hb, lt_of_row hg⟩, hk⟩
theorem remove_is {l L : List En} {key : List B} {n' : Nat} (hL : del l key = L) (hn' : L.length = n') (hr : rises l = true) (ht : ths l key = true) (w : World) (a : Option Addr) (n c : Nat) (hl : SlE w a n c l) (hnc : a = none → c = 0) (hn : n ≤ 1000) (lk : key.length = 32) :
    Calls Tryd.prog 43 #[.slice a n c, .agg (brow key)] w fun e w' => (∃ a' c', e = .returned (.tuple #[.slice a' n' c', .int .i64 0]) ∧ SlE w' a' n' c' L ∧ (∀ b o, a' = some ⟨b, o, none⟩ → w.heap.size ≤ b)) ∧ Keeps (fun _ => False) w w' :=
  (remove43_there w a n c l hl hnc hn hr key lk ht).mono fun e w' ⟨⟨v, he, ho⟩, hk⟩ => by
    rw [hL] at ho
    obtain ⟨a', c', rfl, s', hb⟩ := ho.slice
    rw [hn'] at s' he
    exact ⟨⟨a', c', he, s', hb⟩, hk⟩

/-! The entries of wakes. -/
def W0 : En := ⟨1#8 :: zb 31, 9, 2, 0⟩
def W1 : En := ⟨3#8 :: zb 31, 5, 1, 0⟩
def W2 : En := ⟨2#8 :: zb 31, 30, 1, 0⟩
theorem ix_W : ix [W0, W1] = true := by decide +kernel
theorem rises_W : rises [W0, W1] = true := by decide +kernel
theorem fnd_W : fnd [W0, W1] (2#8 :: zb 31) = 1 := by decide +kernel
theorem ths_W : ths [W0, W1] (2#8 :: zb 31) = false := by decide +kernel
theorem ins_W : ins [W0, W1] W2 = [W0, W2, W1] := by decide +kernel
theorem rises_W3 : rises [W0, W2, W1] = true := by decide +kernel
theorem ths_W3 : ths [W0, W2, W1] (1#8 :: zb 31) = true := by decide +kernel
theorem del_W : del [W0, W2, W1] (1#8 :: zb 31) = [W2, W1] := by decide +kernel
theorem keyed_W : Keyed [W0, W1] := fun e he => by
  simp only [List.mem_cons, List.not_mem_nil, or_false] at he
  rcases he with rfl | rfl <;> decide +kernel
theorem pk_W : pkR [W0, W1] [20, 21] = (lvs [W0, W1] 1 ++ rt [20], 2, 0) := by
  unfold pkR
  rw [ix_W]
  have h1 : okR (List.take (nck [W0, W1]) [20, 21]) = true := by decide +kernel
  have h2 : nck [W0, W1] = 1 := rfl
  have h3 : (([20, 21] : List Int).length : Int) = sz (([W0, W1] : List En).length : Int) := by decide +kernel
  rw [h1, h2]
  rw [if_neg (by decide), if_neg (by rw [h3]; exact fun h => h rfl), if_neg (by decide), if_pos rfl]
  rfl
theorem un_W : unR (lvs [W0, W1] 1) 1 = ([W0, W1], 0) := by
  have := unR_lvs keyed_W ix_W (m := 1) (Nat.le_refl _)
  exact this
theorem len_W : (lvs [W0, W1] 1).length = 128 := lvs_len keyed_W 1
theorem SlB.pre1 {w : World} {a : Option Addr} {n c : Nat} {X Y : List B} (h : SlB w a n c (X ++ Y)) : SlB w a X.length c X :=
  ⟨rfl, by have := h.cap; have := h.len; rw [List.length_append] at this; omega, fun j x hx => h.at_ j x (by rw [List.getElem?_append_left (List.getElem?_eq_some_iff.1 hx).1]; exact hx)⟩
theorem elem57 : Tryd.prog.underlying 57 = some (.slice (Tryd.prog.elem 57)) := by kernel_rfl
theorem sizeOf25 (w : World) : (sizeOf (Tryd.prog.elem 57)).run Tryd.prog w = .ok 128 w := by
  have h : Tryd.prog.elem 57 = 25 := by kernel_rfl
  obtain ⟨i, hi, _, hs, _⟩ := info25'
  rw [h]; simp [sizeOf, typeInfo, hi, hs]
theorem run_sliceK (w : World) (b o n c m : Nat) (h : m ≤ c) (H : Int) (hH : H = (m : Int)) : (Instr.sliceAt 57 (.slice (some ⟨b, o, none⟩) n c) none (some (.int .i64 H)) none).run Tryd.prog w = .ok (.slice (some ⟨b, o, none⟩) m c) w := by
  subst hH
  rw [run_sliceAt_slice w 57 _ _ _ _ elem57, run_slice_h w 57 _ _ _ elem57 .i64 (m : Int) (by omega) (by omega), sizeOf25]
  simp only [Result.andThen_ok, sliced, Int.toNat_natCast]
  simp [Addr_add]
theorem wpList_sliceK {ops : Array Oper} {rest : List Oper} {o : Oper} {a : Act} {w : World} {Q : Exit → Act → World → Prop} (hgd : o.guard = none) (x hi : Operand) (ho : o.op = .slice 57 x none (some hi) none) (b of n c m : Nat) (hx : a.eval x = .slice (some ⟨b, of, none⟩) n c) (H : Int)
    (hhi : a.eval hi = .int .i64 H) (hH : H = (m : Int)) (hm : m ≤ c)
    (h : wpList Tryd.prog ops Q rest (a.put o.dst (.slice (some ⟨b, of, none⟩) m c)) w) : wpList Tryd.prog ops Q (o :: rest) a w := by
  refine wpList_plain hgd fun K hK => ?_
  unfold Oper.wp execOp
  simp only [ho, hx, hhi, Option.map_some, Option.map_none, run_sliceK w b of n c m hm H hH, Sem.run_bind, Result.andThen_ok, Sem.run_pure]
  exact hK _ _ h

set_option maxRecDepth 100000 in
set_option maxHeartbeats 8000000 in
theorem wakes29 (w : World) (hT : Tabs w) :
    Calls Tryd.prog 29 #[] w fun e w' => e = .returned (.bool true) ∧ Keeps (fun _ => False) w w' := by
  have RK1 : Hid (∀ w, (Instr.build 52 #[(0, .int .u8 1)]).run Tryd.prog w = .ok (.agg (brow (1#8 :: zb 31))) w) := fun w => by kernel_rfl
  have RK2 : Hid (∀ w, (Instr.build 52 #[(0, .int .u8 2)]).run Tryd.prog w = .ok (.agg (brow (2#8 :: zb 31))) w) := fun w => by kernel_rfl
  have RK3 : Hid (∀ w, (Instr.build 52 #[(0, .int .u8 3)]).run Tryd.prog w = .ok (.agg (brow (3#8 :: zb 31))) w) := fun w => by kernel_rfl
  have R0 : Hid (∀ w, (Instr.build 54 #[(0, .agg (brow (1#8 :: zb 31))), (1, .int .i64 9), (2, .int .i64 2)]).run Tryd.prog w = .ok (.agg W0.cells.toArray) w) := fun w => run_build w 54 _ _ (built54c _ (by decide) _ _)
  have R1 : Hid (∀ w, (Instr.build 54 #[(0, .agg (brow (3#8 :: zb 31))), (1, .int .i64 5), (2, .int .i64 1)]).run Tryd.prog w = .ok (.agg W1.cells.toArray) w) := fun w => run_build w 54 _ _ (built54c _ (by decide) _ _)
  have R2 : Hid (∀ w, (Instr.build 54 #[(0, .agg (brow (2#8 :: zb 31))), (1, .int .i64 30), (2, .int .i64 1)]).run Tryd.prog w = .ok (.agg W2.cells.toArray) w) := fun w => run_build w 54 _ _ (built54c _ (by decide) _ _)
  have l0 : W0.key.length = 32 := by decide
  have l1 : W1.key.length = 32 := by decide
  have l2 : W2.key.length = 32 := by decide
  have lA : (1#8 :: zb 31).length = 32 := by decide
  have lB : (2#8 :: zb 31).length = 32 := by decide
  have HX : Hid (ix [W0, W1] = true) := ix_W
  have HR : Hid (rises [W0, W1] = true) := rises_W
  have HF : Hid (fnd [W0, W1] (2#8 :: zb 31) = 1) := fnd_W
  have HT : Hid (ths [W0, W1] (2#8 :: zb 31) = false) := ths_W
  have HT2 : Hid (ths [W0, W1] W2.key = false) := ths_W
  have HI : Hid (ins [W0, W1] W2 = [W0, W2, W1]) := ins_W
  have HR3 : Hid (rises [W0, W2, W1] = true) := rises_W3
  have HT3 : Hid (ths [W0, W2, W1] (1#8 :: zb 31) = true) := ths_W3
  have HD : Hid (del [W0, W2, W1] (1#8 :: zb 31) = [W2, W1]) := del_W
  have HP : Hid (pkR [W0, W1] [20, 21] = (lvs [W0, W1] 1 ++ rt [20], 2, 0)) := pk_W
  have HU : Hid (unR (lvs [W0, W1] 1) 1 = ([W0, W1], 0)) := un_W
  have lV : (lvs [W0, W1] 1).length = 1 * 128 := len_W
  have S3 : Hid (sz 3 = 2) := by show _ = _; decide +kernel
  have S4 : Hid (sz 4 = 3) := by show _ = _; decide +kernel
  have S0 : Hid (sz 0 = 0) := by show _ = _; decide +kernel
  have P2 : Hid (W2.place = 30) := rfl
  generalize lvs [W0, W1] 1 = V at *
  generalize rt [20] = RT at *
  generalize W0 = E0 at *
  generalize W1 = E1 at *
  generalize W2 = E2 at *
  generalize (1#8 :: zb 31) = KA at *
  generalize (2#8 :: zb 31) = KB at *
  generalize (3#8 :: zb 31) = KC at *
  go_enter Tryd.func29, Tryd.ntmps29
  go_wp2_with (first
    | (refine wpList_bK rfl _ rfl 1 KA rfl RK1.out ?_)
    | (refine wpList_bK rfl _ rfl 2 KB rfl RK2.out ?_)
    | (refine wpList_bK rfl _ rfl 3 KC rfl RK3.out ?_)
    | (refine wpList_b54c rfl _ _ _ rfl KA 9 2 E0 rfl rfl rfl R0.out ?_)
    | (refine wpList_b54c rfl _ _ _ rfl KC 5 1 E1 rfl rfl rfl R1.out ?_)
    | (refine wpList_b54c rfl _ _ _ rfl KB 30 1 E2 rfl rfl rfl R2.out ?_)
    | (refine wpList_build2E rfl _ _ rfl E0 E1 rfl rfl l0 l1 ?_; intro gA w1 b1 z1 k1)
    | (refine wpList_buildI2 rfl _ _ rfl 20 21 rfl rfl ?_; intro gI w2 i2 z2 k2; have b2 := b1.keep k2; have K2 := k1.trans k2)
    | (go_at_call 30; refine (pack30 HP.out _ (hT.keeps K2 (fun h => h) (fun h => h)) _ 2 2 b2.sl (by omega) _ 2 2 i2).mono ?_; rintro e w3 ⟨⟨aP, cP, rfl, sP⟩, k3⟩; obtain ⟨bP, oP, rfl, _⟩ := sP.blk 0 (by omega); have hcP : 1 ≤ cP := (by have := sP.cap; omega); have b3 := b2.keep k3; have K3 := K2.trans k3; have sV := sP.pre1; rw [lV] at sV)
    | (refine wpList_sliceK rfl _ _ rfl bP oP 2 cP 1 rfl _ rfl rfl hcP ?_)
    | (go_at_call 32; refine (unpack32_is HU.out _ (hT.keeps K3 (fun h => h) (fun h => h)) _ cP sV (by omega)).mono ?_; rintro e w4 ⟨⟨a4, c4, rfl, s4⟩, k4⟩; have b4 := b3.keep k4; have K4 := K3.trans k4)
    | (go_at_call 40; refine (find40_is HR.out HF.out HT.out _ _ 2 2 b4.sl (by omega) lB).mono ?_; rintro e w5 ⟨rfl, k5⟩; have b5 := b4.keep k5; have K5 := K4.trans k5; have s5 := s4.keep k5)
    | (go_at_call 42; refine (insert_is HI.out rfl HR.out HT2.out _ _ 2 2 b5.sl (fun h => by cases h) (by omega) l2).mono ?_; rintro e w6 ⟨⟨g6, c6, rfl, s6, _, _⟩, k6⟩; have b6 := b5.keep k6; have K6 := K5.trans k6; have r6 := s5.keep k6)
    | (go_at_call 43; have := K7; refine (remove43_none _ _ 2 2 _ b7.sl (fun h => by cases h) (by omega) HR.out KB lB HT.out).mono ?_; rintro e w8 ⟨rfl, k8⟩; have b8 := b7.keep k8; have K8 := K7.trans k8; have r8 := r7.keep k8; have q8 := q7.keep k8; obtain ⟨b', o', e', E8⟩ := q8.ent (i := 1) (by simp); cases e')
    | (go_at_call 43; refine (remove_is HD.out rfl HR3.out HT3.out _ _ 3 c6 s6 (fun h => by cases h) (by omega) lA).mono ?_; rintro e w7 ⟨⟨a7, c7, rfl, s7, _⟩, k7⟩; have b7 := b6.keep k7; have K7 := K6.trans k7; have r7 := r6.keep k7; have q7 := s6.keep k7)
    | (go_at_call 25; refine (entries_at (decide_eq_true rfl) _ _ _ _ _ _ _ r8 b8.sl (by simp)).mono ?_; rintro e w9 ⟨rfl, k9⟩; have b9 := b8.keep k9; have K9 := K8.trans k9; have c9 := (E8.keep k9).place)
    | (go_at_call 37; have := KC'; refine (size_of S0 _ (by omega) (by omega)).mono ?_; rintro e w12 ⟨rfl, k12⟩; have KD' := KC'.trans k12)
    | (go_at_call 37; have := KB'; refine (size_of S4 _ (by omega) (by omega)).mono ?_; rintro e w11 ⟨rfl, k11⟩; have KC' := KB'.trans k11)
    | (go_at_call 37; refine (size_of S3 _ (by omega) (by omega)).mono ?_; rintro e w10 ⟨rfl, k10⟩; have KB' := K9.trans k10)
    | (go_at_call 34; refine (good34_at HX.out _ _ 2 2 (b8.keep (k9.trans ((k10.trans k11).trans k12))).sl (by omega)).mono ?_; rintro e w13 ⟨rfl, k13⟩))
  go_ret
  exact ⟨rfl, KD'.trans k13⟩

end Go.Proofs.YthngaegfppbdmaaDoor
