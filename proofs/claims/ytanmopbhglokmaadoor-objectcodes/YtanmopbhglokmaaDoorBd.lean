/-
  Body.
-/
import Derived.Test.YtanmopbhglokmaaDoorFm
import Derived.Test.YtanmopbhglokmaaDoorJn
import Derived.Test.YtanmopbhglokmaaDoorRn
set_option linter.all false
namespace Go.Proofs.YtanmopbhglokmaaDoor
open Go.RowKit Go.Shelf Go.Sort
attribute [local go_sem] Oper.semAt_some

theorem load_cell3 {w : World} {g : Nat} {x : Int} (h : w.heap[g]? = some (.cells #[.int .i64 x] 3 (0, 0))) : (loadVar 3 ⟨g, 0, none⟩).run Tryd.prog w = .ok (.int .i64 x) w := by
  have hc : w.cell? ⟨g, 0, none⟩ = some (.int .i64 x) := by simp [World.cell?, h]
  have hu := Tryd.underlying3
  simp [go_sem, loadVar, hc]
theorem load_cell25 {w : World} {g : Nat} {x : Int} (h : w.heap[g]? = some (.cells #[.int .i64 x] 25 (0, 0))) : (loadVar 25 ⟨g, 0, none⟩).run Tryd.prog w = .ok (.int .i64 x) w := by
  have hc : w.cell? ⟨g, 0, none⟩ = some (.int .i64 x) := by simp [World.cell?, h]
  have hu := Tryd.underlying25
  simp [go_sem, loadVar, hc]
theorem load_cell22 {w : World} {g : Nat} {a : Option Addr} {n c : Nat} (h : w.heap[g]? = some (.cells #[.slice a n c] 22 (0, 0))) : (loadVar 22 ⟨g, 0, none⟩).run Tryd.prog w = .ok (.slice a n c) w := by
  have hc : w.cell? ⟨g, 0, none⟩ = some (.slice a n c) := by simp [World.cell?, h]
  have hu := Tryd.underlying22
  simp [go_sem, loadVar, hc]

/-- The three results lie in blocks of their own. -/
structure Res3 (w : World) (p : Nat) (k : Int) (a : Option Addr) (n c : Nat) (e : Int) : Prop where
  r1 : w.heap[p]? = some (.cells #[.int .i64 k] 3 (0, 0))
  r2 : w.heap[p + 1]? = some (.cells #[.slice a n c] 22 (0, 0))
  r3 : w.heap[p + 1 + 1]? = some (.cells #[.int .i64 e] 25 (0, 0))
theorem Res3.keeps {S : Nat → Prop} {w w' : World} {p : Nat} {k : Int} {a : Option Addr} {n c : Nat} {e : Int} (h : Res3 w p k a n c e) (hk : Keeps S w w') (h1 : ¬ S p) (h2 : ¬ S (p + 1)) (h3 : ¬ S (p + 1 + 1)) : Res3 w' p k a n c e :=
  ⟨hk.row h.r1 h1, hk.row h.r2 h2, hk.row h.r3 h3⟩

theorem results_cells3 {fn : Func} {p q r : Tmp} (h : fn.results = #[.cell p 3, .cell q 22, .cell r 25]) (tmps : Array Value) (w : World) (g : Nat) (k : Int) (a : Option Addr) (n c : Nat) (e : Int)
    (hp : tmps.getD p undef = .pointer (some ⟨g, 0, none⟩)) (hq : tmps.getD q undef = .pointer (some ⟨g + 1, 0, none⟩)) (hr : tmps.getD r undef = .pointer (some ⟨g + 1 + 1, 0, none⟩)) (hR : Res3 w g k a n c e) :
    (results fn tmps).run Tryd.prog w = .ok (.tuple #[.int .i64 k, .slice a n c, .int .i64 e]) w := by
  have hp' : tmps[p]?.getD undef = .pointer (some ⟨g, 0, none⟩) := by simpa using hp
  have hq' : tmps[q]?.getD undef = .pointer (some ⟨g + 1, 0, none⟩) := by simpa using hq
  have hr' : tmps[r]?.getD undef = .pointer (some ⟨g + 1 + 1, 0, none⟩) := by simpa using hr
  simp [results, h, hp', hq', hr', asAddr, load_cell3 hR.r1, load_cell22 hR.r2, load_cell25 hR.r3]

/-- Stores of the three results. -/
theorem res3_set {w : World} {p : Nat} {k k' : Int} {a a' : Option Addr} {n c n' c' : Nat} {e e' : Int} (h : Res3 w p k a n c e) :
    Res3 (((w.setCell ⟨p, 0, none⟩ (.int .i64 k')).setCell ⟨p + 1, 0, none⟩ (.slice a' n' c')).setCell ⟨p + 1 + 1, 0, none⟩ (.int .i64 e')) p k' a' n' c' e' := by
  refine ⟨?_, ?_, ?_⟩
  · rw [heap_setCell_other _ _ _ _ (by dsimp only; omega), heap_setCell_other _ _ _ _ (by dsimp only; omega), heap_setCell_same _ _ _ _ _ _ h.r1]; rfl
  · rw [heap_setCell_other _ _ _ _ (by dsimp only; omega), heap_setCell_same _ _ _ _ _ _ ((heap_setCell_other _ _ _ _ (by dsimp only; omega)).trans h.r2)]; rfl
  · rw [heap_setCell_same _ _ _ _ _ _ ((heap_setCell_other _ _ _ _ (by dsimp only; omega)).trans ((heap_setCell_other _ _ _ _ (by dsimp only; omega)).trans h.r3))]; rfl
theorem res3_keeps (w : World) (p : Nat) (x y z : Value) : Keeps (fun k => k = p ∨ k = p + 1 ∨ k = p + 1 + 1) w (((w.setCell ⟨p, 0, none⟩ x).setCell ⟨p + 1, 0, none⟩ y).setCell ⟨p + 1 + 1, 0, none⟩ z) :=
  (((Keeps.refl _ w).setCell (p := ⟨p, 0, none⟩) (.inl (.inl rfl)) _).setCell (p := ⟨p + 1, 0, none⟩) (.inl (.inr (.inl rfl))) _).setCell (p := ⟨p + 1 + 1, 0, none⟩) (.inl (.inr (.inr rfl))) _

/-- What Body makes at its beginning. -/
theorem body_start (w : World) (a : Option Addr) (n c : Nat) : ∃ W, (((w.alloc (.cells #[.slice a n c] 23)).alloc (.cells #[.int .i64 0] 3)).alloc (.cells #[.slice none 0 0] 22)).alloc (.cells #[.int .i64 0] 25) = W ∧
    W.heap[w.heap.size]? = some (.cells #[.slice a n c] 23 (0, 0)) ∧ Res3 W (w.heap.size + 1) 0 none 0 0 0 ∧ W.heap.size = w.heap.size + 4 ∧ Keeps (fun _ => False) w W := by
  refine ⟨_, rfl, ?_, ⟨?_, ?_, ?_⟩, by simp, ((((Keeps.refl _ _).alloc _).alloc _).alloc _).alloc _⟩
  · exact (((keeps_alloc _ _).alloc _).alloc _).row (heap_alloc_new w _) (fun h => h)
  · have e : (w.alloc (.cells #[.slice a n c] 23)).heap.size = w.heap.size + 1 := by simp
    rw [← e]; exact ((keeps_alloc _ _).alloc _).row (heap_alloc_new _ _) (fun h => h)
  · have e : ((w.alloc (.cells #[.slice a n c] 23)).alloc (.cells #[.int .i64 0] 3)).heap.size = w.heap.size + 1 + 1 := by simp
    rw [← e]; exact (keeps_alloc _ _).row (heap_alloc_new _ _) (fun h => h)
  · have e : (((w.alloc (.cells #[.slice a n c] 23)).alloc (.cells #[.int .i64 0] 3)).alloc (.cells #[.slice none 0 0] 22)).heap.size = w.heap.size + 1 + 1 + 1 := by simp
    rw [← e]; exact heap_alloc_new _ _

theorem head_none {w : World} {a : Option Addr} {n c : Nat} {L : List B} (h : SlB w a (n * 128) (c * 128) L) (hno : 0 < n → ¬ (1 ≤ kindOf L ∧ kindOf L ≤ 6 ∧ (n : Int) = nblk (lnOf L))) :
    Calls Tryd.prog 22 #[.slice a n c] w fun e w' => (∃ k l, e = .returned (.tuple #[.int .i64 k, .int .i64 l, .bool false])) ∧ Keeps (fun _ => False) w w' := by
  rcases Nat.eq_zero_or_pos n with h0 | h0
  · subst h0; exact (head22_none w a c).mono fun e w' ⟨h1, h2⟩ => ⟨⟨_, _, h1⟩, h2⟩
  · exact (head22 w a n c L h h0 (b := false) (decide_eq_false (hno h0))).mono fun e w' ⟨h1, h2⟩ => ⟨⟨_, _, h1⟩, h2⟩

set_option maxRecDepth 100000 in
set_option maxHeartbeats 1000000 in
theorem body11_head (w : World) (a : Option Addr) (n c : Nat) (L : List B) (h : SlB w a (n * 128) (c * 128) L) (hno : 0 < n → ¬ (1 ≤ kindOf L ∧ kindOf L ≤ 6 ∧ (n : Int) = nblk (lnOf L))) :
    Calls Tryd.prog 11 #[.slice a n c] w fun e w' => e = .returned (.tuple #[.int .i64 0, .slice none 0 0, .int .i64 11]) ∧ Keeps (fun _ => False) w w' := by
  obtain ⟨W, hW, g0, R0, s0, K0⟩ := body_start w a n c
  have HW : Hid (_ = W) := hW
  have g0c : W.cell? ⟨w.heap.size, 0, none⟩ = some (.slice a n c) := by simp [World.cell?, g0]
  have hlW := h.keeps K0 (fun _ _ _ _ h => h)
  clear hW h
  go_enter Tryd.func11, Tryd.ntmps11
  go_wp2_with (go_at_call 22; rw [HW.out]; refine (head_none hlW hno).mono ?_; rintro e W1 ⟨⟨kk, ll, rfl⟩, k1⟩; have R1 := R0.keeps k1 (fun h => h) (fun h => h) (fun h => h); have c1 : W1.cell? ⟨w.heap.size + 1, 0, none⟩ = some (.int .i64 0) := (by simp [World.cell?, R1.r1]); have c2 : W1.cell? ⟨w.heap.size + 1 + 1, 0, none⟩ = some (.slice none 0 0) := (by simp [World.cell?, R1.r2]); have c3 : W1.cell? ⟨w.heap.size + 1 + 1 + 1, 0, none⟩ = some (.int .i64 0) := (by simp [World.cell?, R1.r3]); have f1 := frozen_of_row W1 _ 0 _ _ R1.r1; have f2 := frozen_of_row W1 _ 0 _ _ R1.r2; have f3 := frozen_of_row W1 _ 0 _ _ R1.r3)
  refine bodyPost_ret (results_cells3 rfl _ _ (w.heap.size + 1) 0 none 0 0 11 rfl rfl rfl (res3_set R1)) rfl ⟨rfl, ?_⟩
  exact (K0.trans k1).trans' (res3_keeps W1 _ _ _ _) (fun i e => .inr (by omega))

theorem elem22 : Tryd.prog.underlying 22 = some (.slice (Tryd.prog.elem 22)) := by kernel_rfl
theorem sizeOf5 (w : World) : (sizeOf (Tryd.prog.elem 22)).run Tryd.prog w = .ok 1 w := by
  have h : Tryd.prog.elem 22 = 5 := by kernel_rfl
  rw [h]; simp [go_sem]
theorem run_slice3 (w : World) (g of N c m : Nat) (h : 3 + m ≤ c) : (Instr.sliceAt 22 (.slice (some ⟨g, of, none⟩) N c) (some (.int .i64 3)) (some (.int .i64 (3 + (m : Int)))) (some (.int .i64 (3 + (m : Int))))).run Tryd.prog w =
    .ok (.slice (some ⟨g, if m = 0 then of else of + 3, none⟩) m m) w := by
  rw [run_sliceAt_slice w 22 _ _ _ _ elem22, run_slice_lhm w 22 _ _ _ elem22 .i64 .i64 .i64 3 (3 + (m : Int)) (3 + (m : Int)) (by omega) (by omega) (Int.le_refl _) (by omega), sizeOf5]
  simp only [Result.andThen_ok, sliced]
  have e1 : (3 : Int).toNat = 3 := rfl
  have e2 : (3 + (m : Int)).toNat = 3 + m := by omega
  rw [e1, e2]
  congr 2
  · by_cases hm : m = 0
    · subst hm; simp
    · rw [if_neg (by omega), if_neg hm]; simp [Addr_add]
  · omega
  · omega
theorem semAt_slice (ro : Option Nat) (ρ : Operand → Value) (o : Oper) (t : TypeId) (x : Operand) (l h m : Option Operand) (ho : o.op = .slice t x l h m) : Oper.semAt ro ρ o = execOp ρ o := by
  unfold Oper.semAt; cases ro <;> simp [ho]
theorem SlB.mid {w : World} {g of N c : Nat} {L : List B} (h : SlB w (some ⟨g, of, none⟩) N c L) (i m : Nat) (hi : i + m ≤ N) : SlB w (some ⟨g, of + i, none⟩) m m ((L.drop i).take m) := by
  have hl := h.len
  refine ⟨by simp; omega, Nat.le_refl _, fun j x hx => ⟨g, of + i, rfl, ?_⟩⟩
  rw [List.getElem?_take] at hx
  split at hx
  · rw [List.getElem?_drop] at hx
    have := h.cell rfl _ x hx
    rwa [← Nat.add_assoc] at this
  · cases hx
theorem wpListIn_slice3 {F : Fence} {fm : Nat} {ops : Array Oper} {rest : List Oper} {o : Oper} {a : Act} {w : World} {Q : Exit → Act → World → Prop} (hgd : o.guard = none) (x lo hi mx : Operand) (ho : o.op = .slice 22 x (some lo) (some hi) (some mx)) (g of N c m : Nat) (hx : a.eval x = .slice (some ⟨g, of, none⟩) N c)
    (hlo : a.eval lo = .int .i64 3) (hhi : a.eval hi = .int .i64 (3 + (m : Int))) (hmx : a.eval mx = .int .i64 (3 + (m : Int))) (L : List B) (hs : SlB w (some ⟨g, of, none⟩) N c L) (hm : 3 + m ≤ N)
    (h : ∀ o', SlB w (some ⟨g, o', none⟩) m m ((L.drop 3).take m) → wpListIn F fm Tryd.prog ops Q rest (a.put o.dst (.slice (some ⟨g, o', none⟩) m m)) w) : wpListIn F fm Tryd.prog ops Q (o :: rest) a w := by
  refine wpListIn_plain hgd fun K hK => ?_
  refine ⟨fun f hf => by simp [Oper.about, ho] at hf, ?_⟩
  rw [semAt_slice _ _ _ _ _ _ _ _ ho]
  unfold execOp
  simp only [ho, hx, hlo, hhi, hmx, Option.map_some, run_slice3 w g of N c m (by have := hs.cap; omega), Sem.run_bind, Sem.run_pure, Result.andThen_ok]
  refine hK _ _ (h _ ?_)
  by_cases h0 : m = 0
  · subst h0
    rw [if_pos rfl]
    exact ⟨by simp, Nat.le_refl _, fun j x hx => by simp at hx⟩
  · rw [if_neg h0]
    exact hs.mid 3 m hm

theorem SlB.lt {w : World} {b o n c : Nat} {l : List B} (h : SlB w (some ⟨b, o, none⟩) n c l) (h0 : 0 < n) : b < w.heap.size := by
  obtain ⟨b', o', e, hc⟩ := h.at_ 0 _ (List.getElem?_eq_getElem (by have := h.len; omega))
  cases e
  exact World.block_lt_of_cell? w _ hc
theorem bls_mem {T : List B} {i : Nat} (h : i < nbl T) : (i, blk (padB T) i) ∈ bls T := by unfold bls; exact List.mem_map_of_mem (List.mem_range.2 h)

/-- What Body tells of blocks whose bytes are L. -/
structure Told (L : List B) (e : Ending) (w' : World) : Prop where
  out : (IsObj L ∧ ∃ a' c', e = .returned (.tuple #[.int .i64 (kindOf L), .slice a' (lnOf L) c', .int .i64 0]) ∧ SlB w' a' (lnOf L) c' (bodyOf L) ∧ (a' = none → c' = 0)) ∨
    (¬ IsObj L ∧ e = .returned (.tuple #[.int .i64 0, .slice none 0 0, .int .i64 11]))

set_option maxRecDepth 100000 in
set_option maxHeartbeats 2000000 in
theorem body11_ok (w : World) (hT : Tabs w) (a : Option Addr) (n c : Nat) (L : List B) (h : SlB w a (n * 128) (c * 128) L) (h0 : 0 < n) (hk : 1 ≤ kindOf L ∧ kindOf L ≤ 6) (hnb : (n : Int) = nblk (lnOf L)) :
    Calls Tryd.prog 11 #[.slice a n c] w fun e w' => Told L e w' ∧ Keeps (fun _ => False) w w' := by
  have hlen := h.len
  obtain ⟨ga, oa, rfl, _⟩ := h.bytes (n * 128) (by omega) (Nat.le_refl _)
  obtain ⟨hm, hbl, hfl⟩ := obj_iff hlen hk.1 hk.2 hnb h0
  obtain ⟨W, hW, g0, R0, s0, K0⟩ := body_start w (some ⟨ga, oa, none⟩) n c
  have HW : Hid (_ = W) := hW
  have g0c : W.cell? ⟨w.heap.size, 0, none⟩ = some (.slice (some ⟨ga, oa, none⟩) n c) := by simp [World.cell?, g0]
  have hlW := h.keeps K0 (fun _ _ _ _ h => h)
  have hTW := hT.keeps K0 (fun h => h) (fun h => h)
  have Hb : Hid (decide (1 ≤ kindOf L ∧ kindOf L ≤ 6 ∧ (n : Int) = nblk (lnOf L)) = true) := decide_eq_true ⟨hk.1, hk.2, hnb⟩
  have hn9 : n ≤ 1000 := by rw [nblk_of hm] at hnb; omega
  have hln : lnOf L + 7 ≤ n * 128 := by rw [nblk_of hm] at hnb; omega
  have Hbody : Hid (bodyOf L = (L.drop 3).take (lnOf L)) := rfl
  obtain ⟨m, hme⟩ : ∃ m, lnOf L = m := ⟨_, rfl⟩
  obtain ⟨k, hke⟩ : ∃ k, kindOf L = k := ⟨_, rfl⟩
  have Hm : Hid (lnOf L = m) := hme
  have Hk : Hid (kindOf L = k) := hke
  have Hlen : Hid (L.length = n * 128) := hlen
  have hh : ∀ W', Keeps (fun _ => False) W W' → Calls Tryd.prog 22 #[.slice (some ⟨ga, oa, none⟩) n c] W' fun e w' => e = .returned (.tuple #[.int .i64 k, .int .i64 (m : Int), .bool true]) ∧ Keeps (fun _ => False) W' w' := fun W' hk' => by
    rw [← hke, ← hme]; exact head22 W' _ n c L (hlW.keeps hk' (fun _ _ _ _ h => h)) h0 Hb
  have HH : Hid (∀ W', Keeps (fun _ => False) W W' → Calls Tryd.prog 22 #[.slice (some ⟨ga, oa, none⟩) n c] W' fun e w' => e = .returned (.tuple #[.int .i64 k, .int .i64 (m : Int), .bool true]) ∧ Keeps (fun _ => False) W' w') := hh
  rw [hme] at hm hbl hln Hbody
  rw [hke] at hk hfl
  have hm' : (m : Int) ≤ 1000 := by omega
  have hm0 : (0 : Int) ≤ (m : Int) := by omega
  clear hW h hlen hnb Hb hh hme hke hT
  refine (callsIn_wide (n := 9)).1 ?_
  refine callsIn_of_wp_marks Tryd.func11 rfl trivial ?_ rfl
  simp only [Tryd.ntmps11, List.size_toArray, List.length_cons, List.length_nil, Nat.reduceAdd, Nat.reduceSub, Array.replicate_succ, Array.replicate_zero, List.push_toArray, List.append_toArray, List.nil_append, List.cons_append]
  gi_wp2_with (first
    | (refine ⟨trivial, ?_⟩; gi_at_call 22; rw [HW.out]; refine (callsIn_wide.2 (HH.out W (Keeps.refl _ _))).mono ?_; rintro e W1 ⟨rfl, k1⟩; have g1c : W1.cell? ⟨w.heap.size, 0, none⟩ = some (.slice (some ⟨ga, oa, none⟩) n c) := cell_keeps k1 g0c (fun h => h))
    | (refine ⟨trivial, ?_⟩; gi_at_call 23; refine (callsIn_wide.2 (join23 W1 _ n c L (hlW.keeps k1 (fun _ _ _ _ h => h)) hn9)).mono ?_; rintro e W2 ⟨v2, rfl, O2, k2⟩; obtain ⟨a2, n2, c2, rfl, hs2, hb2, hnc2⟩ := O2.slice; have hn2 : n2 = n * 128 := (hs2.len.symm.trans Hlen.out); subst hn2; obtain ⟨g2, o2, rfl, _⟩ := hs2.bytes (n * 128) (by omega) (Nat.le_refl _); clear hnc2)
    | (refine wpListIn_slice3 rfl _ _ _ _ rfl g2 o2 _ c2 m rfl rfl rfl rfl L hs2 (by omega) ?_; intro o3 hs3; rw [← Hbody.out] at hs3)
    | (refine ⟨trivial, ?_⟩; gi_at_call 19; refine (callsIn_wide.2 (blocks19 _ _ _ _ _)).mono ?_; rintro e w2 ⟨rfl, rfl⟩))
  obtain ⟨p, hp⟩ : ∃ p, p = w.heap.size := ⟨_, rfl⟩
  obtain ⟨q, hq⟩ : ∃ q, q = W2.heap.size := ⟨_, rfl⟩
  obtain ⟨W3, hW3⟩ : ∃ W3, (W2.alloc (.cells #[.int .i64 k] 3)).alloc (.cells #[.slice (some ⟨g2, o3, none⟩) m m] 22) = W3 := ⟨_, rfl⟩
  rw [hW3]
  simp only [← hp, ← hq]
  have k23 : Keeps (fun _ => False) W2 W3 := by rw [← hW3]; exact ((Keeps.refl _ _).alloc _).alloc _
  have s3 : W3.heap.size = q + 2 := by rw [← hW3]; simp [hq]
  have b1 : W3.heap[q]? = some (.cells #[.int .i64 k] 3 (0, 0)) := by rw [← hW3, hq]; exact heap_alloc2_old W2 _ _
  have b2 : W3.heap[q + 1]? = some (.cells #[.slice (some ⟨g2, o3, none⟩) m m] 22 (0, 0)) := by rw [← hW3, hq]; exact heap_alloc2_new W2 _ _
  have KW3 : Keeps (fun _ => False) W W3 := (k1.trans k2).trans k23
  have K3 := K0.trans KW3
  have hT3 := hTW.keeps KW3 (fun h => h) (fun h => h)
  have hlW3 := hlW.keeps KW3 (fun _ _ _ _ h => h)
  have hs33 := hs3.keeps k23 (fun _ _ _ _ h => h)
  have gb3 := KW3.row g0 (fun h => h)
  have R3 := R0.keeps KW3 (fun h => h) (fun h => h) (fun h => h)
  have hpq : p + 4 ≤ q := by have := k1.size; have := k2.size; omega
  have hg2 : p + 4 ≤ g2 := by have := hb2 g2 o2 rfl; have := k1.size; omega
  have hg23 : 0 < m → g2 < W3.heap.size := fun h => hs33.lt h
  rw [← hp] at gb3 R3
  obtain ⟨T, hTe⟩ : ∃ T, chk k (bodyOf L) = T := ⟨_, rfl⟩
  have HT : Hid (chk k (bodyOf L) = T) := hTe
  have hfT : padB T = fr k (bodyOf L) := by rw [← hTe]; rfl
  have hnT : nbl T = n := by
    have := padB_len T
    rw [hfT, hfl] at this
    unfold nbl; omega
  have Hobj : Hid (IsObj L ↔ L = padB T) := by
    show _ ↔ _
    rw [hfT]
    constructor
    · intro h; have := h.eq; rwa [Hk.out] at this
    · intro h; exact ⟨by rw [Hk.out]; exact hk.1, by rw [Hk.out]; exact hk.2, by rw [Hm.out]; exact hm, by rw [Hk.out]; exact h⟩
  rw [← hfT] at hfl
  have hpw : Keeps (fun _ => False) w W3 := K3
  have hps : w.heap.size = p := hp.symm
  have Hps : Hid (w.heap.size = p) := hps
  clear hW3 hq hp hps k1 k2 k23 hs2 O2 hb2 HH HW g0 g0c g1c hlW hTW KW3 K0 R0 hTe hs3 Hbody
  refine range_law (gf := 25) (lb := #[.pointer (some ⟨q, 0, none⟩), .pointer (some ⟨q + 1, 0, none⟩)]) rfl (enters_of Tryd.func25 (by kernel_rfl) rfl) (blocks1 (fun _ => False) W3 q (q + 1) k (some ⟨g2, o3, none⟩) m m (bodyOf L) T b1 b2 hT3 hs33 (fun e => by cases e) hm HT (fun _ _ h => h)) ?hKt ?hKb (RowKit.Below.refl _ _) (fun _ => rfl)
    (fun pre V => (∀ y ∈ pre, blk L y.1 = y.2) ∧ Keeps (fun _ => False) W3 V)
    (fun cd pre V => cd = .ret ∧ ¬ IsObj L ∧ Res3 V (p + 1) 0 none 0 0 11 ∧ Keeps (fun k => k = p + 1 ∨ k = p + 1 + 1 ∨ k = p + 1 + 1 + 1) W3 V) ?hI ?hIx ⟨by simp, Keeps.refl _ _⟩
    (fun pre x a' V => (∀ y ∈ pre, blk L y.1 = y.2) ∧ Keeps (fun _ => False) W3 V ∧ ∃ b, W3.heap.size ≤ b ∧ V.heap[b]? = some (.cells (brow x.2) 40 (0, 0)) ∧ a' = { tmps := #[.slice (some ⟨ga, oa, none⟩) n c, .pointer (some ⟨p, 0, none⟩), .pointer (some ⟨p + 1, 0, none⟩), .pointer (some ⟨p + 1 + 1, 0, none⟩), .pointer (some ⟨p + 1 + 1 + 1, 0, none⟩), .int .i64 k, .int .i64 ↑m, .bool true, .slice (some ⟨g2, o3, none⟩) m m, .int .i64 (x.1 : Int), .pointer (some ⟨b, 0, none⟩), .tuple #[.int .i64 k, .int .i64 ↑m, .bool true], .slice (some ⟨ga, oa, none⟩) n c, .tuple #[.int .i64 k, .int .i64 ↑m, .bool true], .int .i64 k, .int .i64 ↑m, .bool true, .bool true, .bool false, .slice (some ⟨ga, oa, none⟩) n c, .slice (some ⟨g2, o2, none⟩) (n * 128) c2, .int .i64 ↑m, .int .i64 (3 + ↑m), .int .i64 ↑m, .int .i64 (3 + ↑m), .slice (some ⟨g2, o3, none⟩) m m, .int .i64 k, .slice (some ⟨g2, o3, none⟩) m m, .func (Fn.func 25) #[] #[.pointer (some ⟨q, 0, none⟩), .pointer (some ⟨q + 1, 0, none⟩)], .int .i64 (x.1 : Int), .agg (brow x.2), undef, undef, undef, undef, undef, undef, undef, undef], defers := [] }) ?hAx ?assign ?body ?done ?stop
  case hKt => exact fun h1 h2 => h1.trans h2
  case hKb => exact fun W l o o' _ ho hc => KpX.putObj o' ho hc
  case hI => exact fun s A B row h hg hr => ⟨h.1, own_keeps hg hr h.2 (Nat.le_refl _)⟩
  case hIx =>
    rintro cd s A B row ⟨h1, h2, h3, h4⟩ hg hr
    exact ⟨h1, h2, ⟨own_cells hg hr h3.r1, own_cells hg hr h3.r2, own_cells hg hr h3.r3⟩, own_keeps hg hr h4 (Nat.le_refl _)⟩
  case hAx =>
    rintro pre x a' _ A B row ⟨h1, h2, b, h3, h4, h5⟩ hg hr
    exact ⟨h1, own_keeps hg hr h2 (Nat.le_refl _), b, h3, own_cells hg hr h4, h5⟩
  case assign =>
    rintro l' pre x rest V K hx ⟨h1, h2⟩ hK'
    obtain ⟨hx1, hlt⟩ := bls_split hx
    have lx : x.2.length = 128 := by rw [hx1]; exact blk_len _ n _ hfl (by rw [← hnT]; exact hlt)
    have hix := size40_of lx
    have hzs : (brow (zb 128)).size = (brow x.2).size := by rw [size_brow, size_brow, lx, zb_len]
    have hone := brow_one x.2
    have hz := zero40
    have HK : Hid (∀ a' W', _ → _ → _ → K a' W') := hK'
    clear hx hK' hx1 hlt lx
    simp only [encB]
    gi_wp2_with (refine wpListIn_store_row rfl 40 _ _ rfl V.heap.size rfl (brow x.2) rfl 40 (brow (zb 128)) (heap_alloc_new V _) hix hzs hone ?_; intro w3 n3 k3 z3)
    have k0 : Keeps (fun _ => False) V w3 := keeps_new5 k3
    refine HK.out _ _ (k0.from (fun _ _ h => h.elim)) (k0.kpx (fun _ h => h.elim)) ⟨h1, h2.trans k0, V.heap.size, h2.size, n3, rfl⟩
  case body =>
    rintro l' pre x rest a' V hl' hx ⟨h1, h2, b, h3, h4, rfl⟩
    obtain ⟨hx1, hlt⟩ := bls_split hx
    rw [hnT] at hlt
    have lx : x.2.length = 128 := by rw [hx1]; exact blk_len _ n _ hfl hlt
    have sx := size40_of lx
    have hxi : x.1 = pre.length := by rw [hx1]
    obtain ⟨i, hie⟩ : ∃ i, x.1 = i := ⟨_, rfl⟩
    have hin : i < n := by omega
    obtain ⟨gb, ob, he, lb, hr⟩ := (hlW3.keeps h2 (fun _ _ _ _ h => h)).blk i hin
    cases he
    have sb := size40_of lb
    have hi0 : (0 : Int) ≤ (i : Int) := by omega
    have hi1 : (i : Int) < (n : Int) := by omega
    have g1 := h2.row gb3 (fun h => h)
    have hcL : ∀ d os, (grow (redrawn V d) os).cell? ⟨p, 0, none⟩ = some (.slice (some ⟨ga, oa, none⟩) n c) := fun d os => cell_of_row _ _ 0 _ _ _ ((keeps_cls ⟨⟨d, os⟩, rfl⟩).row g1 (fun h => h))
    have Hr1 : Hid (∀ w', (∃ p : Regrown, w' = grow (redrawn V p.d) p.os) → w'.rangeAt b 0 (brow x.2).toList) := fun w' h => range_row ((keeps_cls h).row h4 (fun h => h))
    have Hr2 : Hid (∀ w', (∃ p : Regrown, w' = grow (redrawn V p.d) p.os) → w'.rangeAt ga (oa + i * 128) (brow (blk L i)).toList) := fun w' h => hr w' (keeps_cls h)
    obtain ⟨z, hz⟩ : ∃ z, blk L i = z := ⟨_, rfl⟩
    have Hz : Hid (blk L i = z) := hz
    have Hx : Hid (x = (pre.length, blk (padB T) pre.length)) := hx1
    have Hi : Hid (x.1 = i) := hie
    rw [hz] at lb sb Hr2
    rw [hie]
    clear hr hz hx1 hxi hie hx
    by_cases he : x.2 = z
    · have heq := eq40_at (decide_eq_true he) lx lb
      have He : Hid (x.2 = z) := he
      clear he
      gi_wp2_with fail
      refine region_plan_round (S := fun w' => ∃ p : Regrown, w' = grow (redrawn V p.d) p.os) [] [0, 1, 2, 3, 4, 5] (by kernel_rfl) (by kernel_rfl) (by kernel_rfl) (by kernel_rfl) (by kernel_rfl) (by rintro ⟨_, _, h⟩; exact h) (cls_keeps ((Keeps.refl _ _).drew)) ?_
      simp only [wpPlan, opsAt, pick]
      repeat (first | (go_big_quiet_want; refine quiet_row_at _ _ rfl b 0 rfl (brow x.2) Hr1.out Tryd.underlying40 rfl sx ?_; simp only [Act.put, List.setIfInBounds_toArray, List.set_cons_zero, List.set_cons_succ]; go_big_quiet_on) | (go_big_quiet_want; refine quiet_row_at _ _ rfl ga (oa + i * 128) rfl (brow z) Hr2.out Tryd.underlying40 rfl sb ?_; simp only [Act.put, List.setIfInBounds_toArray, List.set_cons_zero, List.set_cons_succ]; go_big_quiet_on) | go_big_quiet_step (fail))
      refine wpQuiet_nil ?_
      refine NoPanic.normal ?_
      gi_wp2
      have kd : Keeps (fun _ => False) V V.drew := (Keeps.refl _ _).drew
      refine ⟨kd.from (fun _ _ h => h.elim), kd.kpx (fun _ h => h.elim), ?_, h2.trans kd⟩
      intro y hy
      rcases List.mem_append.1 hy with hy | hy
      · exact h1 y hy
      · obtain rfl : y = x := by simpa using hy
        rw [Hi.out, Hz.out]; exact He.out.symm
    · have heq := eq40_at (decide_eq_false he) lx lb
      have He : Hid (x.2 ≠ z) := he
      have RV := R3.keeps h2 (fun h => h) (fun h => h) (fun h => h)
      have c1 : V.cell? ⟨p + 1, 0, none⟩ = some (.int .i64 0) := by simp [World.cell?, RV.r1]
      have c2 : V.cell? ⟨p + 1 + 1, 0, none⟩ = some (.slice none 0 0) := by simp [World.cell?, RV.r2]
      have c3 : V.cell? ⟨p + 1 + 1 + 1, 0, none⟩ = some (.int .i64 0) := by simp [World.cell?, RV.r3]
      have f1 := frozen_of_row V _ 0 _ _ RV.r1
      have f2 := frozen_of_row V _ 0 _ _ RV.r2
      have f3 := frozen_of_row V _ 0 _ _ RV.r3
      clear he
      gi_wp2_with fail
      refine region_plan_round (S := fun w' => ∃ p : Regrown, w' = grow (redrawn V p.d) p.os) [] [0, 1, 2, 3, 4, 5] (by kernel_rfl) (by kernel_rfl) (by kernel_rfl) (by kernel_rfl) (by kernel_rfl) (by rintro ⟨_, _, h⟩; exact h) (cls_keeps ((Keeps.refl _ _).drew)) ?_
      simp only [wpPlan, opsAt, pick]
      repeat (first | (go_big_quiet_want; refine quiet_row_at _ _ rfl b 0 rfl (brow x.2) Hr1.out Tryd.underlying40 rfl sx ?_; simp only [Act.put, List.setIfInBounds_toArray, List.set_cons_zero, List.set_cons_succ]; go_big_quiet_on) | (go_big_quiet_want; refine quiet_row_at _ _ rfl ga (oa + i * 128) rfl (brow z) Hr2.out Tryd.underlying40 rfl sb ?_; simp only [Act.put, List.setIfInBounds_toArray, List.set_cons_zero, List.set_cons_succ]; go_big_quiet_on) | go_big_quiet_step (fail))
      refine wpQuiet_nil ?_
      refine NoPanic.normal ?_
      gi_wp2
      have kk : Keeps (fun k => k = p + 1 ∨ k = p + 1 + 1 ∨ k = p + 1 + 1 + 1) V (((V.setCell ⟨p + 1, 0, none⟩ (.int .i64 0)).setCell ⟨p + 1 + 1, 0, none⟩ (.slice none 0 0)).setCell ⟨p + 1 + 1 + 1, 0, none⟩ (.int .i64 11)).drew := (res3_keeps V (p + 1) _ _ _).drew
      have RD := res3_set (k' := 0) (a' := none) (n' := 0) (c' := 0) (e' := 11) RV
      refine ⟨kk.from (fun k hk e => by omega), rfl, ?_, ⟨RD.r1, RD.r2, RD.r3⟩, (h2.mono (fun _ _ h => h.elim)).trans kk⟩
      intro ho
      have ht := Hobj.out.1 ho
      apply He.out
      have hx2 : x.2 = blk (padB T) x.1 := by rw [Hx.out]
      rw [hx2, ← ht, Hi.out, Hz.out]
  case done =>
    rintro D V hD' ⟨h1, h2⟩ hd
    have hall : ∀ i, i < n → blk L i = blk (padB T) i := fun i hi => h1 (i, blk (padB T) i) (bls_mem (by rw [hnT]; exact hi))
    have hobj : IsObj L := Hobj.out.2 (eq_of_blk Hlen.out hfl hall)
    have HO : Hid (IsObj L) := hobj
    have RV := R3.keeps h2 (fun h => h) (fun h => h) (fun h => h)
    have c1 : V.cell? ⟨p + 1, 0, none⟩ = some (.int .i64 0) := by simp [World.cell?, RV.r1]
    have c2 : V.cell? ⟨p + 1 + 1, 0, none⟩ = some (.slice none 0 0) := by simp [World.cell?, RV.r2]
    have c3 : V.cell? ⟨p + 1 + 1 + 1, 0, none⟩ = some (.int .i64 0) := by simp [World.cell?, RV.r3]
    have f1 := frozen_of_row V _ 0 _ _ RV.r1
    have f2 := frozen_of_row V _ 0 _ _ RV.r2
    have f3 := frozen_of_row V _ 0 _ _ RV.r3
    have hsV := hs33.keeps h2 (fun _ _ _ _ h => h)
    clear hobj h1 hall
    gi_wp2
    obtain ⟨V4, hV4⟩ : ∃ V4, (((V.setCell ⟨p + 1, 0, none⟩ (.int .i64 k)).setCell ⟨p + 1 + 1, 0, none⟩ (.slice (some ⟨g2, o3, none⟩) m m)).setCell ⟨p + 1 + 1 + 1, 0, none⟩ (.int .i64 0)) = V4 := ⟨_, rfl⟩
    have kk : Keeps (fun k => k = p + 1 ∨ k = p + 1 + 1 ∨ k = p + 1 + 1 + 1) V V4 := by rw [← hV4]; exact res3_keeps V (p + 1) _ _ _
    have RD : Res3 V4 (p + 1) k (some ⟨g2, o3, none⟩) m m 0 := by rw [← hV4]; exact res3_set RV
    have hd4 : V4.heap[D]? = some (.deferred (some [])) := kk.row hd (by omega)
    rw [hV4]
    clear hV4
    refine ⟨by simp, .inl ⟨_, _, rfl, run_takeDeferred hd4, ?_⟩⟩
    have d2 : Res3 (V4.putObj D (.deferred none)) (p + 1) k (some ⟨g2, o3, none⟩) m m 0 := ⟨(World.putObj_heap_other (by omega)).trans RD.r1, (World.putObj_heap_other (by omega)).trans RD.r2, (World.putObj_heap_other (by omega)).trans RD.r3⟩
    have k5 : Keeps (fun k => (k = p + 1 ∨ k = p + 1 + 1 ∨ k = p + 1 + 1 + 1) ∨ k = D) V (V4.putObj D (.deferred none)) := (kk.mono (fun _ _ h => .inl h)).grown (grownBy_putObj' V4 D _) (fun k e => by cases e; exact .inl (.inr rfl))
    refine ⟨_, results_cells3 rfl _ _ (p + 1) k (some ⟨g2, o3, none⟩) m m 0 rfl rfl rfl d2, ⟨.inl ⟨HO.out, some ⟨g2, o3, none⟩, m, by rw [Hk.out, Hm.out], ?_, fun e => by cases e⟩⟩, ?_⟩
    · rw [Hm.out]
      exact hsV.keeps k5 (fun h0 b o e => by cases e; have := hg23 h0; omega)
    · exact K3.trans' ((h2.mono (T := fun k => (k = p + 1 ∨ k = p + 1 + 1 ∨ k = p + 1 + 1 + 1) ∨ k = D) (fun _ _ h => h.elim)).trans k5) (fun k e => .inr (by rw [Hps.out]; omega))
  case stop =>
    rintro D cd pre x rest V hD' hx ⟨rfl, h1, h2, h3⟩ hd
    gi_wp2
    refine ⟨by simp, .inl ⟨_, _, rfl, run_takeDeferred hd, ?_⟩⟩
    have d2 : Res3 (V.putObj D (.deferred none)) (p + 1) 0 none 0 0 11 := ⟨(World.putObj_heap_other (by omega)).trans h2.r1, (World.putObj_heap_other (by omega)).trans h2.r2, (World.putObj_heap_other (by omega)).trans h2.r3⟩
    refine ⟨_, results_cells3 rfl _ _ (p + 1) 0 none 0 0 11 rfl rfl rfl d2, ⟨.inr ⟨h1, rfl⟩⟩, ?_⟩
    exact K3.trans' (h3.grown (grownBy_putObj' V D _) (fun k e => by cases e; exact .inr hD')) (fun k e => .inr (by rw [Hps.out]; omega))

theorem body11 (w : World) (hT : Tabs w) (a : Option Addr) (n c : Nat) (L : List B) (h : SlB w a (n * 128) (c * 128) L) :
    Calls Tryd.prog 11 #[.slice a n c] w fun e w' => Told L e w' ∧ Keeps (fun _ => False) w w' := by
  have hl := h.len
  by_cases hc : 0 < n ∧ 1 ≤ kindOf L ∧ kindOf L ≤ 6 ∧ (n : Int) = nblk (lnOf L)
  · exact body11_ok w hT a n c L h hc.1 ⟨hc.2.1, hc.2.2.1⟩ hc.2.2.2
  · refine (body11_head w a n c L h (fun h0 h1 => hc ⟨h0, h1⟩)).mono fun e w' ⟨h1, h2⟩ => ⟨⟨.inr ⟨?_, h1⟩⟩, h2⟩
    rcases Nat.eq_zero_or_pos n with h0 | h0
    · subst h0
      obtain rfl : L = [] := List.eq_nil_of_length_eq_zero (by omega)
      exact fun ho => by have := ho.k1; simp [kindOf, nb] at this
    · exact not_obj_n hl (fun h1 => hc ⟨h0, h1⟩)

end Go.Proofs.YtanmopbhglokmaaDoor
