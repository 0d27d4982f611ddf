/-
  IndexBack: the walk.
-/
import Derived.Test.YthngaegfppbdmaaDoorXy
set_option linter.all false
namespace Go.Proofs.YthngaegfppbdmaaDoor
open Go.RowKit Go.Sort Go.Shelf
attribute [local go_sem] Oper.semAt_some

/-! The places. -/
def pls (x : Int) (k : Nat) : List Int := (List.range k).map fun (i : Nat) => 2 + (x + (i : Int)) % 126
theorem pls_len (x : Int) (k : Nat) : (pls x k).length = k := by simp [pls]
theorem pls_succ (x : Int) (k : Nat) : pls x (k + 1) = pls x k ++ [2 + (x + (k : Int)) % 126] := by simp [pls, List.range_succ]
theorem pls_take (x : Int) (k : Nat) : (pls x (k + 1)).take k = pls x k := by
  rw [pls_succ, List.take_append_of_le_length (by rw [pls_len]; omega), List.take_of_length_le (by rw [pls_len]; omega)]
theorem pls_get (x : Int) {k i : Nat} (h : i < k) : (pls x k).getD i 0 = 2 + (x + (i : Int)) % 126 := by simp [pls, List.getD_eq_getElem?_getD, h]
theorem pls_ok (x : Int) {k : Nat} (h1 : 1 ≤ k) (h2 : k ≤ 100) : okR (pls x k) = true := by
  refine okR_iff.2 ⟨by rw [pls_len]; omega, fun i hi => ?_⟩
  rw [pls_len] at hi
  cases hb : rbad (pls x k) i with
  | false => rfl
  | true =>
    exfalso
    rcases rbad_iff.1 hb with h | ⟨j, hj, he⟩
    · rw [pls_get x hi] at h; omega
    · rw [pls_get x hi, pls_get x (by omega)] at he; omega

theorem map_add02 (a : Option Addr) : a.map (·.add 0) = a := by cases a <;> simp [Addr.add]
theorem elem23 : Tryd.prog.underlying 23 = some (.slice (Tryd.prog.elem 23)) := by kernel_rfl
theorem sizeOf3 (w : World) : (sizeOf (Tryd.prog.elem 23)).run Tryd.prog w = .ok 1 w := by
  have h : Tryd.prog.elem 23 = 3 := by kernel_rfl
  obtain ⟨i, hi, _, hs, _⟩ := info3'
  rw [h]; simp [sizeOf, typeInfo, hi, hs]
theorem run_preI (w : World) (a : Option Addr) (n c k : Nat) (h : k ≤ c) (H : Int) (hH : H = (k : Int)) : (Instr.sliceAt 23 (.slice a n c) none (some (.int .i64 H)) none).run Tryd.prog w = .ok (.slice a k c) w := by
  subst hH
  rw [run_sliceAt_slice w 23 _ _ _ _ elem23, run_slice_h w 23 _ _ _ elem23 .i64 (k : Int) (by omega) (by omega), sizeOf3]
  simp only [Result.andThen_ok, sliced, Int.toNat_natCast, Nat.zero_mul, map_add02, ite_self, Nat.sub_zero]
theorem quiet_preI {o : Oper} {a : Act} {C : World → Prop} {K : Act → Prop} (x hi : Operand) (ho : o.op = .slice 23 x none (some hi) none) (ad : Option Addr) (n c k : Nat) (hx : a.eval x = .slice ad n c) (H : Int) (hhi : a.eval hi = .int .i64 H) (hH : H = (k : Int)) (hk' : k ≤ c) (hk : K (a.put o.dst (.slice ad k c))) : o.quiet Tryd.prog a C K := by
  refine ⟨.slice ad k c, fun w hw => ?_, hk⟩
  unfold Oper.quietAt execOp
  simp only [ho, hx, hhi, Option.map_some, Option.map_none, run_preI w ad n c k hk' H hH, Sem.run_bind, Sem.run_pure, Result.andThen_ok]
  exact ⟨rfl, rfl⟩
theorem quiet_preK {o : Oper} {a : Act} {C : World → Prop} {K : Act → Prop} (x hi : Operand) (ho : o.op = .slice 57 x none (some hi) none) (b of n c k : Nat) (hx : a.eval x = .slice (some ⟨b, of, none⟩) n c) (H : Int) (hhi : a.eval hi = .int .i64 H) (hH : H = (k : Int)) (hk' : k ≤ c) (hk : K (a.put o.dst (.slice (some ⟨b, of, none⟩) k c))) : o.quiet Tryd.prog a C K := by
  refine ⟨.slice (some ⟨b, of, none⟩) k c, fun w hw => ?_, hk⟩
  unfold Oper.quietAt execOp
  simp only [ho, hx, hhi, Option.map_some, Option.map_none, run_sliceK w b of n c k hk' H hH, Sem.run_bind, Sem.run_pure, Result.andThen_ok]
  exact ⟨rfl, rfl⟩
theorem run_preE2 (w : World) (a : Option Addr) (n c k : Nat) (h : k ≤ c) (H : Int) (hH : H = (k : Int)) : (Instr.sliceAt 22 (.slice a n c) none (some (.int .i64 H)) none).run Tryd.prog w = .ok (.slice a k c) w := by
  subst hH
  rw [run_sliceAt_slice w 22 _ _ _ _ elem22, run_slice_h w 22 _ _ _ elem22 .i64 (k : Int) (by omega) (by omega), sizeOf54]
  simp only [Result.andThen_ok, sliced, Int.toNat_natCast, Nat.zero_mul, map_add02, ite_self, Nat.sub_zero]
theorem wpList_preEW {ops : Array Oper} {rest : List Oper} {o : Oper} {a : Act} {w : World} {Q : Exit → Act → World → Prop} (hw : Region.wanted o (yielded ops a.tmps) = true) (x hi : Operand) (ho : o.op = .slice 22 x none (some hi) none) (ad : Option Addr) (n c k : Nat) (hx : a.eval x = .slice ad n c) (H : Int) (hhi : a.eval hi = .int .i64 H) (hH : H = (k : Int)) (hk : k ≤ c)
    (h : wpList Tryd.prog ops Q rest (a.put o.dst (.slice ad k c)) w) : wpList Tryd.prog ops Q (o :: rest) a w := by
  unfold wpList
  rw [if_pos hw]
  left
  unfold Oper.wp execOp
  simp only [ho, hx, hhi, Option.map_some, Option.map_none, run_preE2 w ad n c k hk H hH, Sem.run_bind, Result.andThen_ok, Sem.run_pure]
  exact h
theorem wpList_minW {ops : Array Oper} {rest : List Oper} {o : Oper} {a : Act} {w : World} {Q : Exit → Act → World → Prop} (hw : Region.wanted o (yielded ops a.tmps) = true) (x y : Operand) (ho : o.op = .call { callee := .builtin .min, args := #[x, y], argTypes := #[3, 3] }) (p q m : Int) (hx : a.eval x = .int .i64 p) (hy : a.eval y = .int .i64 q) (hm : (if q < p then q else p) = m)
    (h : wpList Tryd.prog ops Q rest (a.put o.dst (.int .i64 m)) w) : wpList Tryd.prog ops Q (o :: rest) a w := by
  have hr : (execOp a.eval o).run Tryd.prog w = .ok (.value (.int .i64 m)) w := by
    subst hm
    generalize a.eval = ρ at hx hy ⊢
    simp [execOp, ho, hx, hy, go_sem, Builtin.min_, Builtin.min2]
  unfold wpList
  rw [if_pos hw]
  left
  unfold Oper.wp
  rw [hr]
  exact h

theorem OwnI.kept {S : Nat → Prop} {w w' : World} {base : Nat} {v : Value} {l : List Int} (h : OwnI w base v l) (hk : Keeps S w w') (hS : ∀ g, v.ownBlock = some g → ¬ S g) : OwnI w' base v l := by
  obtain ⟨h1, h2⟩ := h.owns
  refine ⟨⟨h1, ?_⟩⟩
  rcases h2 with h2 | ⟨g, cap, cur, rfl, hb, hg, rest⟩
  · exact .inl h2
  · exact .inr ⟨g, cap, cur, rfl, hb, hk.row hg (hS g rfl), rest⟩
theorem OwnI.keep {w w' : World} {base : Nat} {v : Value} {l : List Int} (h : OwnI w base v l) (hk : Keeps (fun _ => False) w w') : OwnI w' base v l := h.kept hk (fun _ _ h => h)
theorem OwnI.fr {w : World} {base g : Nat} {v : Value} {l : List Int} (h : OwnI w base v l) (e : v.ownBlock = some g) : base ≤ g ∧ g < w.heap.size := h.owns.lt g e
theorem OwnI.nums {w : World} {base n : Nat} {v : Value} {l : List Int} (h : OwnI w base v l) (hn : l.length = n) : ∃ a c, v = .slice a n c ∧ SlI w a n c l := by
  obtain ⟨a, c, e, s, _⟩ := h.slice
  rw [hn] at e s
  exact ⟨a, c, e, s⟩

/-- append of one number to one's own: the block is the one of before, or a new one. -/
theorem wpList_appI2 {ops : Array Oper} {rest : List Oper} {o : Oper} {a : Act} {w : World} {Q : Exit → Act → World → Prop} (hgd : o.guard = none) (s x : Operand) (ho : o.op = .call { callee := .builtin .append, args := #[s, x], argTypes := #[23, 23] })
    (base : Nat) (v : Value) (l : List Int) (hs : a.eval s = v) (hown : OwnI w base v l) (g : Nat) (hx : a.eval x = .slice (some ⟨g, 0, none⟩) 1 1) (e : Int) (hl : w.cell? ⟨g, 0, none⟩ = some (.int .i64 e)) (hlen : l.length ≤ 100000) (hbase : base ≤ w.heap.size)
    (h : ∀ v' w', OwnI w' base v' (l ++ [e]) → Keeps (fun k => v.ownBlock = some k) w w' → (∀ k, v'.ownBlock = some k → v.ownBlock = some k ∨ w.heap.size ≤ k) → wpList Tryd.prog ops Q rest (a.put o.dst v') w') : wpList Tryd.prog ops Q (o :: rest) a w := by
  obtain ⟨i, hi, hz, hsz, hby⟩ := info3'
  have hnews : ∀ j u, [Value.int .i64 e][j]? = some u → w.cell? ((⟨g, 0, none⟩ : Addr).add j) = some u := fun j u hu => by
    rw [Addr_add]
    have hj : j = 0 := by have := (List.getElem?_eq_some_iff.1 hu).1; simp at this; exact this
    subst hj
    cases hu
    exact hl
  have hone : ∀ u ∈ [Value.int .i64 e], u.oneCell' = true := fun u hu => by
    obtain rfl : u = .int .i64 e := by simpa using hu
    rfl
  obtain ⟨v', w', hr, h2, h3, _⟩ := run_append_own (P := Tryd.prog) w base 23 o.type 3 i (.int .i64 0) 1 8 Tryd.underlying23 hi hz hsz hby rfl (by omega) v l.length _ hown.owns ⟨g, 0, none⟩ 1 1 [.int .i64 e] rfl hnews hone (by unfold maxLen; omega) (by omega) hbase
  have hnew : ∀ k, v'.ownBlock = some k → v.ownBlock = some k ∨ w.heap.size ≤ k := fun k hk => by
    obtain ⟨_, ⟨rfl, h0⟩ | ⟨g', cap, cur, rfl, hb, hg, hn, hc, hs', ht⟩⟩ := hown.owns
    · obtain ⟨v2, w2, hr2, hq2, _, _⟩ := run_append_own (P := Tryd.prog) w w.heap.size 23 o.type 3 i (.int .i64 0) 1 8 Tryd.underlying23 hi hz hsz hby rfl (by omega) (.slice none 0 0) 0 [] ⟨by simp, .inl ⟨rfl, rfl⟩⟩ ⟨g, 0, none⟩ 1 1 [.int .i64 e] rfl hnews hone (by unfold maxLen; omega) (by omega) (Nat.le_refl _)
      rw [hr] at hr2
      cases hr2
      exact .inr (hq2.lt k hk).1
    · by_cases hroom : l.length + 1 ≤ cap
      · have hr2 := run_append_room (P := Tryd.prog) w 23 o.type 3 i Tryd.underlying23 hi g' l.length cap cur hg ⟨g, 0, none⟩ 1 1 [.int .i64 e] (by rw [hsz]; rfl) hnews hone hroom (by rw [hsz, hs']; simp; omega)
        rw [hr] at hr2
        cases hr2
        exact .inl hk
      · have hr2 := run_append_grow (P := Tryd.prog) w 23 o.type 3 i (.int .i64 0) Tryd.underlying23 hi hz ⟨g', 0, none⟩ l.length cap (l.map (Value.int .i64)) (by rw [hsz, List.length_map]; omega) (hown.owns.cells (g := g') rfl) ⟨g, 0, none⟩ 1 1 [.int .i64 e] (by rw [hsz]; rfl) hnews (by omega) (by omega) (growslice_fits (by omega) (by rw [hby]; omega))
        rw [hr] at hr2
        cases hr2
        simp [Value.ownBlock] at hk
        exact .inr (by omega)
  refine wpList_plain hgd fun K hK => ?_
  unfold Oper.wp execOp
  simp only [ho, resolve, invoke, builtin, Sem.run_bind, Sem.run_pure, Result.andThen_ok, List.map_toArray, List.map_cons, List.map_nil, hs, hx, hr]
  refine hK _ _ (h v' w' ⟨?_⟩ ⟨h3.os, h3.tape, h3.output, h3.size, fun k hk hb => h3.block k hk fun e => hb e.symm⟩ hnew)
  rw [List.map_append, List.length_append]; exact h2
theorem rowTy67 : RowTy 67 2 := ⟨⟨_, Tryd.underlying67, rfl⟩, by kernel_rfl⟩

theorem good35u_at {l : List En} {v : Bool} (h : ix l = v) (w : World) (a : Option Addr) (n c : Nat) (hl : SlE w a n c l) (hn : n ≤ 9223372036854775807) :
    Calls Tryd.prog 35 #[.slice a n c] w fun e w' => e = .returned (.bool v) ∧ Keeps (fun _ => False) w w' := by
  rw [← h]; exact good35u w a n c l hl hn
theorem pkR_ok {l : List En} (h : ix l = true) (h0 : 0 < l.length) {p : List Int} (hp : (p.length : Int) = sz l.length) (ho : okR (p.take (nck l)) = true) : pkR l p = (lvs l (nck l) ++ rt (p.take (nck l)), nck l + 1, 0) := by
  unfold pkR
  rw [if_neg (by rw [h]; decide), if_neg (fun h => h hp), if_neg (by omega), if_pos ho]
theorem blk_end {X R : List B} {K : Nat} (hX : X.length = K * 128) (hR : R.length = 128) : blk (X ++ R) K = R := by
  unfold blk
  rw [List.drop_append, List.drop_of_length_le (by omega), hX, Nat.sub_self, List.nil_append, List.drop_zero, List.take_of_length_le (by omega)]

set_option maxRecDepth 100000 in
theorem back9_no (w : World) (hT : Tabs w) (a : Option Addr) (n c : Nat) (l : List En) (hl : SlE w a n c l) (hn : n ≤ 9223372036854775807) (x y : Int) (h : ix l = false ∨ n = 0) :
    Calls Tryd.prog 9 #[.slice a n c, .agg #[.int .u8 x, .int .u8 y]] w fun e w' => e = .returned (.bool true) ∧ Keeps (fun _ => False) w w' := by
  have cs : ix l = false ∨ (ix l = true ∧ n = 0) := by
    cases hi : ix l with
    | false => exact .inl rfl
    | true => exact .inr ⟨rfl, by rcases h with h | h; rw [hi] at h; cases h; exact h⟩
  clear h
  rcases cs with hi | ⟨hi, rfl⟩
  all_goals
    have HI : Hid (ix l = _) := hi
    clear hi
    go_enter Tryd.func9, Tryd.ntmps9
    go_wp2_with (first
      | (refine wpList_boxR rfl 67 _ rfl _ rfl ?_; intro g3 w1 b1 z1 k1)
      | (go_at_call 35; refine (good35u_at HI.out _ _ _ _ (hl.keep k1) hn).mono ?_; rintro e w2 ⟨rfl, k2⟩; have K2 := k1.trans k2)
      | (go_at_call 29; refine (wakes29 _ (hT.keeps K2 (fun h => h) (fun h => h))).mono ?_; rintro e w3 ⟨rfl, k3⟩))
    go_ret
    exact ⟨rfl, K2.trans k3⟩


set_option maxRecDepth 100000 in
set_option maxHeartbeats 4000000 in
theorem back9_ok (w : World) (hT : Tabs w) (a : Option Addr) (n c : Nat) (l : List En) (hl : SlE w a n c l) (h0 : 0 < n) (hi : ix l = true) (x y : Int) (hx : 0 ≤ x ∧ x < 256) (hy : 0 ≤ y ∧ y < 256) :
    Calls Tryd.prog 9 #[.slice a n c, .agg #[.int .u8 x, .int .u8 y]] w fun e w' => e = .returned (.bool true) ∧ Keeps (fun _ => False) w w' := by
  have hlen := hl.len
  have hk := hl.keyed
  have h126 := ix_len hi
  rw [hlen] at h126
  obtain ⟨J, hJ⟩ : ∃ J, nck l = J + 1 := ⟨nck l - 1, by unfold nck; omega⟩
  obtain ⟨K, hK⟩ : ∃ K, J + 1 = K := ⟨_, rfl⟩
  obtain ⟨k, hkk⟩ : ∃ k, K + 1 = k := ⟨_, rfl⟩
  obtain ⟨M, hM⟩ : ∃ M, 3 * J = M := ⟨_, rfl⟩
  have hMn : M < n := by unfold nck at hJ; omega
  have hK43 : K ≤ 43 := by unfold nck at hJ; omega
  have hsz : sz (n : Int) = (k : Int) := by rw [sz_nat n h0]; unfold nck at hJ; omega
  have hoA := pls_ok x (k := K) (by omega) (by omega)
  have hoB := pls_ok y (k := K) (by omega) (by omega)
  have htA : (pls x k).take K = pls x K := by rw [← hkk]; exact pls_take x K
  have htB : (pls y k).take K = pls y K := by rw [← hkk]; exact pls_take y K
  obtain ⟨V0, hV0⟩ : ∃ V0, lvs l J = V0 := ⟨_, rfl⟩
  obtain ⟨LJ, hLJ⟩ : ∃ LJ, lf (ck l J) = LJ := ⟨_, rfl⟩
  have hVK : lvs l K = V0 ++ LJ := by rw [← hK, lvs_succ, hV0, hLJ]
  have lV0 : V0.length = J * 128 := by rw [← hV0]; exact lvs_len hk J
  have lLJ : LJ.length = 128 := by rw [← hLJ]; exact lf_len (ck_keyed hk J) (by rw [ck_len]; omega)
  have lVK : (V0 ++ LJ).length = K * 128 := by rw [List.length_append, lV0, lLJ]; omega
  obtain ⟨RA, hRA⟩ : ∃ RA, rt (pls x K) = RA := ⟨_, rfl⟩
  obtain ⟨RB, hRB⟩ : ∃ RB, rt (pls y K) = RB := ⟨_, rfl⟩
  have lRA : RA.length = 128 := by rw [← hRA]; exact rt_len (okR_iff.1 hoA).1.2
  have lRB : RB.length = 128 := by rw [← hRB]; exact rt_len (okR_iff.1 hoB).1.2
  have HPA : Hid (pkR l (pls x k) = (V0 ++ (LJ ++ RA), k, 0)) := by
    show _ = _
    rw [pkR_ok hi (by omega) (by rw [pls_len, hlen, hsz]) (by rw [hJ, hK, htA]; exact hoA), hJ, hK, htA, hVK, hRA, List.append_assoc, hkk]
  have HPB : Hid (pkR l (pls y k) = (V0 ++ (LJ ++ RB), k, 0)) := by
    show _ = _
    rw [pkR_ok hi (by omega) (by rw [pls_len, hlen, hsz]) (by rw [hJ, hK, htB]; exact hoB), hJ, hK, htB, hVK, hRB, List.append_assoc, hkk]
  have HUK : Hid (unR (V0 ++ LJ) K = (l, 0)) := by
    show _ = _
    rw [← hVK, unR_lvs hk hi (by omega), List.take_of_length_le (by have := nck_ge l; omega)]
  obtain ⟨T, hTe⟩ : ∃ T, l.take M = T := ⟨_, rfl⟩
  have lT : T.length ≤ 200 := by rw [← hTe, List.length_take]; omega
  have HTe : Hid (l.take M = T) := hTe
  have HUJ : Hid (unR V0 J = (T, 0)) := by
    show _ = _
    rw [← hV0, unR_lvs hk hi (by omega), hM, hTe]
  obtain ⟨vq, hvq⟩ : ∃ vq, decide (RA = RB) = vq := ⟨_, rfl⟩
  have HV : Hid (decide (pls x K = pls y K) = vq) := by
    show _ = _
    rw [← hvq, ← hRA, ← hRB]
    refine decide_eq_decide.2 ⟨fun h => by rw [h], fun h => ?_⟩
    rw [← plcs_rt hoA, ← plcs_rt hoB, h]
  have heq := eq26_at hvq lRA lRB
  have HI : Hid (ix l = true) := hi
  have HS : Hid (sz (n : Int) = (k : Int)) := hsz
  have HtA : Hid ((pls x k).take K = pls x K) := htA
  have HtB : Hid ((pls y k).take K = pls y K) := htB
  have Hln : Hid (l.length = n) := hlen
  have HKk : Hid (K + 1 = k) := hkk
  have HJK : Hid (J + 1 = K) := hK
  have HlV0 : Hid (V0.length = J * 128) := lV0
  have HlVK : Hid ((V0 ++ LJ).length = K * 128) := lVK
  have HbA : Hid (blk (V0 ++ (LJ ++ RA)) K = RA) := by show _ = _; rw [← List.append_assoc]; exact blk_end lVK lRA
  have HbB : Hid (blk (V0 ++ (LJ ++ RB)) K = RB) := by show _ = _; rw [← List.append_assoc]; exact blk_end lVK lRB
  have hk126 : ¬ (126 : Int) < (k : Int) := by omega
  have hk44 : k ≤ 44 := by omega
  have hk1 : (k : Int) - 1 = (K : Int) := by omega
  have hk2 : (k : Int) - 2 = (J : Int) := by omega
  have hK0 : (0 : Int) ≤ (K : Int) := by omega
  have hKk : (K : Int) < (k : Int) := by omega
  have hM3 : 3 * (J : Int) = (M : Int) := by omega
  have hn0 : ¬ (n : Int) = 0 := by omega
  have hKle : K ≤ k := by omega
  have hJ43 : J ≤ 43 := by omega
  have hnc := hl.cap
  obtain ⟨hx0, hx1⟩ := hx
  obtain ⟨hy0, hy1⟩ := hy
  clear hi hk hlen hJ hK hkk hM hsz hoA hoB htA htB hV0 hLJ hVK lV0 lVK hRA hRB hvq hTe
  go_enter Tryd.func9, Tryd.ntmps9
  go_wp2_with (first
    | (refine wpList_boxR rfl 67 _ rfl _ rfl ?_; intro g3 w1 b1 z1 k1)
    | (go_at_call 35; refine (good35u_at HI.out _ _ _ _ (hl.keep k1) (by omega)).mono ?_; rintro e w2 ⟨rfl, k2⟩)
    | (go_at_call 38; refine (size38_of HS _ (by omega) (by omega)).mono ?_; rintro e w3 ⟨rfl, k3⟩)
    | (go_at_call 37; refine (size_of HS _ (by omega) (by omega)).mono ?_; rintro e w4 ⟨rfl, k4⟩))
  have K4 := (k2.trans k3).trans k4
  go_loopw [6, 7, 8] (fun v u t wr => ∃ i : Nat, i ≤ k ∧ t = .int .i64 (i : Int) ∧ OwnI wr w1.heap.size v (pls x i) ∧ OwnI wr w1.heap.size u (pls y i) ∧ Hid (∀ g, v.ownBlock = some g → u.ownBlock ≠ some g) ∧ Keeps (fun _ => False) w1 wr) (fun v u t _ => k - (intOf t).toNat)
  case atStart => exact ⟨0, by omega, rfl, OwnI.nil _ _, OwnI.nil _ _, (fun g h => by cases h), K4⟩
  case round =>
    obtain ⟨i, hi, rfl, O, U, HA, KW⟩ := hrel
    by_cases hlt : i < k
    · have hlt' : (i : Int) < (k : Int) := by omega
      have hi44 : i ≤ 44 := by omega
      obtain ⟨r1, hr1⟩ : ∃ r1, (x + (i : Int)) % 126 = r1 := ⟨_, rfl⟩
      obtain ⟨r2, hr2⟩ : ∃ r2, (y + (i : Int)) % 126 = r2 := ⟨_, rfl⟩
      have hr1a : 0 ≤ r1 ∧ r1 < 126 := by omega
      have hr2a : 0 ≤ r2 ∧ r2 < 126 := by omega
      obtain ⟨hr10, hr11⟩ := hr1a
      obtain ⟨hr20, hr21⟩ := hr2a
      have H1 : Hid (pls x (i + 1) = pls x i ++ [2 + r1]) := by show _ = _; rw [pls_succ, hr1]
      have H2 : Hid (pls y (i + 1) = pls y i ++ [2 + r2]) := by show _ = _; rw [pls_succ, hr2]
      have lPx : (pls x i).length ≤ 100000 := by rw [pls_len]; omega
      have lPy : (pls y i).length ≤ 100000 := by rw [pls_len]; omega
      generalize pls x i = Px at *
      generalize pls y i = Py at *
      have c0 : ∀ d os, (grow (redrawn w1 d) os).cell? ⟨g3, 0, none⟩ = some (.int .u8 x) := fun d os => (b1.cls ⟨⟨d, os⟩, rfl⟩).cell 0
      have c1 : ∀ d os, (grow (redrawn w1 d) os).cell? ⟨g3, 1, none⟩ = some (.int .u8 y) := fun d os => (b1.cls ⟨⟨d, os⟩, rfl⟩).cell 1
      have d0 : Keeps (fun _ => False) wr wr.drew := (Keeps.refl _ _).drew
      have O0 := O.keep d0
      have U0 := U.keep d0
      have Q0 := KW.trans d0
      have n0 := d0.size
      go_wp2_with fail
      refine region_tree (S := fun w' => ∃ p : Regrown, w' = grow (redrawn w1 p.d) p.os) (.two [0, 1, 2, 3, 4, 5, 6, 7, 10, 11, 12, 13, 14, 15, 16, 17] 8 (.two [] 9 (.one [] 18 (.one [] 19 (.last [20, 21]))) 18 (.one [] 9 (.one [] 19 (.last [20, 21])))) 18 (.one [] 8 (.one [] 9 (.one [] 19 (.last [20, 21]))))) (by kernel_rfl) (by kernel_rfl) (by kernel_rfl) (by kernel_rfl) (cls_keeps Q0) ?_
      simp only [wpTree, opsAt, pick]
      repeat (go_big_quiet_step (fail))
      refine wpQuiet_nil ⟨?_, ?_⟩
      · go_wp2_with (refine wpList_build1I rfl _ rfl (2 + r1) rfl ?_; intro ga e1 ca1 za d1)
        have Q1 := Q0.trans d1
        have n1 := d1.size
        have O1 := O0.keep d1
        have U1 := U0.keep d1
        refine ⟨cls_keeps Q1, ?_⟩
        simp only [wpTree, opsAt, pick]
        refine wpQuiet_nil ⟨?_, ?_⟩
        · go_wp2_with (refine wpList_appI2 rfl _ _ rfl w1.heap.size _ Px rfl O1 ga rfl (2 + r1) ca1 lPx (by have := Q1.size; omega) ?_; intro v' e2 O2 d2 fv)
          have Q2 : Keeps (fun _ => False) w1 e2 := Q1.trans' d2 (fun i e => .inr (O1.fr e).1)
          have n2 := d2.size
          have U2 := U1.kept d2 (fun g hg e => HA.out g e hg)
          refine ⟨cls_keeps Q2, ?_⟩
          simp only [wpTree, opsAt, pick]
          refine wpQuiet_nil ?_
          go_wp2_with (refine wpList_build1I rfl _ rfl (2 + r2) rfl ?_; intro gc e3 cc3 zc d3)
          have Q3 := Q2.trans d3
          have n3 := d3.size
          have O3 := O2.keep d3
          have U3 := U2.keep d3
          refine ⟨cls_keeps Q3, ?_⟩
          simp only [wpTree, opsAt, pick]
          refine wpQuiet_nil ?_
          go_wp2_with (refine wpList_appI2 rfl _ _ rfl w1.heap.size _ Py rfl U3 gc rfl (2 + r2) cc3 lPy (by have := Q3.size; omega) ?_; intro u' e4 U4 d4 fu)
          have Q4 : Keeps (fun _ => False) w1 e4 := Q3.trans' d4 (fun i e => .inr (U3.fr e).1)
          have n4 := d4.size
          have O4 := O3.kept d4 (fun g hg e => by
            rcases fv g hg with h | h
            · exact HA.out g h e
            · have := (U1.fr e).2; omega)
          refine ⟨cls_keeps Q4, ?_⟩
          simp only [wpTree, opsAt, pick]
          repeat (go_big_quiet_step (fail))
          refine wpQuiet_nil ?_
          refine NoPanic.normal ?_
          go_wp2
          exact ⟨⟨i + 1, by omega, by go_num, by rw [H1.out]; exact O4, by rw [H2.out]; exact U4, (fun g hg e => by
            rcases fv g hg with h | h <;> rcases fu g e with h' | h'
            · exact HA.out g h h'
            · have := (O1.fr h).2; omega
            · have := (U1.fr h').2; omega
            · have := (O3.fr hg).2; omega), Q4⟩, by simp [intOf]; omega⟩
        · go_wp2_with (refine wpList_build1I rfl _ rfl (2 + r2) rfl ?_; intro gc e2 cc2 zc d2)
          have Q2 := Q1.trans d2
          have n2 := d2.size
          have O2 := O1.keep d2
          have U2 := U1.keep d2
          have ca2 := cell_keeps d2 ca1 (fun h => h)
          refine ⟨cls_keeps Q2, ?_⟩
          simp only [wpTree, opsAt, pick]
          refine wpQuiet_nil ?_
          go_wp2_with (refine wpList_appI2 rfl _ _ rfl w1.heap.size _ Px rfl O2 ga rfl (2 + r1) ca2 lPx (by have := Q2.size; omega) ?_; intro v' e3 O3 d3 fv)
          have Q3 : Keeps (fun _ => False) w1 e3 := Q2.trans' d3 (fun i e => .inr (O2.fr e).1)
          have n3 := d3.size
          have U3 := U2.kept d3 (fun g hg e => HA.out g e hg)
          have cc3 := cell_keeps d3 cc2 (fun e => by have := (O1.fr e).2; omega)
          refine ⟨cls_keeps Q3, ?_⟩
          simp only [wpTree, opsAt, pick]
          refine wpQuiet_nil ?_
          go_wp2_with (refine wpList_appI2 rfl _ _ rfl w1.heap.size _ Py rfl U3 gc rfl (2 + r2) cc3 lPy (by have := Q3.size; omega) ?_; intro u' e4 U4 d4 fu)
          have Q4 : Keeps (fun _ => False) w1 e4 := Q3.trans' d4 (fun i e => .inr (U3.fr e).1)
          have n4 := d4.size
          have O4 := O3.kept d4 (fun g hg e => by
            rcases fv g hg with h | h
            · exact HA.out g h e
            · have := (U2.fr e).2; omega)
          refine ⟨cls_keeps Q4, ?_⟩
          simp only [wpTree, opsAt, pick]
          repeat (go_big_quiet_step (fail))
          refine wpQuiet_nil ?_
          refine NoPanic.normal ?_
          go_wp2
          exact ⟨⟨i + 1, by omega, by go_num, by rw [H1.out]; exact O4, by rw [H2.out]; exact U4, (fun g hg e => by
            rcases fv g hg with h | h <;> rcases fu g e with h' | h'
            · exact HA.out g h h'
            · have := (O2.fr h).2; omega
            · have := (U2.fr h').2; omega
            · have := (O3.fr hg).2; omega), Q4⟩, by simp [intOf]; omega⟩
      · go_wp2_with (refine wpList_build1I rfl _ rfl (2 + r2) rfl ?_; intro gc e1 cc1 zc d1)
        have Q1 := Q0.trans d1
        have n1 := d1.size
        have O1 := O0.keep d1
        have U1 := U0.keep d1
        refine ⟨cls_keeps Q1, ?_⟩
        simp only [wpTree, opsAt, pick]
        refine wpQuiet_nil ?_
        go_wp2_with (refine wpList_build1I rfl _ rfl (2 + r1) rfl ?_; intro ga e2 ca2 za d2)
        have Q2 := Q1.trans d2
        have n2 := d2.size
        have O2 := O1.keep d2
        have U2 := U1.keep d2
        have cc2 := cell_keeps d2 cc1 (fun h => h)
        refine ⟨cls_keeps Q2, ?_⟩
        simp only [wpTree, opsAt, pick]
        refine wpQuiet_nil ?_
        go_wp2_with (refine wpList_appI2 rfl _ _ rfl w1.heap.size _ Px rfl O2 ga rfl (2 + r1) ca2 lPx (by have := Q2.size; omega) ?_; intro v' e3 O3 d3 fv)
        have Q3 : Keeps (fun _ => False) w1 e3 := Q2.trans' d3 (fun i e => .inr (O2.fr e).1)
        have n3 := d3.size
        have U3 := U2.kept d3 (fun g hg e => HA.out g e hg)
        have cc3 := cell_keeps d3 cc2 (fun e => by have := (O0.fr e).2; omega)
        refine ⟨cls_keeps Q3, ?_⟩
        simp only [wpTree, opsAt, pick]
        refine wpQuiet_nil ?_
        go_wp2_with (refine wpList_appI2 rfl _ _ rfl w1.heap.size _ Py rfl U3 gc rfl (2 + r2) cc3 lPy (by have := Q3.size; omega) ?_; intro u' e4 U4 d4 fu)
        have Q4 : Keeps (fun _ => False) w1 e4 := Q3.trans' d4 (fun i e => .inr (U3.fr e).1)
        have n4 := d4.size
        have O4 := O3.kept d4 (fun g hg e => by
          rcases fv g hg with h | h
          · exact HA.out g h e
          · have := (U2.fr e).2; omega)
        refine ⟨cls_keeps Q4, ?_⟩
        simp only [wpTree, opsAt, pick]
        repeat (go_big_quiet_step (fail))
        refine wpQuiet_nil ?_
        refine NoPanic.normal ?_
        go_wp2
        exact ⟨⟨i + 1, by omega, by go_num, by rw [H1.out]; exact O4, by rw [H2.out]; exact U4, (fun g hg e => by
          rcases fv g hg with h | h <;> rcases fu g e with h' | h'
          · exact HA.out g h h'
          · have := (O2.fr h).2; omega
          · have := (U2.fr h').2; omega
          · have := (O3.fr hg).2; omega), Q4⟩, by simp [intOf]; omega⟩
    · obtain rfl : i = k := by omega
      have hlt' : ¬ (i : Int) < (i : Int) := by omega
      obtain ⟨aP, cP, rfl, sp⟩ := O.nums (pls_len x i)
      obtain ⟨aQ, cQ, rfl, sq⟩ := U.nums (pls_len y i)
      have hl1 := hl.keep k1
      go_wp2_with (first
        | (go_at_call 30; have := KA; refine (pack30 HPB.out _ (hT.keeps (k1.trans KA) (fun h => h) (fun h => h)) _ n c (hl1.keep KA) (by omega) _ _ _ (sq.keep kA)).mono ?_; rintro e wB ⟨⟨aB, cB, rfl, sB⟩, kB⟩; have KB := KA.trans kB; have sA' := sA.keeps kB (fun _ _ _ _ h => h); obtain ⟨bB, oB, rfl, _⟩ := sB.blk K (by have := HKk.out; omega))
        | (go_at_call 30; refine (pack30 HPA.out _ (hT.keeps (k1.trans KW) (fun h => h) (fun h => h)) _ n c (hl1.keep KW) (by omega) _ _ _ sp).mono ?_; rintro e wA ⟨⟨aA, cA, rfl, sA⟩, kA⟩; have KA := KW.trans kA; obtain ⟨bA, oA, rfl, _⟩ := sA.blk K (by have := HKk.out; omega))
        | (refine wpList_sliceK rfl _ _ rfl bA oA i cA K rfl _ rfl (by omega) (by have := sA'.cap; have := HKk.out; omega) ?_)
        | (go_at_call 32; refine (unpack32_is HUK.out _ (hT.keeps (k1.trans KB) (fun h => h) (fun h => h)) _ cA (by have := sA'; rw [← List.append_assoc] at this; have := this.pre1; rwa [HlVK.out] at this) (by omega)).mono ?_; rintro e wC ⟨⟨aC, cC, rfl, sC⟩, kC⟩; have KC := KB.trans kC))
      have spC := sp.keep (kA.trans (kB.trans kC))
      have sqC := sq.keep (kA.trans (kB.trans kC))
      have sAC := sA'.keeps kC (fun _ _ _ _ h => h)
      have sBC := sB.keeps kC (fun _ _ _ _ h => h)
      have hlC := hl1.keep KC
      have hTC := hT.keeps (k1.trans KC) (fun h => h) (fun h => h)
      have pA := spC.pre (k := K) hKle
      have pB := sqC.pre (k := K) hKle
      rw [HtA.out] at pA
      rw [HtB.out] at pB
      have vA : SlB wC (some ⟨bA, oA, none⟩) (K * 128) (cA * 128) (V0 ++ LJ) := by have := sAC; rw [← List.append_assoc] at this; have := this.pre1; rwa [HlVK.out] at this
      have vB : SlB wC (some ⟨bB, oB, none⟩) (K * 128) (cB * 128) (V0 ++ LJ) := by have := sBC; rw [← List.append_assoc] at this; have := this.pre1; rwa [HlVK.out] at this
      have hKa : K ≤ cA := by have := sAC.cap; omega
      have hKb : K ≤ cB := by have := sBC.cap; omega
      have hKp : K ≤ cP := by have := spC.cap; omega
      have hKq : K ≤ cQ := by have := sqC.cap; omega
      obtain ⟨b', o', e', _, rA⟩ := sAC.blk K (by omega)
      cases e'
      obtain ⟨b', o', e', _, rB⟩ := sBC.blk K (by omega)
      cases e'
      rw [HbA.out] at rA
      rw [HbB.out] at rB
      have HrA : Hid (∀ w', (∃ p : Regrown, w' = grow (redrawn wC p.d) p.os) → w'.rangeAt bA (oA + K * 128) (brow RA).toList) := fun w' h => rA w' (keeps_cls h)
      have HrB : Hid (∀ w', (∃ p : Regrown, w' = grow (redrawn wC p.d) p.os) → w'.rangeAt bB (oB + K * 128) (brow RB).toList) := fun w' h => rB w' (keeps_cls h)
      clear rA rB
      refine wp_region_quiet_below (by kernel_rfl) (by kernel_rfl) ?_
      iterate 43 (first
        | (go_big_quiet_want; refine quiet_preK _ _ rfl bA oA i cA K rfl _ rfl (by omega) hKa ?_; simp only [Act.put, List.setIfInBounds_toArray, List.set_cons_zero, List.set_cons_succ]; go_big_quiet_on)
        | (go_big_quiet_want; refine quiet_preK _ _ rfl bB oB i cB K rfl _ rfl (by omega) hKb ?_; simp only [Act.put, List.setIfInBounds_toArray, List.set_cons_zero, List.set_cons_succ]; go_big_quiet_on)
        | (go_big_quiet_want; refine quiet_preI _ _ rfl aP i cP K rfl _ rfl (by omega) hKp ?_; simp only [Act.put, List.setIfInBounds_toArray, List.set_cons_zero, List.set_cons_succ]; go_big_quiet_on)
        | (go_big_quiet_want; refine quiet_preI _ _ rfl aQ i cQ K rfl _ rfl (by omega) hKq ?_; simp only [Act.put, List.setIfInBounds_toArray, List.set_cons_zero, List.set_cons_succ]; go_big_quiet_on)
        | (go_big_quiet_want; refine quiet_row_at _ _ rfl bA (oA + K * 128) rfl (brow RA) HrA.out Tryd.underlying25 rfl (size25_of lRA) ?_; simp only [Act.put, List.setIfInBounds_toArray, List.set_cons_zero, List.set_cons_succ]; go_big_quiet_on)
        | (go_big_quiet_want; refine quiet_row_at _ _ rfl bB (oB + K * 128) rfl (brow RB) HrB.out Tryd.underlying25 rfl (size25_of lRB) ?_; simp only [Act.put, List.setIfInBounds_toArray, List.set_cons_zero, List.set_cons_succ]; go_big_quiet_on)
        | go_big_quiet_step (fail)
        | (have := Z2; go_big_quiet_want; go_big_quiet_op; apply Exists.intro; refine ⟨fun _ => call_cls (ints_at HV _ _ _ _ _ _ _ (pA.keep (keeps_cls ⟨_, rfl⟩)) (pB.keep (keeps_cls ⟨_, rfl⟩)) (by omega)) ⟨_, rfl⟩, ?_⟩; go_big_quiet_on)
        | (have := Z1; go_big_quiet_want; go_big_quiet_op; apply Exists.intro; refine ⟨fun _ => call_cls (blocks_at (decide_eq_true rfl) _ _ _ _ _ _ _ (vA.keeps (keeps_cls ⟨_, rfl⟩) (fun _ _ _ _ h => h)) (vB.keeps (keeps_cls ⟨_, rfl⟩) (fun _ _ _ _ h => h)) (by omega)) ⟨_, rfl⟩, ?_⟩; have Z2 : Hid True := trivial; go_big_quiet_on)
        | (go_big_quiet_want; go_big_quiet_op; apply Exists.intro; refine ⟨fun _ => call_cls (entries_at (decide_eq_true rfl) _ _ _ _ _ _ _ (sC.keep (keeps_cls ⟨_, rfl⟩)) (hlC.keep (keeps_cls ⟨_, rfl⟩)) (by rw [Hln.out]; omega)) ⟨_, rfl⟩, ?_⟩; have Z1 : Hid True := trivial; go_big_quiet_on))
      refine wpQuiet_nil ?_
      intro wz hwz
      have kz := keeps_cls hwz
      have KZ := KC.trans kz
      have v0 : SlB wz (some ⟨bA, oA, none⟩) (J * 128) (cA * 128) V0 := by have := (sAC.keeps kz (fun _ _ _ _ h => h)).pre1; rwa [HlV0.out] at this
      have hlz := (hl1.keep KZ).pre (k := M) (by omega)
      rw [HTe.out] at hlz
      go_wp2_with (first
        | (refine wpList_sliceK rfl _ _ rfl bA oA i cA J rfl _ rfl (by omega) (by have := HJK.out; omega) ?_)
        | (go_at_call 32; refine (unpack32_is HUJ.out _ (hT.keeps (k1.trans KZ) (fun h => h) (fun h => h)) _ cA v0 (by omega)).mono ?_; rintro e wD ⟨⟨aD, cD, rfl, sD⟩, kD⟩; have KD := KZ.trans kD)
        | (refine wpList_minW rfl _ _ rfl _ _ (M : Int) rfl rfl (by split <;> omega) ?_)
        | (refine wpList_preEW rfl _ _ rfl a n c M rfl _ rfl rfl (by omega) ?_)
        | (go_at_call 25; refine (entries_at (decide_eq_true rfl) _ _ _ _ _ _ _ sD (hlz.keep kD) (by omega)).mono ?_; rintro e wE ⟨rfl, kE⟩; have KE := KD.trans kE)
        | (go_at_call 29; refine (wakes29 _ (hT.keeps (k1.trans KE) (fun h => h) (fun h => h))).mono ?_; rintro e wF ⟨rfl, kF⟩))
      go_ret
      exact ⟨rfl, (k1.trans KE).trans kF⟩

theorem backL9 (w : World) (hT : Tabs w) (a : Option Addr) (n c : Nat) (l : List En) (hl : SlE w a n c l) (hn : n ≤ 9223372036854775807) (x y : Int) (hx : 0 ≤ x ∧ x < 256) (hy : 0 ≤ y ∧ y < 256) :
    Calls Tryd.prog 9 #[.slice a n c, .agg #[.int .u8 x, .int .u8 y]] w fun e w' => e = .returned (.bool true) ∧ Keeps (fun _ => False) w w' := by
  by_cases h0 : n = 0
  · exact back9_no w hT a n c l hl hn x y (.inr h0)
  · cases hi : ix l with
    | false => exact back9_no w hT a n c l hl hn x y (.inl hi)
    | true => exact back9_ok w hT a n c l hl (by omega) hi x y hx hy

end Go.Proofs.YthngaegfppbdmaaDoor
