/-
  Packed texts: Ro, Rq, Lv.
-/
import Derived.Test.YthngaegfppbdmaaDoorGG
set_option linter.all false
set_option maxRecDepth 100000
namespace Go.Proofs.YthngaegfppbdmaaDoor

/-! Ro: Slices of numbers; Root of the reference. -/
section
open Go.RowKit Go.Sort

/-- A slice of n numbers. -/
structure SlI (w : World) (a : Option Addr) (n c : Nat) (l : List Int) : Prop where
  len : l.length = n
  cap : n ≤ c
  at_ : ∀ j v, l[j]? = some v → ∃ b o, a = some ⟨b, o, none⟩ ∧ w.cell? ⟨b, o + j, none⟩ = some (.int .i64 v)
theorem SlI.keeps {S : Nat → Prop} {w w' : World} {a : Option Addr} {n c : Nat} {l : List Int} (h : SlI w a n c l) (hk : Keeps S w w') (hs : 0 < n → ∀ b o, a = some ⟨b, o, none⟩ → ¬ S b) : SlI w' a n c l :=
  ⟨h.len, h.cap, fun j x hx => by obtain ⟨b, o, e, hc⟩ := h.at_ j x hx; exact ⟨b, o, e, cell_keeps hk hc (hs (by have := (List.getElem?_eq_some_iff.1 hx).1; have := h.len; omega) b o e)⟩⟩
theorem SlI.keep {w w' : World} {a : Option Addr} {n c : Nat} {l : List Int} (h : SlI w a n c l) (hk : Keeps (fun _ => False) w w') : SlI w' a n c l := h.keeps hk (fun _ _ _ _ h => h)
theorem SlI.nil (w : World) : SlI w none 0 0 [] := ⟨rfl, Nat.le_refl _, fun j x hx => by simp at hx⟩
theorem SlI.ent {w : World} {a : Option Addr} {n c : Nat} {l : List Int} (h : SlI w a n c l) (h0 : 0 < n) : ∃ b o, a = some ⟨b, o, none⟩ ∧ b < w.heap.size ∧ ∀ w', Keeps (fun _ => False) w w' → ∀ i, i < n → w'.cell? ⟨b, o + i, none⟩ = some (.int .i64 (l.getD i 0)) := by
  have hl := h.len
  obtain ⟨b, o, rfl, hc⟩ := h.at_ 0 _ (List.getElem?_eq_getElem (by omega))
  refine ⟨b, o, rfl, World.block_lt_of_cell? w _ hc, fun w' hk i hi => ?_⟩
  obtain ⟨b', o', e, hc'⟩ := h.at_ i _ (List.getElem?_eq_getElem (by omega))
  cases e
  rw [List.getD_eq_getElem?_getD, List.getElem?_eq_getElem (by omega)]
  exact cell_keeps hk hc' (fun h => h)

/-- The slice v, in a block of one's own from base on, has the numbers l. -/
structure OwnI (w : World) (base : Nat) (v : Value) (l : List Int) : Prop where
  owns : w.ownsRow base 3 1 v l.length (l.map (Value.int .i64))
theorem OwnI.slice {w : World} {base : Nat} {v : Value} {l : List Int} (h : OwnI w base v l) : ∃ a c, v = .slice a l.length c ∧ SlI w a l.length c l ∧ (∀ b o, a = some ⟨b, o, none⟩ → base ≤ b) := by
  obtain ⟨_, ⟨rfl, h0⟩ | ⟨g, cap, cur, rfl, hb, hg, hn, hc, hs, ht⟩⟩ := h.owns
  · obtain rfl : l = [] := List.eq_nil_of_length_eq_zero h0
    exact ⟨none, 0, rfl, SlI.nil w, fun b o e => by cases e⟩
  · refine ⟨_, _, rfl, ⟨rfl, hn, fun j x hx => ⟨g, 0, rfl, ?_⟩⟩, (fun b o e => by cases e; exact hb)⟩
    have hj : j < l.length := (List.getElem?_eq_some_iff.1 hx).1
    have h1 : (cur.toList.take (l.length * 1))[j]? = some (.int .i64 x) := by rw [ht, List.getElem?_map, hx]; rfl
    rw [List.getElem?_take, if_pos (by omega)] at h1
    rw [Nat.zero_add, cell_of_row w g j _ _ _ hg]
    simp at h1
    exact h1
theorem OwnI.keeps {S : Nat → Prop} {w w' : World} {base : Nat} {v : Value} {l : List Int} (h : OwnI w base v l) (hk : Keeps S w w') (hS : ∀ i, i < w.heap.size → S i → i < base) : OwnI w' base v l := by
  obtain ⟨h1, h2⟩ := h.owns
  refine ⟨⟨h1, ?_⟩⟩
  rcases h2 with h2 | ⟨g, cap, cur, rfl, hb, hg, rest⟩
  · exact .inl h2
  · exact .inr ⟨g, cap, cur, rfl, hb, hk.row hg (fun hs => by have := hS g (lt_of_row hg) hs; omega), rest⟩
theorem OwnI.nil (w : World) (base : Nat) : OwnI w base (.slice none 0 0) [] := ⟨⟨by simp, .inl ⟨rfl, rfl⟩⟩⟩
theorem info3' : ∃ i, Tryd.prog.info? 3 = some i ∧ i.zero = some (.int .i64 0) ∧ i.size = 1 ∧ i.bytes = 8 := by
  cases h : Tryd.prog.info? 3 with
  | none => have : (Tryd.prog.info? 3).isSome = true := by kernel_rfl
            rw [h] at this; cases this
  | some i =>
    have h1 : (Tryd.prog.info? 3).map (fun i => (i.zero, i.size, i.bytes)) = some (some (.int .i64 0), 1, 8) := by kernel_rfl
    rw [h] at h1
    simp at h1
    exact ⟨i, rfl, h1.1, h1.2.1, h1.2.2⟩
theorem buildI (x : Int) (w : World) : (Instr.buildSlice 23 1 #[(0, .int .i64 x)]).run Tryd.prog w = .ok (.slice (some ⟨w.heap.size, 0, none⟩) 1 1) (w.alloc (.cells #[.int .i64 x] 3)) := by kernel_rfl
theorem wpList_build1I {ops : Array Oper} {rest : List Oper} {o : Oper} {a : Act} {w : World} {Q : Exit → Act → World → Prop} (hgd : o.guard = none) (x : Operand) (ho : o.op = .buildSlice 23 1 #[(0, x)]) (v : Int) (hx : a.eval x = .int .i64 v)
    (h : ∀ g w', w'.cell? ⟨g, 0, none⟩ = some (.int .i64 v) → w.heap.size ≤ g → Keeps (fun _ => False) w w' → wpList Tryd.prog ops Q rest (a.put o.dst (.slice (some ⟨g, 0, none⟩) 1 1)) w') : wpList Tryd.prog ops Q (o :: rest) a w := by
  refine wpList_plain hgd fun K hK => ?_
  unfold Oper.wp execOp
  simp only [ho, hx, List.map_toArray, List.map_cons, List.map_nil, buildI, Sem.run_bind, Result.andThen_ok, Sem.run_pure]
  exact hK _ _ (h w.heap.size _ (cell_new1 w _ _) (Nat.le_refl _) (keeps_alloc w _))
theorem wpList_appI {ops : Array Oper} {rest : List Oper} {o : Oper} {a : Act} {w : World} {Q : Exit → Act → World → Prop} (hgd : o.guard = none) (s x : Operand) (ho : o.op = .call { callee := .builtin .append, args := #[s, x], argTypes := #[23, 23] })
    (base : Nat) (v : Value) (l : List Int) (hs : a.eval s = v) (hown : OwnI w base v l) (g : Nat) (hx : a.eval x = .slice (some ⟨g, 0, none⟩) 1 1) (e : Int) (hl : w.cell? ⟨g, 0, none⟩ = some (.int .i64 e)) (hlen : l.length ≤ 100000) (hbase : base ≤ w.heap.size)
    (h : ∀ v' w', OwnI w' base v' (l ++ [e]) → Keeps (fun k => v.ownBlock = some k) w w' → wpList Tryd.prog ops Q rest (a.put o.dst v') w') : wpList Tryd.prog ops Q (o :: rest) a w := by
  obtain ⟨i, hi, hz, hsz, hby⟩ := info3'
  refine wpList_append_own _ hgd s x 23 ho base 3 i (.int .i64 0) 1 8 Tryd.underlying23 hi hz hsz hby rfl (by omega) v l.length _ hs hown.owns ⟨g, 0, none⟩ 1 1 [.int .i64 e] hx rfl (fun j u hu => ?_) (fun u hu => by
    obtain rfl : u = .int .i64 e := by simpa using hu
    rfl) (by unfold maxLen; omega) (by omega) hbase ?_
  · rw [Addr_add]
    have hj : j = 0 := by have := (List.getElem?_eq_some_iff.1 hu).1; simp at this; exact this
    subst hj
    cases hu
    exact hl
  · intro v' w' ho' hg _
    refine h v' w' ⟨?_⟩ ⟨hg.os, hg.tape, hg.output, hg.size, fun k hk hb => hg.block k hk fun e => hb e.symm⟩
    rw [List.map_append, List.length_append]; exact ho'

theorem wpList_build1B {ops : Array Oper} {rest : List Oper} {o : Oper} {a : Act} {w : World} {Q : Exit → Act → World → Prop} (hgd : o.guard = none) (x : Operand) (ho : o.op = .buildSlice 48 1 #[(0, x)]) (p x' : Int) (hx : a.eval x = .int .u8 x') (hp : x' = p % 256)
    (h : ∀ g w', SlB w' (some ⟨g, 0, none⟩) 1 1 [kb p] → w.heap.size ≤ g → Keeps (fun _ => False) w w' → wpList Tryd.prog ops Q rest (a.put o.dst (.slice (some ⟨g, 0, none⟩) 1 1)) w') : wpList Tryd.prog ops Q (o :: rest) a w := by
  subst hp
  refine wpList_buildSlice1 hgd x ho _ hx ?_
  refine h w.heap.size _ ?_ (Nat.le_refl _) (keeps_alloc w _)
  have := slb_box (w := w.alloc (.cells #[.int .u8 (p % 256)] 5)) (g := w.heap.size) (x := [kb p]) (ty := 5) (fr := (0, 0)) (by rw [vb_mod]; exact heap_alloc_new w _)
  exact this

/-- What Root tells. -/
def rootR (l : List Int) : List B × Int := if okR l = true then (rt l, 0) else (zb 128, 11)
theorem okR_bad {l : List Int} {i : Nat} (hi : i < l.length) (h : rbad l i = true) : okR l = false := by
  cases hk : okR l with
  | false => rfl
  | true => rw [(okR_iff.1 hk).2 i hi] at h; cases h
theorem rbad_iff {l : List Int} {i : Nat} : rbad l i = true ↔ (l.getD i 0 < 2 ∨ 127 < l.getD i 0) ∨ ∃ k, k < i ∧ l.getD k 0 = l.getD i 0 := by simp [rbad]
theorem take_snoc' {l : List Int} {i : Nat} (hi : i < l.length) : (l.take (i + 1)).map kb = (l.take i).map kb ++ [kb (l.getD i 0)] := by
  rw [List.take_succ_eq_append_getElem hi, List.map_append, List.getD_eq_getElem?_getD, List.getElem?_eq_getElem hi]; rfl

set_option maxRecDepth 100000 in
set_option maxHeartbeats 2000000 in
theorem root19_len (w : World) (a : Option Addr) (n c : Nat) (l : List Int) (hl : SlI w a n c l) (h : n < 1 ∨ 100 < n) :
    Calls Tryd.prog 20 #[.slice a n c] w fun e w' => e = .returned (toldB (rootR l)) ∧ Keeps (fun _ => False) w w' := by
  have hR : Hid (rootR l = (zb 128, 11)) := by
    show _ = _
    unfold rootR okR
    rw [decide_eq_false (by rw [hl.len]; omega)]; rfl
  have fin : ∀ (tm : Array Value) (g6 : Nat) (wr : World) (X : List B) (v : Int), tm.getD 2 undef = .pointer (some ⟨g6, 0, none⟩) → tm.getD 3 undef = .int .i64 v → BlAt wr g6 X → (results Tryd.f20 tm).run Tryd.prog wr = .ok (toldB (X, v)) wr := fun tm g6 wr X v h1 h2 h3 =>
    results_row_slot rfl tm wr g6 X _ h1 h2 h3
  go_enter Tryd.func20, Tryd.ntmps20
  have cs : (n : Int) < 1 ∨ (¬ (n : Int) < 1 ∧ (100 : Int) < (n : Int)) := by omega
  clear h
  rcases cs with h1 | ⟨h1, h2⟩
  all_goals
    go_wp2_with (first
      | (refine wpList_alloc26 rfl rfl ?_; intro g2 w1 b1 z1 k1)
      | (refine wpList_build26 rfl rfl ?_)
      | (refine wpList_store26 rfl _ _ rfl g2 rfl (zb 128) rfl (zb_len _) _ b1 ?_; intro w3 b3 k3))
    rw [hR.out]
    refine bodyPost_ret (v := toldB (zb 128, 11)) (fin _ g2 _ _ _ rfl rfl b3) rfl ⟨rfl, k1.trans' k3 (fun i e => .inr (by omega))⟩
end

/-! Rq: Root of the reference: the walk. -/
section
open Go.RowKit Go.Sort

set_option maxRecDepth 100000 in
set_option maxHeartbeats 4000000 in
theorem root19_in (w : World) (a : Option Addr) (n c : Nat) (l : List Int) (hl : SlI w a n c l) (hn1 : 1 ≤ n) (hn2 : n ≤ 100) :
    Calls Tryd.prog 20 #[.slice a n c] w fun e w' => e = .returned (toldB (rootR l)) ∧ Keeps (fun _ => False) w w' := by
  have fin : ∀ (tm : Array Value) (g6 : Nat) (wr : World) (X : List B) (v : Int), tm.getD 2 undef = .pointer (some ⟨g6, 0, none⟩) → tm.getD 3 undef = .int .i64 v → BlAt wr g6 X → (results Tryd.f20 tm).run Tryd.prog wr = .ok (toldB (X, v)) wr := fun tm g6 wr X v h1 h2 h3 =>
    results_row_slot rfl tm wr g6 X _ h1 h2 h3
  have hlen := hl.len
  obtain ⟨b, o, rfl, hb, hcell⟩ := hl.ent (by omega)
  have Hcell : Hid (∀ w', Keeps (fun _ => False) w w' → ∀ i, i < n → w'.cell? ⟨b, o + i, none⟩ = some (.int .i64 (l.getD i 0))) := hcell
  have hRbad : Hid (∀ i, i < n → rbad l i = true → rootR l = (zb 128, 11)) := fun i hi h => by unfold rootR; rw [okR_bad (by omega) h]; rfl
  have h1 : ¬ (n : Int) < 1 := by omega
  have h2 : ¬ (100 : Int) < (n : Int) := by omega
  clear hcell
  go_enter Tryd.func20, Tryd.ntmps20
  go_wp2_with (first
    | (refine wpList_alloc26 rfl rfl ?_; intro g2 w1 b1 z1 k1)
    | (refine wpList_build2 rfl _ _ rfl 82 (n : Int) _ _ rfl rfl (by omega) (by omega) ?_; intro g4 w3 o3 z4 k3; have b3 := b1.keep k3; have K3 := k1.trans k3))
  have l2 := b1.lt
  have z0 := k1.size
  have z3 := k3.size
  clear k1 b1 k3
  go_loopw [4, 5] (fun v t wr => ∃ i : Nat, i ≤ n ∧ t = .int .i64 (i : Int) ∧ OwnB wr w1.heap.size v (kb 82 :: kb (n : Int) :: (l.take i).map kb) ∧ (∀ j, j < i → rbad l j = false) ∧ BlAt wr g2 (zb 128) ∧ w1.heap.size ≤ wr.heap.size ∧ Keeps (fun _ => False) w wr) (fun _ t _ => n - (intOf t).toNat)
  case atStart => exact ⟨0, by omega, rfl, o3, fun j h => by omega, b3, z3, K3⟩
  case round =>
    clear o3 b3 K3
    obtain ⟨i, hi, rfl, O, hno, bz, zr, KW⟩ := hrel
    by_cases hlt : i < n
    · have hlt' : (i : Int) < (n : Int) := by omega
      have hi0 : (0 : Int) ≤ (i : Int) := by omega
      have ci := Hcell.out wr KW i hlt
      obtain ⟨v, hv⟩ : ∃ v, l.getD i 0 = v := ⟨_, rfl⟩
      have Hv : Hid (l.getD i 0 = v) := hv
      rw [hv] at ci
      have Hno : Hid (∀ j, j < i → rbad l j = false) := hno
      clear hno hv
      by_cases hc1 : v < 2
      · have hR : Hid (rootR l = (zb 128, 11)) := hRbad.out i hlt (rbad_iff.2 (.inl (.inl (by rw [Hv.out]; exact hc1))))
        go_wp2_with (first
          | (refine wpList_build26 rfl rfl ?_)
          | (refine wpList_store26 rfl _ _ rfl g2 rfl (zb 128) rfl (zb_len _) _ bz ?_; intro w5 b5 k5))
        rw [hR.out]
        refine bodyPost_ret (v := toldB (zb 128, 11)) (fin _ g2 _ _ _ rfl rfl b5) rfl ⟨rfl, KW.trans' k5 (fun i e => .inr (by omega))⟩
      · by_cases hc2 : 127 < v
        · have hR : Hid (rootR l = (zb 128, 11)) := hRbad.out i hlt (rbad_iff.2 (.inl (.inr (by rw [Hv.out]; exact hc2))))
          go_wp2_with (first
            | (refine wpList_build26 rfl rfl ?_)
            | (refine wpList_store26 rfl _ _ rfl g2 rfl (zb 128) rfl (zb_len _) _ bz ?_; intro w5 b5 k5))
          rw [hR.out]
          refine bodyPost_ret (v := toldB (zb 128, 11)) (fin _ g2 _ _ _ rfl rfl b5) rfl ⟨rfl, KW.trans' k5 (fun i e => .inr (by omega))⟩
        · go_wp2
          go_loopw [6] (fun t wq => ∃ k : Nat, k ≤ i ∧ t = .int .i64 (k : Int) ∧ (∀ q, q < k → l.getD q 0 ≠ v) ∧ OwnB wq w1.heap.size u4 (kb 82 :: kb (n : Int) :: (l.take i).map kb) ∧ BlAt wq g2 (zb 128) ∧ w1.heap.size ≤ wq.heap.size ∧ Keeps (fun _ => False) w wq) (fun t _ => i - (intOf t).toNat)
          case atStart => exact ⟨0, by omega, rfl, fun q h => by omega, O, bz, zr, KW⟩
          case round =>
            clear ci O bz zr KW
            obtain ⟨k, hk, rfl, hq, O, bz, zr, KW⟩ := hrel
            have Hq : Hid (∀ q, q < k → l.getD q 0 ≠ v) := hq
            clear hq
            by_cases hlk : k < i
            · have hlk' : (k : Int) < (i : Int) := by omega
              have hk0 : (0 : Int) ≤ (k : Int) := by omega
              have hkn : (k : Int) < (n : Int) := by omega
              obtain ⟨u, hu⟩ : ∃ u, l.getD k 0 = u := ⟨_, rfl⟩
              have Hu : Hid (l.getD k 0 = u) := hu
              have ck : ∀ d os, (grow (redrawn wr d) os).cell? ⟨b, o + k, none⟩ = some (.int .i64 u) := fun d os => by
                rw [← hu]; exact Hcell.out _ (KW.trans (keeps_cls ⟨⟨d, os⟩, rfl⟩)) k (by omega)
              have ci : ∀ d os, (grow (redrawn wr d) os).cell? ⟨b, o + i, none⟩ = some (.int .i64 v) := fun d os => by
                rw [← Hv.out]; exact Hcell.out _ (KW.trans (keeps_cls ⟨⟨d, os⟩, rfl⟩)) i hlt
              clear hu
              by_cases huv : u = v
              · have hR : Hid (rootR l = (zb 128, 11)) := hRbad.out i hlt (rbad_iff.2 (.inr ⟨k, hlk, by rw [Hu.out, Hv.out, huv]⟩))
                have hdec : (u == v) = true := by simp [huv]
                clear huv
                go_wp2_with fail
                refine wp_region_quiet_below (by kernel_rfl) (by kernel_rfl) ?_
                iterate 9 (go_big_quiet_step (fail))
                refine wpQuiet_nil ?_
                intro w5 hw5
                have bz5 := bz.keep (keeps_cls hw5)
                have KW5 := KW.trans (keeps_cls hw5)
                go_wp2_with (first
                  | (refine wpList_build26 rfl rfl ?_)
                  | (refine wpList_store26 rfl _ _ rfl g2 rfl (zb 128) rfl (zb_len _) _ bz5 ?_; intro w6 b6 k6))
                rw [hR.out]
                refine bodyPost_ret (v := toldB (zb 128, 11)) (fin _ g2 _ _ _ rfl rfl b6) rfl ⟨rfl, KW5.trans' k6 (fun i e => .inr (by omega))⟩
              · have hdec : (u == v) = false := by simp [huv]
                have Huv : Hid (u ≠ v) := huv
                clear huv
                go_wp2_with fail
                refine wp_region_quiet_below (by kernel_rfl) (by kernel_rfl) ?_
                iterate 9 (go_big_quiet_step (fail))
                refine wpQuiet_nil ?_
                intro w5 hw5
                have k5 := keeps_cls hw5
                have z5 := k5.size
                go_wp2
                refine ⟨⟨k + 1, by omega, rfl, fun q hq => ?_, O.keeps k5 (fun _ _ h => h.elim), bz.keep k5, by omega, KW.trans k5⟩, by simp [intOf]; omega⟩
                rcases Nat.lt_or_ge q k with h | h
                · exact Hq.out q h
                · obtain rfl : q = k := by omega
                  rw [Hu.out]; exact Huv.out
            · obtain rfl : k = i := by omega
              have hlk' : ¬ (k : Int) < (k : Int) := by omega
              have ci := Hcell.out wr KW k hlt
              rw [Hv.out] at ci
              have HN : Hid ((l.take (k + 1)).map kb = (l.take k).map kb ++ [kb v]) := by show _ = _; rw [← Hv.out]; exact take_snoc' (by omega)
              have hgood : Hid (∀ j, j < k + 1 → rbad l j = false) := fun j hj => by
                rcases Nat.lt_or_ge j k with h | h
                · exact Hno.out j h
                · obtain rfl : j = k := by omega
                  cases hb' : rbad l j with
                  | false => rfl
                  | true =>
                    exfalso
                    rcases rbad_iff.1 hb' with h3 | ⟨q, hq, h4⟩
                    · rw [Hv.out] at h3; omega
                    · exact Hq.out q hq (by rw [h4, Hv.out])
              have hFl : ((l.take k).map kb).length ≤ 100 := by rw [List.length_map, List.length_take]; omega
              generalize (l.take k).map kb = F at *
              go_wp2_with (first
                | (refine wpList_build1B rfl _ rfl v _ rfl (by omega) ?_; intro g7 w6 s6 z7 k6; have O6 := O.keeps k6 (fun _ _ h => h.elim); have bz6 := bz.keep k6; have z6 := k6.size)
                | (refine wpList_app1 rfl _ _ rfl w1.heap.size _ _ rfl O6 _ _ 1 1 [kb v] rfl s6 (by simp; omega) (by omega) ?_; intro v8 w7 o7 k7; have hown : ∀ k, u4.ownBlock = some k → w1.heap.size ≤ k ∧ k < w6.heap.size := fun k hk => O6.owns.lt k hk; have bz7 := bz6.keeps k7 (fun h => by have := (hown _ h).1; omega); have z7' := k7.size))
              have K7 : Keeps (fun _ => False) w w7 := (KW.trans k6).trans' k7 (fun i e => .inr (by have := (hown i e).1; omega))
              exact ⟨⟨k + 1, by omega, rfl, by rw [HN.out]; exact o7, hgood.out, bz7, by omega, K7⟩, by simp [intOf]; omega⟩
    · obtain rfl : i = n := by omega
      have hlt' : ¬ (i : Int) < (i : Int) := by omega
      have hok : okR l = true := okR_iff.2 ⟨by omega, fun j hj => hno j (by omega)⟩
      obtain ⟨L, hL⟩ : ∃ L, rt l = L := ⟨_, rfl⟩
      have lL : L.length = 128 := by rw [← hL]; exact rt_len (by omega)
      have HL : Hid (blk5 (rtxt l) = L) := hL
      have hR : Hid (rootR l = (L, 0)) := by show _ = _; unfold rootR; rw [hok, ← hL]; rfl
      rw [List.take_of_length_le (by omega)] at O
      obtain ⟨a4, n4, c4, rfl, s4, _, hnc4⟩ := O.slice
      have e4 : kb 82 :: kb (i : Int) :: l.map kb = rtxt l := by unfold rtxt; rw [hlen]
      rw [e4] at s4
      have hn4 : n4 ≤ 124 := by have := s4.len; rw [rtxt_len, hlen] at this; omega
      clear O e4 hno hok hL
      go_wp2_with (first
        | (go_at_call 47; refine (block22 wr a4 n4 c4 _ s4 hnc4 hn4 HL).mono ?_; rintro e w5 ⟨rfl, k5⟩; have b5 := bz.keep k5)
        | (refine wpList_store26 rfl _ _ rfl g2 rfl L rfl lL _ b5 ?_; intro w6 b6 k6))
      rw [hR.out]
      refine bodyPost_ret (v := toldB (L, 0)) (fin _ g2 _ _ _ rfl rfl b6) rfl ⟨rfl, (KW.trans k5).trans' k6 (fun i e => .inr (by omega))⟩

theorem root19 (w : World) (a : Option Addr) (n c : Nat) (l : List Int) (hl : SlI w a n c l) :
    Calls Tryd.prog 20 #[.slice a n c] w fun e w' => e = .returned (toldB (rootR l)) ∧ Keeps (fun _ => False) w w' := by
  by_cases h : n < 1 ∨ 100 < n
  · exact root19_len w a n c l hl h
  · exact root19_in w a n c l hl (by omega) (by omega)
end

/-! Lv: Leaves of the reference. -/
section
open Go.RowKit Go.Sort

/-- What Leaves tells. -/
inductive LvTold (x : List B) (e : Ending) (w' : World) : Prop where
  | ok (h : isRt x = true) (a : Option Addr) (c : Nat) (he : e = .returned (.tuple #[.slice a (plcs x).length c, .int .i64 0])) (hs : SlI w' a (plcs x).length c (plcs x))
  | no (h : isRt x = false) (he : e = .returned (.tuple #[.slice none 0 0, .int .i64 11]))
theorem root_at {l : List Int} {L : List B} {v : Int} (h : rootR l = (L, v)) (w : World) (a : Option Addr) (n c : Nat) (hl : SlI w a n c l) :
    Calls Tryd.prog 20 #[.slice a n c] w fun e w' => e = .returned (.tuple #[.agg (brow L), .int .i64 v]) ∧ Keeps (fun _ => False) w w' := by
  have := root19 w a n c l hl
  rw [h] at this; exact this

set_option maxRecDepth 100000 in
set_option maxHeartbeats 2000000 in
theorem leaves17 (w : World) (x : List B) (hx : x.length = 128) :
    Calls Tryd.prog 22 #[.agg (brow x)] w fun e w' => LvTold x e w' ∧ Keeps (fun _ => False) w w' := by
  obtain ⟨m, hm⟩ : ∃ m, min (x.getD 1 0).toNat 100 = m := ⟨_, rfl⟩
  have hme : plcs x = plcN x m := by unfold plcs; rw [hm]
  have Hm : Hid (∀ i : Nat, i < m ↔ ((i : Int) < nb (x.getD 1 0) ∧ i < 100)) := fun i => by unfold nb; omega
  have hm3 : m ≤ 100 := by omega
  have b1b := nb_lt (x.getD 1 0)
  clear hm
  go_enter Tryd.func22, Tryd.ntmps22
  go_wp2_with (refine wpList_box26 rfl _ rfl x hx rfl ?_; intro g1 w1 b1 z1 k1)
  clear hx
  go_loopw [4, 5] (fun v t wr => ∃ i : Nat, i ≤ m ∧ t = .int .i64 (i : Int) ∧ OwnI wr w1.heap.size v (plcN x i) ∧ BlAt wr g1 x ∧ w1.heap.size ≤ wr.heap.size ∧ Keeps (fun _ => False) w wr) (fun _ t _ => m - (intOf t).toNat)
  case atStart => exact ⟨0, by omega, rfl, OwnI.nil _ _, b1, Nat.le_refl _, k1⟩
  case round =>
    have l1 := b1.lt
    have z0 := k1.size
    clear b1 k1
    obtain ⟨i, hi, rfl, O, bm, zr, KW⟩ := hrel
    have hc1 := bm.cell (j := 1) (by omega)
    generalize hX1 : x.getD 1 0 = x1 at *
    by_cases hlt : i < m
    · obtain ⟨h1, h2⟩ := (Hm.out i).1 hlt
      have h2' : (i : Int) < 100 := by omega
      have ci := bm.cell (j := 2 + i) (by omega)
      have HNe : Hid (plcN x (i + 1) = plcN x i ++ [nb (x.getD (2 + i) 0)]) := plcN_succ x i
      have hle : (plcN x i).length ≤ 100 := by rw [plcN_len]; omega
      generalize x.getD (2 + i) 0 = y at *
      have ny := nb_lt y
      generalize plcN x i = lE at *
      have hA1 : 2 + (i : Int) < 128 := by omega
      have hA2 : (2 + (i : Int)).toNat = 2 + i := by omega
      go_wp2_with (first
        | (refine wpList_build1I rfl _ rfl (nb y) rfl ?_; intro g8 w6 r6 z8 k6; have O6 := O.keeps k6 (fun _ _ h => h.elim); have B6 := bm.keep k6; have z6 := k6.size)
        | (refine wpList_appI rfl _ _ rfl w1.heap.size _ lE rfl O6 g8 rfl (nb y) r6 (by omega) (by omega) ?_; intro v7 w7 o7 k7; have hown : ∀ k, u4.ownBlock = some k → w1.heap.size ≤ k ∧ k < w6.heap.size := fun k hk => O6.owns.lt k hk; have B7 := B6.keeps k7 (fun h => by have := (hown _ h).1; omega); have z7'' := k7.size))
      have K7 : Keeps (fun _ => False) w w7 := (KW.trans k6).trans' k7 (fun i e => .inr (by have := (hown i e).1; omega))
      exact ⟨⟨i + 1, by omega, rfl, by rw [HNe.out]; exact o7, B7, by omega, K7⟩, by simp [intOf]; omega⟩
    · obtain rfl : i = m := by omega
      have h3 := Hm.out i
      rw [← hme] at O
      obtain ⟨a4, c4, rfl, s4, _⟩ := O.slice
      have hlE : (plcs x).length ≤ 100 := by rw [hme, plcN_len]; exact hm3
      obtain ⟨L, v, hR⟩ : ∃ L v, rootR (plcs x) = (L, v) := ⟨_, _, rfl⟩
      have lL : L.length = 128 := by
        have : (rootR (plcs x)).1.length = 128 := by
          unfold rootR
          split
          · exact rt_len hlE
          · exact zb_len _
        rw [hR] at this; exact this
      have HR : Hid (rootR (plcs x) = (L, v)) := hR
      have Htold : Hid ((v = 0 ∧ L = x ∧ isRt x = true) ∨ (v = 0 ∧ L ≠ x ∧ isRt x = false) ∨ (v = 11 ∧ isRt x = false)) := by
        show _ ∨ _ ∨ _
        unfold rootR at hR
        cases hg : okR (plcs x) with
        | true =>
          rw [hg] at hR
          simp at hR
          obtain ⟨rfl, rfl⟩ := hR
          by_cases he : rt (plcs x) = x
          · exact .inl ⟨rfl, he, isRt_iff.2 ⟨hg, he⟩⟩
          · refine .inr (.inl ⟨rfl, he, ?_⟩)
            unfold isRt; rw [decide_eq_false he, Bool.and_false]
        | false =>
          rw [hg] at hR
          simp at hR
          exact .inr (.inr ⟨hR.2.symm, by unfold isRt; rw [hg]; rfl⟩)
      have lx := bm.len
      clear hR hme O
      have hcs : ¬ (i : Int) < nb x1 ∨ ((i : Int) < nb x1 ∧ ¬ (i : Int) < 100) := by omega
      clear h3
      generalize hEn : plcs x = lE at *
      have Hen : Hid (plcs x = lE) := hEn
      have hsl : 0 < lE.length → ∀ b o, a4 = some ⟨b, o, none⟩ → b < wr.heap.size := fun h0 b o e => by
        obtain ⟨b', o', e', hb, _⟩ := s4.ent h0
        rw [e] at e'; cases e'
        exact hb
      have Hsl : Hid (0 < lE.length → ∀ b o, a4 = some ⟨b, o, none⟩ → b < wr.heap.size) := hsl
      clear hEn hsl Hm hX1
      rcases hcs with h5 | ⟨h5, h6⟩
      all_goals
        rcases Htold.out with ⟨rfl, hLx, hI⟩ | ⟨rfl, hLx, hI⟩ | ⟨rfl, hI⟩
        · have heq := eq26 lL lx
          rw [decide_eq_true hLx] at heq
          have HI : Hid (isRt x = true) := hI
          clear Htold hLx hI
          go_wp2_with (first
            | (go_at_call 20; refine (root_at HR.out _ a4 _ c4 s4).mono ?_; rintro e w5 ⟨rfl, k5⟩; have B5 := bm.keep k5; have s5 := s4.keep k5; have K5 := KW.trans k5)
            | (refine wpList_alloc26 rfl rfl ?_; intro g8 w6 b6 z8 k6; have B6 := B5.keep k6; have s6 := s5.keep k6; have h18 : g1 ≠ g8 := (by have := B5.lt; omega); have K6 := K5.trans k6)
            | (refine wpList_store26 rfl _ _ rfl g8 rfl L rfl lL _ b6 ?_; intro w7 b7 k7; have B7 := B6.keeps k7 h18; have K7 : Keeps (fun _ => False) w w7 := K6.trans' k7 (fun i e => .inr (by have := K5.size; omega)))
            | (refine wpList_load26 rfl _ rfl g8 rfl L b7 ?_)
            | (refine wpList_load26 rfl _ rfl g1 rfl x B7 ?_))
          refine bodyPost_ret (results_two rfl _ _ _) rfl ?_
          have s7 : SlI w7 a4 lE.length c4 lE := s6.keeps k7 (fun h0 b o e h => by have := Hsl.out h0 b o e; have := k5.size; omega)
          exact ⟨.ok HI.out a4 c4 (by rw [Hen.out]; rfl) (by rw [Hen.out]; exact s7), K7⟩
        · have heq := eq26 lL lx
          rw [decide_eq_false hLx] at heq
          have HI : Hid (isRt x = false) := hI
          clear Htold hLx hI
          go_wp2_with (first
            | (go_at_call 20; refine (root_at HR.out _ a4 _ c4 s4).mono ?_; rintro e w5 ⟨rfl, k5⟩; have B5 := bm.keep k5; have s5 := s4.keep k5; have K5 := KW.trans k5)
            | (refine wpList_alloc26 rfl rfl ?_; intro g8 w6 b6 z8 k6; have B6 := B5.keep k6; have s6 := s5.keep k6; have h18 : g1 ≠ g8 := (by have := B5.lt; omega); have K6 := K5.trans k6)
            | (refine wpList_store26 rfl _ _ rfl g8 rfl L rfl lL _ b6 ?_; intro w7 b7 k7; have B7 := B6.keeps k7 h18; have K7 : Keeps (fun _ => False) w w7 := K6.trans' k7 (fun i e => .inr (by have := K5.size; omega)))
            | (refine wpList_load26 rfl _ rfl g8 rfl L b7 ?_)
            | (refine wpList_load26 rfl _ rfl g1 rfl x B7 ?_))
          refine bodyPost_ret (results_two rfl _ _ _) rfl ?_
          exact ⟨.no HI.out rfl, K7⟩
        · have HI : Hid (isRt x = false) := hI
          clear Htold hI
          go_wp2_with (first
            | (go_at_call 20; refine (root_at HR.out _ a4 _ c4 s4).mono ?_; rintro e w5 ⟨rfl, k5⟩; have B5 := bm.keep k5; have s5 := s4.keep k5; have K5 := KW.trans k5)
            | (refine wpList_alloc26 rfl rfl ?_; intro g8 w6 b6 z8 k6; have B6 := B5.keep k6; have s6 := s5.keep k6; have h18 : g1 ≠ g8 := (by have := B5.lt; omega); have K6 := K5.trans k6)
            | (refine wpList_store26 rfl _ _ rfl g8 rfl L rfl lL _ b6 ?_; intro w7 b7 k7; have B7 := B6.keeps k7 h18; have K7 : Keeps (fun _ => False) w w7 := K6.trans' k7 (fun i e => .inr (by have := K5.size; omega)))
            | (refine wpList_load26 rfl _ rfl g8 rfl L b7 ?_)
            | (refine wpList_load26 rfl _ rfl g1 rfl x B7 ?_))
          refine bodyPost_ret (results_two rfl _ _ _) rfl ?_
          exact ⟨.no HI.out rfl, K7⟩
end

end Go.Proofs.YthngaegfppbdmaaDoor
