/-
  Packed texts: Ec, De, Dd.
-/
import Derived.Test.YthngaegfppbdmaaDoorGF
set_option linter.all false
set_option maxRecDepth 100000
namespace Go.Proofs.YthngaegfppbdmaaDoor

/-! Ec: Encode of the reference. -/
section
open Go.RowKit Go.Sort

theorem buildSlice2 (x y : Int) (w : World) : (Instr.buildSlice 48 2 #[(0, .int .u8 x), (1, .int .u8 y)]).run Tryd.prog w = .ok (.slice (some ⟨w.heap.size, 0, none⟩) 2 2) (w.alloc (.cells #[.int .u8 x, .int .u8 y] 5)) := by kernel_rfl
theorem buildSlice4 (x y z u : Int) (w : World) : (Instr.buildSlice 48 4 #[(0, .int .u8 x), (1, .int .u8 y), (2, .int .u8 z), (3, .int .u8 u)]).run Tryd.prog w = .ok (.slice (some ⟨w.heap.size, 0, none⟩) 4 4) (w.alloc (.cells #[.int .u8 x, .int .u8 y, .int .u8 z, .int .u8 u] 5)) := by kernel_rfl
theorem vb_mod (k : Int) : Value.int .u8 (k % 256) = vb (kb k) := by unfold vb; rw [nb_kb]
theorem wpList_build2 {ops : Array Oper} {rest : List Oper} {o : Oper} {a : Act} {w : World} {Q : Exit → Act → World → Prop} (hgd : o.guard = none) (x y : Operand) (ho : o.op = .buildSlice 48 2 #[(0, x), (1, y)]) (p q x' y' : Int) (hx : a.eval x = .int .u8 x') (hy : a.eval y = .int .u8 y') (hp : x' = p % 256) (hq : y' = q % 256)
    (h : ∀ g w', OwnB w' w.heap.size (.slice (some ⟨g, 0, none⟩) 2 2) [kb p, kb q] → w.heap.size ≤ g → Keeps (fun _ => False) w w' → wpList Tryd.prog ops Q rest (a.put o.dst (.slice (some ⟨g, 0, none⟩) 2 2)) w') : wpList Tryd.prog ops Q (o :: rest) a w := by
  subst hp hq
  refine wpList_plain hgd fun K hK => ?_
  unfold Oper.wp execOp
  simp only [ho, hx, hy, List.map_toArray, List.map_cons, List.map_nil, buildSlice2, Sem.run_bind, Result.andThen_ok, Sem.run_pure]
  refine hK _ _ (h w.heap.size _ ?_ (Nat.le_refl _) (keeps_alloc w _))
  have := OwnB.row (w := w.alloc (.cells #[.int .u8 (p % 256), .int .u8 (q % 256)] 5)) (base := w.heap.size) (g := w.heap.size) (l := [kb p, kb q]) (t := 5) (by rw [vb_mod, vb_mod]; exact heap_alloc_new w _) (Nat.le_refl _) (by simp)
  exact this
theorem wpList_build4 {ops : Array Oper} {rest : List Oper} {o : Oper} {a : Act} {w : World} {Q : Exit → Act → World → Prop} (hgd : o.guard = none) (x y z u : Operand) (ho : o.op = .buildSlice 48 4 #[(0, x), (1, y), (2, z), (3, u)]) (p q r s x' y' z' u' : Int) (hx : a.eval x = .int .u8 x') (hy : a.eval y = .int .u8 y') (hz : a.eval z = .int .u8 z') (hu : a.eval u = .int .u8 u') (hp : x' = p % 256) (hq : y' = q % 256) (hr : z' = r % 256) (hs : u' = s % 256)
    (h : ∀ g w', SlB w' (some ⟨g, 0, none⟩) 4 4 [kb p, kb q, kb r, kb s] → w.heap.size ≤ g → g < w'.heap.size → Keeps (fun _ => False) w w' → wpList Tryd.prog ops Q rest (a.put o.dst (.slice (some ⟨g, 0, none⟩) 4 4)) w') : wpList Tryd.prog ops Q (o :: rest) a w := by
  subst hp hq hr hs
  refine wpList_plain hgd fun K hK => ?_
  unfold Oper.wp execOp
  simp only [ho, hx, hy, hz, hu, List.map_toArray, List.map_cons, List.map_nil, buildSlice4, Sem.run_bind, Result.andThen_ok, Sem.run_pure]
  refine hK _ _ (h w.heap.size _ ?_ (Nat.le_refl _) (by simp) (keeps_alloc w _))
  have := slb_box (w := w.alloc (.cells #[.int .u8 (p % 256), .int .u8 (q % 256), .int .u8 (r % 256), .int .u8 (s % 256)] 5)) (g := w.heap.size) (x := [kb p, kb q, kb r, kb s]) (ty := 5) (fr := (0, 0)) (by rw [vb_mod, vb_mod, vb_mod, vb_mod]; exact heap_alloc_new w _)
  exact this

/-- append of bytes to one's own: nothing but its block turns. -/
theorem wpList_app1 {ops : Array Oper} {rest : List Oper} {o : Oper} {a : Act} {w : World} {Q : Exit → Act → World → Prop} (hgd : o.guard = none) (s x : Operand) (ho : o.op = .call { callee := .builtin .append, args := #[s, x], argTypes := #[48, 48] })
    (base : Nat) (v : Value) (l0 : List B) (hs : a.eval s = v) (hown : OwnB w base v l0) (b of m c : Nat) (l1 : List B) (hx : a.eval x = .slice (some ⟨b, of, none⟩) m c) (hl : SlB w (some ⟨b, of, none⟩) m c l1) (hlen : l0.length + m ≤ 1000000) (hbase : base ≤ w.heap.size)
    (h : ∀ v' w', OwnB w' base v' (l0 ++ l1) → Keeps (fun k => v.ownBlock = some k) w w' → wpList Tryd.prog ops Q rest (a.put o.dst v') w') : wpList Tryd.prog ops Q (o :: rest) a w := by
  obtain ⟨i, hi, hz, hsz, hby⟩ := info5
  have hl1 := hl.len
  refine wpList_append_own _ hgd s x 48 ho base 5 i (.int .u8 0) 1 1 Tryd.underlying48 hi hz hsz hby rfl (by omega) v l0.length _ hs hown.owns ⟨b, of, none⟩ m c (l1.map vb) hx (by simp [hl1]) (fun j u hu => ?_) (one_bytes l1) (by unfold maxLen; omega) (by omega) hbase ?_
  · rw [List.getElem?_map] at hu
    cases hq : l1[j]? with
    | none => rw [hq] at hu; cases hu
    | some y =>
      rw [hq] at hu
      rw [Addr_add]
      cases hu
      obtain ⟨b', o', e, hc⟩ := hl.at_ j y hq
      cases e; exact hc
  · intro v' w' ho' hg hlen'
    refine h v' w' ⟨by rw [List.map_append, List.length_append, hl1]; exact ho'⟩ ⟨hg.os, hg.tape, hg.output, hg.size, fun k hk hb => hg.block k hk fun e => hb e.symm⟩

theorem good_at {l : List En} {v : Bool} (h : gd l = v) (w : World) (a : Option Addr) (n c : Nat) (hl : SlE w a n c l) (hn : n ≤ 9223372036854775807) :
    Calls Tryd.prog 24 #[.slice a n c] w fun e w' => e = .returned (.bool v) ∧ Keeps (fun _ => False) w w' := by
  rw [← h]; exact good21 w a n c l hl hn

theorem flat_next {l : List En} {i : Nat} (hi : i < l.length) : flat (l.take (i + 1)) = (flat (l.take i) ++ (l.getD i default).key) ++ [kb (l.getD i default).place, kb (l.getD i default).blocks, kb ((l.getD i default).refs / 256), kb (l.getD i default).refs] := by
  rw [List.take_succ_eq_append_getElem hi, flat_snoc, List.getD_eq_getElem?_getD, List.getElem?_eq_getElem hi, List.append_assoc]
  rfl
theorem EnAt.slb {w : World} {b o : Nat} {e : En} (h : EnAt w b o e) : SlB w (some ⟨b, o, none⟩) 32 32 e.key :=
  ⟨h.len, Nat.le_refl _, fun j x hx => ⟨b, o, rfl, by
    have := h.key j (vb x) (by simp [brow]; exact ⟨x, hx, rfl⟩)
    exact this⟩⟩

/-- What Encode tells. -/
def encR (l : List En) : List B × Int := if gd l = true then (lf l, 0) else (zb 128, 11)
def toldB (r : List B × Int) : Value := .tuple #[.agg (brow r.1), .int .i64 r.2]

set_option maxRecDepth 100000 in
set_option maxHeartbeats 2000000 in
theorem enc15 (w : World) (a : Option Addr) (n c : Nat) (l : List En) (hl : SlE w a n c l) (hn : n ≤ 9223372036854775807) :
    Calls Tryd.prog 16 #[.slice a n c] w fun e w' => e = .returned (toldB (encR l)) ∧ Keeps (fun _ => False) w w' := by
  have fin : ∀ (tm : Array Value) (g6 : Nat) (wr : World) (X : List B) (v : Int), tm.getD 2 undef = .pointer (some ⟨g6, 0, none⟩) → tm.getD 3 undef = .int .i64 v → BlAt wr g6 X → (results Tryd.f16 tm).run Tryd.prog wr = .ok (toldB (X, v)) wr := fun tm g6 wr X v h1 h2 h3 =>
    results_row_slot rfl tm wr g6 X _ h1 h2 h3
  cases hg : gd l with
  | false =>
    have hR : Hid (encR l = (zb 128, 11)) := by show _ = _; unfold encR; rw [hg]; rfl
    go_enter Tryd.func16, Tryd.ntmps16
    go_wp2_with (first
      | (refine wpList_alloc26 rfl rfl ?_; intro g2 w1 b1 z1 k1)
      | (go_at_call 24; refine (good_at hg _ a n c (hl.keep k1) hn).mono ?_; rintro e w2 ⟨rfl, k2⟩; have b2 := b1.keep k2)
      | (refine wpList_build26 rfl rfl ?_)
      | (refine wpList_store26 rfl _ _ rfl g2 rfl (zb 128) rfl (zb_len _) _ b2 ?_; intro w3 b3 k3))
    rw [hR.out]
    refine bodyPost_ret (v := toldB (zb 128, 11)) (fin _ g2 _ _ _ rfl rfl b3) rfl ⟨rfl, (k1.trans k2).trans' k3 (fun i e => .inr (by omega))⟩
  | true =>
    have hn3 := gd_len hg
    rw [hl.len] at hn3
    obtain ⟨hn1, hn3⟩ := hn3
    have hlen := hl.len
    obtain ⟨L, hL⟩ : ∃ L, lf l = L := ⟨_, rfl⟩
    have lL : L.length = 128 := by rw [← hL]; exact lf_len hl.keyed (by omega)
    have HL : Hid (blk5 (ltxt l) = L) := hL
    have hR : Hid (encR l = (L, 0)) := by show _ = _; unfold encR; rw [hg, ← hL]; rfl
    have hn3' : (n : Int) ≤ 3 := by omega
    go_enter Tryd.func16, Tryd.ntmps16
    go_wp2_with (first
      | (refine wpList_alloc26 rfl rfl ?_; intro g2 w1 b1 z1 k1)
      | (go_at_call 24; refine (good_at hg _ a n c (hl.keep k1) hn).mono ?_; rintro e w2 ⟨rfl, k2⟩; have b2 := b1.keep k2; have K2 := k1.trans k2)
      | (refine wpList_build2 rfl _ _ rfl 76 (n : Int) _ _ rfl rfl (by omega) (by omega) ?_; intro g4 w3 o3 z4 k3; have b3 := b2.keep k3; have K3 := K2.trans k3))
    have K0 : Keeps (fun _ => False) w w2 := K2
    have z4' : w.heap.size ≤ w2.heap.size := K2.size
    have l2 := b2.lt
    have HK : Hid (Keyed l) := hl.keyed
    have z3 := k3.size
    clear k1 k2 b1 k3 K2 hg
    go_loopw [4, 5] (fun v t wr => ∃ i : Nat, i ≤ n ∧ t = .int .i64 (i : Int) ∧ OwnB wr w2.heap.size v (kb 76 :: kb (n : Int) :: flat (l.take i)) ∧ BlAt wr g2 (zb 128) ∧ w2.heap.size ≤ wr.heap.size ∧ Keeps (fun _ => False) w wr) (fun _ t _ => n - (intOf t).toNat)
    case atStart => exact ⟨0, by omega, rfl, o3, b3, z3, K3⟩
    case round =>
      clear o3 b3 K3
      obtain ⟨i, hi, rfl, O, bz, zr, KW⟩ := hrel
      by_cases hlt : i < n
      · have hlt' : (i : Int) < (n : Int) := by omega
        have hi0 : (0 : Int) ≤ (i : Int) := by omega
        obtain ⟨b, o, rfl, hE⟩ := hl.ent hlt
        have Hnx := flat_next (l := l) (i := i) (by omega)
        have hkey := hE.len
        generalize l.getD i default = e at *
        have HN : Hid (flat (l.take (i + 1)) = (flat (l.take i) ++ e.key) ++ [kb e.place, kb e.blocks, kb (e.refs / 256), kb e.refs]) := Hnx
        have hfl : (flat (l.take i)).length ≤ 108 := by rw [flatE_len (fun x hx => HK.out x (List.mem_of_mem_take hx)), List.length_take]; omega
        have c1 : ∀ d os, (grow (redrawn w d) os).cell? ⟨b, o + i * 35 + 32, none⟩ = some (.int .i64 e.place) := fun d os => (hE.cls ⟨⟨d, os⟩, rfl⟩).place
        have c2 : ∀ d os, (grow (redrawn w d) os).cell? ⟨b, o + i * 35 + 33, none⟩ = some (.int .i64 e.blocks) := fun d os => (hE.cls ⟨⟨d, os⟩, rfl⟩).blocks
        have c3 : ∀ d os, (grow (redrawn w d) os).cell? ⟨b, o + i * 35 + 34, none⟩ = some (.int .i64 e.refs) := fun d os => (hE.cls ⟨⟨d, os⟩, rfl⟩).refs
        have lb : b < w.heap.size := slb_lt hE.slb (by omega) rfl
        generalize flat (l.take i) = F at *
        clear Hnx
        go_wp2_with fail
        refine region_tree (S := fun w' => ∃ p : Regrown, w' = grow (redrawn w p.d) p.os) (.two [0, 1, 2, 3, 4, 5, 7, 8, 9, 10, 11, 12, 13, 14, 15, 16, 17, 18, 19, 20, 21, 22, 23, 24, 25, 26, 27, 28, 29, 30, 31] 6 (.one [] 32 (.one [] 33 (.last [34]))) 32 (.one [] 6 (.one [] 33 (.last [34])))) (by kernel_rfl) (by kernel_rfl) (by kernel_rfl) (by kernel_rfl) (cls_keeps KW.drew) ?_
        simp only [wpTree, opsAt, pick]
        repeat (go_big_quiet_step (fail))
        have kd : Keeps (fun _ => False) wr wr.drew := (Keeps.refl _ _).drew
        have KD := KW.trans kd
        have Od := O.keeps kd (fun _ _ h => h.elim)
        have hKs := (hE.keep KD).slb
        have bzd := bz.keep kd
        have zd : w2.heap.size ≤ wr.drew.heap.size := zr
        refine wpQuiet_nil ⟨?_, ?_⟩
        · go_wp2_with (refine wpList_app rfl _ _ rfl w2.heap.size _ (kb 76 :: kb (n : Int) :: F) rfl Od _ 32 32 e.key rfl hKs (fun e => by cases e) (by simp; omega) zd ?_; intro v6 w6 o6 k6)
          have K6 : Keeps (fun _ => False) w w6 := KD.trans' k6 (fun i e => .inr (by omega))
          refine ⟨cls_keeps K6, ?_⟩
          simp only [wpTree, opsAt, pick]
          refine wpQuiet_nil ?_
          go_wp2_with (refine wpList_build4 rfl _ _ _ _ rfl e.place e.blocks (e.refs / 256) e.refs _ _ _ _ rfl rfl rfl rfl rfl rfl rfl rfl ?_; intro g7 w7 s7 z7 l7 k7)
          have z6 := k6.size
          have z7' := k7.size
          have K7 := K6.trans k7
          refine ⟨cls_keeps K7, ?_⟩
          simp only [wpTree, opsAt, pick]
          refine wpQuiet_nil ?_
          have o7 := o6.keeps k7 (fun _ _ h => h.elim)
          go_wp2_with (refine wpList_app rfl _ _ rfl w2.heap.size _ _ rfl o7 _ 4 4 _ rfl s7 (fun e => by cases e) (by simp; omega) (by omega) ?_; intro v8 w8 o8 k8)
          have K8 : Keeps (fun _ => False) w w8 := K7.trans' k8 (fun i e => .inr (by omega))
          have z8 := k8.size
          refine ⟨cls_keeps K8, ?_⟩
          simp only [wpTree, opsAt, pick]
          repeat (go_big_quiet_step (fail))
          refine wpQuiet_nil ?_
          refine NoPanic.normal ?_
          have b8 : BlAt w8 g2 (zb 128) := ((bzd.keeps k6 (by omega)).keep k7).keeps k8 (by omega)
          go_wp2
          refine ⟨⟨i + 1, by omega, rfl, ?_, b8, by omega, K8⟩, by simp [intOf]; omega⟩
          rw [HN.out]
          exact o8
        · go_wp2_with (refine wpList_build4 rfl _ _ _ _ rfl e.place e.blocks (e.refs / 256) e.refs _ _ _ _ rfl rfl rfl rfl rfl rfl rfl rfl ?_; intro g7 w7 s7 z7 l7 k7)
          have K7 := KD.trans k7
          have z7' := k7.size
          refine ⟨cls_keeps K7, ?_⟩
          simp only [wpTree, opsAt, pick]
          refine wpQuiet_nil ?_
          have o7 := Od.keeps k7 (fun _ _ h => h.elim)
          have hK7 := hKs.keeps k7 (fun _ _ _ _ h => h)
          go_wp2_with (refine wpList_app1 rfl _ _ rfl w2.heap.size _ (kb 76 :: kb (n : Int) :: F) rfl o7 _ _ 32 32 e.key rfl hK7 (by simp; omega) (by omega) ?_; intro v6 w6 o6 k6)
          have hown : ∀ k, u4.ownBlock = some k → w2.heap.size ≤ k ∧ k < wr.drew.heap.size := fun k hk => Od.owns.lt k hk
          have K6 : Keeps (fun _ => False) w w6 := K7.trans' k6 (fun i e => .inr (by have := (hown i e).1; omega))
          have z6 := k6.size
          refine ⟨cls_keeps K6, ?_⟩
          simp only [wpTree, opsAt, pick]
          refine wpQuiet_nil ?_
          have s6 := s7.keeps k6 (fun _ b' o' e' h => by cases e'; have := (hown _ h).2; omega)
          go_wp2_with (refine wpList_app rfl _ _ rfl w2.heap.size _ _ rfl o6 _ 4 4 _ rfl s6 (fun e => by cases e) (by simp; omega) (by omega) ?_; intro v8 w8 o8 k8)
          have K8 : Keeps (fun _ => False) w w8 := K6.trans' k8 (fun i e => .inr (by omega))
          have z8 := k8.size
          refine ⟨cls_keeps K8, ?_⟩
          simp only [wpTree, opsAt, pick]
          repeat (go_big_quiet_step (fail))
          refine wpQuiet_nil ?_
          refine NoPanic.normal ?_
          have b8 : BlAt w8 g2 (zb 128) := ((bzd.keep k7).keeps k6 (fun h => by have := (hown _ h).1; omega)).keeps k8 (by omega)
          go_wp2
          refine ⟨⟨i + 1, by omega, rfl, ?_, b8, by omega, K8⟩, by simp [intOf]; omega⟩
          rw [HN.out]
          exact o8
      · obtain rfl : i = n := by omega
        have hlt' : ¬ (i : Int) < (i : Int) := by omega
        rw [List.take_of_length_le (by omega)] at O
        obtain ⟨a4, n4, c4, rfl, s4, _, hnc4⟩ := O.slice
        have e4 : kb 76 :: kb (i : Int) :: flat l = ltxt l := by unfold ltxt; rw [hlen]
        rw [e4] at s4
        have hn4 : n4 ≤ 124 := by have := s4.len; rw [ltxt_len HK.out, hlen] at this; omega
        clear O e4
        go_wp2_with (first
          | (go_at_call 47; refine (block22 wr a4 n4 c4 _ s4 hnc4 hn4 HL).mono ?_; rintro e w5 ⟨rfl, k5⟩; have b5 := bz.keep k5)
          | (refine wpList_store26 rfl _ _ rfl g2 rfl L rfl lL _ b5 ?_; intro w6 b6 k6))
        rw [hR.out]
        refine bodyPost_ret (v := toldB (L, 0)) (fin _ g2 _ _ _ rfl rfl b6) rfl ⟨rfl, (KW.trans k5).trans' k6 (fun i e => .inr (by omega))⟩
end

/-! De: Rows of entries of one's own. -/
section
open Go.RowKit Go.Sort

/-- In block g lies an entry. -/
structure ErAt (w : World) (g : Nat) (e : En) : Prop where
  row : w.heap[g]? = some (.cells e.cells.toArray 54 (0, 0))
  len : e.key.length = 32
theorem ErAt.lt {w : World} {g : Nat} {e : En} (h : ErAt w g e) : g < w.heap.size := lt_of_row h.row
theorem ErAt.keeps {S : Nat → Prop} {a w : World} {g : Nat} {e : En} (h : ErAt a g e) (hk : Keeps S a w) (hs : ¬ S g) : ErAt w g e := ⟨hk.row h.row hs, h.len⟩
theorem ErAt.keep {a w : World} {g : Nat} {e : En} (h : ErAt a g e) (hk : Keeps (fun _ => False) a w) : ErAt w g e := h.keeps hk (fun h => h)
theorem ErAt.at_ {w : World} {g : Nat} {e : En} (h : ErAt w g e) : EnAt w g 0 e := ⟨h.len, fun j v hv => by
  rw [cell_of_row w _ _ _ _ _ h.row, Nat.zero_add]; simpa using hv⟩

/-- An entry of zeros but for its numbers. -/
def e0 (p b r : Int) : En := ⟨zb 32, p, b, r⟩
theorem info46 : (Tryd.prog.info? 54).map (fun i => (i.zero, i.size)) = some (some (.agg (e0 0 0 0).cells.toArray), 35) := by kernel_rfl
theorem zero46 (w : World) : (zeroValue 54).run Tryd.prog w = .ok (.agg (e0 0 0 0).cells.toArray) w := (zero_of_info info46).1 w
theorem build46 (p b r : Int) (w : World) : (Instr.build 54 #[(1, .int .i64 p), (2, .int .i64 b), (3, .int .i64 r)]).run Tryd.prog w = .ok (.agg (e0 p b r).cells.toArray) w := by kernel_rfl
theorem quiet_build46 {o : Oper} {a : Act} {C : World → Prop} {K : Act → Prop} (x y z : Operand) (ho : o.op = .build 54 #[(1, x), (2, y), (3, z)]) (p b r : Int) (hx : a.eval x = .int .i64 p) (hy : a.eval y = .int .i64 b) (hz : a.eval z = .int .i64 r) (hk : K (a.put o.dst (.agg (e0 p b r).cells.toArray))) : o.quiet Tryd.prog a C K := by
  refine ⟨.agg (e0 p b r).cells.toArray, fun w hw => ?_, hk⟩
  unfold Oper.quietAt execOp
  simp only [ho, hx, hy, hz, List.map_toArray, List.map_cons, List.map_nil, build46, Sem.run_bind, Sem.run_pure, Result.andThen_ok]
  exact ⟨rfl, rfl⟩
theorem wpList_alloc46 {ops : Array Oper} {rest : List Oper} {o : Oper} {a : Act} {w : World} {Q : Exit → Act → World → Prop} (hgd : o.guard = none) (ho : o.op = .alloc 54)
    (h : ∀ g w', ErAt w' g (e0 0 0 0) → w.heap.size ≤ g → Keeps (fun _ => False) w w' → wpList Tryd.prog ops Q rest (a.put o.dst (.pointer (some ⟨g, 0, none⟩))) w') : wpList Tryd.prog ops Q (o :: rest) a w := by
  refine wpList_plain hgd fun K hK => ?_
  unfold Oper.wp execOp
  simp only [ho, Instr.alloc, zero46, newVar, newRow, Sem.run_bind, Result.andThen_ok, Sem.run_pure]
  exact hK _ _ (h w.heap.size _ ⟨heap_alloc_new w _, zb_len _⟩ (Nat.le_refl _) (keeps_alloc w _))
theorem cells_one (e : En) : e.cells.toArray.all (·.oneCell') = true := by
  rw [Array.all_eq_true_iff_forall_mem]; intro x hx; simp [En.cells] at hx
  rcases hx with ⟨a, _, rfl⟩ | rfl | rfl | rfl <;> rfl
theorem wpList_store46 {ops : Array Oper} {rest : List Oper} {o : Oper} {a : Act} {w : World} {Q : Exit → Act → World → Prop} (hgd : o.guard = none) (x y : Operand) (ho : o.op = .store 54 x y) (g : Nat) (hx : a.eval x = .pointer (some ⟨g, 0, none⟩)) (e : En) (hy : a.eval y = .agg e.cells.toArray) (he : e.key.length = 32)
    (e' : En) (hb : ErAt w g e') (h : ∀ w', ErAt w' g e → Keeps (· = g) w w' → wpList Tryd.prog ops Q rest (a.put o.dst undef) w') : wpList Tryd.prog ops Q (o :: rest) a w := by
  refine wpList_plain hgd fun K hK => ?_
  unfold Oper.wp execOp
  simp only [ho, hx, hy, Instr.storeAt, Instr.sureAddr, Sem.run_bind, Sem.run_pure, Result.andThen_ok, run_storeVar_row w g 54 54 e'.cells.toArray e.cells.toArray hb.row (by rw [List.size_toArray, En.cells_len he]; exact size46) (by rw [List.size_toArray, List.size_toArray, En.cells_len he, En.cells_len hb.len]) (cells_one e)]
  exact hK _ _ (h _ ⟨setRow_heap w g _ _ _ _ hb.row, he⟩ ((Keeps.refl (· = g) w).setRow (.inl rfl) _))
theorem wpList_load46 {ops : Array Oper} {rest : List Oper} {o : Oper} {a : Act} {w : World} {Q : Exit → Act → World → Prop} (hw : Region.wanted o (yielded ops a.tmps) = true) (x : Operand) (ho : o.op = .load 54 x) (b of : Nat) (hx : a.eval x = .pointer (some ⟨b, of, none⟩)) (e : En) (hb : EnAt w b of e)
    (h : wpList Tryd.prog ops Q rest (a.put o.dst (.agg e.cells.toArray)) w) : wpList Tryd.prog ops Q (o :: rest) a w := by
  unfold wpList
  rw [if_pos hw]
  left
  unfold Oper.wp execOp
  simp only [ho, hx, Instr.loadAt, Instr.sureAddr, Sem.run_bind, Sem.run_pure, Result.andThen_ok, run_load46 hb]
  exact h

/-- The slice v, in a block of one's own from base on, has the entries l. -/
structure OwnE (w : World) (base : Nat) (v : Value) (l : List En) : Prop where
  owns : w.ownsRow base 54 35 v l.length (ecs l)
  keyed : Keyed l
theorem OwnE.slice {w : World} {base : Nat} {v : Value} {l : List En} (h : OwnE w base v l) : ∃ a c, v = .slice a l.length c ∧ SlE w a l.length c l ∧ (∀ b o, a = some ⟨b, o, none⟩ → base ≤ b) := by
  obtain ⟨_, ⟨rfl, h0⟩ | ⟨g, cap, cur, rfl, hb, hg, hn, hc, hs, ht⟩⟩ := h.owns
  · obtain rfl : l = [] := List.eq_nil_of_length_eq_zero h0
    exact ⟨none, 0, rfl, SlE.nil w, fun b o e => by cases e⟩
  · refine ⟨_, _, rfl, ⟨rfl, hn, h.keyed, fun j x hx => ⟨g, 0, rfl, ?_⟩⟩, (fun b o e => by cases e; exact hb)⟩
    have hj : j < (ecs l).length := (List.getElem?_eq_some_iff.1 hx).1
    rw [ecs_len h.keyed] at hj
    have h1 : (cur.toList.take (l.length * 35))[j]? = some x := by rw [ht, hx]
    rw [List.getElem?_take, if_pos (by omega)] at h1
    rw [Nat.zero_add, cell_of_row w g j _ _ _ hg]
    simp at h1
    exact h1
theorem OwnE.keeps {S : Nat → Prop} {w w' : World} {base : Nat} {v : Value} {l : List En} (h : OwnE w base v l) (hk : Keeps S w w') (hS : ∀ i, i < w.heap.size → S i → i < base) : OwnE w' base v l := by
  obtain ⟨h1, h2⟩ := h.owns
  refine ⟨⟨h1, ?_⟩, h.keyed⟩
  rcases h2 with h2 | ⟨g, cap, cur, rfl, hb, hg, rest⟩
  · exact .inl h2
  · exact .inr ⟨g, cap, cur, rfl, hb, hk.row hg (fun hs => by have := hS g (lt_of_row hg) hs; omega), rest⟩
theorem OwnE.nil (w : World) (base : Nat) : OwnE w base (.slice none 0 0) [] := ⟨⟨by simp [ecs], .inl ⟨rfl, rfl⟩⟩, fun e he => by cases he⟩

theorem info46' : ∃ i, Tryd.prog.info? 54 = some i ∧ i.zero = some (.agg (e0 0 0 0).cells.toArray) ∧ i.size = 35 ∧ i.bytes = 56 := by
  cases h : Tryd.prog.info? 54 with
  | none => have : (Tryd.prog.info? 54).isSome = true := by kernel_rfl
            rw [h] at this; cases this
  | some i =>
    have h1 : (Tryd.prog.info? 54).map (fun i => (i.zero, i.size, i.bytes)) = some (some (.agg (e0 0 0 0).cells.toArray), 35, 56) := by kernel_rfl
    rw [h] at h1
    simp at h1
    exact ⟨i, rfl, h1.1, h1.2.1, h1.2.2⟩

theorem fold_all (b C : Array Value) (h : C.size = b.size) :
    b.zipIdx.foldl (fun (cs : Array Value) (y : Value × Nat) => cs.setIfInBounds (0 + y.2) y.1) C = b := by
  suffices H : ∀ (b : List Value) (o : Nat) (A C : List Value), A.length = o → C.length = b.length →
      List.foldl (fun (cs : Array Value) (y : Value × Nat) => cs.setIfInBounds (0 + y.2) y.1) (A ++ C).toArray (b.zipIdx o) = (A ++ b).toArray by
    have := H b.toList 0 [] C.toList rfl (by simpa using h)
    simp at this
    rw [← Array.foldl_toList]
    simpa using this
  intro b
  induction b with
  | nil => intro o A C hA hC; simp [List.eq_nil_of_length_eq_zero hC]
  | cons v b ih =>
    intro o A C hA hC
    cases C with
    | nil => simp at hC
    | cons c C =>
      rw [List.zipIdx_cons, List.foldl_cons]
      dsimp only
      have e : ((A ++ c :: C).toArray.setIfInBounds (0 + o) v) = ((A ++ [v]) ++ C).toArray := by
        simp [← hA]
      rw [e, ih (o + 1) (A ++ [v]) C (by simp; omega) (by simpa using hC)]
      simp

theorem run_build1E (w : World) (e : En) (h : e.key.length = 32) : (Instr.buildSlice 22 1 #[(0, .agg e.cells.toArray)]).run Tryd.prog w = .ok (.slice (some ⟨w.heap.size, 0, none⟩) 1 1) (w.alloc (.cells e.cells.toArray 54)) := by
  obtain ⟨i0, hi0, hz0, hz1, hz2⟩ := info46'
  have hb : (Value.agg e.cells.toArray).cells = e.cells.toArray := rfl
  have hs : e.cells.toArray.size = 35 := by rw [List.size_toArray, En.cells_len h]
  unfold Instr.buildSlice
  have hf := fold_all e.cells.toArray ((Array.range (1 * 35)).map ((Value.agg (e0 0 0 0).cells.toArray).cells[· % (Value.agg (e0 0 0 0).cells.toArray).cells.size]!)) (by simp [hs])
  have hfill : Instr.fill (fun i => some (i * 35, 35)) ((Array.range (1 * 35)).map ((Value.agg (e0 0 0 0).cells.toArray).cells[· % (Value.agg (e0 0 0 0).cells.toArray).cells.size]!)) [(0, .agg e.cells.toArray)] = some e.cells.toArray := by
    unfold Instr.fill Instr.fill
    simp only [Nat.zero_mul, hb]
    rw [if_neg (by simp [hs]), hf]
  have hsize : (sizeOf 54).run Tryd.prog w = .ok 35 w := by simp [sizeOf, typeInfo, hi0, hz1]
  simp only [Sem.run_bind, run_underlying Tryd.underlying22, hsize, Result.andThen_ok]
  rw [if_neg (by decide), if_neg (by decide)]
  simp only [Sem.run_bind, zero46, Result.andThen_ok, Sem.run_pure, hfill]
  simp [newRow]
theorem wpList_build1E {ops : Array Oper} {rest : List Oper} {o : Oper} {a : Act} {w : World} {Q : Exit → Act → World → Prop} (hgd : o.guard = none) (x : Operand) (ho : o.op = .buildSlice 22 1 #[(0, x)]) (e : En) (hx : a.eval x = .agg e.cells.toArray) (he : e.key.length = 32)
    (h : ∀ g w', ErAt w' g e → w.heap.size ≤ g → Keeps (fun _ => False) w w' → wpList Tryd.prog ops Q rest (a.put o.dst (.slice (some ⟨g, 0, none⟩) 1 1)) w') : wpList Tryd.prog ops Q (o :: rest) a w := by
  refine wpList_plain hgd fun K hK => ?_
  unfold Oper.wp execOp
  simp only [ho, hx, List.map_toArray, List.map_cons, List.map_nil, run_build1E w e he, Sem.run_bind, Result.andThen_ok, Sem.run_pure]
  exact hK _ _ (h w.heap.size _ ⟨heap_alloc_new w _, he⟩ (Nat.le_refl _) (keeps_alloc w _))
theorem wpList_appE {ops : Array Oper} {rest : List Oper} {o : Oper} {a : Act} {w : World} {Q : Exit → Act → World → Prop} (hgd : o.guard = none) (s x : Operand) (ho : o.op = .call { callee := .builtin .append, args := #[s, x], argTypes := #[22, 22] })
    (base : Nat) (v : Value) (l : List En) (hs : a.eval s = v) (hown : OwnE w base v l) (g : Nat) (hx : a.eval x = .slice (some ⟨g, 0, none⟩) 1 1) (e : En) (hl : ErAt w g e) (hlen : l.length ≤ 100000) (hbase : base ≤ w.heap.size)
    (h : ∀ v' w', OwnE w' base v' (l ++ [e]) → Keeps (fun k => v.ownBlock = some k) w w' → wpList Tryd.prog ops Q rest (a.put o.dst v') w') : wpList Tryd.prog ops Q (o :: rest) a w := by
  obtain ⟨i, hi, hz, hsz, hby⟩ := info46'
  refine wpList_append_own _ hgd s x 22 ho base 54 i (.agg (e0 0 0 0).cells.toArray) 35 56 Tryd.underlying22 hi hz hsz hby (by show (e0 0 0 0).cells.toArray.size = 35; rw [List.size_toArray, En.cells_len (zb_len _)]) (by omega) v l.length _ hs hown.owns ⟨g, 0, none⟩ 1 1 e.cells hx (by rw [En.cells_len hl.len]) (fun j u hu => ?_) (fun u hu => by
    have := cells_one e
    rw [Array.all_eq_true_iff_forall_mem] at this
    exact this u (by simpa using hu)) (by unfold maxLen; omega) (by omega) hbase ?_
  · rw [Addr_add]
    exact hl.at_.at_ j u hu
  · intro v' w' ho' hg _
    refine h v' w' ⟨?_, ?_⟩ ⟨hg.os, hg.tape, hg.output, hg.size, fun k hk hb => hg.block k hk fun e => hb e.symm⟩
    · have : ecs (l ++ [e]) = ecs l ++ e.cells := by simp [ecs]
      rw [this, List.length_append]; exact ho'
    · intro x hx'
      rcases List.mem_append.1 hx' with h1 | h1
      · exact hown.keyed x h1
      · obtain rfl : x = e := by simpa using h1
        exact hl.len
end

/-! Dd: Decode of the reference. -/
section
open Go.RowKit Go.Sort

/-- What Decode tells. -/
inductive DecTold (x : List B) (e : Ending) (w' : World) : Prop where
  | ok (h : isLf x = true) (a : Option Addr) (c : Nat) (he : e = .returned (.tuple #[.slice a (ents x).length c, .int .i64 0])) (hs : SlE w' a (ents x).length c (ents x))
  | no (h : isLf x = false) (he : e = .returned (.tuple #[.slice none 0 0, .int .i64 11]))

theorem enc_at {l : List En} {L : List B} {v : Int} (h : encR l = (L, v)) (w : World) (a : Option Addr) (n c : Nat) (hl : SlE w a n c l) (hn : n ≤ 9223372036854775807) :
    Calls Tryd.prog 16 #[.slice a n c] w fun e w' => e = .returned (.tuple #[.agg (brow L), .int .i64 v]) ∧ Keeps (fun _ => False) w w' := by
  have := enc15 w a n c l hl hn
  rw [h] at this; exact this

theorem results_two {fn : Func} {p q : Tmp} (h : fn.results = #[.tmp p, .tmp q]) (tmps : Array Value) (P : Program) (w : World) : (results fn tmps).run P w = .ok (.tuple #[tmps.getD p undef, tmps.getD q undef]) w := by
  simp [results, h]
theorem splice_key (p b r : Int) (K : List B) (hK : K.length = 32) : splice (e0 p b r).cells 0 (K.map vb) = (En.mk K p b r).cells := by
  unfold splice e0 En.cells
  rw [List.take_zero, List.nil_append, Nat.zero_add, List.length_map, hK, List.drop_append_of_le_length (by simp [zb]), List.drop_of_length_le (by simp [zb]), List.nil_append]

set_option maxRecDepth 100000 in
set_option maxHeartbeats 2000000 in
theorem dec16 (w : World) (x : List B) (hx : x.length = 128) :
    Calls Tryd.prog 18 #[.agg (brow x)] w fun e w' => DecTold x e w' ∧ Keeps (fun _ => False) w w' := by
  obtain ⟨m, hm⟩ : ∃ m, min (x.getD 1 0).toNat 3 = m := ⟨_, rfl⟩
  have hme : ents x = entN x m := by unfold ents; rw [hm]
  have Hm : Hid (∀ i : Nat, i < m ↔ ((i : Int) < nb (x.getD 1 0) ∧ i < 3)) := fun i => by unfold nb; omega
  have hm3 : m ≤ 3 := by omega
  have Hx : Hid (x.length = 128) := hx
  have b1b := nb_lt (x.getD 1 0)
  clear hm
  go_enter Tryd.func18, Tryd.ntmps18
  go_wp2_with (refine wpList_box26 rfl _ rfl x hx rfl ?_; intro g1 w1 b1 z1 k1)
  clear hx
  go_loopw [4, 5] (fun v t wr => ∃ i : Nat, i ≤ m ∧ t = .int .i64 (i : Int) ∧ OwnE wr w1.heap.size v (entN x i) ∧ BlAt wr g1 x ∧ w1.heap.size ≤ wr.heap.size ∧ Keeps (fun _ => False) w wr) (fun _ t _ => m - (intOf t).toNat)
  case atStart => exact ⟨0, by omega, rfl, OwnE.nil _ _, b1, Nat.le_refl _, k1⟩
  case round =>
    have l1 := b1.lt
    have z0 := k1.size
    clear b1 k1
    obtain ⟨i, hi, rfl, O, bm, zr, KW⟩ := hrel
    have hc1 := bm.cell (j := 1) (by omega)
    generalize hX1 : x.getD 1 0 = x1 at *
    by_cases hlt : i < m
    · obtain ⟨h1, h2⟩ := (Hm.out i).1 hlt
      have h2' : (i : Int) < 3 := by omega
      obtain ⟨A, hA⟩ : ∃ A, 2 + 36 * i = A := ⟨_, rfl⟩
      have hAi : 2 + 36 * (i : Int) = (A : Int) := by omega
      have hA74 : A ≤ 74 := by omega
      have HE : Hid (entAt x i = ⟨(x.drop A).take 32, nb (x.getD (A + 32) 0), nb (x.getD (A + 33) 0), nb (x.getD (A + 34) 0) * 256 + nb (x.getD (A + 35) 0)⟩) := by show _ = _; unfold entAt; rw [hA]
      have c32 := bm.cell (j := A + 32) (by omega)
      have c33 := bm.cell (j := A + 33) (by omega)
      have c34 := bm.cell (j := A + 34) (by omega)
      have c35 := bm.cell (j := A + 35) (by omega)
      have n32 := nb_lt (x.getD (A + 32) 0)
      have n33 := nb_lt (x.getD (A + 33) 0)
      have n34 := nb_lt (x.getD (A + 34) 0)
      have n35 := nb_lt (x.getD (A + 35) 0)
      generalize x.getD (A + 32) 0 = y1 at *
      generalize x.getD (A + 33) 0 = y2 at *
      generalize x.getD (A + 34) 0 = y3 at *
      generalize x.getD (A + 35) 0 = y4 at *
      clear hA
      have hA0 : (0 : Int) ≤ (A : Int) := by omega
      have hA1 : (A : Int) + 35 < 128 := by omega
      go_wp2_with fail
      have d32 : ∀ d os, (grow (redrawn wr d) os).cell? ⟨g1, A + 32, none⟩ = some (.int .u8 (nb y1)) := fun d os => cell_keeps (keeps_cls ⟨⟨d, os⟩, rfl⟩) c32 (fun h => h)
      have d33 : ∀ d os, (grow (redrawn wr d) os).cell? ⟨g1, A + 33, none⟩ = some (.int .u8 (nb y2)) := fun d os => cell_keeps (keeps_cls ⟨⟨d, os⟩, rfl⟩) c33 (fun h => h)
      have d34 : ∀ d os, (grow (redrawn wr d) os).cell? ⟨g1, A + 34, none⟩ = some (.int .u8 (nb y3)) := fun d os => cell_keeps (keeps_cls ⟨⟨d, os⟩, rfl⟩) c34 (fun h => h)
      have d35 : ∀ d os, (grow (redrawn wr d) os).cell? ⟨g1, A + 35, none⟩ = some (.int .u8 (nb y4)) := fun d os => cell_keeps (keeps_cls ⟨⟨d, os⟩, rfl⟩) c35 (fun h => h)
      have i32 : (A : Int) + 32 < 128 := by omega
      have i33 : (A : Int) + 33 < 128 := by omega
      have i34 : (A : Int) + 34 < 128 := by omega
      have t32 : ((A : Int) + 32).toNat = A + 32 := by omega
      have t33 : ((A : Int) + 33).toNat = A + 33 := by omega
      have t34 : ((A : Int) + 34).toNat = A + 34 := by omega
      have t35 : ((A : Int) + 35).toNat = A + 35 := by omega
      refine region_plan (S := fun w' => ∃ p : Regrown, w' = grow (redrawn wr p.d) p.os) [([0, 1, 2, 3, 4, 5, 6, 7, 8, 9, 10, 11, 12, 13, 14, 15, 16, 17, 18, 19, 20, 21, 22], 23), ([], 24)] [] (by kernel_rfl) (by kernel_rfl) (by kernel_rfl) (by kernel_rfl) (cls_keeps ((Keeps.refl _ _).drew)) ?_
      simp only [wpPlan, opsAt, pick]
      repeat (first
        | (go_big_quiet_want; refine quiet_build46 _ _ _ rfl _ _ _ rfl rfl rfl ?_; simp only [Act.put, List.setIfInBounds_toArray, List.set_cons_zero, List.set_cons_succ]; go_big_quiet_on)
        | go_big_quiet_step (fail))
      refine wpQuiet_nil ?_
      have kd : Keeps (fun _ => False) wr wr.drew := (Keeps.refl _ _).drew
      go_wp2_with (refine wpList_alloc46 rfl rfl ?_; intro g7 w3 r3 z7 k3)
      have K3 := kd.trans k3
      have z7' : wr.heap.size ≤ g7 := z7
      refine ⟨cls_keeps K3, ?_⟩
      simp only [wpPlan, opsAt, pick]
      refine wpQuiet_nil ?_
      go_wp2_with (refine wpList_store46 rfl _ _ rfl g7 rfl (e0 (nb y1) (nb y2) (nb y3 * 256 + nb y4)) rfl (zb_len _) _ r3 ?_; intro w4 r4 k4)
      have K4 : Keeps (fun _ => False) wr w4 := K3.trans' k4 (fun i e => .inr (by omega))
      refine ⟨cls_keeps K4, ?_⟩
      simp only [wpPlan, opsAt, pick]
      refine wpQuiet_nil ?_
      refine NoPanic.normal ?_
      clear r3 k3 K3 k4 d32 d33 d34 d35 t32 t33 t34 t35 i32 i33 i34 c32 c33 c34 c35 n32 n33 n34 n35
      have hA3 : (A : Int) ≤ (A : Int) + 32 := by omega
      have hA4 : (A : Int) + 32 ≤ 128 := by omega
      go_wp2_with fail
      refine region_plan (S := fun w' => ∃ p : Regrown, w' = grow (redrawn wr p.d) p.os) [([0, 1, 2, 3, 4, 5], 6)] [] (by kernel_rfl) (by kernel_rfl) (by kernel_rfl) (by kernel_rfl) (cls_keeps K4.drew) ?_
      simp only [wpPlan, opsAt, pick]
      repeat (go_big_quiet_step (fail))
      refine wpQuiet_nil ?_
      obtain ⟨Y, hY⟩ : ∃ Y, (x.drop A).take 32 = Y := ⟨_, rfl⟩
      have lY : Y.length = 32 := by rw [← hY, List.length_take, List.length_drop, Hx.out]; omega
      have B4 := (bm.keep K4).keep ((Keeps.refl (fun _ => False) w4).drew)
      have r4d := r4.keep ((Keeps.refl (fun _ => False) w4).drew)
      have hsrc : ∀ j v, (Y.map vb)[j]? = some v → w4.drew.cell? ((⟨g1, A, none⟩ : Addr).add j) = some v := fun j v hv => by
        have hj : j < 32 := by have := (List.getElem?_eq_some_iff.1 hv).1; simpa [lY] using this
        have hl := Hx.out
        rw [Addr_add, B4.cell (j := A + j) (by omega)]
        rw [List.getElem?_map, ← hY, List.getElem?_take, if_pos hj, List.getElem?_drop, List.getElem?_eq_getElem (by omega)] at hv
        rw [getD_lt (by omega)]
        exact hv
      have hone := one_bytes Y
      go_wp2_with (refine wpList_copy_over rfl _ _ 48 48 rfl 5 Tryd.underlying48 size5 _ _ _ _ _ _ rfl rfl g7 0 (e0 (nb y1) (nb y2) (nb y3 * 256 + nb y4)).cells 54 r4d.row (Y.map vb) (by simp [lY]) (fun _ => ⟨rfl, _, rfl, hsrc⟩) (by rw [En.cells_len (zb_len _)]; simp [lY]) hone ?_; intro w5 r5 k5 z5)
      have hEe : entAt x i = En.mk Y (nb y1) (nb y2) (nb y3 * 256 + nb y4) := by rw [HE.out, hY]
      have r5' : ErAt w5 g7 (entAt x i) := ⟨by rw [hEe, ← splice_key _ _ _ Y lY]; exact r5.out, by rw [hEe]; exact lY⟩
      have K5 : Keeps (fun _ => False) wr w5 := K4.drew.trans' k5 (fun i e => .inr (by omega))
      refine ⟨cls_keeps K5, ?_⟩
      simp only [wpPlan, opsAt, pick]
      refine wpQuiet_nil ?_
      refine NoPanic.normal ?_
      have O5 := O.keeps K5 (fun _ _ h => h.elim)
      have B5 := bm.keep K5
      have HNe : Hid (entN x (i + 1) = entN x i ++ [entAt x i]) := entN_succ x i
      have hle : (entN x i).length ≤ 3 := by rw [entN_len]; omega
      have z5' := K5.size
      clear HE hEe r5 k5 z5 hY lY B4 r4d hsrc hone r4 K4 O bm
      generalize entAt x i = e at *
      have he := r5'.len
      generalize entN x i = lE at *
      go_wp2_with (first
        | (refine wpList_load46 rfl _ rfl g7 0 rfl e r5'.at_ ?_)
        | (refine wpList_build1E rfl _ rfl e rfl he ?_; intro g8 w6 r6 z8 k6; have O6 := O5.keeps k6 (fun _ _ h => h.elim); have B6 := B5.keep k6; have z6 := k6.size)
        | (refine wpList_appE rfl _ _ rfl w1.heap.size _ lE rfl O6 g8 rfl e r6 (by omega) (by omega) ?_; intro v7 w7 o7 k7; have hown : ∀ k, u4.ownBlock = some k → w1.heap.size ≤ k ∧ k < w6.heap.size := fun k hk => O6.owns.lt k hk; have B7 := B6.keeps k7 (fun h => by have := (hown _ h).1; omega); have z7'' := k7.size))
      have K7 : Keeps (fun _ => False) w w7 := ((KW.trans K5).trans k6).trans' k7 (fun i e => .inr (by have := (hown i e).1; omega))
      exact ⟨⟨i + 1, by omega, rfl, by rw [HNe.out]; exact o7, B7, by omega, K7⟩, by simp [intOf]; omega⟩
    · obtain rfl : i = m := by omega
      have h3 := Hm.out i
      rw [← hme] at O
      obtain ⟨a4, c4, rfl, s4, _⟩ := O.slice
      have hlE : (ents x).length ≤ 3 := by rw [hme, entN_len]; exact hm3
      obtain ⟨L, v, hR⟩ : ∃ L v, encR (ents x) = (L, v) := ⟨_, _, rfl⟩
      have lL : L.length = 128 := by
        have : (encR (ents x)).1.length = 128 := by
          unfold encR
          split
          · exact lf_len s4.keyed hlE
          · exact zb_len _
        rw [hR] at this; exact this
      have HR : Hid (encR (ents x) = (L, v)) := hR
      have Htold : Hid ((v = 0 ∧ L = x ∧ isLf x = true) ∨ (v = 0 ∧ L ≠ x ∧ isLf x = false) ∨ (v = 11 ∧ isLf x = false)) := by
        show _ ∨ _ ∨ _
        unfold encR at hR
        cases hg : gd (ents x) with
        | true =>
          rw [hg] at hR
          simp at hR
          obtain ⟨rfl, rfl⟩ := hR
          by_cases he : lf (ents x) = x
          · exact .inl ⟨rfl, he, isLf_iff.2 ⟨hg, he⟩⟩
          · refine .inr (.inl ⟨rfl, he, ?_⟩)
            unfold isLf; rw [decide_eq_false he, Bool.and_false]
        | false =>
          rw [hg] at hR
          simp at hR
          exact .inr (.inr ⟨hR.2.symm, by unfold isLf; rw [hg]; rfl⟩)
      have lx := bm.len
      clear hR hme O
      have hcs : ¬ (i : Int) < nb x1 ∨ ((i : Int) < nb x1 ∧ ¬ (i : Int) < 3) := by omega
      clear h3
      generalize hEn : ents x = lE at *
      have Hen : Hid (ents x = lE) := hEn
      have hsl : 0 < lE.length → ∀ b o, a4 = some ⟨b, o, none⟩ → b < wr.heap.size := fun h0 b o e => by
        obtain ⟨b', o', e', hE⟩ := s4.ent h0
        rw [e] at e'; cases e'
        exact slb_lt hE.slb (by omega) rfl
      have Hsl : Hid (0 < lE.length → ∀ b o, a4 = some ⟨b, o, none⟩ → b < wr.heap.size) := hsl
      clear hEn hsl Hm hX1
      rcases hcs with h5 | ⟨h5, h6⟩
      all_goals
        rcases Htold.out with ⟨rfl, hLx, hI⟩ | ⟨rfl, hLx, hI⟩ | ⟨rfl, hI⟩
        · have heq := eq26 lL lx
          rw [decide_eq_true hLx] at heq
          have HI : Hid (isLf x = true) := hI
          clear Htold hLx hI
          go_wp2_with (first
            | (go_at_call 16; refine (enc_at HR.out _ a4 _ c4 s4 (by omega)).mono ?_; rintro e w5 ⟨rfl, k5⟩; have B5 := bm.keep k5; have s5 := s4.keep k5; have K5 := KW.trans k5)
            | (refine wpList_alloc26 rfl rfl ?_; intro g8 w6 b6 z8 k6; have B6 := B5.keep k6; have s6 := s5.keep k6; have h18 : g1 ≠ g8 := (by have := B5.lt; omega); have K6 := K5.trans k6)
            | (refine wpList_store26 rfl _ _ rfl g8 rfl L rfl lL _ b6 ?_; intro w7 b7 k7; have B7 := B6.keeps k7 h18; have K7 : Keeps (fun _ => False) w w7 := K6.trans' k7 (fun i e => .inr (by have := K5.size; omega)))
            | (refine wpList_load26 rfl _ rfl g8 rfl L b7 ?_)
            | (refine wpList_load26 rfl _ rfl g1 rfl x B7 ?_))
          refine bodyPost_ret (results_two rfl _ _ _) rfl ?_
          have s7 : SlE w7 a4 lE.length c4 lE := s6.keeps k7 (fun h0 b o e h => by have := Hsl.out h0 b o e; have := k5.size; omega)
          exact ⟨.ok HI.out a4 c4 (by rw [Hen.out]; rfl) (by rw [Hen.out]; exact s7), K7⟩
        · have heq := eq26 lL lx
          rw [decide_eq_false hLx] at heq
          have HI : Hid (isLf x = false) := hI
          clear Htold hLx hI
          go_wp2_with (first
            | (go_at_call 16; refine (enc_at HR.out _ a4 _ c4 s4 (by omega)).mono ?_; rintro e w5 ⟨rfl, k5⟩; have B5 := bm.keep k5; have s5 := s4.keep k5; have K5 := KW.trans k5)
            | (refine wpList_alloc26 rfl rfl ?_; intro g8 w6 b6 z8 k6; have B6 := B5.keep k6; have s6 := s5.keep k6; have h18 : g1 ≠ g8 := (by have := B5.lt; omega); have K6 := K5.trans k6)
            | (refine wpList_store26 rfl _ _ rfl g8 rfl L rfl lL _ b6 ?_; intro w7 b7 k7; have B7 := B6.keeps k7 h18; have K7 : Keeps (fun _ => False) w w7 := K6.trans' k7 (fun i e => .inr (by have := K5.size; omega)))
            | (refine wpList_load26 rfl _ rfl g8 rfl L b7 ?_)
            | (refine wpList_load26 rfl _ rfl g1 rfl x B7 ?_))
          refine bodyPost_ret (results_two rfl _ _ _) rfl ?_
          exact ⟨.no HI.out rfl, K7⟩
        · have HI : Hid (isLf x = false) := hI
          clear Htold hI
          go_wp2_with (first
            | (go_at_call 16; refine (enc_at HR.out _ a4 _ c4 s4 (by omega)).mono ?_; rintro e w5 ⟨rfl, k5⟩; have B5 := bm.keep k5; have s5 := s4.keep k5; have K5 := KW.trans k5)
            | (refine wpList_alloc26 rfl rfl ?_; intro g8 w6 b6 z8 k6; have B6 := B5.keep k6; have s6 := s5.keep k6; have h18 : g1 ≠ g8 := (by have := B5.lt; omega); have K6 := K5.trans k6)
            | (refine wpList_store26 rfl _ _ rfl g8 rfl L rfl lL _ b6 ?_; intro w7 b7 k7; have B7 := B6.keeps k7 h18; have K7 : Keeps (fun _ => False) w w7 := K6.trans' k7 (fun i e => .inr (by have := K5.size; omega)))
            | (refine wpList_load26 rfl _ rfl g8 rfl L b7 ?_)
            | (refine wpList_load26 rfl _ rfl g1 rfl x B7 ?_))
          refine bodyPost_ret (results_two rfl _ _ _) rfl ?_
          exact ⟨.no HI.out rfl, K7⟩
end

end Go.Proofs.YthngaegfppbdmaaDoor
