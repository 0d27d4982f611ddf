
/-
  Numbers in slices; bytes in slices.
-/
import Derived.Test.YtkcnnkakpkdhkaaDoorRg
import Derived.Laws.AppendOwn
import Derived.Laws.CopyOwn
import Derived.Laws.AppendOwnNone
import Derived.Laws.BytesArg
import Derived.Laws.BytesString
import Derived.OrdersHeld
import Derived.BigQuiet
import Derived.Test.YtkcnnkakpkdhkaaDoorUa
import Derived.Test.YtkcnnkakpkdhkaaDoorSh
import Derived.Lib.ConvBytes
set_option linter.all false
set_option maxRecDepth 100000
namespace Go.Proofs.YtkcnnkakpkdhkaaDoor
open Go.RowKit Go.Sort

theorem Addr_add (b o j : Nat) : (⟨b, o, none⟩ : Addr).add j = ⟨b, o + j, none⟩ := by unfold Addr.add; split <;> simp_all
theorem cell_new1 (w : World) (v : Value) (t : TypeId) : (w.alloc (.cells #[v] t)).cell? ⟨w.heap.size, 0, none⟩ = some v := by
  rw [cell_of_row _ _ 0 _ _ _ (heap_alloc_new _ _)]; rfl
theorem keeps_alloc (w : World) (o : Obj) : Keeps (fun _ => False) w (w.alloc o) := (Keeps.refl _ _).alloc _
theorem ext_getD {α : Type} {l m : List α} {d : α} (hl : l.length = m.length) (h : ∀ j, j < l.length → l.getD j d = m.getD j d) : l = m := by
  apply List.ext_getElem hl
  intro i h1 h2
  have := h i h1
  rw [List.getD_eq_getElem?_getD, List.getD_eq_getElem?_getD, List.getElem?_eq_getElem h1, List.getElem?_eq_getElem h2] at this
  exact this
theorem Keeps.ofBelow {w w' : World} (h : RowKit.Below w.heap.size w w') : Keeps (fun _ => False) w w' := ⟨h.os, h.tape, h.output, h.size, fun k hk _ => h.block k hk⟩

/-- A slice of n numbers. -/
structure SlI (w : World) (a : Option Addr) (n c : Nat) (l : List Int) : Prop where
  len : l.length = n
  cap : n ≤ c
  at_ : ∀ j v, l[j]? = some v → ∃ b o, a = some ⟨b, o, none⟩ ∧ w.cell? ⟨b, o + j, none⟩ = some (.int .i64 v)

theorem SlI.keeps {S : Nat → Prop} {w w' : World} {a : Option Addr} {n c : Nat} {l : List Int} (h : SlI w a n c l) (hk : Keeps S w w') (hs : 0 < n → ∀ b o, a = some ⟨b, o, none⟩ → ¬ S b) : SlI w' a n c l :=
  ⟨h.len, h.cap, fun j x hx => by obtain ⟨b, o, e, hc⟩ := h.at_ j x hx; exact ⟨b, o, e, cell_keeps hk hc (hs (by have := (List.getElem?_eq_some_iff.1 hx).1; have := h.len; omega) b o e)⟩⟩

theorem SlI.keep {w w' : World} {a : Option Addr} {n c : Nat} {l : List Int} (h : SlI w a n c l) (hk : Keeps (fun _ => False) w w') : SlI w' a n c l := h.keeps hk (fun _ _ _ _ h => h)

theorem SlI.nil (w : World) : SlI w none 0 0 [] := ⟨rfl, Nat.le_refl _, fun j x hx => by simp at hx⟩

theorem SlI.ent {w : World} {a : Option Addr} {n c : Nat} {l : List Int} (h : SlI w a n c l) (h0 : 0 < n) : ∃ b o, a = some ⟨b, o, none⟩ ∧ b < w.heap.size ∧ ∀ w', Keeps (fun _ => False) w w' → ∀ i, i < n → w'.cell? ⟨b, o + i, none⟩ = some (.int .i64 (l.getD i 0)) := by
  have hl := h.len
  obtain ⟨b, o, rfl, hc⟩ := h.at_ 0 _ (List.getElem?_eq_getElem (by omega))
  refine ⟨b, o, rfl, World.block_lt_of_cell? w _ hc, fun w' hk i hi => ?_⟩
  obtain ⟨b', o', e, hc'⟩ := h.at_ i _ (List.getElem?_eq_getElem (by omega))
  cases e
  rw [List.getD_eq_getElem?_getD, List.getElem?_eq_getElem (by omega)]
  exact cell_keeps hk hc' (fun h => h)

/-- The slice v, in a block of one's own from base on, has the numbers l. -/
structure OwnI (w : World) (base : Nat) (v : Value) (l : List Int) : Prop where
  owns : w.ownsRow base 3 1 v l.length (l.map (Value.int .i64))

theorem OwnI.slice {w : World} {base : Nat} {v : Value} {l : List Int} (h : OwnI w base v l) : ∃ a c, v = .slice a l.length c ∧ SlI w a l.length c l ∧ (∀ b o, a = some ⟨b, o, none⟩ → base ≤ b) := by
  obtain ⟨_, ⟨rfl, h0⟩ | ⟨g, cap, cur, rfl, hb, hg, hn, hc, hs, ht⟩⟩ := h.owns
  · obtain rfl : l = [] := List.eq_nil_of_length_eq_zero h0
    exact ⟨none, 0, rfl, SlI.nil w, fun b o e => by cases e⟩
  · refine ⟨_, _, rfl, ⟨rfl, hn, fun j x hx => ⟨g, 0, rfl, ?_⟩⟩, (fun b o e => by cases e; exact hb)⟩
    have hj : j < l.length := (List.getElem?_eq_some_iff.1 hx).1
    have h1 : (cur.toList.take (l.length * 1))[j]? = some (.int .i64 x) := by rw [ht, List.getElem?_map, hx]; rfl
    rw [List.getElem?_take, if_pos (by omega)] at h1
    rw [Nat.zero_add, cell_of_row w g j _ _ _ hg]
    simp at h1
    exact h1

theorem OwnI.keeps {S : Nat → Prop} {w w' : World} {base : Nat} {v : Value} {l : List Int} (h : OwnI w base v l) (hk : Keeps S w w') (hS : ∀ i, i < w.heap.size → S i → i < base) : OwnI w' base v l := by
  obtain ⟨h1, h2⟩ := h.owns
  refine ⟨⟨h1, ?_⟩⟩
  rcases h2 with h2 | ⟨g, cap, cur, rfl, hb, hg, rest⟩
  · exact .inl h2
  · exact .inr ⟨g, cap, cur, rfl, hb, hk.row hg (fun hs => by have := hS g (lt_of_row hg) hs; omega), rest⟩

theorem OwnI.nil (w : World) (base : Nat) : OwnI w base (.slice none 0 0) [] := ⟨⟨by simp, .inl ⟨rfl, rfl⟩⟩⟩

theorem info3' : ∃ i, Tryd.prog.info? 3 = some i ∧ i.zero = some (.int .i64 0) ∧ i.size = 1 ∧ i.bytes = 8 := by
  cases h : Tryd.prog.info? 3 with
  | none => have : (Tryd.prog.info? 3).isSome = true := by kernel_rfl
            rw [h] at this; cases this
  | some i =>
    have h1 : (Tryd.prog.info? 3).map (fun i => (i.zero, i.size, i.bytes)) = some (some (.int .i64 0), 1, 8) := by kernel_rfl
    rw [h] at h1
    simp at h1
    exact ⟨i, rfl, h1.1, h1.2.1, h1.2.2⟩

theorem buildI (x : Int) (w : World) : (Instr.buildSlice 75 1 #[(0, .int .i64 x)]).run Tryd.prog w = .ok (.slice (some ⟨w.heap.size, 0, none⟩) 1 1) (w.alloc (.cells #[.int .i64 x] 3)) := by kernel_rfl

theorem wpList_build1I {ops : Array Oper} {rest : List Oper} {o : Oper} {a : Act} {w : World} {Q : Exit → Act → World → Prop} (hgd : o.guard = none) (x : Operand) (ho : o.op = .buildSlice 75 1 #[(0, x)]) (v : Int) (hx : a.eval x = .int .i64 v)
    (h : ∀ g w', w'.cell? ⟨g, 0, none⟩ = some (.int .i64 v) → w.heap.size ≤ g → Keeps (fun _ => False) w w' → wpList Tryd.prog ops Q rest (a.put o.dst (.slice (some ⟨g, 0, none⟩) 1 1)) w') : wpList Tryd.prog ops Q (o :: rest) a w := by
  refine wpList_plain hgd fun K hK => ?_
  unfold Oper.wp execOp
  simp only [ho, hx, List.map_toArray, List.map_cons, List.map_nil, buildI, Sem.run_bind, Result.andThen_ok, Sem.run_pure]
  exact hK _ _ (h w.heap.size _ (cell_new1 w _ _) (Nat.le_refl _) (keeps_alloc w _))

theorem wpList_appI {ops : Array Oper} {rest : List Oper} {o : Oper} {a : Act} {w : World} {Q : Exit → Act → World → Prop} (hgd : o.guard = none) (s x : Operand) (ho : o.op = .call { callee := .builtin .append, args := #[s, x], argTypes := #[75, 75] })
    (base : Nat) (v : Value) (l : List Int) (hs : a.eval s = v) (hown : OwnI w base v l) (g : Nat) (hx : a.eval x = .slice (some ⟨g, 0, none⟩) 1 1) (e : Int) (hl : w.cell? ⟨g, 0, none⟩ = some (.int .i64 e)) (hlen : l.length ≤ 100000) (hbase : base ≤ w.heap.size)
    (h : ∀ v' w', OwnI w' base v' (l ++ [e]) → Keeps (fun k => v.ownBlock = some k) w w' → wpList Tryd.prog ops Q rest (a.put o.dst v') w') : wpList Tryd.prog ops Q (o :: rest) a w := by
  obtain ⟨i, hi, hz, hsz, hby⟩ := info3'
  refine wpList_append_own _ hgd s x 75 ho base 3 i (.int .i64 0) 1 8 Tryd.underlying75 hi hz hsz hby rfl (by omega) v l.length _ hs hown.owns ⟨g, 0, none⟩ 1 1 [.int .i64 e] hx rfl (fun j u hu => ?_) (fun u hu => by
    obtain rfl : u = .int .i64 e := by simpa using hu
    rfl) (by unfold maxLen; omega) (by omega) hbase ?_
  · rw [Addr_add]
    have hj : j = 0 := by have := (List.getElem?_eq_some_iff.1 hu).1; simp at this; exact this
    subst hj
    cases hu
    exact hl
  · intro v' w' ho' hg _
    refine h v' w' ⟨?_⟩ ⟨hg.os, hg.tape, hg.output, hg.size, fun k hk hb => hg.block k hk fun e => hb e.symm⟩
    rw [List.map_append, List.length_append]; exact ho'

theorem results_tmp {fn : Func} {p : Tmp} (h : fn.results = #[.tmp p]) (tmps : Array Value) (P : Program) (w : World) : (results fn tmps).run P w = .ok (tmps.getD p undef) w := by
  simp [results, h]

theorem run_build0I (w : World) : (Instr.buildSlice 75 0 #[]).run Tryd.prog w = .ok (.slice (some ⟨w.heap.size, 0, none⟩) 0 0) (w.alloc (.cells #[] 3)) := by kernel_rfl

theorem wpList_build0I {ops : Array Oper} {rest : List Oper} {o : Oper} {a : Act} {w : World} {Q : Exit → Act → World → Prop} (hgd : o.guard = none) (ho : o.op = .buildSlice 75 0 #[])
    (h : ∀ g w', OwnI w' w.heap.size (.slice (some ⟨g, 0, none⟩) 0 0) [] → w.heap.size ≤ g → Keeps (fun _ => False) w w' → wpList Tryd.prog ops Q rest (a.put o.dst (.slice (some ⟨g, 0, none⟩) 0 0)) w') : wpList Tryd.prog ops Q (o :: rest) a w := by
  refine wpList_plain hgd fun K hK => ?_
  unfold Oper.wp execOp
  simp only [ho, List.map_toArray, List.map_nil, run_build0I, Sem.run_bind, Result.andThen_ok, Sem.run_pure]
  refine hK _ _ (h w.heap.size _ ⟨⟨by simp, .inr ⟨w.heap.size, 0, #[], rfl, Nat.le_refl _, heap_alloc_new w _, Nat.le_refl _, by unfold maxLen; omega, by simp, by simp⟩⟩⟩ (Nat.le_refl _) (keeps_alloc w _))

theorem wpList_appSIo {ops : Array Oper} {rest : List Oper} {o : Oper} {a : Act} {w : World} {Q : Exit → Act → World → Prop} (hgd : o.guard = none) (s x : Operand) (ho : o.op = .call { callee := .builtin .append, args := #[s, x], argTypes := #[75, 75] })
    (base : Nat) (v : Value) (hs : a.eval s = v) (hown : OwnI w base v []) (ad : Option Addr) (m c : Nat) (l1 : List Int) (hx : a.eval x = .slice ad m c) (hl : SlI w ad m c l1) (hnc : ad = none → c = 0) (hlen : m ≤ 100000) (hbase : base ≤ w.heap.size)
    (h : ∀ v' w', OwnI w' base v' l1 → Keeps (fun k => v.ownBlock = some k) w w' → wpList Tryd.prog ops Q rest (a.put o.dst v') w') : wpList Tryd.prog ops Q (o :: rest) a w := by
  obtain ⟨i, hi, hz, hsz, hby⟩ := info3'
  cases ad with
  | none =>
    obtain rfl : c = 0 := hnc rfl
    have hm : m = 0 := by have := hl.cap; omega
    subst hm
    obtain rfl : l1 = [] := List.eq_nil_of_length_eq_zero hl.len
    refine wpList_append_own_none hgd s x 75 ho base 3 i 1 Tryd.underlying75 hi v 0 _ hs hown.owns hx ?_
    exact h v w hown (Keeps.refl _ _)
  | some ad =>
    refine wpList_append_own _ hgd s x 75 ho base 3 i (.int .i64 0) 1 8 Tryd.underlying75 hi hz hsz hby rfl (by omega) v 0 _ hs hown.owns ad m c (l1.map (Value.int .i64)) hx (by rw [List.length_map, hl.len]; omega) (fun j u hu => ?_) (fun u hu => by
      obtain ⟨z, _, rfl⟩ := List.mem_map.1 hu
      rfl) (by unfold maxLen; omega) (by omega) hbase ?_
    · rw [List.getElem?_map] at hu
      cases hq : l1[j]? with
      | none => rw [hq] at hu; cases hu
      | some z =>
        rw [hq] at hu
        obtain ⟨b', o', e', hc⟩ := hl.at_ j z hq
        cases e'
        cases hu
        rw [Addr_add]
        exact hc
    · intro v' w' ho' hg _
      refine h v' w' ⟨?_⟩ ⟨hg.os, hg.tape, hg.output, hg.size, fun k hk hb => hg.block k hk fun e => hb e.symm⟩
      rw [hl.len]
      simpa using ho'

theorem OwnI.from {w : World} {base g : Nat} {v : Value} {l : List Int} (h : OwnI w base v l) (e : v.ownBlock = some g) : base ≤ g ∧ g < w.heap.size := h.owns.lt g e

/-! Bytes in slices. -/
structure SlU (w : World) (a : Option Addr) (n c : Nat) (l : List UInt8) : Prop where
  len : l.length = n
  cap : n ≤ c
  at_ : ∀ j v, l[j]? = some v → ∃ b o, a = some ⟨b, o, none⟩ ∧ w.cell? ⟨b, o + j, none⟩ = some (.int .u8 v.toNat)
theorem SlU.keeps {S : Nat → Prop} {w w' : World} {a : Option Addr} {n c : Nat} {l : List UInt8} (h : SlU w a n c l) (hk : Keeps S w w') (hs : 0 < n → ∀ b o, a = some ⟨b, o, none⟩ → ¬ S b) : SlU w' a n c l :=
  ⟨h.len, h.cap, fun j x hx => by obtain ⟨b, o, e, hc⟩ := h.at_ j x hx; exact ⟨b, o, e, cell_keeps hk hc (hs (by have := (List.getElem?_eq_some_iff.1 hx).1; have := h.len; omega) b o e)⟩⟩
theorem SlU.keep {w w' : World} {a : Option Addr} {n c : Nat} {l : List UInt8} (h : SlU w a n c l) (hk : Keeps (fun _ => False) w w') : SlU w' a n c l := h.keeps hk (fun _ _ _ _ h => h)
theorem SlU.nil (w : World) : SlU w none 0 0 [] := ⟨rfl, Nat.le_refl _, fun j x hx => by simp at hx⟩
theorem SlU.row {w : World} {g : Nat} {l : List UInt8} {ty : TypeId} {fr : Nat × Nat} (hg : w.heap[g]? = some (.cells (Lib.byteCells l).toArray ty fr)) : SlU w (some ⟨g, 0, none⟩) l.length l.length l :=
  ⟨rfl, Nat.le_refl _, fun j v hv => ⟨g, 0, rfl, by
    rw [cell_of_row _ _ _ _ _ _ hg, Nat.zero_add, List.getElem?_toArray]
    simp [Lib.byteCells, hv]⟩⟩
theorem conv_su {w : World} {a : Option Addr} {n c : Nat} {l : List UInt8} (h : SlU w a n c l) : (convert 43 9 (.slice a n c)).run Tryd.prog w = .ok (.string ⟨l.toArray⟩) w := by
  have hlen := h.len
  rcases Nat.eq_zero_or_pos n with h0 | h0
  · subst h0
    obtain rfl : l = [] := List.eq_nil_of_length_eq_zero hlen
    rw [run_convert_bytes_string w 43 9 5 a 0 c Tryd.underlying43 Tryd.underlying5 Tryd.underlying9]
    cases a with
    | none => rfl
    | some a => exact (run_bytesToString w a 0 c [] (by simp [loadCells, loadCellsFrom]))
  · obtain ⟨b, o, rfl, _⟩ := h.at_ 0 _ (List.getElem?_eq_getElem (by omega))
    have hs : strOfNums (l.map fun x => (x.toNat : Int)) = ⟨l.toArray⟩ := by
      unfold strOfNums
      rw [List.map_map]
      congr 2
      conv => rhs; rw [← List.map_id l]
      apply List.map_congr_left
      intro x _
      simp
    rw [← hs]
    refine run_convert_bytes_arg w 43 5 Tryd.underlying43 Tryd.underlying5 b o n c _ (by simp [hlen]) (fun i hi => ?_) 9 Tryd.underlying9
    obtain ⟨b', o', e, hc⟩ := h.at_ i _ (List.getElem?_eq_getElem (by omega))
    cases e
    rw [hc]
    simp [List.getD, hlen, hi]

structure OwnU (w : World) (base : Nat) (v : Value) (l : List UInt8) : Prop where
  owns : w.ownsRow base 5 1 v l.length (Lib.byteCells l)
theorem OwnU.nil (w : World) (base : Nat) : OwnU w base (.slice none 0 0) [] := ⟨⟨by simp [Lib.byteCells], .inl ⟨rfl, rfl⟩⟩⟩
theorem OwnU.slice {w : World} {base : Nat} {v : Value} {l : List UInt8} (h : OwnU w base v l) : ∃ a c, v = .slice a l.length c ∧ SlU w a l.length c l ∧ (∀ b o, a = some ⟨b, o, none⟩ → base ≤ b) := by
  obtain ⟨hl, ⟨rfl, h0⟩ | ⟨g, cap, cur, rfl, hb, hg, hn, hc, hs, ht⟩⟩ := h.owns
  · obtain rfl : l = [] := List.eq_nil_of_length_eq_zero h0
    exact ⟨none, 0, rfl, SlU.nil w, fun b o e => by cases e⟩
  · refine ⟨_, _, rfl, ⟨rfl, hn, fun j x hx => ⟨g, 0, rfl, ?_⟩⟩, (fun b o e => by cases e; exact hb)⟩
    have hj : j < l.length := (List.getElem?_eq_some_iff.1 hx).1
    have h1 : (cur.toList.take (l.length * 1))[j]? = some (.int .u8 x.toNat) := by rw [ht]; simp [Lib.byteCells, hx]
    rw [List.getElem?_take, if_pos (by omega)] at h1
    rw [Nat.zero_add, cell_of_row w g j _ _ _ hg]
    simp at h1
    exact h1
theorem OwnU.keeps {S : Nat → Prop} {w w' : World} {base : Nat} {v : Value} {l : List UInt8} (h : OwnU w base v l) (hk : Keeps S w w') (hS : ∀ i, i < w.heap.size → S i → i < base) : OwnU w' base v l := by
  obtain ⟨h1, h2⟩ := h.owns
  refine ⟨⟨h1, ?_⟩⟩
  rcases h2 with h2 | ⟨g, cap, cur, rfl, hb, hg, rest⟩
  · exact .inl h2
  · exact .inr ⟨g, cap, cur, rfl, hb, hk.row hg (fun hs => by have := hS g (lt_of_row hg) hs; omega), rest⟩
theorem info5' : ∃ i, Tryd.prog.info? 5 = some i ∧ i.zero = some (.int .u8 0) ∧ i.size = 1 ∧ i.bytes = 1 := by
  cases h : Tryd.prog.info? 5 with
  | none => have : (Tryd.prog.info? 5).isSome = true := by kernel_rfl
            rw [h] at this; cases this
  | some i =>
    have h1 : (Tryd.prog.info? 5).map (fun i => (i.zero, i.size, i.bytes)) = some (some (.int .u8 0), 1, 1) := by kernel_rfl
    rw [h] at h1
    simp at h1
    exact ⟨i, rfl, h1.1, h1.2.1, h1.2.2⟩
theorem wpList_appU {ops : Array Oper} {rest : List Oper} {o : Oper} {a : Act} {w : World} {Q : Exit → Act → World → Prop} (hgd : o.guard = none) (s x : Operand) (ho : o.op = .call { callee := .builtin .append, args := #[s, x], argTypes := #[43, 43] })
    (base : Nat) (v : Value) (l0 : List UInt8) (hs : a.eval s = v) (hown : OwnU w base v l0) (ad : Option Addr) (m c : Nat) (l1 : List UInt8) (hx : a.eval x = .slice ad m c) (hl : SlU w ad m c l1) (h0 : 0 < m) (hlen : l0.length + m ≤ 1000000) (hbase : base ≤ w.heap.size)
    (h : ∀ v' w', OwnU w' base v' (l0 ++ l1) → Keeps (fun k => v.ownBlock = some k) w w' → wpList Tryd.prog ops Q rest (a.put o.dst v') w') : wpList Tryd.prog ops Q (o :: rest) a w := by
  obtain ⟨i, hi, hz, hsz, hby⟩ := info5'
  have hl1 := hl.len
  obtain ⟨b, o', rfl, _⟩ := hl.at_ 0 _ (List.getElem?_eq_getElem (by omega))
  refine wpList_append_own _ hgd s x 43 ho base 5 i (.int .u8 0) 1 1 Tryd.underlying43 hi hz hsz hby rfl (by omega) v l0.length _ hs hown.owns ⟨b, o', none⟩ m c (Lib.byteCells l1) hx (by simp [hl1, Lib.byteCells]) (fun j u hu => ?_) (fun u hu => ?_) (by unfold maxLen; omega) (by omega) hbase ?_
  · cases hq : l1[j]? with
    | none => simp [Lib.byteCells, hq] at hu
    | some y =>
      obtain ⟨b', o2, e, hc⟩ := hl.at_ j y hq
      cases e
      rw [Addr_add, hc]
      simp [Lib.byteCells, hq] at hu
      rw [hu]
  · simp [Lib.byteCells] at hu
    obtain ⟨z, _, rfl⟩ := hu
    rfl
  · intro v' w' ho' hg _
    refine h v' w' ⟨?_⟩ ⟨hg.os, hg.tape, hg.output, hg.size, fun k hk hb => hg.block k hk fun e => hb e.symm⟩
    rw [List.length_append, hl1, Lib.byteCells_append]; exact ho'
theorem buildU1 (p : Int) (w : World) : (Instr.buildSlice 43 1 #[(0, .int .u8 p)]).run Tryd.prog w = .ok (.slice (some ⟨w.heap.size, 0, none⟩) 1 1) (w.alloc (.cells #[.int .u8 p] 5)) := by kernel_rfl
theorem buildU2 (p q : Int) (w : World) : (Instr.buildSlice 43 2 #[(0, .int .u8 p), (1, .int .u8 q)]).run Tryd.prog w = .ok (.slice (some ⟨w.heap.size, 0, none⟩) 2 2) (w.alloc (.cells #[.int .u8 p, .int .u8 q] 5)) := by kernel_rfl
theorem buildU3 (p q r : Int) (w : World) : (Instr.buildSlice 43 3 #[(0, .int .u8 p), (1, .int .u8 q), (2, .int .u8 r)]).run Tryd.prog w = .ok (.slice (some ⟨w.heap.size, 0, none⟩) 3 3) (w.alloc (.cells #[.int .u8 p, .int .u8 q, .int .u8 r] 5)) := by kernel_rfl
theorem buildU4 (p q r s : Int) (w : World) : (Instr.buildSlice 43 4 #[(0, .int .u8 p), (1, .int .u8 q), (2, .int .u8 r), (3, .int .u8 s)]).run Tryd.prog w = .ok (.slice (some ⟨w.heap.size, 0, none⟩) 4 4) (w.alloc (.cells #[.int .u8 p, .int .u8 q, .int .u8 r, .int .u8 s] 5)) := by kernel_rfl
theorem buildN (l : List Int) (n : Nat) (hn : l.length = n) (w w' : World) (g : Nat) (h : w'.heap[g]? = some (.cells (l.map (Value.int .i64)).toArray 3 (0, 0))) : SlI w' (some ⟨g, 0, none⟩) n n l :=
  ⟨hn, Nat.le_refl _, fun j v hv => ⟨g, 0, rfl, by rw [cell_of_row _ _ _ _ _ _ h, Nat.zero_add, List.getElem?_toArray]; simp [hv]⟩⟩
theorem buildI2 (p q : Int) (w : World) : (Instr.buildSlice 75 2 #[(0, .int .i64 p), (1, .int .i64 q)]).run Tryd.prog w = .ok (.slice (some ⟨w.heap.size, 0, none⟩) 2 2) (w.alloc (.cells #[.int .i64 p, .int .i64 q] 3)) := by kernel_rfl
theorem buildI4 (p q r s : Int) (w : World) : (Instr.buildSlice 75 4 #[(0, .int .i64 p), (1, .int .i64 q), (2, .int .i64 r), (3, .int .i64 s)]).run Tryd.prog w = .ok (.slice (some ⟨w.heap.size, 0, none⟩) 4 4) (w.alloc (.cells #[.int .i64 p, .int .i64 q, .int .i64 r, .int .i64 s] 3)) := by kernel_rfl

end Go.Proofs.YtkcnnkakpkdhkaaDoor
