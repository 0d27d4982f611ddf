
/-
  Texts in slices.
-/
import Derived.Test.YtkcnnkakpkdhkaaDoorVa
set_option linter.all false
set_option maxRecDepth 100000
namespace Go.Proofs.YtkcnnkakpkdhkaaDoor
open Go.RowKit Go.Sort

/-- A text as a value. -/
abbrev encT (x : List UInt8) : Value := .string (bs x)
/-- A slice of n texts. -/
structure SlT (w : World) (a : Option Addr) (n c : Nat) (l : List (List UInt8)) : Prop where
  len : l.length = n
  cap : n ≤ c
  at_ : ∀ j v, l[j]? = some v → ∃ b o, a = some ⟨b, o, none⟩ ∧ w.cell? ⟨b, o + j, none⟩ = some (.string (bs v))


theorem SlT.keeps {S : Nat → Prop} {w w' : World} {a : Option Addr} {n c : Nat} {l : List (List UInt8)} (h : SlT w a n c l) (hk : Keeps S w w') (hs : 0 < n → ∀ b o, a = some ⟨b, o, none⟩ → ¬ S b) : SlT w' a n c l :=
  ⟨h.len, h.cap, fun j x hx => by obtain ⟨b, o, e, hc⟩ := h.at_ j x hx; exact ⟨b, o, e, cell_keeps hk hc (hs (by have := (List.getElem?_eq_some_iff.1 hx).1; have := h.len; omega) b o e)⟩⟩


theorem SlT.keep {w w' : World} {a : Option Addr} {n c : Nat} {l : List (List UInt8)} (h : SlT w a n c l) (hk : Keeps (fun _ => False) w w') : SlT w' a n c l := h.keeps hk (fun _ _ _ _ h => h)


theorem SlT.nil (w : World) : SlT w none 0 0 [] := ⟨rfl, Nat.le_refl _, fun j x hx => by simp at hx⟩


theorem SlT.ent {w : World} {a : Option Addr} {n c : Nat} {l : List (List UInt8)} (h : SlT w a n c l) (h0 : 0 < n) : ∃ b o, a = some ⟨b, o, none⟩ ∧ b < w.heap.size ∧ ∀ w', Keeps (fun _ => False) w w' → ∀ i, i < n → w'.cell? ⟨b, o + i, none⟩ = some (.string (bs (l.getD i []))) := by
  have hl := h.len
  obtain ⟨b, o, rfl, hc⟩ := h.at_ 0 _ (List.getElem?_eq_getElem (by omega))
  refine ⟨b, o, rfl, World.block_lt_of_cell? w _ hc, fun w' hk i hi => ?_⟩
  obtain ⟨b', o', e, hc'⟩ := h.at_ i _ (List.getElem?_eq_getElem (by omega))
  cases e
  rw [List.getD_eq_getElem?_getD, List.getElem?_eq_getElem (by omega)]
  exact cell_keeps hk hc' (fun h => h)


/-- The slice v, in a block of one's own from base on, has the texts l. -/
structure OwnT (w : World) (base : Nat) (v : Value) (l : List (List UInt8)) : Prop where
  owns : w.ownsRow base 9 1 v l.length (l.map encT)


theorem OwnT.slice {w : World} {base : Nat} {v : Value} {l : List (List UInt8)} (h : OwnT w base v l) : ∃ a c, v = .slice a l.length c ∧ SlT w a l.length c l ∧ (∀ b o, a = some ⟨b, o, none⟩ → base ≤ b) := by
  obtain ⟨_, ⟨rfl, h0⟩ | ⟨g, cap, cur, rfl, hb, hg, hn, hc, hs, ht⟩⟩ := h.owns
  · obtain rfl : l = [] := List.eq_nil_of_length_eq_zero h0
    exact ⟨none, 0, rfl, SlT.nil w, fun b o e => by cases e⟩
  · refine ⟨_, _, rfl, ⟨rfl, hn, fun j x hx => ⟨g, 0, rfl, ?_⟩⟩, (fun b o e => by cases e; exact hb)⟩
    have hj : j < l.length := (List.getElem?_eq_some_iff.1 hx).1
    have h1 : (cur.toList.take (l.length * 1))[j]? = some (.string (bs x)) := by rw [ht, List.getElem?_map, hx]; rfl
    rw [List.getElem?_take, if_pos (by omega)] at h1
    rw [Nat.zero_add, cell_of_row w g j _ _ _ hg]
    simp at h1
    exact h1


theorem OwnT.keeps {S : Nat → Prop} {w w' : World} {base : Nat} {v : Value} {l : List (List UInt8)} (h : OwnT w base v l) (hk : Keeps S w w') (hS : ∀ i, i < w.heap.size → S i → i < base) : OwnT w' base v l := by
  obtain ⟨h1, h2⟩ := h.owns
  refine ⟨⟨h1, ?_⟩⟩
  rcases h2 with h2 | ⟨g, cap, cur, rfl, hb, hg, rest⟩
  · exact .inl h2
  · exact .inr ⟨g, cap, cur, rfl, hb, hk.row hg (fun hs => by have := hS g (lt_of_row hg) hs; omega), rest⟩


theorem OwnT.nil (w : World) (base : Nat) : OwnT w base (.slice none 0 0) [] := ⟨⟨by simp, .inl ⟨rfl, rfl⟩⟩⟩


theorem info9' : ∃ i, Tryd.prog.info? 9 = some i ∧ i.zero = some (.string ⟨#[]⟩) ∧ i.size = 1 ∧ i.bytes = 16 := by
  cases h : Tryd.prog.info? 9 with
  | none => have : (Tryd.prog.info? 9).isSome = true := by kernel_rfl
            rw [h] at this; cases this
  | some i =>
    have h1 : (Tryd.prog.info? 9).map (fun i => (i.zero, i.size, i.bytes)) = some (some (.string ⟨#[]⟩), 1, 16) := by kernel_rfl
    rw [h] at h1
    simp at h1
    exact ⟨i, rfl, h1.1, h1.2.1, h1.2.2⟩


theorem buildT (x : List UInt8) (w : World) : (Instr.buildSlice 37 1 #[(0, .string (bs x))]).run Tryd.prog w = .ok (.slice (some ⟨w.heap.size, 0, none⟩) 1 1) (w.alloc (.cells #[.string (bs x)] 9)) := by kernel_rfl


theorem wpList_build1T {ops : Array Oper} {rest : List Oper} {o : Oper} {a : Act} {w : World} {Q : Exit → Act → World → Prop} (hgd : o.guard = none) (x : Operand) (ho : o.op = .buildSlice 37 1 #[(0, x)]) (v : List UInt8) (hx : a.eval x = .string (bs v))
    (h : ∀ g w', w'.cell? ⟨g, 0, none⟩ = some (.string (bs v)) → w.heap.size ≤ g → Keeps (fun _ => False) w w' → wpList Tryd.prog ops Q rest (a.put o.dst (.slice (some ⟨g, 0, none⟩) 1 1)) w') : wpList Tryd.prog ops Q (o :: rest) a w := by
  refine wpList_plain hgd fun K hK => ?_
  unfold Oper.wp execOp
  simp only [ho, hx, List.map_toArray, List.map_cons, List.map_nil, buildT, Sem.run_bind, Result.andThen_ok, Sem.run_pure]
  exact hK _ _ (h w.heap.size _ (cell_new1 w _ _) (Nat.le_refl _) (keeps_alloc w _))


theorem wpList_appT {ops : Array Oper} {rest : List Oper} {o : Oper} {a : Act} {w : World} {Q : Exit → Act → World → Prop} (hgd : o.guard = none) (s x : Operand) (ho : o.op = .call { callee := .builtin .append, args := #[s, x], argTypes := #[37, 37] })
    (base : Nat) (v : Value) (l : List (List UInt8)) (hs : a.eval s = v) (hown : OwnT w base v l) (g : Nat) (hx : a.eval x = .slice (some ⟨g, 0, none⟩) 1 1) (e : List UInt8) (hl : w.cell? ⟨g, 0, none⟩ = some (.string (bs e))) (hlen : l.length ≤ 100000) (hbase : base ≤ w.heap.size)
    (h : ∀ v' w', OwnT w' base v' (l ++ [e]) → Keeps (fun k => v.ownBlock = some k) w w' → wpList Tryd.prog ops Q rest (a.put o.dst v') w') : wpList Tryd.prog ops Q (o :: rest) a w := by
  obtain ⟨i, hi, hz, hsz, hby⟩ := info9'
  refine wpList_append_own _ hgd s x 37 ho base 9 i (.string ⟨#[]⟩) 1 16 Tryd.underlying37 hi hz hsz hby rfl (by omega) v l.length _ hs hown.owns ⟨g, 0, none⟩ 1 1 [.string (bs e)] hx rfl (fun j u hu => ?_) (fun u hu => by
    obtain rfl : u = .string (bs e) := by simpa using hu
    rfl) (by unfold maxLen; omega) (by omega) hbase ?_
  · rw [Addr_add]
    have hj : j = 0 := by have := (List.getElem?_eq_some_iff.1 hu).1; simp at this; exact this
    subst hj
    cases hu
    exact hl
  · intro v' w' ho' hg _
    refine h v' w' ⟨?_⟩ ⟨hg.os, hg.tape, hg.output, hg.size, fun k hk hb => hg.block k hk fun e => hb e.symm⟩
    rw [List.map_append, List.length_append]; exact ho'


theorem run_build0T (w : World) : (Instr.buildSlice 37 0 #[]).run Tryd.prog w = .ok (.slice (some ⟨w.heap.size, 0, none⟩) 0 0) (w.alloc (.cells #[] 9)) := by kernel_rfl


theorem wpList_build0T {ops : Array Oper} {rest : List Oper} {o : Oper} {a : Act} {w : World} {Q : Exit → Act → World → Prop} (hgd : o.guard = none) (ho : o.op = .buildSlice 37 0 #[])
    (h : ∀ g w', OwnT w' w.heap.size (.slice (some ⟨g, 0, none⟩) 0 0) [] → w.heap.size ≤ g → Keeps (fun _ => False) w w' → wpList Tryd.prog ops Q rest (a.put o.dst (.slice (some ⟨g, 0, none⟩) 0 0)) w') : wpList Tryd.prog ops Q (o :: rest) a w := by
  refine wpList_plain hgd fun K hK => ?_
  unfold Oper.wp execOp
  simp only [ho, List.map_toArray, List.map_nil, run_build0T, Sem.run_bind, Result.andThen_ok, Sem.run_pure]
  refine hK _ _ (h w.heap.size _ ⟨⟨by simp, .inr ⟨w.heap.size, 0, #[], rfl, Nat.le_refl _, heap_alloc_new w _, Nat.le_refl _, by unfold maxLen; omega, by simp, by simp⟩⟩⟩ (Nat.le_refl _) (keeps_alloc w _))


theorem OwnT.from {w : World} {base g : Nat} {v : Value} {l : List (List UInt8)} (h : OwnT w base v l) (e : v.ownBlock = some g) : base ≤ g ∧ g < w.heap.size := h.owns.lt g e


theorem OwnT.slice2 {w : World} {base : Nat} {v : Value} {l : List (List UInt8)} (h : OwnT w base v l) : ∃ a c, v = .slice a l.length c ∧ SlT w a l.length c l ∧ (a = none → c = 0) ∧ (∀ b o, a = some ⟨b, o, none⟩ → base ≤ b) := by
  obtain ⟨_, ⟨rfl, h0⟩ | ⟨g, cap, cur, rfl, hb, hg, hn, hc, hs, ht⟩⟩ := h.owns
  · obtain rfl : l = [] := List.eq_nil_of_length_eq_zero h0
    exact ⟨none, 0, rfl, SlT.nil w, fun _ => rfl, fun b o e => by cases e⟩
  · refine ⟨_, _, rfl, ⟨rfl, hn, fun j x hx => ⟨g, 0, rfl, ?_⟩⟩, (fun e => by cases e), (fun b o e => by cases e; exact hb)⟩
    have hj : j < l.length := (List.getElem?_eq_some_iff.1 hx).1
    have h1 : (cur.toList.take (l.length * 1))[j]? = some (.string (bs x)) := by rw [ht, List.getElem?_map, hx]; rfl
    rw [List.getElem?_take, if_pos (by omega)] at h1
    rw [Nat.zero_add, cell_of_row w g j _ _ _ hg]
    simp at h1
    exact h1


theorem wpList_appTs {ops : Array Oper} {rest : List Oper} {o : Oper} {a : Act} {w : World} {Q : Exit → Act → World → Prop} (hgd : o.guard = none) (s x : Operand) (ho : o.op = .call { callee := .builtin .append, args := #[s, x], argTypes := #[37, 37] })
    (base : Nat) (v : Value) (l0 : List (List UInt8)) (hs : a.eval s = v) (hown : OwnT w base v l0) (ad : Option Addr) (m c : Nat) (l1 : List (List UInt8)) (hx : a.eval x = .slice ad m c) (hl : SlT w ad m c l1) (hnc : ad = none → c = 0) (hlen : l0.length + m ≤ 100000) (hbase : base ≤ w.heap.size)
    (h : ∀ v' w', OwnT w' base v' (l0 ++ l1) → Keeps (fun k => v.ownBlock = some k) w w' → wpList Tryd.prog ops Q rest (a.put o.dst v') w') : wpList Tryd.prog ops Q (o :: rest) a w := by
  obtain ⟨i, hi, hz, hsz, hby⟩ := info9'
  cases ad with
  | none =>
    obtain rfl : c = 0 := hnc rfl
    have hm : m = 0 := by have := hl.cap; omega
    subst hm
    obtain rfl : l1 = [] := List.eq_nil_of_length_eq_zero hl.len
    refine wpList_append_own_none hgd s x 37 ho base 9 i 1 Tryd.underlying37 hi v l0.length _ hs hown.owns hx ?_
    exact h v w (by rw [List.append_nil]; exact hown) (Keeps.refl _ _)
  | some ad =>
    refine wpList_append_own _ hgd s x 37 ho base 9 i (.string ⟨#[]⟩) 1 16 Tryd.underlying37 hi hz hsz hby rfl (by omega) v l0.length _ hs hown.owns ad m c (l1.map encT) hx (by rw [List.length_map, hl.len]; omega) (fun j u hu => ?_) (fun u hu => by
      obtain ⟨z, _, rfl⟩ := List.mem_map.1 hu
      rfl) (by unfold maxLen; omega) (by omega) hbase ?_
    · rw [List.getElem?_map] at hu
      cases hq : l1[j]? with
      | none => rw [hq] at hu; cases hu
      | some z =>
        rw [hq] at hu
        obtain ⟨b', o', e', hc⟩ := hl.at_ j z hq
        cases e'
        cases hu
        rw [Addr_add]
        exact hc
    · intro v' w' ho' hg _
      refine h v' w' ⟨?_⟩ ⟨hg.os, hg.tape, hg.output, hg.size, fun k hk hb => hg.block k hk fun e => hb e.symm⟩
      rw [List.length_append, hl.len, List.map_append]
      exact ho'


theorem SlT.ent2 {w : World} {a : Option Addr} {n c : Nat} {l : List (List UInt8)} (h : SlT w a n c l) {i : Nat} (hi : i < n) : ∃ b o, a = some ⟨b, o, none⟩ ∧ b < w.heap.size ∧ w.cell? ⟨b, o + i, none⟩ = some (.string (bs (l.getD i []))) := by
  obtain ⟨b, o, e, hb, hE⟩ := h.ent (by omega)
  exact ⟨b, o, e, hb, hE w (Keeps.refl _ _) i hi⟩

end Go.Proofs.YtkcnnkakpkdhkaaDoor
