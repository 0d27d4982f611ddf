
/-
  Parts in memory: read, and in a row of one's own.
-/
import Derived.Test.YtkcnnkakpkdhkaaDoorVd
set_option linter.all false
set_option maxRecDepth 100000
namespace Go.Proofs.YtkcnnkakpkdhkaaDoor
open Go.RowKit Go.Sort Go.Shelf
attribute [local go_sem] Oper.semAt_some

/-- v is a slice of the words ws, in a block of texts. -/
structure Wd (w : World) (v : Value) (ws : List (List UInt8)) : Prop where
  out : ∃ a n c, v = .slice a n c ∧ SlT w a n c ws ∧ (a = none → c = 0) ∧ (∀ b o, a = some ⟨b, o, none⟩ → ∃ cs fr, w.heap[b]? = some (.cells cs 9 fr))
theorem Wd.keeps {S : Nat → Prop} {w w' : World} {v : Value} {ws : List (List UInt8)} (h : Wd w v ws) (hk : Keeps S w w') (hS : ∀ b cs fr, w.heap[b]? = some (.cells cs 9 fr) → ¬ S b) : Wd w' v ws := by
  obtain ⟨a, n, c, rfl, hs, hn, hb⟩ := h.out
  refine ⟨a, n, c, rfl, hs.keeps hk (fun _ b o e => ?_), hn, fun b o e => ?_⟩
  · obtain ⟨cs, fr, h1⟩ := hb b o e
    exact hS b cs fr h1
  · obtain ⟨cs, fr, h1⟩ := hb b o e
    exact ⟨cs, fr, hk.row h1 (hS b cs fr h1)⟩
theorem Wd.keep {w w' : World} {v : Value} {ws : List (List UInt8)} (h : Wd w v ws) (hk : Keeps (fun _ => False) w w') : Wd w' v ws := h.keeps hk (fun _ _ _ _ h => h)
theorem Wd.past {w w' : World} {v : Value} {ws : List (List UInt8)} {S : Nat → Prop} (h : Wd w v ws) (hk : Keeps S w w') (hS : ∀ k, S k → w.heap.size ≤ k) : Wd w' v ws :=
  h.keeps hk (fun b cs fr e hs => by have := hS b hs; have := lt_of_row e; omega)
theorem OwnT.wd {w : World} {base : Nat} {v : Value} {l : List (List UInt8)} (h : OwnT w base v l) : Wd w v l := by
  obtain ⟨_, ⟨rfl, h0⟩ | ⟨g, cap, cur, rfl, hb, hg, hn, hc, hs, ht⟩⟩ := h.owns
  · obtain rfl : l = [] := List.eq_nil_of_length_eq_zero h0
    exact ⟨none, 0, 0, rfl, SlT.nil w, fun _ => rfl, fun b o e => by cases e⟩
  · obtain ⟨a, c, e, hS, hz, hB⟩ := h.slice2
    cases e
    exact ⟨_, _, _, rfl, hS, (fun e => by cases e), (fun b o e => by cases e; exact ⟨_, _, hg⟩)⟩
theorem Wd.sl {w : World} {v : Value} {ws : List (List UInt8)} {a : Option Addr} {n c : Nat} (h : Wd w v ws) (e : v = .slice a n c) : SlT w a n c ws := by
  obtain ⟨a', n', c', e', hs, _⟩ := h.out
  rw [e] at e'; cases e'; exact hs
theorem Wd.nil (w : World) : Wd w (.slice none 0 0) [] := ⟨none, 0, 0, rfl, SlT.nil w, fun _ => rfl, fun b o e => by cases e⟩
/-- All but the first. -/
theorem Wd.tail {w : World} {b o n c : Nat} {ws : List (List UInt8)} (h : Wd w (.slice (some ⟨b, o, none⟩) n c) ws) (h1 : 1 ≤ n) : Wd w (.slice (some ⟨b, o + 1, none⟩) (n - 1) (c - 1)) ws.tail := by
  obtain ⟨a, n', c', e, hs, hz, hb⟩ := h.out
  cases e
  refine ⟨_, _, _, rfl, ⟨by rw [List.length_tail, hs.len], by have := hs.cap; omega, fun j v hv => ?_⟩, (fun e => by cases e), (fun b' o' e => by cases e; exact hb b o rfl)⟩
  rw [List.getElem?_tail] at hv
  obtain ⟨b', o', e, hc⟩ := hs.at_ (j + 1) v hv
  cases e
  exact ⟨b, o + 1, rfl, by rw [← hc]; congr 2; omega⟩

/-- Cells of parts. -/
def pcs (l : List (Int × Value)) : List Value := l.flatMap fun x => [.int .i64 x.1, x.2]
theorem pcs_len (l : List (Int × Value)) : (pcs l).length = l.length * 2 := by
  induction l with
  | nil => rfl
  | cons x l ih => unfold pcs at ih ⊢; rw [List.flatMap_cons, List.length_append, ih]; simp; omega
theorem pcs_app (l m : List (Int × Value)) : pcs (l ++ m) = pcs l ++ pcs m := by simp [pcs]
theorem pcs_at (l : List (Int × Value)) (j : Nat) (x : Int × Value) (h : l[j]? = some x) : (pcs l)[2 * j]? = some (.int .i64 x.1) ∧ (pcs l)[2 * j + 1]? = some x.2 := by
  induction l generalizing j with
  | nil => simp at h
  | cons y l ih =>
    have e : pcs (y :: l) = [.int .i64 y.1, y.2] ++ pcs l := rfl
    cases j with
    | zero => simp at h; subst h; exact ⟨rfl, rfl⟩
    | succ j =>
      rw [List.getElem?_cons_succ] at h
      obtain ⟨h1, h2⟩ := ih j h
      rw [e]
      refine ⟨?_, ?_⟩
      · rw [List.getElem?_append_right (by simp; omega)]; rw [← h1]; congr 1
      · rw [List.getElem?_append_right (by simp; omega)]; rw [← h2]; congr 1
/-- The slice v, in a row of one's own from base on, has these kinds and slices. -/
structure OwnP (w : World) (base : Nat) (v : Value) (l : List (Int × Value)) : Prop where
  owns : w.ownsRow base 41 2 v l.length (pcs l)
theorem OwnP.keeps {S : Nat → Prop} {w w' : World} {base : Nat} {v : Value} {l : List (Int × Value)} (h : OwnP w base v l) (hk : Keeps S w w') (hS : ∀ i cs fr, w.heap[i]? = some (.cells cs 41 fr) → S i → i < base) : OwnP w' base v l := by
  obtain ⟨h1, h2⟩ := h.owns
  refine ⟨⟨h1, ?_⟩⟩
  rcases h2 with h2 | ⟨g, cap, cur, rfl, hb, hg, rest⟩
  · exact .inl h2
  · exact .inr ⟨g, cap, cur, rfl, hb, hk.row hg (fun hs => by have := hS g _ _ hg hs; omega), rest⟩
theorem OwnP.keep {w w' : World} {base : Nat} {v : Value} {l : List (Int × Value)} (h : OwnP w base v l) (hk : Keeps (fun _ => False) w w') : OwnP w' base v l := h.keeps hk (fun _ _ _ _ h => h.elim)
theorem OwnP.nil (w : World) (base : Nat) : OwnP w base (.slice none 0 0) [] := ⟨⟨by simp [pcs], .inl ⟨rfl, rfl⟩⟩⟩
theorem OwnP.no9 {w : World} {base : Nat} {v : Value} {l : List (Int × Value)} (h : OwnP w base v l) : ∀ b cs fr, w.heap[b]? = some (.cells cs 9 fr) → ¬ v.ownBlock = some b := by
  intro b cs fr hb e
  obtain ⟨_, h2⟩ := h.owns
  rcases h2 with ⟨rfl, _⟩ | ⟨g, cap, cur, rfl, hb2, hg, rest⟩
  · cases e
  · have : g = b := by simpa [Value.ownBlock] using e
    subst this
    rw [hg] at hb
    simp at hb
theorem OwnP.from {w : World} {base g : Nat} {v : Value} {l : List (Int × Value)} (h : OwnP w base v l) (e : v.ownBlock = some g) : base ≤ g ∧ g < w.heap.size := h.owns.lt g e

/-- A part in a block. -/
structure PrAt (w : World) (g : Nat) (x : Int × Value) : Prop where
  row : w.heap[g]? = some (.cells #[.int .i64 x.1, x.2] 41 (0, 0))
theorem build41 (k : Int) (a : Option Addr) (n c : Nat) (w : World) : (Instr.build 41 #[(0, .int .i64 k), (1, .slice a n c)]).run Tryd.prog w = .ok (.agg #[.int .i64 k, .slice a n c]) w := by kernel_rfl
theorem build41k (k : Int) (w : World) : (Instr.build 41 #[(0, .int .i64 k)]).run Tryd.prog w = .ok (.agg #[.int .i64 k, .slice none 0 0]) w := by kernel_rfl
theorem buildP1 (k : Int) (a : Option Addr) (n c : Nat) (w : World) : (Instr.buildSlice 22 1 #[(0, .agg #[.int .i64 k, .slice a n c])]).run Tryd.prog w = .ok (.slice (some ⟨w.heap.size, 0, none⟩) 1 1) (w.alloc (.cells #[.int .i64 k, .slice a n c] 41)) := by kernel_rfl
theorem info41' : ∃ i, Tryd.prog.info? 41 = some i ∧ i.zero = some (.agg #[.int .i64 0, .slice none 0 0]) ∧ i.size = 2 ∧ i.bytes = 32 := by
  cases h : Tryd.prog.info? 41 with
  | none => have : (Tryd.prog.info? 41).isSome = true := by kernel_rfl
            rw [h] at this; cases this
  | some i =>
    have h1 : (Tryd.prog.info? 41).map (fun i => (i.zero, i.size, i.bytes)) = some (some (.agg #[.int .i64 0, .slice none 0 0]), 2, 32) := by kernel_rfl
    rw [h] at h1
    simp at h1
    exact ⟨i, rfl, h1.1, h1.2.1, h1.2.2⟩

section
variable {ops : Array Oper} {rest : List Oper} {o : Oper} {a : Act} {w : World} {Q : Exit → Act → World → Prop}
theorem wpList_bP (hgd : o.guard = none) (x y : Operand) (ho : o.op = .build 41 #[(0, x), (1, y)]) (k : Int) (ad : Option Addr) (n c : Nat) (hx : a.eval x = .int .i64 k) (hy : a.eval y = .slice ad n c)
    (h : wpList Tryd.prog ops Q rest (a.put o.dst (.agg #[.int .i64 k, .slice ad n c])) w) : wpList Tryd.prog ops Q (o :: rest) a w := by
  refine wpList_plain hgd fun K hK => ?_
  unfold Oper.wp execOp
  simp only [ho, hx, hy, List.map_toArray, List.map_cons, List.map_nil, build41, Sem.run_bind, Result.andThen_ok, Sem.run_pure]
  exact hK _ _ h
theorem wpList_bPk (hgd : o.guard = none) (x : Operand) (ho : o.op = .build 41 #[(0, x)]) (k : Int) (hx : a.eval x = .int .i64 k)
    (h : wpList Tryd.prog ops Q rest (a.put o.dst (.agg #[.int .i64 k, .slice none 0 0])) w) : wpList Tryd.prog ops Q (o :: rest) a w := by
  refine wpList_plain hgd fun K hK => ?_
  unfold Oper.wp execOp
  simp only [ho, hx, List.map_toArray, List.map_cons, List.map_nil, build41k, Sem.run_bind, Result.andThen_ok, Sem.run_pure]
  exact hK _ _ h
theorem wpList_build1P (hgd : o.guard = none) (x : Operand) (ho : o.op = .buildSlice 22 1 #[(0, x)]) (k : Int) (ad : Option Addr) (n c : Nat) (hx : a.eval x = .agg #[.int .i64 k, .slice ad n c])
    (h : ∀ g w', PrAt w' g (k, .slice ad n c) → w.heap.size ≤ g → Keeps (fun _ => False) w w' → wpList Tryd.prog ops Q rest (a.put o.dst (.slice (some ⟨g, 0, none⟩) 1 1)) w') : wpList Tryd.prog ops Q (o :: rest) a w := by
  refine wpList_plain hgd fun K hK => ?_
  unfold Oper.wp execOp
  simp only [ho, hx, List.map_toArray, List.map_cons, List.map_nil, buildP1, Sem.run_bind, Result.andThen_ok, Sem.run_pure]
  exact hK _ _ (h w.heap.size _ ⟨heap_alloc_new w _⟩ (Nat.le_refl _) (keeps_alloc w _))
theorem wpList_appP (hgd : o.guard = none) (s x : Operand) (ho : o.op = .call { callee := .builtin .append, args := #[s, x], argTypes := #[22, 22] })
    (base : Nat) (v : Value) (l : List (Int × Value)) (hs : a.eval s = v) (hown : OwnP w base v l) (g : Nat) (hx : a.eval x = .slice (some ⟨g, 0, none⟩) 1 1) (k : Int) (ad : Option Addr) (n c : Nat) (hl : PrAt w g (k, .slice ad n c)) (hlen : l.length ≤ 100000) (hbase : base ≤ w.heap.size)
    (h : ∀ v' w', OwnP w' base v' (l ++ [(k, .slice ad n c)]) → Keeps (fun k => v.ownBlock = some k) w w' → wpList Tryd.prog ops Q rest (a.put o.dst v') w') : wpList Tryd.prog ops Q (o :: rest) a w := by
  obtain ⟨i, hi, hz, hsz, hby⟩ := info41'
  refine wpList_append_own _ hgd s x 22 ho base 41 i (.agg #[.int .i64 0, .slice none 0 0]) 2 32 Tryd.underlying22 hi hz hsz hby rfl (by omega) v l.length _ hs hown.owns ⟨g, 0, none⟩ 1 1 [.int .i64 k, .slice ad n c] hx rfl (fun j u hu => ?_) (fun u hu => by
    simp at hu
    rcases hu with rfl | rfl <;> rfl) (by unfold maxLen; omega) (by omega) hbase ?_
  · rw [Addr_add, cell_of_row w g _ _ _ _ hl.row]
    have hj : j < 2 := by have := (List.getElem?_eq_some_iff.1 hu).1; simpa using this
    have : j = 0 ∨ j = 1 := by omega
    rcases this with rfl | rfl <;> simpa using hu
  · intro v' w' ho' hg _
    refine h v' w' ⟨?_⟩ ⟨hg.os, hg.tape, hg.output, hg.size, fun k hk hb => hg.block k hk fun e => hb e.symm⟩
    rw [pcs_app, List.length_append]; exact ho'
end

/-- Kinds and slices l have the parts P. -/
structure AllW (w : World) (l : List (Int × Value)) (P : List Pt) : Prop where
  len : l.length = P.length
  at_ : ∀ (j : Nat) (x : Int × Value) (p : Pt), l[j]? = some x → P[j]? = some p → x.1 = p.1 ∧ Wd w x.2 p.2
theorem AllW.nil (w : World) : AllW w [] [] := ⟨rfl, fun j x p h => by simp at h⟩
theorem AllW.keeps {S : Nat → Prop} {w w' : World} {l : List (Int × Value)} {P : List Pt} (h : AllW w l P) (hk : Keeps S w w') (hS : ∀ b cs fr, w.heap[b]? = some (.cells cs 9 fr) → ¬ S b) : AllW w' l P :=
  ⟨h.len, fun j x p hx hp => ⟨(h.at_ j x p hx hp).1, (h.at_ j x p hx hp).2.keeps hk hS⟩⟩
theorem AllW.keep {w w' : World} {l : List (Int × Value)} {P : List Pt} (h : AllW w l P) (hk : Keeps (fun _ => False) w w') : AllW w' l P := h.keeps hk (fun _ _ _ _ h => h)
theorem AllW.past {w w' : World} {l : List (Int × Value)} {P : List Pt} {S : Nat → Prop} (h : AllW w l P) (hk : Keeps S w w') (hS : ∀ k, S k → w.heap.size ≤ k) : AllW w' l P :=
  h.keeps hk (fun b cs fr e hs => by have := hS b hs; have := lt_of_row e; omega)
theorem AllW.snoc {w : World} {l : List (Int × Value)} {P : List Pt} (h : AllW w l P) {k : Int} {v : Value} {ws : List (List UInt8)} (hv : Wd w v ws) : AllW w (l ++ [(k, v)]) (P ++ [(k, ws)]) := by
  have hl := h.len
  refine ⟨by simp [hl], fun j x p hx hp => ?_⟩
  by_cases hj : j < l.length
  · rw [List.getElem?_append_left hj] at hx
    rw [List.getElem?_append_left (by omega)] at hp
    exact h.at_ j x p hx hp
  · rw [List.getElem?_append_right (by omega)] at hx
    rw [List.getElem?_append_right (by omega)] at hp
    have : j = l.length := by
      have := (List.getElem?_eq_some_iff.1 hx).1
      simp at this; omega
    subst this
    rw [hl] at hp
    simp at hx hp
    subst hx hp
    exact ⟨rfl, hv⟩
theorem AllW.init {w : World} {l : List (Int × Value)} {P : List Pt} (h : AllW w l P) : AllW w l.dropLast P.dropLast := by
  refine ⟨by simp [h.len], fun j x p hx hp => ?_⟩
  rw [List.getElem?_dropLast] at hx hp
  split at hx
  · split at hp
    · exact h.at_ j x p hx hp
    · cases hp
  · cases hx

/-- The last one's slice, and another in its place. -/
theorem OwnP.last {w : World} {base : Nat} {v : Value} {l : List (Int × Value)} {k : Int} {u : Value} (h : OwnP w base v (l ++ [(k, u)])) :
    ∃ g n cap, v = .slice (some ⟨g, 0, none⟩) n cap ∧ n = l.length + 1 ∧ base ≤ g ∧ (∃ cs, w.heap[g]? = some (.cells cs 41 (0, 0))) ∧ w.cell? ⟨g, l.length * 2 + 1, none⟩ = some u ∧
      ∀ w' : World, w'.heap[g]? = w.heap[g]? → ∀ u' : Value, OwnP (w'.setCell ⟨g, l.length * 2 + 1, none⟩ u') base v (l ++ [(k, u')]) := by
  obtain ⟨hlen, h2⟩ := h.owns
  rcases h2 with ⟨rfl, h0⟩ | ⟨g, cap, cur, rfl, hb, hg, hn, hc, hs, ht⟩
  · simp at h0
  · have hl1 : (l ++ [(k, u)]).length = l.length + 1 := by simp
    have hcs : l.length * 2 + 1 < cur.size := by
      have := congrArg List.length ht
      rw [List.length_take, pcs_len, hl1] at this
      simp at this; omega
    have hat : cur[l.length * 2 + 1]? = some u := by
      have h1 := (pcs_at (l ++ [(k, u)]) l.length (k, u) (by simp)).2
      rw [Nat.mul_comm] at h1
      rw [← ht, List.getElem?_take, if_pos (by rw [hl1]; omega)] at h1
      simpa using h1
    refine ⟨g, _, cap, rfl, hl1, hb, ⟨_, hg⟩, ?_, fun w' hw u' => ?_⟩
    · rw [cell_of_row w g _ _ _ _ hg]; exact hat
    · have hg' : w'.heap[g]? = some (.cells cur 41 (0, 0)) := hw.trans hg
      refine ⟨⟨?_, .inr ⟨g, cap, cur.setIfInBounds (l.length * 2 + 1) u', ?_, hb, heap_setCell_same w' _ _ _ _ _ hg', ?_, hc, by simpa using hs, ?_⟩⟩⟩
      · rw [pcs_len]
      · simp
      · simpa using hn
      · have e1 : (l ++ [(k, u')]).length * 2 = l.length * 2 + 1 + 1 := by simp; omega
        have e2 : (l ++ [(k, u)]).length * 2 = l.length * 2 + 1 + 1 := by simp; omega
        rw [e2] at ht
        rw [e1]
        have hset : (cur.setIfInBounds (l.length * 2 + 1) u').toList = cur.toList.set (l.length * 2 + 1) u' := by simp
        rw [hset, List.take_set, ht, pcs_app, pcs_app]
        have e3 : pcs [(k, u)] = [.int .i64 k, u] := rfl
        have e4 : pcs [(k, u')] = [.int .i64 k, u'] := rfl
        rw [e3, e4, List.set_append_right _ _ (by rw [pcs_len]; omega), pcs_len]
        have e5 : l.length * 2 + 1 - l.length * 2 = 1 := by omega
        rw [e5]; rfl

end Go.Proofs.YtkcnnkakpkdhkaaDoor
