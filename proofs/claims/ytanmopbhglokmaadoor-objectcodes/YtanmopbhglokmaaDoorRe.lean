/-
  Laws for the reference's Body: what is made gets a letter.
-/
import Derived.Test.YtanmopbhglokmaaDoorRg
import Derived.Test.YtanmopbhglokmaaDoorBa4
set_option linter.all false
namespace Go.Proofs.YtanmopbhglokmaaDoor
open Go.RowKit Go.Sort

theorem zero33 (w : World) : (zeroValue 33).run Tryd.prog w = .ok (.agg #[.int .i64 0, .slice none 0 0, .int .i64 0]) w := by kernel_rfl
theorem wpList_alloc33 {ops : Array Oper} {rest : List Oper} {o : Oper} {a : Act} {w : World} {Q : Exit → Act → World → Prop} (hgd : o.guard = none) (ho : o.op = .alloc 33)
    (h : ∀ p w', w'.heap[p]? = some (.cells #[.int .i64 0, .slice none 0 0, .int .i64 0] 33 (0, 0)) → w.heap.size ≤ p → Keeps (fun _ => False) w w' → wpList Tryd.prog ops Q rest (a.put o.dst (.pointer (some ⟨p, 0, none⟩))) w') : wpList Tryd.prog ops Q (o :: rest) a w := by
  refine wpList_plain hgd fun K hK => ?_
  unfold Oper.wp execOp
  simp only [ho, Instr.alloc, zero33, newVar, newRow, Sem.run_bind, Result.andThen_ok, Sem.run_pure]
  exact hK _ _ (h w.heap.size _ (heap_alloc_new w _) (Nat.le_refl _) (keeps_alloc w _))
theorem wpList_build0L {ops : Array Oper} {rest : List Oper} {o : Oper} {a : Act} {w : World} {Q : Exit → Act → World → Prop} (hgd : o.guard = none) (ho : o.op = .buildSlice 22 0 #[])
    (h : ∀ g w', OwnB w' w.heap.size (.slice (some ⟨g, 0, none⟩) 0 0) [] → w.heap.size ≤ g → g < w'.heap.size → Keeps (fun _ => False) w w' → wpList Tryd.prog ops Q rest (a.put o.dst (.slice (some ⟨g, 0, none⟩) 0 0)) w') : wpList Tryd.prog ops Q (o :: rest) a w :=
  wpList_buildSlice0 hgd ho (h w.heap.size _ (own_nil w) (Nat.le_refl _) (by simp) (keeps_alloc w _))
theorem wpList_appX {ops : Array Oper} {rest : List Oper} {o : Oper} {a : Act} {w : World} {Q : Exit → Act → World → Prop} (hgd : o.guard = none) (s x : Operand) (ho : o.op = .call { callee := .builtin .append, args := #[s, x], argTypes := #[22, 22] })
    (base g : Nat) (hs : a.eval s = .slice (some ⟨g, 0, none⟩) 0 0) (hown : OwnB w base (.slice (some ⟨g, 0, none⟩) 0 0) []) (b of m c : Nat) (l1 : List B) (hx : a.eval x = .slice (some ⟨b, of, none⟩) m c) (hl : SlB w (some ⟨b, of, none⟩) m c l1) (hlen : m ≤ 1000000) (hbase : base ≤ w.heap.size)
    (h : ∀ a' c' w', SlB w' a' m c' l1 → (a' = none → c' = 0) → Keeps (· = g) w w' → wpList Tryd.prog ops Q rest (a.put o.dst (.slice a' m c')) w') : wpList Tryd.prog ops Q (o :: rest) a w := by
  obtain ⟨i, hi, hz, hsz, hby⟩ := info5
  have hl1 := hl.len
  refine wpList_append_own _ hgd s x 22 ho base 5 i (.int .u8 0) 1 1 Tryd.underlying22 hi hz hsz hby rfl (by omega) _ 0 [] hs hown.owns ⟨b, of, none⟩ m c (l1.map vb) hx (by simp [hl1]) (fun j u hu => ?_) (one_bytes l1) (by unfold maxLen; omega) (by omega) hbase ?_
  · rw [List.getElem?_map] at hu
    cases hq : l1[j]? with
    | none => rw [hq] at hu; cases hu
    | some y =>
      rw [hq] at hu
      rw [Addr_add]
      cases hu
      exact hl.cell rfl j y hq
  · intro v' w' ho' hg _
    have O' : OwnB w' base v' l1 := ⟨by rw [hl1]; simpa using ho'⟩
    obtain ⟨a', n', c', rfl, hs', _, hnc'⟩ := O'.slice
    obtain rfl : n' = m := hs'.len.symm.trans hl1
    exact h a' c' w' hs' hnc' ⟨hg.os, hg.tape, hg.output, hg.size, fun k hk hb => hg.block k hk fun e => hb (by simp [Value.ownBlock] at e; exact e)⟩
theorem one_got (k : Int) (a : Option Addr) (n c : Nat) (e : Int) : (#[.int .i64 k, .slice a n c, .int .i64 e] : Array Value).all (·.oneCell') = true := by simp [Value.oneCell']

end Go.Proofs.YtanmopbhglokmaaDoor
