/-
  Blocks appended to one's own, a byte of one's own blocks stored.
-/
import Derived.Test.YtanmopbhglokmaaDoorKn
set_option linter.all false
namespace Go.Proofs.YtanmopbhglokmaaDoor
open Go.RowKit Go.Sort

theorem OwnK.set {w : World} {base g n c : Nat} {L : List B} (h : OwnK w base (.slice (some ⟨g, 0, none⟩) n c) n L) (k : Nat) (hk : k < n * 128) (z : B) :
    OwnK (w.setCell ⟨g, k, none⟩ (.int .u8 (nb z))) base (.slice (some ⟨g, 0, none⟩) n c) n (L.set k z) ∧ w.frozen? ⟨g, k, none⟩ = false := by
  have hl := h.len
  obtain ⟨h1, ⟨e, _⟩ | ⟨g', cap, cur, e, hb, hg, hn, hc, hs, ht⟩⟩ := h.owns
  · cases e
  · cases e
    refine ⟨⟨by simpa using h1, .inr ⟨g, c, cur.setIfInBounds k (.int .u8 (nb z)), rfl, hb, heap_setCell_same _ _ _ _ _ _ hg, hn, hc, by simpa using hs, ?_⟩⟩, frozen_of_row w g k _ _ hg⟩
    rw [List.map_set, ← ht, Array.toList_setIfInBounds, List.take_set]
    rfl
theorem OwnK.pos {w : World} {base n : Nat} {v : Value} {L : List B} (h : OwnK w base v n L) (h0 : 0 < n) : ∃ g c, v = .slice (some ⟨g, 0, none⟩) n c ∧ base ≤ g ∧ g < w.heap.size := by
  obtain ⟨h1, ⟨_, e⟩ | ⟨g', cap, cur, e, hb, hg, _⟩⟩ := h.owns
  · omega
  · exact ⟨g', cap, e, hb, lt_of_row hg⟩
theorem OwnK.sl {w : World} {base g n c : Nat} {L : List B} (h : OwnK w base (.slice (some ⟨g, 0, none⟩) n c) n L) : SlB w (some ⟨g, 0, none⟩) (n * 128) (c * 128) L := by
  obtain ⟨a, c', e, hs, _⟩ := h.slice
  cases e; exact hs

theorem build0K (w : World) : (Instr.buildSlice 23 0 #[]).run Tryd.prog w = .ok (.slice (some ⟨w.heap.size, 0, none⟩) 0 0) (w.alloc (.cells #[] 40)) := by kernel_rfl
theorem wpList_build0K {ops : Array Oper} {rest : List Oper} {o : Oper} {a : Act} {w : World} {Q : Exit → Act → World → Prop} (hgd : o.guard = none) (ho : o.op = .buildSlice 23 0 #[])
    (h : ∀ w', OwnK w' w.heap.size (.slice (some ⟨w.heap.size, 0, none⟩) 0 0) 0 [] → Keeps (fun _ => False) w w' → wpList Tryd.prog ops Q rest (a.put o.dst (.slice (some ⟨w.heap.size, 0, none⟩) 0 0)) w') : wpList Tryd.prog ops Q (o :: rest) a w := by
  refine wpList_plain hgd fun K hK => ?_
  unfold Oper.wp execOp
  simp only [ho, List.map_toArray, List.map_nil, build0K, Sem.run_bind, Result.andThen_ok, Sem.run_pure]
  exact hK _ _ (h _ ⟨World.ownsRow_made w #[] 0 (Nat.le_refl _) (by unfold maxLen; omega) rfl⟩ (keeps_alloc w _))

theorem wpList_appK {ops : Array Oper} {rest : List Oper} {o : Oper} {a : Act} {w : World} {Q : Exit → Act → World → Prop} (hgd : o.guard = none) (s x : Operand) (ho : o.op = .call { callee := .builtin .append, args := #[s, x], argTypes := #[23, 23] })
    (base : Nat) (v : Value) (n0 : Nat) (L0 : List B) (hs : a.eval s = v) (hown : OwnK w base v n0 L0) (b of m c : Nat) (L1 : List B) (hx : a.eval x = .slice (some ⟨b, of, none⟩) m c) (hl : SlB w (some ⟨b, of, none⟩) (m * 128) (c * 128) L1) (hlen : n0 + m ≤ 100000) (hbase : base ≤ w.heap.size)
    (h : ∀ v' w', OwnK w' base v' (n0 + m) (L0 ++ L1) → Keeps (fun k => base ≤ k) w w' → wpList Tryd.prog ops Q rest (a.put o.dst v') w') : wpList Tryd.prog ops Q (o :: rest) a w := by
  obtain ⟨i, hi, hz, hsz, hby⟩ := info40'
  refine wpList_append_own _ hgd s x 23 ho base 40 i (.agg (brow (zb 128))) 128 128 Tryd.underlying23 hi hz hsz hby (by show (brow (zb 128)).size = 128; rw [size_brow, zb_len]) (by omega) v n0 _ hs hown.owns ⟨b, of, none⟩ m c (L1.map vb) hx (by rw [List.length_map, hl.len]) (fun j u hu => ?_) (one_bytes L1) (by unfold maxLen; omega) (by omega) hbase ?_
  · rw [List.getElem?_map] at hu
    cases hq : L1[j]? with
    | none => rw [hq] at hu; cases hu
    | some y =>
      rw [hq] at hu
      rw [Addr_add]
      cases hu
      exact hl.cell rfl j y hq
  · intro v' w' ho' hg _
    refine h v' w' ⟨by rw [List.map_append]; exact ho'⟩ ⟨hg.os, hg.tape, hg.output, hg.size, fun k hk hb => hg.block k hk fun e => hb ?_⟩
    exact (hown.owns.lt k e.symm).1

theorem xor_bytes (x y : B) : bits .xor .u8 (nb x) (nb y) = nb (x ^^^ y) := by
  have e1 : ∀ x : B, BitVec.ofInt 8 (nb x) = x := fun x => by unfold nb; rw [BitVec.ofInt_natCast]; simp
  show IntKind.u8.wrap ((BitVec.ofInt 8 (nb x) ^^^ BitVec.ofInt 8 (nb y)).toNat : Int) = _
  rw [e1, e1]
  generalize x ^^^ y = z
  have := nb_lt z
  unfold nb at *
  simp [IntKind.wrap, IntKind.bits, IntKind.signed]
  omega

end Go.Proofs.YtanmopbhglokmaaDoor
