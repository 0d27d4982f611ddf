/-
  Blocks in a slice: one laid down by itself, many in a row of one's own, appended.
-/
import Derived.Test.YtanmopbhglokmaaDoorIt
set_option linter.all false
namespace Go.Proofs.YtanmopbhglokmaaDoor
open Go.RowKit Go.Shelf Go.Sort

theorem fold_all (b C : Array Value) (h : C.size = b.size) :
    b.zipIdx.foldl (fun (cs : Array Value) (y : Value × Nat) => cs.setIfInBounds (0 + y.2) y.1) C = b := by
  suffices H : ∀ (b : List Value) (o : Nat) (A C : List Value), A.length = o → C.length = b.length →
      List.foldl (fun (cs : Array Value) (y : Value × Nat) => cs.setIfInBounds (0 + y.2) y.1) (A ++ C).toArray (b.zipIdx o) = (A ++ b).toArray by
    have := H b.toList 0 [] C.toList rfl (by simpa using h)
    rw [← Array.foldl_toList, Array.toList_zipIdx]
    simpa using this
  intro b
  induction b with
  | nil => intro o A C hA hC; obtain rfl : C = [] := List.eq_nil_of_length_eq_zero (by simpa using hC); simp
  | cons v b ih =>
    intro o A C hA hC
    cases C with
    | nil => simp at hC
    | cons c C =>
      simp only [List.zipIdx_cons, List.foldl_cons]
      have e : ((A ++ c :: C).toArray.setIfInBounds (0 + o) v) = ((A ++ [v]) ++ C).toArray := by
        simp [← hA]
      rw [e, ih (o + 1) (A ++ [v]) C (by simp; omega) (by simpa using hC)]
      simp

theorem info40' : ∃ i, Tryd.prog.info? 40 = some i ∧ i.zero = some (.agg (brow (zb 128))) ∧ i.size = 128 ∧ i.bytes = 128 := by
  cases h : Tryd.prog.info? 40 with
  | none => have : (Tryd.prog.info? 40).isSome = true := by kernel_rfl
            rw [h] at this; cases this
  | some i =>
    have h1 : (Tryd.prog.info? 40).map (fun i => (i.zero, i.size, i.bytes)) = some (some (.agg (brow (zb 128))), 128, 128) := by kernel_rfl
    rw [h] at h1
    simp at h1
    exact ⟨i, rfl, h1.1, h1.2.1, h1.2.2⟩

theorem run_buildB (w : World) (x : List B) (h : x.length = 128) : (Instr.buildSlice 23 1 #[(0, .agg (brow x))]).run Tryd.prog w = .ok (.slice (some ⟨w.heap.size, 0, none⟩) 1 1) (w.alloc (.cells (brow x) 40)) := by
  obtain ⟨i0, hi0, hz0, hz1, hz2⟩ := info40'
  have hb : (Value.agg (brow x)).cells = brow x := rfl
  have hs : (brow x).size = 128 := by rw [size_brow, h]
  unfold Instr.buildSlice
  have hf := fold_all (brow x) ((Array.range (1 * 128)).map ((Value.agg (brow (zb 128))).cells[· % (Value.agg (brow (zb 128))).cells.size]!)) (by simp [hs])
  have hfill : Instr.fill (fun i => some (i * 128, 128)) ((Array.range (1 * 128)).map ((Value.agg (brow (zb 128))).cells[· % (Value.agg (brow (zb 128))).cells.size]!)) [(0, .agg (brow x))] = some (brow x) := by
    unfold Instr.fill Instr.fill
    simp only [Nat.zero_mul, hb]
    rw [if_neg (by simp [hs]), hf]
  have hsize : (sizeOf 40).run Tryd.prog w = .ok 128 w := by simp [sizeOf, typeInfo, hi0, hz1]
  simp only [Sem.run_bind, run_underlying Tryd.underlying23, hsize, Result.andThen_ok]
  rw [if_neg (by decide), if_neg (by decide)]
  simp only [Sem.run_bind, zero40, Result.andThen_ok, Sem.run_pure, hfill]
  simp [newRow]

theorem semAt_any (ro : Option Nat) (ρ : Operand → Value) (o : Oper) (t n : Nat) (x : Array (Nat × Operand)) (ho : o.op = .buildSlice t n x) : Oper.semAt ro ρ o = execOp ρ o := by
  unfold Oper.semAt; cases ro <;> simp [ho]

theorem wpListIn_buildB {F : Fence} {m : Nat} {ops : Array Oper} {rest : List Oper} {o : Oper} {a : Act} {w : World} {Q : Exit → Act → World → Prop} (hgd : o.guard = none) (x : Operand) (ho : o.op = .buildSlice 23 1 #[(0, x)]) (l : List B) (hx : a.eval x = .agg (brow l)) (hl : l.length = 128)
    (h : wpListIn F m Tryd.prog ops Q rest (a.put o.dst (.slice (some ⟨w.heap.size, 0, none⟩) 1 1)) (w.alloc (.cells (brow l) 40))) : wpListIn F m Tryd.prog ops Q (o :: rest) a w := by
  refine wpListIn_plain hgd fun K hK => ?_
  refine ⟨fun f hf => by simp [Oper.about, ho] at hf, ?_⟩
  rw [semAt_any _ _ _ _ _ _ ho]
  unfold execOp
  simp only [ho, hx, List.map_toArray, List.map_cons, List.map_nil, run_buildB w l hl, Sem.run_bind, Sem.run_pure, Result.andThen_ok]
  exact hK _ _ h
theorem wpList_buildB {ops : Array Oper} {rest : List Oper} {o : Oper} {a : Act} {w : World} {Q : Exit → Act → World → Prop} (hgd : o.guard = none) (x : Operand) (ho : o.op = .buildSlice 23 1 #[(0, x)]) (l : List B) (hx : a.eval x = .agg (brow l)) (hl : l.length = 128)
    (h : wpList Tryd.prog ops Q rest (a.put o.dst (.slice (some ⟨w.heap.size, 0, none⟩) 1 1)) (w.alloc (.cells (brow l) 40))) : wpList Tryd.prog ops Q (o :: rest) a w := by
  refine wpList_plain hgd fun K hK => ?_
  unfold Oper.wp execOp
  simp only [ho, hx, List.map_toArray, List.map_cons, List.map_nil, run_buildB w l hl, Sem.run_bind, Result.andThen_ok, Sem.run_pure]
  exact hK _ _ h

/-- The slice v, in a block of one's own from base on, has n blocks, whose bytes are L. -/
structure OwnK (w : World) (base : Nat) (v : Value) (n : Nat) (L : List B) : Prop where
  owns : w.ownsRow base 40 128 v n (L.map vb)
theorem OwnK.len {w : World} {base : Nat} {v : Value} {n : Nat} {L : List B} (h : OwnK w base v n L) : L.length = n * 128 := by have := h.owns.1; simpa using this
theorem OwnK.slice {w : World} {base : Nat} {v : Value} {n : Nat} {L : List B} (h : OwnK w base v n L) : ∃ a c, v = .slice a n c ∧ SlB w a (n * 128) (c * 128) L ∧ (∀ b o, a = some ⟨b, o, none⟩ → base ≤ b) ∧ (a = none → c = 0) := by
  have hl := h.len
  obtain ⟨_, ⟨rfl, h0⟩ | ⟨g, cap, cur, rfl, hb, hg, hn, hc, hs, ht⟩⟩ := h.owns
  · subst h0
    obtain rfl : L = [] := List.eq_nil_of_length_eq_zero (by omega)
    exact ⟨none, 0, rfl, SlB.nil w, (fun b o e => by cases e), fun _ => rfl⟩
  · refine ⟨_, _, rfl, ⟨hl, Nat.mul_le_mul_right _ hn, fun j x hx => ⟨g, 0, rfl, ?_⟩⟩, (fun b o e => by cases e; exact hb), fun e => by cases e⟩
    have hj : j < L.length := (List.getElem?_eq_some_iff.1 hx).1
    have h1 : (cur.toList.take (n * 128))[j]? = some (vb x) := by rw [ht, List.getElem?_map, hx]; rfl
    rw [List.getElem?_take, if_pos (by omega)] at h1
    rw [Nat.zero_add, cell_of_row w g j _ _ _ hg]
    simp at h1
    exact h1
theorem OwnK.same {w w' : World} {base : Nat} {v : Value} {n : Nat} {L : List B} (h : OwnK w base v n L) (hk : ∀ g cur, v.ownBlock = some g → w.heap[g]? = some (.cells cur 40 (0, 0)) → w'.heap[g]? = some (.cells cur 40 (0, 0))) : OwnK w' base v n L := by
  obtain ⟨h1, h2⟩ := h.owns
  refine ⟨h1, ?_⟩
  rcases h2 with h2 | ⟨g, cap, cur, rfl, hb, hg, rest⟩
  · exact .inl h2
  · exact .inr ⟨g, cap, cur, rfl, hb, hk g cur rfl hg, rest⟩
theorem OwnK.keeps {S : Nat → Prop} {w w' : World} {base : Nat} {v : Value} {n : Nat} {L : List B} (h : OwnK w base v n L) (hk : Keeps S w w') (hS : ∀ i, i < w.heap.size → S i → i < base) : OwnK w' base v n L := by
  refine h.same fun g cur e hg => hk.row hg fun hs => ?_
  have h1 := hS g (lt_of_row hg) hs
  have h2 := (h.owns.lt g e).1
  omega
theorem OwnK.nil (w : World) (base : Nat) : OwnK w base (.slice none 0 0) 0 [] := ⟨by simp, .inl ⟨rfl, rfl⟩⟩

theorem isKind_at {k : Int} {b : Bool} (h : Hid (decide (1 ≤ k ∧ k ≤ 6) = b)) (w : World) : Calls Tryd.prog 18 #[.int .i64 k] w fun e w' => e = .returned (.bool b) ∧ w = w' := by rw [← h.out]; exact (isKind18 w k).mono fun _ _ ⟨h1, h2⟩ => ⟨h1, h2.symm⟩
theorem nblk_at {n m : Int} (h : Hid (nblk n = m)) (w : World) : Calls Tryd.prog 15 #[.int .i64 n] w fun e w' => e = .returned (.int .i64 m) ∧ w = w' := by rw [← h.out]; exact (nblk15 w n).mono fun _ _ ⟨h1, h2⟩ => ⟨h1, h2.symm⟩
theorem nblk_of {n : Nat} (h : n ≤ 1000) : nblk (n : Int) = (((n + 134) / 128 : Nat) : Int) := by unfold nblk; rw [if_pos (by omega)]; omega

theorem blocks19 (w : World) (k : Int) (a : Option Addr) (n c : Nat) : Calls Tryd.prog 19 #[.int .i64 k, .slice a n c] w fun e w' =>
    e = .returned (.func (.func 25) #[] #[.pointer (some ⟨w.heap.size, 0, none⟩), .pointer (some ⟨w.heap.size + 1, 0, none⟩)]) ∧ w' = (w.alloc (.cells #[.int .i64 k] 3)).alloc (.cells #[.slice a n c] 22) := by
  go_enter Tryd.func19, Tryd.ntmps19
  go_wp2
  go_ret
  exact ⟨rfl, rfl⟩

end Go.Proofs.YtanmopbhglokmaaDoor
