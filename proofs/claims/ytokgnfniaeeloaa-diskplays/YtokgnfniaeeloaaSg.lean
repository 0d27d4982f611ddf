/-
  What a block holds behind writes, syncs and crashes.
-/
import Derived.Test.YtokgnfniaeeloaaSf
set_option linter.all false
namespace Go.Proofs.Ytokgnfniaeeloaa
open Go.RowKit Go.Shelf

/-- Block k of a row of blocks. -/
def blk (row : Array Value) (k : Nat) : Array Value := row.extract (k * 128) (k * 128 + 128)

theorem getElem?_blk (row : Array Value) (k j : Nat) : (blk row k)[j]? = if j < 128 then row[k * 128 + j]? else none := by
  unfold blk
  rw [Array.getElem?_extract]
  by_cases h : j < 128
  · rw [if_pos h]
    split
    · rfl
    · rename_i h2
      simp
      omega
  · rw [if_neg h, if_neg (by omega)]

theorem blk_over_same {row cs : Array Value} {k : Nat} (h : k * 128 + 128 ≤ row.size) (hc : cs.size = 128) : blk (over row (k * 128) cs) k = cs := by
  apply Array.ext_getElem?
  intro j
  rw [getElem?_blk]
  by_cases hj : j < 128
  · rw [if_pos hj, getElem?_over _ _ _ _ (by omega), if_pos (by omega)]
    congr 1; omega
  · rw [if_neg hj]
    simp; omega

theorem blk_over_other {row cs : Array Value} {k i : Nat} (hk : k ≠ i) (h : i * 128 + cs.size ≤ row.size) (hc : cs.size ≤ 128) : blk (over row (i * 128) cs) k = blk row k := by
  apply Array.ext_getElem?
  intro j
  rw [getElem?_blk, getElem?_blk]
  by_cases hj : j < 128
  · rw [if_pos hj, if_pos hj, getElem?_over _ _ _ _ h, if_neg ?_]
    rcases Nat.lt_or_gt_of_ne hk with h1 | h1
    · have := Nat.mul_le_mul_right 128 (show k + 1 ≤ i from h1); omega
    · have := Nat.mul_le_mul_right 128 (show i + 1 ≤ k from h1); omega
  · rw [if_neg hj, if_neg hj]

theorem idx_snoc (ws : List LW) (x : LW) : idx (ws ++ [x]) = idx ws ++ [(ws.length, x)] := by
  simp [idx, List.zipIdx_append]

theorem crashRow_snoc (t : Int) (row : Array Value) (l : List (Nat × LW)) (y : Nat × LW) : crashRow t row (l ++ [y]) = crashStep t (crashRow t row l) y := by
  simp [crashRow]

/-- What stands in block k of the row bl with the loose writes ws over it. -/
def onTop (bl : Array Value) (ws : List LW) (k : Nat) : Array Value :=
  match ws.reverse.find? (fun x => x.1 == (k : Int)) with
  | some x => x.2.toArray
  | none => blk bl k

theorem block_onTop (s : DS) (k : Nat) : s.block k = onTop s.bl s.ws k := rfl

theorem onTop_snoc (bl : Array Value) (ws : List LW) (x : LW) (k : Nat) : onTop bl (ws ++ [x]) k = if x.1 = (k : Int) then x.2.toArray else onTop bl ws k := by
  unfold onTop
  rw [List.reverse_append, List.reverse_singleton, List.singleton_append, List.find?_cons]
  by_cases h : x.1 = (k : Int)
  · have : (x.1 == (k : Int)) = true := by simpa using h
    simp only [this, if_pos h]
  · have : (x.1 == (k : Int)) = false := by simpa using h
    simp only [this, if_neg h]

theorem blk_all {n : Nat} (bl : Array Value) (hbl : bl.size = n * 128) : ∀ (ws : List LW), (∀ x ∈ ws, LwOk x ∧ 0 ≤ x.1 ∧ x.1 < (n : Int)) → ∀ k, k < n → blk (crashRow (-1) bl (idx ws)) k = onTop bl ws k := by
  suffices H : ∀ (l : List LW) (ws : List LW), ws = l.reverse → (∀ x ∈ ws, LwOk x ∧ 0 ≤ x.1 ∧ x.1 < (n : Int)) → ∀ k, k < n → blk (crashRow (-1) bl (idx ws)) k = onTop bl ws k from
    fun ws => H ws.reverse ws (List.reverse_reverse ws).symm
  intro l
  induction l with
  | nil => intro ws e _ k _; rw [e]; rfl
  | cons x l ih0 =>
    intro ws0 e
    rw [List.reverse_cons] at e
    obtain ⟨ws, hws0⟩ : ∃ ws, l.reverse = ws := ⟨_, rfl⟩
    rw [hws0] at e
    subst e
    have ih := ih0 ws hws0.symm
    intro hok k hk
    have hx := hok x (by simp)
    have hws : ∀ y ∈ ws, LwOk y ∧ 0 ≤ y.1 ∧ y.1 < (n : Int) := fun y hy => hok y (by simp [hy])
    rw [idx_snoc, crashRow_snoc, onTop_snoc, ← ih hws k hk]
    have hsz : (crashRow (-1) bl (idx ws)).size = n * 128 := size_crashRow (-1) n _ _ hbl (fun y hy => hws y.2 (mem_idx hy))
    have hcut : cutOf (-1) ws.length = 128 := by unfold cutOf; rw [if_neg (by omega)]
    have htk : x.2.take 128 = x.2 := List.take_of_length_le (Nat.le_of_eq hx.1.1)
    show blk (over (crashRow (-1) bl (idx ws)) (x.1.toNat * 128) (x.2.take (cutOf (-1) ws.length)).toArray) k = _
    rw [hcut, htk]
    have hs : x.2.toArray.size = 128 := by simp [hx.1.1]
    have hmul : (x.1.toNat + 1) * 128 ≤ n * 128 := Nat.mul_le_mul_right 128 (by omega)
    by_cases h : x.1 = (k : Int)
    · have hk' : x.1.toNat = k := by omega
      rw [if_pos h, hk']
      rw [hk'] at hmul
      exact blk_over_same (by omega) hs
    · rw [if_neg h]
      exact blk_over_other (by omega) (by omega) (by omega)

theorem sync_block {s : DS} (h : s.Ok) (k : Nat) (hk : k < s.n) : s.sync.2.block k = s.block k := by
  unfold DS.sync
  split
  · rfl
  · show onTop (crashRow (-1) s.bl (idx s.ws)) [] k = onTop s.bl s.ws k
    exact blk_all s.bl h.size s.ws h.lw k hk

theorem write_block (s : DS) (i : Nat) (hi : i < s.n) (b : List Value) (k : Nat) : (s.write (i : Int) b).2.block k = if (s.write (i : Int) b).1 = 0 ∧ i = k then b.toArray else s.block k := by
  unfold DS.write
  rw [if_neg (by omega)]
  by_cases hd : s.F = 0 ∨ s.dn = true
  · rw [if_pos hd, if_neg (by simp)]; rfl
  · rw [if_neg hd]
    show onTop s.bl (s.ws ++ [((i : Int), b)]) k = _
    rw [onTop_snoc]
    by_cases h : i = k
    · rw [if_pos (by simp [h]), if_pos ⟨rfl, h⟩]
    · rw [if_neg (show ¬ ((i : Int) = (k : Int)) by omega), if_neg (by simp [h])]; rfl

/-- A block is stored into the midst of a row; the world behind is a letter. -/
theorem wpList_store_blk {ops : Array Oper} {rest : List Oper} {o : Oper} {a : Act} {w : World} {Q : Exit → Act → World → Prop} (hgd : o.guard = none) (x y : Operand) (ho : o.op = .store 37 x y)
    (g off : Nat) (hx : a.eval x = .pointer (some ⟨g, off, none⟩)) (new : Array Value) (hy : a.eval y = .agg new) (t : TypeId) (cur : Array Value) (hg : w.heap[g]? = some (.cells cur t (0, 0)))
    (hfit : off + 128 ≤ cur.size) (hs : new.size = 128) (h1 : AllOne new)
    (h : ∀ w', w'.heap[g]? = some (.cells (over cur off new) t (0, 0)) → Keeps (· = g) w w' → wpList Try.prog ops Q rest (a.put o.dst undef) w') : wpList Try.prog ops Q (o :: rest) a w :=
  wpList_plain hgd fun K hK => op_store37 x y ho g off new hx hy cur t hg hfit hs h1 (hK _ _ (h _ (setRow_heap w g _ _ _ _ hg) ((Keeps.refl (· = g) w).setRow (.inl rfl) _)))

end Go.Proofs.Ytokgnfniaeeloaa
