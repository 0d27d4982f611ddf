
/-
  append of bytes to a row of one's own; which of two digests stands ahead, in plain mathematics; calls in the midst of a region that draws.
-/
import Derived.Test.YtanmopbhglokmaaDoorWh
import Derived.Laws.AppendOwn
import Derived.Laws.AppendOwnNone
set_option linter.all false
namespace Go.Proofs.YtanmopbhglokmaaDoor
open Go.RowKit Go.Sort

/-- The slice v, in a block of one's own from base on, has the bytes l. -/
structure OwnB (w : World) (base : Nat) (v : Value) (l : List B) : Prop where
  owns : w.ownsRow base 5 1 v l.length (l.map vb)
theorem OwnB.slice {w : World} {base : Nat} {v : Value} {l : List B} (h : OwnB w base v l) : ∃ a n c, v = .slice a n c ∧ SlB w a n c l ∧ (∀ b o, a = some ⟨b, o, none⟩ → base ≤ b) ∧ (a = none → c = 0) := by
  obtain ⟨hl, ⟨rfl, h0⟩ | ⟨g, cap, cur, rfl, hb, hg, hn, hc, hs, ht⟩⟩ := h.owns
  · obtain rfl : l = [] := List.eq_nil_of_length_eq_zero h0
    exact ⟨none, 0, 0, rfl, SlB.nil w, (fun b o e => by cases e), fun _ => rfl⟩
  · refine ⟨_, _, _, rfl, ⟨rfl, hn, fun j x hx => ⟨g, 0, rfl, ?_⟩⟩, (fun b o e => by cases e; exact hb), fun e => by cases e⟩
    have hj : j < l.length := (List.getElem?_eq_some_iff.1 hx).1
    have h1 : (cur.toList.take (l.length * 1))[j]? = some (vb x) := by rw [ht, List.getElem?_map, hx]; rfl
    rw [List.getElem?_take, if_pos (by omega)] at h1
    rw [Nat.zero_add, cell_of_row w g j _ _ _ hg]
    simp at h1
    exact h1
theorem OwnB.row {w : World} {base g : Nat} {l : List B} {t : TypeId} (hg : w.heap[g]? = some (.cells (brow l) 5 (0, 0))) (hb : base ≤ g) (hl : l.length ≤ 1000000) : OwnB w base (.slice (some ⟨g, 0, none⟩) l.length l.length) l :=
  ⟨by simp, .inr ⟨g, l.length, brow l, rfl, hb, hg, Nat.le_refl _, by unfold maxLen; omega, by simp [size_brow], by simp [brow]; rw [List.take_of_length_le (by simp)]⟩⟩

theorem info5 : ∃ i, Tryd.prog.info? 5 = some i ∧ i.zero = some (.int .u8 0) ∧ i.size = 1 ∧ i.bytes = 1 := by
  cases h : Tryd.prog.info? 5 with
  | none => have : (Tryd.prog.info? 5).isSome = true := by kernel_rfl
            rw [h] at this; cases this
  | some i =>
    have h1 : (Tryd.prog.info? 5).map (fun i => (i.zero, i.size, i.bytes)) = some (some (.int .u8 0), 1, 1) := by kernel_rfl
    rw [h] at h1
    simp at h1
    exact ⟨i, rfl, h1.1, h1.2.1, h1.2.2⟩

theorem wpList_app {ops : Array Oper} {rest : List Oper} {o : Oper} {a : Act} {w : World} {Q : Exit → Act → World → Prop} (hgd : o.guard = none) (s x : Operand) (ho : o.op = .call { callee := .builtin .append, args := #[s, x], argTypes := #[22, 22] })
    (base : Nat) (v : Value) (l0 : List B) (hs : a.eval s = v) (hown : OwnB w base v l0) (ad : Option Addr) (m c : Nat) (l1 : List B) (hx : a.eval x = .slice ad m c) (hl : SlB w ad m c l1) (hnc : ad = none → c = 0) (hlen : l0.length + m ≤ 1000000) (hbase : base ≤ w.heap.size)
    (h : ∀ v' w', OwnB w' base v' (l0 ++ l1) → Keeps (fun k => base ≤ k) w w' → wpList Tryd.prog ops Q rest (a.put o.dst v') w') : wpList Tryd.prog ops Q (o :: rest) a w := by
  obtain ⟨i, hi, hz, hsz, hby⟩ := info5
  have hl1 := hl.len
  cases ad with
  | none =>
    obtain rfl : c = 0 := hnc rfl
    have hm : m = 0 := by
      rcases Nat.eq_zero_or_pos m with h0 | h0
      · exact h0
      · obtain ⟨b, o, e, _⟩ := hl.bytes m h0 (Nat.le_refl _); cases e
    subst hm
    obtain rfl : l1 = [] := List.eq_nil_of_length_eq_zero hl1
    refine wpList_append_own_none hgd s x 22 ho base 5 i 1 Tryd.underlying22 hi v l0.length _ hs hown.owns hx ?_
    exact h v w (by rw [List.append_nil]; exact hown) (Keeps.refl _ _)
  | some ad =>
    refine wpList_append_own _ hgd s x 22 ho base 5 i (.int .u8 0) 1 1 Tryd.underlying22 hi hz hsz hby rfl (by omega) v l0.length _ hs hown.owns ad m c (l1.map vb) hx (by simp [hl1]) (fun j u hu => ?_) (one_bytes l1) (by unfold maxLen; omega) (by omega) hbase ?_
    · rw [List.getElem?_map] at hu
      cases hq : l1[j]? with
      | none => rw [hq] at hu; cases hu
      | some y =>
        rw [hq] at hu
        obtain ⟨b, o, e, hc⟩ := hl.at_ j y hq
        cases e
        rw [Addr_add]
        cases hu
        exact hc
    · intro v' w' ho' hg _
      refine h v' w' ⟨by rw [List.length_append, hl1, List.map_append]; exact ho'⟩ ⟨hg.os, hg.tape, hg.output, hg.size, fun k hk hb => hg.block k hk fun e => hb ?_⟩
      obtain ⟨a', n', c', rfl, _, hbb, _⟩ := hown.slice
      cases a' with
      | none => cases e
      | some a' =>
        simp only [Value.ownBlock, Option.some.injEq] at e
        rcases hown.owns.2 with ⟨e2, _⟩ | ⟨g, cap, cur, e2, hb2, _⟩
        · cases e2
        · cases e2; subst e; exact hb2

/-! Which of two digests stands ahead. -/
def lessB (x y : List B) : Bool := decide (Lib.compareBytes (ub x) (ub y) < 0)
theorem cmp_self : ∀ x : List UInt8, Lib.compareBytes x x = 0
  | [] => rfl
  | a :: x => by simp [Lib.compareBytes, UInt8.lt_irrefl, cmp_self x]
theorem u8_tri (a b : UInt8) : a < b ∨ a = b ∨ b < a := by
  rcases Nat.lt_trichotomy a.toNat b.toNat with h | h | h
  · exact .inl (UInt8.lt_iff_toNat_lt.2 h)
  · exact .inr (.inl (UInt8.toNat_inj.1 h))
  · exact .inr (.inr (UInt8.lt_iff_toNat_lt.2 h))
theorem u8_asymm {a b : UInt8} (h : a < b) : ¬ b < a := by rw [UInt8.lt_iff_toNat_lt] at *; omega
theorem u8_trans {a b c : UInt8} (h : a < b) (k : b < c) : a < c := by rw [UInt8.lt_iff_toNat_lt] at *; omega
theorem cmp_cases : ∀ x y : List UInt8, (Lib.compareBytes x y < 0 ∧ 0 < Lib.compareBytes y x ∧ x ≠ y) ∨ (Lib.compareBytes x y = 0 ∧ Lib.compareBytes y x = 0 ∧ x = y) ∨ (0 < Lib.compareBytes x y ∧ Lib.compareBytes y x < 0 ∧ x ≠ y)
  | [], [] => .inr (.inl ⟨rfl, rfl, rfl⟩)
  | [], b :: y => .inl ⟨by simp [Lib.compareBytes], by simp [Lib.compareBytes], by simp⟩
  | a :: x, [] => .inr (.inr ⟨by simp [Lib.compareBytes], by simp [Lib.compareBytes], by simp⟩)
  | a :: x, b :: y => by
    unfold Lib.compareBytes
    rcases u8_tri a b with h | rfl | h
    · exact .inl ⟨by simp [h], by simp [h, u8_asymm h], by rintro ⟨⟩; exact absurd h (UInt8.lt_irrefl _)⟩
    · simp only [UInt8.lt_irrefl, if_false]
      rcases cmp_cases x y with ⟨h1, h2, h3⟩ | ⟨h1, h2, rfl⟩ | ⟨h1, h2, h3⟩
      · exact .inl ⟨h1, h2, by simpa using h3⟩
      · exact .inr (.inl ⟨h1, h2, rfl⟩)
      · exact .inr (.inr ⟨h1, h2, by simpa using h3⟩)
    · exact .inr (.inr ⟨by simp [h, u8_asymm h], by simp [h], by rintro ⟨⟩; exact absurd h (UInt8.lt_irrefl _)⟩)
theorem cmp_trans : ∀ x y z : List UInt8, Lib.compareBytes x y < 0 → Lib.compareBytes y z < 0 → Lib.compareBytes x z < 0
  | [], [], _, h, _ => by simp [Lib.compareBytes] at h
  | _, b :: y, [], _, k => by simp [Lib.compareBytes] at k
  | [], b :: y, c :: z, _, _ => by simp [Lib.compareBytes]
  | a :: x, [], _, h, _ => by simp [Lib.compareBytes] at h
  | a :: x, b :: y, c :: z, h, k => by
    unfold Lib.compareBytes at h k ⊢
    rcases u8_tri a b with h1 | rfl | h1
    · rcases u8_tri b c with k1 | rfl | k1
      · simp [u8_trans h1 k1]
      · simp [h1]
      · simp [k1, u8_asymm k1] at k
    · simp only [UInt8.lt_irrefl, if_false] at h
      rcases u8_tri a c with k1 | rfl | k1
      · simp [k1]
      · simp only [UInt8.lt_irrefl, if_false] at k ⊢
        exact cmp_trans x y z h k
      · simp [k1, u8_asymm k1] at k
    · simp [h1, u8_asymm h1] at h
theorem bytesLess_cmp : ∀ x y : List UInt8, Op.bytesLess x y = decide (Lib.compareBytes x y < 0)
  | [], [] => rfl
  | [], b :: y => by simp [Op.bytesLess, Lib.compareBytes]
  | a :: x, [] => by simp [Op.bytesLess, Lib.compareBytes]
  | a :: x, b :: y => by
    unfold Op.bytesLess Lib.compareBytes
    rcases u8_tri a b with h | rfl | h
    · simp [h]
    · simp [UInt8.lt_irrefl, bytesLess_cmp x y]
    · have : a ≠ b := by rintro rfl; exact absurd h (UInt8.lt_irrefl _)
      simp [h, u8_asymm h, this]
theorem less_self (x : List B) : lessB x x = false := by unfold lessB; rw [cmp_self]; rfl
/-- The four ways of three digests. -/
theorem less_ways (x y z : List B) : (lessB x y = false ∧ lessB y x = false ∧ decide (x = y) = true) ∨ (lessB x y = false ∧ lessB y x = true ∧ decide (x = y) = false) ∨
    (lessB x y = true ∧ lessB y x = false ∧ decide (x = y) = false ∧ lessB y z = false) ∨ (lessB x y = true ∧ lessB y x = false ∧ decide (x = y) = false ∧ lessB y z = true ∧ lessB x z = true) := by
  have hne : ub x ≠ ub y → decide (x = y) = false := fun h => decide_eq_false fun e => h (by rw [e])
  unfold lessB
  rcases cmp_cases (ub x) (ub y) with ⟨h1, h2, h3⟩ | ⟨h1, h2, h3⟩ | ⟨h1, h2, h3⟩
  · right; right
    by_cases h4 : Lib.compareBytes (ub y) (ub z) < 0
    · exact .inr ⟨decide_eq_true h1, decide_eq_false (by omega), hne h3, decide_eq_true h4, decide_eq_true (cmp_trans _ _ _ h1 h4)⟩
    · exact .inl ⟨decide_eq_true h1, decide_eq_false (by omega), hne h3, decide_eq_false h4⟩
  · exact .inl ⟨decide_eq_false (by omega), decide_eq_false (by omega), decide_eq_true (ub_inj h3)⟩
  · exact .inr (.inl ⟨decide_eq_false (by omega), decide_eq_true h2, hne h3⟩)

end Go.Proofs.YtanmopbhglokmaaDoor
