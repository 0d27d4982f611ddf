
/-
  What a state holds; bytes that are copied into it.
-/
import Derived.Test.YtanmopbhglokmaaDoorPu
import Derived.Laws.CopyOwn
set_option linter.all false
namespace Go.Proofs.YtanmopbhglokmaaDoor
open Go.RowKit

/-- The state behind the first i blocks of l. -/
def hashN (l : List B) : Nat → St
  | 0 => h0
  | i + 1 => (hashN l i).comp ((l.drop (64 * i)).take 64)
theorem hashN_append (l m : List B) (i : Nat) (h : 64 * i ≤ l.length) : hashN (l ++ m) i = hashN l i := by
  induction i with
  | zero => rfl
  | succ i ih =>
    have e : ((l ++ m).drop (64 * i)).take 64 = (l.drop (64 * i)).take 64 := by
      rw [List.drop_append_of_le_length (by omega), List.take_append_of_le_length (by simp; omega)]
    simp only [hashN]
    rw [ih (by omega), e]

/-- The bytes l lie in the slice a, n, c. -/
structure SlB (w : World) (a : Option Addr) (n c : Nat) (l : List B) : Prop where
  len : l.length = n
  cap : n ≤ c
  at_ : ∀ j x, l[j]? = some x → ∃ b o, a = some ⟨b, o, none⟩ ∧ w.cell? ⟨b, o + j, none⟩ = some (.int .u8 (nb x))
theorem SlB.keeps {S : Nat → Prop} {w w' : World} {a : Option Addr} {n c : Nat} {l : List B} (h : SlB w a n c l) (hk : Keeps S w w') (hs : 0 < n → ∀ b o, a = some ⟨b, o, none⟩ → ¬ S b) : SlB w' a n c l :=
  ⟨h.len, h.cap, fun j x hx => by obtain ⟨b, o, e, hc⟩ := h.at_ j x hx; exact ⟨b, o, e, cell_keeps hk hc (hs (by have := (List.getElem?_eq_some_iff.1 hx).1; have := h.len; omega) b o e)⟩⟩
theorem SlB.nil (w : World) : SlB w none 0 0 [] := ⟨rfl, Nat.le_refl _, fun j x hx => by simp at hx⟩

/-- The state in block p has taken in the bytes bs. -/
structure Has (w : World) (p : Nat) (bs : List B) : Prop where
  out : ∃ rest, StAt w p (hashN bs (bs.length / 64)).toL rest (bs.length : Int) ∧ rest.take (bs.length % 64) = bs.drop (64 * (bs.length / 64))
theorem Has.keeps {S : Nat → Prop} {w w' : World} {p : Nat} {bs : List B} (h : Has w p bs) (hk : Keeps S w w') (hs : ¬ S p) : Has w' p bs := by
  obtain ⟨rest, h1, h2⟩ := h.out
  exact ⟨rest, h1.keeps hk hs, h2⟩

theorem wpList_copy_over {ops : Array Oper} {rest : List Oper} {o : Oper} {a : Act} {w : World} {Q : Exit → Act → World → Prop} (hgd : o.guard = none) (d s : Operand) (dT sT : TypeId)
    (ho : o.op = .call { callee := .builtin .copy, args := #[d, s], argTypes := #[dT, sT] }) (elem : TypeId) (hu : Tryd.prog.underlying dT = some (.slice elem)) (hsz : (Tryd.prog.info? elem).map (·.size) = some 1)
    (dp sp : Option Addr) (dLen dCap sLen sCap : Nat) (hd : a.eval d = .slice dp dLen dCap) (hs : a.eval s = .slice sp sLen sCap)
    (g off : Nat) (cur : List Value) (t : TypeId) (hg : w.heap[g]? = some (.cells cur.toArray t (0, 0))) (cs : List Value) (hn : cs.length = Nat.min sLen dLen)
    (hpos : 0 < cs.length → dp = some ⟨g, off, none⟩ ∧ ∃ ad, sp = some ad ∧ ∀ j v, cs[j]? = some v → w.cell? (ad.add j) = some v)
    (hfit : off + cs.length ≤ cur.length) (h1 : ∀ v ∈ cs, v.oneCell' = true)
    (h : ∀ w', Hid (w'.heap[g]? = some (.cells (splice cur off cs).toArray t (0, 0))) → Keeps (· = g) w w' → w'.heap.size = w.heap.size → wpList Tryd.prog ops Q rest (a.put o.dst (goInt cs.length)) w') :
    wpList Tryd.prog ops Q (o :: rest) a w := by
  by_cases h0 : cs.length = 0
  · obtain rfl : cs = [] := List.eq_nil_of_length_eq_zero h0
    refine wpList_copy_nothing hgd d s dT sT ho elem hu hsz dp sp dLen dCap sLen sCap hd hs (by simpa using hn.symm) ?_
    exact h w (show _ = _ by simpa [splice] using hg) (Keeps.refl _ _) rfl
  · obtain ⟨rfl, ad, rfl, hsrc⟩ := hpos (by omega)
    refine wpList_copy_own hgd d s dT sT ho elem hu hsz g off dLen dCap ad sLen sCap hd hs cur.toArray t hg cs hn hsrc (by simpa using hfit) h1 ?_
    exact h _ (show _ = _ by simpa [splice] using setRow_heap w g _ _ t _ hg) ((Keeps.refl (· = g) w).setRow (.inl rfl) _) (by simp)

theorem stRow_splice (h : List W) (rest : List B) (t : Int) (hh : h.length = 8) (hr : rest.length = 64) (o : Nat) (bs : List B) (ho : o + bs.length ≤ 64) :
    (splice (stRow h rest t).toList (8 + o) (bs.map vb)).toArray = stRow h (ov rest o bs) t := by
  unfold splice stRow ov
  congr 1
  simp only [List.map_append, List.map_take, List.map_drop, List.length_map]
  rw [List.take_append, List.drop_append]
  simp [hh, hr, show 8 + o - 8 = o by omega, List.take_append, List.drop_append, show 8 + o + bs.length - 8 = o + bs.length by omega, show o - 64 = 0 by omega, show o + bs.length - 64 = 0 by omega]
  rw [List.take_of_length_le (by simp [hh]), show List.drop (8 + o + bs.length) (List.map vw h) = [] from List.drop_eq_nil_of_le (by simp [hh]; omega)]; rfl

theorem size5 : (Tryd.prog.info? 5).map (·.size) = some 1 := by kernel_rfl

theorem Addr_add (b o j : Nat) : (⟨b, o, none⟩ : Addr).add j = ⟨b, o + j, none⟩ := by unfold Addr.add; split <;> simp_all

end Go.Proofs.YtanmopbhglokmaaDoor
