
/-
  Appends of slices of numbers; guarded operations; contracts with letters.
-/
import Derived.Test.YtkcnnkakpkdhkaaDoorUf
set_option linter.all false
namespace Go.Proofs.YtkcnnkakpkdhkaaDoor
open Go.RowKit Go.Sort Go.Shelf
attribute [local go_sem] Oper.semAt_some

theorem unguard {ops : Array Oper} {rest : List Oper} {o : Oper} {a : Act} {w : World} {Q : Exit → Act → World → Prop} (hw : Region.wanted o (yielded ops a.tmps) = true)
    (h : wpList Tryd.prog ops Q ({ o with guard := none } :: rest) a w) : wpList Tryd.prog ops Q (o :: rest) a w := by
  obtain ⟨d, op, t, p, af, g⟩ := o
  unfold wpList at h ⊢
  rw [if_pos hw]
  rw [if_pos (by simp [Region.wanted])] at h
  exact h

theorem OwnI.slice2 {w : World} {base : Nat} {v : Value} {l : List Int} (h : OwnI w base v l) : ∃ a c, v = .slice a l.length c ∧ SlI w a l.length c l ∧ (a = none → c = 0) ∧ (∀ b o, a = some ⟨b, o, none⟩ → base ≤ b) := by
  obtain ⟨_, ⟨rfl, h0⟩ | ⟨g, cap, cur, rfl, hb, hg, hn, hc, hs, ht⟩⟩ := h.owns
  · obtain rfl : l = [] := List.eq_nil_of_length_eq_zero h0
    exact ⟨none, 0, rfl, SlI.nil w, fun _ => rfl, fun b o e => by cases e⟩
  · refine ⟨_, _, rfl, ⟨rfl, hn, fun j x hx => ⟨g, 0, rfl, ?_⟩⟩, (fun e => by cases e), (fun b o e => by cases e; exact hb)⟩
    have hj : j < l.length := (List.getElem?_eq_some_iff.1 hx).1
    have h1 : (cur.toList.take (l.length * 1))[j]? = some (.int .i64 x) := by rw [ht, List.getElem?_map, hx]; rfl
    rw [List.getElem?_take, if_pos (by omega)] at h1
    rw [Nat.zero_add, cell_of_row w g j _ _ _ hg]
    simp at h1
    exact h1

theorem wpList_appIs {ops : Array Oper} {rest : List Oper} {o : Oper} {a : Act} {w : World} {Q : Exit → Act → World → Prop} (hgd : o.guard = none) (s x : Operand) (ho : o.op = .call { callee := .builtin .append, args := #[s, x], argTypes := #[75, 75] })
    (base : Nat) (v : Value) (l0 : List Int) (hs : a.eval s = v) (hown : OwnI w base v l0) (ad : Option Addr) (m c : Nat) (l1 : List Int) (hx : a.eval x = .slice ad m c) (hl : SlI w ad m c l1) (hnc : ad = none → c = 0) (hlen : l0.length + m ≤ 100000) (hbase : base ≤ w.heap.size)
    (h : ∀ v' w', OwnI w' base v' (l0 ++ l1) → Keeps (fun k => v.ownBlock = some k) w w' → wpList Tryd.prog ops Q rest (a.put o.dst v') w') : wpList Tryd.prog ops Q (o :: rest) a w := by
  obtain ⟨i, hi, hz, hsz, hby⟩ := info3'
  cases ad with
  | none =>
    obtain rfl : c = 0 := hnc rfl
    have hm : m = 0 := by have := hl.cap; omega
    subst hm
    obtain rfl : l1 = [] := List.eq_nil_of_length_eq_zero hl.len
    refine wpList_append_own_none hgd s x 75 ho base 3 i 1 Tryd.underlying75 hi v l0.length _ hs hown.owns hx ?_
    exact h v w (by rw [List.append_nil]; exact hown) (Keeps.refl _ _)
  | some ad =>
    refine wpList_append_own _ hgd s x 75 ho base 3 i (.int .i64 0) 1 8 Tryd.underlying75 hi hz hsz hby rfl (by omega) v l0.length _ hs hown.owns ad m c (l1.map (Value.int .i64)) hx (by rw [List.length_map, hl.len]; omega) (fun j u hu => ?_) (fun u hu => by
      obtain ⟨z, _, rfl⟩ := List.mem_map.1 hu
      rfl) (by unfold maxLen; omega) (by omega) hbase ?_
    · rw [List.getElem?_map] at hu
      cases hq : l1[j]? with
      | none => rw [hq] at hu; cases hu
      | some z =>
        rw [hq] at hu
        obtain ⟨b', o', e', hc⟩ := hl.at_ j z hq
        cases e'
        cases hu
        rw [Addr_add]
        exact hc
    · intro v' w' ho' hg _
      refine h v' w' ⟨?_⟩ ⟨hg.os, hg.tape, hg.output, hg.size, fun k hk hb => hg.block k hk fun e => hb e.symm⟩
      rw [List.length_append, hl.len, List.map_append]
      exact ho'

theorem app_data (s u : ByteArray) : (s ++ u).data.toList = s.data.toList ++ u.data.toList := by
  simp
theorem app_sz (s u : ByteArray) : (s ++ u).size = s.size + u.size := by
  rw [← sz_len, app_data, List.length_append, sz_len, sz_len]

end Go.Proofs.YtkcnnkakpkdhkaaDoor
