/-
  ObjectBack: the walk.
-/
import Derived.Test.YtanmopbhglokmaaDoorTk
set_option linter.all false
namespace Go.Proofs.YtanmopbhglokmaaDoor
open Go.RowKit Go.Sort

theorem fr_take (k : Int) (l : List B) : (fr k l).take (l.length + 3) = txt k l := by
  unfold fr padB chk
  rw [List.append_assoc, List.take_append_of_le_length (by rw [txt_len]; exact Nat.le_refl _), List.take_of_length_le (by rw [txt_len]; exact Nat.le_refl _)]
theorem fr_check (k : Int) (l : List B) : ((fr k l).drop (l.length + 3)).take 4 = (sha (txt k l)).take 4 := by
  have h4 : ((sha (txt k l)).take 4).length = 4 := by rw [List.length_take, sha_len]; rfl
  have e : (txt k l).length = l.length + 3 := txt_len k l
  unfold fr padB chk
  rw [List.append_assoc, ← e, List.drop_left, List.take_append_of_le_length (by omega), List.take_of_length_le (by omega)]
theorem lnOf_of {L M : List B} (h : ∀ j, j < 3 → L[j]? = M[j]?) : lnOf L = lnOf M := by
  unfold lnOf
  rw [List.getD_eq_getElem?_getD, List.getD_eq_getElem?_getD, List.getD_eq_getElem?_getD, List.getD_eq_getElem?_getD, h 1 (by omega), h 2 (by omega)]
theorem not_fewer {k : Int} {l : List B} {m p : Nat} (hl : l.length ≤ 1000) (hm : (l.length + 134) / 128 = m) (hp : p + 1 = m) : ¬ IsObj ((fr k l).take (p * 128)) := fun ho => by
  have hL := fr_len k l
  rw [hm] at hL
  rcases Nat.eq_zero_or_pos p with h0 | h0
  · subst h0
    have := ho.k1
    simp [kindOf, nb] at this
  · have e : lnOf ((fr k l).take (p * 128)) = lnOf (fr k l) := lnOf_of fun j hj => by rw [List.getElem?_take, if_pos (by omega)]
    have h1 := ho.len
    rw [e, fr_ln k l (by omega), hm, List.length_take, hL] at h1
    omega
theorem not_more {k : Int} {l : List B} {m : Nat} (hl : l.length ≤ 1000) (hm : (l.length + 134) / 128 = m) : ¬ IsObj (fr k l ++ zb 128) := fun ho => by
  have hL := fr_len k l
  rw [hm] at hL
  have hm1 : 1 ≤ m := by omega
  have e : lnOf (fr k l ++ zb 128) = lnOf (fr k l) := lnOf_of fun j hj => by rw [List.getElem?_append_left (by omega)]
  have h1 := ho.len
  rw [e, fr_ln k l (by omega), hm, List.length_append, hL, zb_len] at h1
  omega

theorem SlB.pre {w : World} {a : Option Addr} {n c : Nat} {l : List B} (h : SlB w a n c l) (k : Nat) (hk : k ≤ n) : SlB w a k c (l.take k) := by
  have hl := h.len
  refine ⟨by simp; omega, by have := h.cap; omega, fun j x hx => ?_⟩
  rw [List.getElem?_take] at hx
  split at hx
  · exact h.at_ j x hx
  · cases hx
theorem SlB.part {w : World} {g of N c : Nat} {L : List B} (h : SlB w (some ⟨g, of, none⟩) N c L) (i m c' : Nat) (hi : i + m ≤ N) (hc : m ≤ c') : SlB w (some ⟨g, of + i, none⟩) m c' ((L.drop i).take m) := by
  have := h.mid i m hi
  exact ⟨this.len, hc, this.at_⟩

theorem build40 (w : World) : (Instr.build 40 #[]).run Tryd.prog w = .ok (.agg (brow (zb 128))) w := by
  unfold Instr.build
  simp only [Sem.run_bind, zero40, Result.andThen_ok, run_underlying Tryd.underlying40]
  have hs5 : (sizeOf 5).run Tryd.prog w = .ok 1 w := by simp [go_sem]
  simp [Instr.fill, Value.cells, hs5]
theorem wpList_build40 {ops : Array Oper} {rest : List Oper} {o : Oper} {a : Act} {w : World} {Q : Exit → Act → World → Prop} (hgd : o.guard = none) (ho : o.op = .build 40 #[])
    (h : wpList Tryd.prog ops Q rest (a.put o.dst (.agg (brow (zb 128)))) w) : wpList Tryd.prog ops Q (o :: rest) a w := by
  refine wpList_plain hgd fun K hK => ?_
  unfold Oper.wp execOp
  simp only [ho, List.map_toArray, List.map_nil, build40, Sem.run_bind, Result.andThen_ok, Sem.run_pure]
  exact hK _ _ h

theorem elem23 : Tryd.prog.underlying 23 = some (.slice (Tryd.prog.elem 23)) := by kernel_rfl
theorem sizeOf40 (w : World) : (sizeOf (Tryd.prog.elem 23)).run Tryd.prog w = .ok 128 w := by
  have h : Tryd.prog.elem 23 = 40 := by kernel_rfl
  obtain ⟨i, hi, hz, hsz, hby⟩ := info40'
  rw [h]; simp [sizeOf, typeInfo, hi, hsz]
theorem run_slice_pre23 (w : World) (g of N c k : Nat) (h : k ≤ c) : (Instr.sliceAt 23 (.slice (some ⟨g, of, none⟩) N c) none (some (.int .i64 (k : Int))) none).run Tryd.prog w = .ok (.slice (some ⟨g, of, none⟩) k c) w := by
  rw [run_sliceAt_slice w 23 _ _ _ _ elem23, run_slice_h w 23 _ _ _ elem23 .i64 (k : Int) (by omega) (by omega), sizeOf40]
  simp only [Result.andThen_ok, sliced, Int.toNat_natCast, Nat.sub_zero]
  congr 2
  by_cases hc : c = 0
  · rw [if_pos hc]
  · rw [if_neg hc]; simp [Addr_add]
theorem run_slice_pre22 (w : World) (g of N c k : Nat) (h : k ≤ c) : (Instr.sliceAt 22 (.slice (some ⟨g, of, none⟩) N c) none (some (.int .i64 (k : Int))) none).run Tryd.prog w = .ok (.slice (some ⟨g, of, none⟩) k c) w := by
  rw [run_sliceAt_slice w 22 _ _ _ _ elem22, run_slice_h w 22 _ _ _ elem22 .i64 (k : Int) (by omega) (by omega), sizeOf5]
  simp only [Result.andThen_ok, sliced, Int.toNat_natCast, Nat.sub_zero]
  congr 2
  by_cases hc : c = 0
  · rw [if_pos hc]
  · rw [if_neg hc]; simp [Addr_add]
theorem wpList_slice_pre23 {ops : Array Oper} {rest : List Oper} {o : Oper} {a : Act} {w : World} {Q : Exit → Act → World → Prop} (hgd : o.guard = none) (x hi : Operand) (ho : o.op = .slice 23 x none (some hi) none) (g of N c k : Nat) (hx : a.eval x = .slice (some ⟨g, of, none⟩) N c) (K0 : Int) (hhi : a.eval hi = .int .i64 K0) (hK : K0 = (k : Int)) (hk : k ≤ c)
    (h : wpList Tryd.prog ops Q rest (a.put o.dst (.slice (some ⟨g, of, none⟩) k c)) w) : wpList Tryd.prog ops Q (o :: rest) a w := by
  subst hK
  refine wpList_plain hgd fun K hK => ?_
  unfold Oper.wp execOp
  simp only [ho, hx, hhi, Option.map_some, Option.map_none, run_slice_pre23 w g of N c k hk, Sem.run_bind, Result.andThen_ok, Sem.run_pure]
  exact hK _ _ h
theorem wpList_slice_pre22 {ops : Array Oper} {rest : List Oper} {o : Oper} {a : Act} {w : World} {Q : Exit → Act → World → Prop} (hgd : o.guard = none) (x hi : Operand) (ho : o.op = .slice 22 x none (some hi) none) (g of N c k : Nat) (hx : a.eval x = .slice (some ⟨g, of, none⟩) N c) (K0 : Int) (hhi : a.eval hi = .int .i64 K0) (hK : K0 = (k : Int)) (hk : k ≤ c)
    (h : wpList Tryd.prog ops Q rest (a.put o.dst (.slice (some ⟨g, of, none⟩) k c)) w) : wpList Tryd.prog ops Q (o :: rest) a w := by
  subst hK
  refine wpList_plain hgd fun K hK => ?_
  unfold Oper.wp execOp
  simp only [ho, hx, hhi, Option.map_some, Option.map_none, run_slice_pre22 w g of N c k hk, Sem.run_bind, Result.andThen_ok, Sem.run_pure]
  exact hK _ _ h

theorem bytes_at {x : List B} (w : World) (a1 a2 : Option Addr) (n1 c1 n2 c2 : Nat) (h1 : SlB w a1 n1 c1 x) (h2 : SlB w a2 n2 c2 x) :
    Calls Tryd.prog 14 #[.slice a1 n1 c1, .slice a2 n2 c2] w fun e w' => e = .returned (.bool true) ∧ w = w' :=
  (bytes12 w a1 a2 n1 c1 n2 c2 x x h1 h2).mono fun e w' ⟨h1, h2⟩ => ⟨by rw [h1, decide_eq_true rfl], h2.symm⟩

end Go.Proofs.YtanmopbhglokmaaDoor
