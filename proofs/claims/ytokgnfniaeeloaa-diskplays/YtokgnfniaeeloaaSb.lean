/-
  'append([]byte{}, x.Keep...)': the bytes anew.
-/
import Derived.Test.YtokgnfniaeeloaaSa
import Derived.Deep.AppendSrc
set_option linter.all false
namespace Go.Proofs.Ytokgnfniaeeloaa
open Go.RowKit Go.Shelf

theorem infoB5 : (Try.prog.info? 5).map (fun i => (i.zero, i.size, i.bytes)) = some (some (.int .u8 0), 1, 1) := by kernel_rfl

theorem op_keepCopy {o : Oper} {a : Act} {w : World} {K : Act → World → Prop} {Q : Exit → Act → World → Prop} (s x : Operand)
    (ho : o.op = .call { callee := .builtin .append, args := #[s, x], argTypes := #[32, 32] }) (g : Nat) (hs : a.eval s = .slice (some ⟨g, 0, none⟩) 0 0) (ka : Option Addr) (kc : Nat) (ks : List Int) (hx : a.eval x = .slice ka ks.length kc) (hK : KeepAt w ka ks) (hn : ks.length ≤ 300)
    (h : ∀ a' c' w', KeepAt w' a' ks → Keeps (fun _ => False) w w' → (∀ b o, a' = some ⟨b, o, none⟩ → b = g ∨ w.heap.size ≤ b) → K (a.put o.dst (.slice a' ks.length c')) w') : o.wp Try.prog a w K Q := by
  obtain ⟨i, hi, hz, hsz, hby⟩ := info_parts infoB5
  have hbytes : ∀ (j : Nat) (x : Int), ks[j]? = some x → 0 ≤ x ∧ x ≤ 255 := fun j x hj => by obtain ⟨_, _, _, _, h0, h1⟩ := hK j x hj; exact ⟨h0, h1⟩
  have hsrc : Src Try.prog 1 32 (.slice ka ks.length kc) ks.length (ks.map fun z => (.int .u8 z : Value)) w := by
    cases ks with
    | nil =>
      cases ka with
      | none => exact Src.ofNil w Try.underlying32 kc
      | some ad => exact Src.ofSlice w Try.underlying32 ad 0 kc [] (by simp) (fun j u hj => by simp at hj) (fun u hu => by simp at hu)
    | cons z ks =>
      obtain ⟨b, off, rfl, _⟩ := hK 0 z rfl
      refine Src.ofSlice w Try.underlying32 ⟨b, off, none⟩ _ kc _ (by simp) (fun j u hj => ?_) (fun u hu => ?_)
      · rw [List.getElem?_map] at hj
        cases hq : (z :: ks)[j]? with
        | none => rw [hq] at hj; simp at hj
        | some y =>
          rw [hq] at hj
          simp at hj
          subst hj
          obtain ⟨b', off', e, hc, _⟩ := hK j y hq
          simp at e
          obtain ⟨rfl, rfl⟩ := e
          rw [Addr.add_mid]
          exact hc
      · obtain ⟨y, _, rfl⟩ := List.mem_map.1 hu
        rfl
  by_cases h0 : ks.length = 0
  · obtain rfl : ks = [] := List.eq_nil_of_length_eq_zero h0
    have hr := run_append_room_src (P := Try.prog) w 32 32 o.type 5 i Try.underlying32 hi g 0 0 0 (.slice ka 0 kc) 0 [] (by rw [hsz]; exact hsrc) (by omega) (fun j hj => by simp at hj) (fun j hj => by simp at hj)
    unfold Oper.wp execOp
    simp only [List.length_nil] at hx
    simp only [ho, resolve, invoke, builtin, Sem.run_bind, Sem.run_pure, Result.andThen_ok, List.map_toArray, List.map_cons, List.map_nil, hs, hx, hr]
    exact h (some ⟨g, 0, none⟩) 0 w (fun j x hj => by simp at hj) (Keeps.refl _ _) (fun b o e => .inl (by cases e; rfl))
  · have hr := run_append_grow_src (P := Try.prog) w 32 32 o.type 5 i (.int .u8 0) Try.underlying32 hi hz (some ⟨g, 0, none⟩) 0 0 [] (by
        have := run_firstCells_some (P := Try.prog) w.drew i.size 0 ⟨g, 0, none⟩ 0 0 [] (by simp) (fun j u hj => by simp at hj)
        exact this) (.slice ka ks.length kc) ks.length _ (by rw [hsz]; exact hsrc) (by omega) (by omega) (growslice_fits (by omega) (by rw [hby]; omega))
    unfold Oper.wp execOp
    simp only [ho, resolve, invoke, builtin, Sem.run_bind, Sem.run_pure, Result.andThen_ok, List.map_toArray, List.map_cons, List.map_nil, hs, hx, hr]
    have hk : Keeps (fun _ => False) w (w.drew.alloc (.cells ((([] : List Value) ++ ks.map fun z => (.int .u8 z : Value)).toArray ++ Builtin.zeroCells (Value.int .u8 0).cells (grownCap w (0 + ks.length) 0 5 - (0 + ks.length))) 5)) := ((Keeps.refl _ _).drew).alloc _
    rw [Oper.upon_value, show (0 + ks.length) = ks.length from Nat.zero_add _] at *
    refine h (some ⟨w.heap.size, 0, none⟩) _ _ (fun j x hj => ⟨w.heap.size, 0, rfl, ?_, hbytes j x hj⟩) hk (fun b o e => .inr (by cases e; exact Nat.le_refl _))
    refine (cell_of_row _ w.heap.size _ _ _ _ (heap_alloc2_x w.drew _)).trans ?_
    rw [Nat.zero_add]
    have hj' : j < ks.length := (List.getElem?_eq_some_iff.1 hj).1
    have hjx : ks[j] = x := (List.getElem?_eq_some_iff.1 hj).2
    simp [Array.getElem?_append, hj', hjx]

theorem step_keepCopy {ops : Array Oper} {o : Oper} {a : Act} {w : World} {K : Act → World → Prop} {Q : Exit → Act → World → Prop} {E : Prop} (hgd : o.guard = none) (s x : Operand)
    (ho : o.op = .call { callee := .builtin .append, args := #[s, x], argTypes := #[32, 32] }) (g : Nat) (hs : a.eval s = .slice (some ⟨g, 0, none⟩) 0 0) (ka : Option Addr) (kc : Nat) (ks : List Int) (hx : a.eval x = .slice ka ks.length kc) (hK : KeepAt w ka ks) (hn : ks.length ≤ 300)
    (h : ∀ a' c' w', KeepAt w' a' ks → Keeps (fun _ => False) w w' → (∀ b o, a' = some ⟨b, o, none⟩ → b = g ∨ w.heap.size ≤ b) → K (a.put o.dst (.slice a' ks.length c')) w') :
    if Region.wanted o (yielded ops a.tmps) = true then Oper.wp Try.prog o a w K Q else E := by
  have hw : Region.wanted o (yielded ops a.tmps) = true := by simp [Region.wanted, hgd]
  rw [if_pos hw]
  exact op_keepCopy s x ho g hs ka kc ks hx hK hn h

end Go.Proofs.Ytokgnfniaeeloaa
