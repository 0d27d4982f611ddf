
/-
  A value in a block; signs, and what it tells one by one.
-/
import Derived.Test.YtkcnnkakpkdhkaaDoorIa
set_option linter.all false
namespace Go.Proofs.YtkcnnkakpkdhkaaDoor
open Go.RowKit Go.Sort Go.Shelf
attribute [local go_sem] Oper.semAt_some

abbrev Tabs (w : World) : Prop := Lib.Utf8Tabs 0 1 w
theorem Tabs.keeps {S : Nat → Prop} {w w' : World} (h : Lib.Utf8Tabs 0 1 w) (k : Keeps S w w') (h0 : ¬ S 0) (h1 : ¬ S 1) : Lib.Utf8Tabs 0 1 w' :=
  ⟨fun c hc => cell_keeps k (h.1 c hc) h0, fun i hi => ⟨cell_keeps k (h.2 i hi).1 h1, cell_keeps k (h.2 i hi).2 h1⟩⟩
theorem Tabs.keep {w w' : World} (h : Lib.Utf8Tabs 0 1 w) (k : Keeps (fun _ => False) w w') : Lib.Utf8Tabs 0 1 w' := Tabs.keeps h k (fun h => h) (fun h => h)
theorem Tabs.kpx {S : Nat → Prop} {w w' : World} (h : Lib.Utf8Tabs 0 1 w) (k : KpX S w w') (h0 : ¬ S 0) (h1 : ¬ S 1) : Lib.Utf8Tabs 0 1 w' :=
  ⟨fun c hc => k.cell (h.1 c hc) h0, fun i hi => ⟨k.cell (h.2 i hi).1 h1, k.cell (h.2 i hi).2 h1⟩⟩
theorem Tabs.lt {w : World} (h : Lib.Utf8Tabs 0 1 w) : 1 < w.heap.size := World.block_lt_of_cell? w ⟨1, 0, none⟩ (h.2 0 (by omega)).1

/-- In block g lies a value of type t. -/
structure Ce (w : World) (g : Nat) (t : TypeId) (v : Value) : Prop where
  row : w.heap[g]? = some (.cells #[v] t (0, 0))
theorem Ce.lt {w : World} {g : Nat} {t : TypeId} {v : Value} (h : Ce w g t v) : g < w.heap.size := lt_of_row h.row
theorem Ce.keeps {S : Nat → Prop} {a w : World} {g : Nat} {t : TypeId} {v : Value} (h : Ce a g t v) (hk : Keeps S a w) (hs : ¬ S g) : Ce w g t v := ⟨hk.row h.row hs⟩
theorem Ce.keep {a w : World} {g : Nat} {t : TypeId} {v : Value} (h : Ce a g t v) (hk : Keeps (fun _ => False) a w) : Ce w g t v := h.keeps hk (fun h => h)
theorem Ce.cell {w : World} {g : Nat} {t : TypeId} {v : Value} (h : Ce w g t v) : w.cell? ⟨g, 0, none⟩ = some v := by simp [World.cell?, h.row]
theorem Ce.live {w : World} {g : Nat} {t : TypeId} {v : Value} (h : Ce w g t v) : w.frozen? ⟨g, 0, none⟩ = false := frozen_of_row w g 0 _ _ h.row
theorem Ce.set {w : World} {g : Nat} {t : TypeId} {v : Value} (h : Ce w g t v) (u : Value) : Ce (w.setCell ⟨g, 0, none⟩ u) g t u := ⟨by rw [heap_setCell_same w _ _ _ _ _ h.row]; rfl⟩
theorem Ce.set_other {w : World} {g k : Nat} {t : TypeId} {v : Value} (h : Ce w g t v) (hk : k ≠ g) (u : Value) : Ce (w.setCell ⟨k, 0, none⟩ u) g t v := h.keeps ((Keeps.refl (· = k) _).setCell (.inl rfl) _) (Ne.symm hk)
theorem Ce.put {w : World} {g D : Nat} {t : TypeId} {v : Value} (h : Ce w g t v) (hD : g ≠ D) (o : Obj) : Ce (w.putObj D o) g t v := ⟨(World.putObj_heap_other hD).trans h.row⟩
theorem Ce.kpx {S : Nat → Prop} {a w : World} {g : Nat} {t : TypeId} {v : Value} (h : Ce a g t v) (hk : KpX S a w) (hs : ¬ S g) : Ce w g t v := ⟨hk.2 g _ _ _ h.row hs⟩

section
variable {F : Fence} {m : Nat} {ops : Array Oper} {rest : List Oper} {o : Oper} {a : Act} {w : World} {Q : Exit → Act → World → Prop}
theorem wpListIn_allocC (t : TypeId) (z : Value) (hz : ∀ w, (zeroValue t).run Tryd.prog w = .ok z w) (hc : z.cells = #[z]) (hgd : o.guard = none) (ho : o.op = .alloc t)
    (h : ∀ g w', Ce w' g t z → w.heap.size ≤ g → Keeps (fun _ => False) w w' → wpListIn F m Tryd.prog ops Q rest (a.put o.dst (.pointer (some ⟨g, 0, none⟩))) w') : wpListIn F m Tryd.prog ops Q (o :: rest) a w := by
  refine wpListIn_plain hgd fun K hK => ?_
  refine ⟨fun f hf => by simp [Oper.about, ho] at hf, ?_⟩
  have hsem : Oper.semAt F.round a.eval o = execOp a.eval o := by unfold Oper.semAt; cases F.round <;> simp [ho]
  rw [hsem]
  unfold execOp
  simp only [ho, Instr.alloc, hz, newVar, newRow, hc, Sem.run_bind, Result.andThen_ok, Sem.run_pure]
  exact hK _ _ (h w.heap.size _ ⟨heap_alloc_new w _⟩ (Nat.le_refl _) (keeps_alloc w _))
theorem wpList_allocC (t : TypeId) (z : Value) (hz : ∀ w, (zeroValue t).run Tryd.prog w = .ok z w) (hc : z.cells = #[z]) (hgd : o.guard = none) (ho : o.op = .alloc t)
    (h : ∀ g w', Ce w' g t z → w.heap.size ≤ g → Keeps (fun _ => False) w w' → wpList Tryd.prog ops Q rest (a.put o.dst (.pointer (some ⟨g, 0, none⟩))) w') : wpList Tryd.prog ops Q (o :: rest) a w := by
  refine wpList_plain hgd fun K hK => ?_
  unfold Oper.wp execOp
  simp only [ho, Instr.alloc, hz, newVar, newRow, hc, Sem.run_bind, Result.andThen_ok, Sem.run_pure]
  exact hK _ _ (h w.heap.size _ ⟨heap_alloc_new w _⟩ (Nat.le_refl _) (keeps_alloc w _))
end
theorem zero4 : ∀ w, (zeroValue 4).run Tryd.prog w = .ok (.bool false) w := fun _ => by kernel_rfl
theorem zero22 : ∀ w, (zeroValue 75).run Tryd.prog w = .ok (.slice none 0 0) w := fun _ => by kernel_rfl

theorem grown_of_keeps {w w' : World} (h : Keeps (fun _ => False) w w') : w.grownBy w' none := ⟨h.os, h.tape, h.output, h.size, fun k hk _ => h.block k hk (fun h => h)⟩

theorem signs22 (w : World) (s : ByteArray) : Calls Tryd.prog 36 #[.string s] w fun e w' =>
    ∃ bk, e = .returned (.func (.func 48) #[] #[.pointer (some ⟨bk, 0, none⟩)]) ∧ Ce w' bk 9 (.string s) ∧ w.heap.size ≤ bk ∧ bk < w'.heap.size ∧ Keeps (fun _ => False) w w' := by
  go_enter Tryd.func36, Tryd.ntmps36
  go_wp2
  go_ret
  exact ⟨_, rfl, ⟨heap_alloc_new w _⟩, Nat.le_refl _, by simp, keeps_alloc w _⟩

def encY (x : Int × Bool) : Array Value := #[.int .i64 x.1, .bool x.2]

theorem getb (s : ByteArray) (i : Nat) : s.get! i = s.data.toList.getD i 0 := by
  cases s with
  | mk d =>
    show d[i]! = _
    rw [List.getD_eq_getElem?_getD, Array.getElem?_toList, Array.getElem!_eq_getD, Array.getD_eq_getD_getElem?]
    rfl
theorem sz_len (s : ByteArray) : s.data.toList.length = s.size := Array.length_toList
theorem dgo {s : ByteArray} (h : s.data.toList ≠ []) : Lib.decodeGo s = dN s.data.toList := by
  have h0 : s.size = s.data.toList.length := (sz_len s).symm
  have hz : ¬ s.size = 0 := fun e => h (List.eq_nil_of_length_eq_zero (by omega))
  unfold Lib.decodeGo
  rw [if_neg hz, Lib.decode_at]
  unfold dN
  simp only [getb, h0, Nat.sub_zero, Nat.zero_add]
theorem ext_drop (s : ByteArray) (k : Nat) : (s.extract k s.size).data.toList = s.data.toList.drop k := by
  rw [ByteArray.data_extract, Array.toList_extract, List.extract_eq_take_drop, List.take_of_length_le]
  rw [List.length_drop, sz_len]; omega
theorem ext_sz (s : ByteArray) (k : Nat) : (s.extract k s.size).size = s.size - k := by
  rw [← sz_len, ext_drop, List.length_drop, sz_len]

/-- What the iterator has at hand. -/
structure ItIn (bk : Nat) (J : List (Int × Bool) → World → Prop) (W : World) (pre : List (Int × Bool)) (s : ByteArray) (wr : World) : Prop where
  j : J pre wr
  n : Ce wr bk 9 (.string s)
  t : Lib.Utf8Tabs 0 1 wr
  size : W.heap.size ≤ wr.heap.size
theorem ItIn.keep {bk : Nat} {J : List (Int × Bool) → World → Prop} {W wr w' : World} {pre : List (Int × Bool)} {s : ByteArray} (hJ : OwnFrom W.heap.size J) (h : ItIn bk J W pre s wr) (kp : Keeps (fun _ => False) wr w') : ItIn bk J W pre s w' :=
  ⟨hJ pre wr w' none h.j (grown_of_keeps kp) (fun r e => by cases e), h.n.keep kp, Tabs.keep h.t kp, Nat.le_trans h.size kp.size⟩

/-- How long the text in block bk is. -/
def strLen (bk : Nat) (w : World) : Nat := match w.cell? ⟨bk, 0, none⟩ with
  | some (.string s) => s.size
  | _ => 0
theorem strLen_of {bk : Nat} {w : World} {s : ByteArray} {t : TypeId} (h : Ce w bk t (.string s)) : strLen bk w = s.size := by unfold strLen; rw [h.cell]

set_option maxRecDepth 100000 in
set_option maxHeartbeats 2000000 in
theorem sgn26 (S : Nat → Prop) (w : World) (bk : Nat) (s : ByteArray) (hs : s.size ≤ 9223372036854775807) (hT : Lib.Utf8Tabs 0 1 w) (hbk : Ce w bk 9 (.string s)) (hS : ¬ S bk) (hS0 : ¬ S 0) (hS1 : ¬ S 1) (hb2 : 2 ≤ bk) :
    SeqM Tryd.prog 48 #[.pointer (some ⟨bk, 0, none⟩)] encY (KpX S) (sgn s.data.toList) bk w := by
  intro ly ny J Jx W hW hJ hJx hJw hY h0
  have hwW : Keeps (fun _ => False) w W := ⟨hW.os, hW.tape, hW.output, hW.size, fun k hk _ => hW.block k hk⟩
  have hI : ItIn bk J W [] s W := ⟨h0, hbk.keep hwW, Tabs.keep hT hwW, Nat.le_refl _⟩
  have HJ : Hid (OwnFrom W.heap.size J) := hJ
  have HJw : Hid (∀ pre A v, J pre A → J pre (A.setCell ⟨bk, 0, none⟩ v)) := hJw
  obtain ⟨XS, hXS⟩ : ∃ XS, sgn s.data.toList = XS := ⟨_, rfl⟩
  rw [hXS] at hY ⊢
  clear hbk hwW h0 hJ hJx hJw
  refine callsIn_of_wp Tryd.func48 rfl trivial ?_ rfl
  simp only [Tryd.ntmps48, List.size_toArray, List.length_cons, List.length_nil, Nat.reduceAdd, Nat.reduceSub, Array.replicate_succ, Array.replicate_zero, List.push_toArray, List.append_toArray, List.nil_append, List.cons_append]
  gi_wp2
  gi_loopw [3] (fun _ wr => ∃ (pre : List (Int × Bool)) (s1 : ByteArray), s1.size ≤ 9223372036854775807 ∧ XS = pre ++ sgn s1.data.toList ∧ ItIn bk J W pre s1 wr) (fun _ wr => strLen bk wr)
  case atStart => exact ⟨[], s, hs, hXS.symm, hI⟩
  case round =>
    clear hI hXS
    obtain ⟨pre, s1, hs1, hx, hR⟩ := hrel
    have hcn := hR.n.cell
    have hfn := hR.n.live
    have Hm : Hid (strLen bk wr = s1.size) := strLen_of hR.n
    by_cases h0 : s1.data.toList = []
    · have hz : ¬ (0 : Int) < (s1.size : Int) := by
        have : s1.size = 0 := by rw [← sz_len, h0]; rfl
        omega
      rw [h0, sgn_nil, List.append_nil] at hx
      have Hx : Hid (XS = pre) := hx
      clear hx h0
      gi_wp2
      go_end0
      refine ⟨⟨_, rfl⟩, .inl ?_⟩
      rw [Hx.out]
      exact hR.j
    · have hz : (0 : Int) < (s1.size : Int) := by
        have : 0 < s1.data.toList.length := List.length_pos_iff.2 h0
        have e := sz_len s1
        omega
      have hd := dgo h0
      by_cases hb : bad s1.data.toList
      · have Hx : Hid (XS = pre ++ (0, false) :: []) := by show _ = _; rw [hx, sgn_bad h0 hb]
        have hb1 := hb.1
        have hb2 := hb.2
        rw [← hd] at hb1 hb2
        have hY1 : Hid (∀ w1, J pre w1 → _) := fun w1 hj1 => hY pre (0, false) [] w1 Hx.out hj1
        clear hY hx hd hb h0
        gi_wp2_with (refine ⟨trivial, (fun h => by cases h), ?_⟩; gi_at_call 49; refine (callsIn_wide.2 (Tryd.utf8_DecodeRuneInString _ _ hR.t)).mono ?_; rintro e w3 ⟨rfl, kb⟩; have k3 := Keeps.ofBelow kb; rw [hb1, hb2]; have hRR := hR.keep HJ.out k3; obtain ⟨fn, tmps, assign, body, hy, hRd⟩ := hY1.out _ hRR.j; simp only [encY] at hy; clear hR hcn hfn)
        refine ⟨fun h => by (cases h), hRd.mono ?_⟩
        rintro ed W3 ⟨hkf3, (⟨rfl, hJ3, hk3⟩ | ⟨rfl, hJx3⟩)⟩
        · gi_wp2
          refine bodyPost_ret (results_none rfl _ _ _) rfl ?_
          exact ⟨⟨_, rfl⟩, .inl (by rw [Hx.out]; exact hJ3)⟩
        · gi_wp2
          refine bodyPost_ret (results_none rfl _ _ _) rfl ?_
          exact ⟨⟨_, rfl⟩, .inr ⟨pre, (0, false), [], Hx.out, hJx3⟩⟩
      · obtain ⟨g1, g2, g3, g4⟩ := dN_good h0 hb
        have Hx : Hid (XS = pre ++ (((dN s1.data.toList).1 : Int), true) :: sgn (s1.data.toList.drop (dN s1.data.toList).2)) := by show _ = _; rw [hx, sgn_good h0 hb]
        obtain ⟨R, hRr⟩ : ∃ R, (dN s1.data.toList).1 = R := ⟨_, rfl⟩
        obtain ⟨K, hKr⟩ : ∃ K, (dN s1.data.toList).2 = K := ⟨_, rfl⟩
        have hlen := sz_len s1
        unfold bad at hb
        rw [hRr, hKr] at hb
        rw [hRr] at g1
        rw [hKr] at g3 g4
        rw [hRr, hKr] at Hx
        have e1 : (Lib.decodeGo s1).1 = R := by rw [hd, hRr]
        have e2 : (Lib.decodeGo s1).2 = K := by rw [hd, hKr]
        have hY1 : Hid (∀ w1, J pre w1 → _) := fun w1 hj1 => hY pre ((R : Int), true) _ w1 Hx.out hj1
        have hR0 : (0 : Int) ≤ (R : Int) := by omega
        have hR1 : (R : Int) ≤ 1114111 := g1.2.1
        have hK1 : (K : Int) ≤ (s1.size : Int) := by omega
        have hK0 : (0 : Int) ≤ (K : Int) := by omega
        have HK : Hid (K ≤ s1.size ∧ 1 ≤ K) := ⟨by omega, g3⟩
        have hcase : ((R : Int) == 65533) = false ∨ (((R : Int) == 65533) = true ∧ ((K : Int) == 1) = false) := by
          by_cases c : R = 65533
          · right
            exact ⟨by subst c; rfl, by have : K ≠ 1 := fun e => hb ⟨c, e⟩; simp; omega⟩
          · left; simp; omega
        clear hY hx hd hb h0 hRr hKr g1 g2 g3 g4 hlen
        rcases hcase with c1 | ⟨c1, c2⟩
        all_goals
          gi_wp2_with (refine ⟨trivial, (fun h => by cases h), ?_⟩; gi_at_call 49; refine (callsIn_wide.2 (Tryd.utf8_DecodeRuneInString _ _ hR.t)).mono ?_; rintro e w3 ⟨rfl, kb⟩; have k3 := Keeps.ofBelow kb; rw [e1, e2]; have hRR := hR.keep HJ.out k3; obtain ⟨fn, tmps, assign, body, hy, hRd⟩ := hY1.out _ hRR.j; simp only [encY] at hy; clear hR hcn hfn)
          refine ⟨fun h => by (cases h), hRd.mono ?_⟩
          rintro ed W3 ⟨hkf3, (⟨rfl, hJ3, hk3⟩ | ⟨rfl, hJx3⟩)⟩
          · have hN3 := hRR.n.kpx hk3 hS
            have hT3 := Tabs.kpx hRR.t hk3 hS0 hS1
            have hs3 : W.heap.size ≤ W3.heap.size := by have := hk3.1; have := hRR.size; omega
            have hcn := hN3.cell
            have hfn := hN3.live
            gi_wp2
            have hN4 := hN3.set (.string (s1.extract K s1.size))
            refine ⟨⟨pre ++ [((R : Int), true)], s1.extract K s1.size, ?_, ?_, HJw.out _ _ _ hJ3, hN4, Tabs.keeps hT3 ((Keeps.refl (· = bk) _).setCell (.inl rfl) _) (by omega) (by omega), by simpa using hs3⟩, ?_⟩
            · rw [ext_sz]; omega
            · rw [Hx.out, ext_drop]; simp
            · rw [strLen_of hN4, Hm.out]
              rw [ext_sz]
              have := HK.out
              omega
          · gi_wp2
            refine bodyPost_ret (results_none rfl _ _ _) rfl ?_
            exact ⟨⟨_, rfl⟩, .inr ⟨pre, ((R : Int), true), _, Hx.out, hJx3⟩⟩

end Go.Proofs.YtkcnnkakpkdhkaaDoor
