/-
  Text.
-/
import Derived.Test.YtppliejbpgkaiaaDoorUd
set_option linter.all false
namespace Go.Proofs.YtppliejbpgkaiaaDoor
open Go.RowKit Go.Sort Go.Shelf
attribute [local go_sem] Oper.semAt_some

instance (L : List Int) : Decidable (allS L) := by unfold allS; infer_instance
/-- What Text tells. -/
def txt (l : List Int) : List UInt8 × Int := if allS l then (encs l, 0) else ([], 11)
def bs (l : List UInt8) : ByteArray := ⟨l.toArray⟩
theorem bs_data (l : List UInt8) : (bs l).data.toList = l := by simp [bs]
theorem bs_size (l : List UInt8) : (bs l).size = l.length := by rw [← sz_len, bs_data]
theorem bs_of (s : ByteArray) : bs s.data.toList = s := by cases s; simp [bs]

theorem zero44 : ∀ w, (zeroValue 44).run Tryd.prog w = .ok (.agg #[.pointer none, .slice none 0 0]) w := fun _ => by kernel_rfl
theorem wpList_alloc44 {ops : Array Oper} {rest : List Oper} {o : Oper} {a : Act} {w : World} {Q : Exit → Act → World → Prop} (hgd : o.guard = none) (ho : o.op = .alloc 44)
    (h : ∀ w', Lib.IsBuilderF 44 5 w.heap.size w.heap.size (Lib.byteCells []) w' → RowKit.Below w.heap.size w w' → wpList Tryd.prog ops Q rest (a.put o.dst (.pointer (some ⟨w.heap.size, 0, none⟩))) w') : wpList Tryd.prog ops Q (o :: rest) a w := by
  refine wpList_plain hgd fun K hK => ?_
  unfold Oper.wp execOp
  simp only [ho, Instr.alloc, zero44, newVar, newRow, Sem.run_bind, Result.andThen_ok, Sem.run_pure]
  refine hK _ _ (h _ ?_ ((RowKit.Below.refl _ _).alloc (Nat.le_refl _) _))
  exact Lib.IsBuilderF.of (.inl ⟨Nat.le_refl _, .slice none 0 0, heap_alloc_new w _, ⟨by simp [Lib.byteCells], .inl ⟨rfl, rfl⟩⟩, by simp [Value.ownBlock]⟩)

theorem take_snoc {l : List Int} {i : Nat} (hi : i < l.length) : l.take (i + 1) = l.take i ++ [l.getD i 0] := by
  rw [List.take_succ_eq_append_getElem hi, List.getD_eq_getElem?_getD, List.getElem?_eq_getElem hi]; rfl
theorem encs_snoc {l : List Int} {i : Nat} (hi : i < l.length) : Lib.byteCells (encs (l.take (i + 1))) = Lib.byteCells (encs (l.take i)) ++ Lib.runeCells (l.getD i 0) := by
  rw [take_snoc hi, encs_app, Lib.byteCells_append, encs_cons, encs_nil, List.append_nil, Lib.byteCells_encodeRune]
theorem getD_mem {l : List Int} {i : Nat} (hi : i < l.length) : l.getD i 0 ∈ l := by
  rw [List.getD_eq_getElem?_getD, List.getElem?_eq_getElem hi]; exact List.getElem_mem hi

set_option maxRecDepth 100000 in
set_option maxHeartbeats 2000000 in
theorem text9 (w : World) (a : Option Addr) (n c : Nat) (l : List Int) (hl : SlI w a n c l) (hn : n ≤ 100000) :
    Calls Tryd.prog 9 #[.slice a n c] w fun e w' => e = .returned (.tuple #[.string (bs (txt l).1), .int .i64 (txt l).2]) ∧ Keeps (fun _ => False) w w' := by
  have hlen := hl.len
  obtain ⟨X, V, hXV⟩ : ∃ X V, txt l = (X, V) := ⟨_, _, rfl⟩
  have HX : Hid (txt l = (X, V)) := hXV
  have HL : Hid (l.length = n) := hlen
  rw [hXV]
  clear hXV hlen
  go_enter Tryd.func9, Tryd.ntmps9
  go_wp2_with (refine wpList_alloc44 rfl rfl ?_; intro w1 b1 k1)
  obtain ⟨bb, hbb⟩ : ∃ bb, w.heap.size = bb := ⟨_, rfl⟩
  rw [hbb] at b1 k1 ⊢
  have hBw : bb ≤ w1.heap.size := by have := k1.size; omega
  go_loopw [9] (fun t wr => ∃ i : Nat, i ≤ n ∧ t = .int .i64 (i : Int) ∧ allS (l.take i) ∧ Lib.IsBuilderF 44 5 bb bb (Lib.byteCells (encs (l.take i))) wr ∧ RowKit.Below bb w wr) (fun t _ => n - (intOf t).toNat)
  case atStart => exact ⟨0, by omega, rfl, by simp [allS], by simpa [encs] using b1, k1⟩
  case round =>
    clear b1 k1
    obtain ⟨i, hi, rfl, hall, hb, hk⟩ := hrel
    have Hall : Hid (allS (l.take i)) := hall
    have hBr : bb ≤ wr.heap.size := by have := hk.size; omega
    have K1 : Keeps (fun _ => False) w wr := Keeps.ofBelow (by rw [hbb]; exact hk)
    clear hall
    by_cases hlt : i < n
    · have hlt' : (i : Int) < (n : Int) := by omega
      have hi0 : (0 : Int) ≤ (i : Int) := by omega
      obtain ⟨b, o, rfl, _, hE⟩ := hl.ent (by omega)
      have hc := hE wr K1 i hlt
      obtain ⟨v, hv⟩ : ∃ v, l.getD i 0 = v := ⟨_, rfl⟩
      rw [hv] at hc
      have hsign := fun W => isSign19 W v
      have HS : Hid (Lib.byteCells (encs (l.take (i + 1))) = Lib.byteCells (encs (l.take i)) ++ Lib.runeCells v) := by show _ = _; rw [← hv]; exact encs_snoc (by rw [HL.out]; exact hlt)
      have HT : Hid (l.take (i + 1) = l.take i ++ [v]) := by show _ = _; rw [← hv]; exact take_snoc (by rw [HL.out]; exact hlt)
      have HM : Hid (v ∈ l) := by show _ ∈ _; rw [← hv]; exact getD_mem (by rw [HL.out]; exact hlt)
      clear hv hE
      by_cases hs : isS v
      · rw [decide_eq_true hs] at hsign
        have hv0 : (0 : Int) ≤ v := hs.1
        have hv1 : v ≤ (1114111 : Int) := hs.2.1
        have HsS : Hid (isS v) := hs
        have hbl : (Lib.byteCells (encs (l.take i))).length + 4 ≤ 140737488355328 := by
          rw [Lib.byteCells_length]
          have := encs_len (l.take i)
          have : (l.take i).length ≤ i := by simp; omega
          omega
        clear hs
        go_wp2_with (first
          | (go_at_call 19; refine (hsign _).mono ?_; rintro e w' ⟨rfl, rfl⟩)
          | (go_at_call 20; refine (Tryd.Builder_WriteRune_k bb bb _ v (by omega) (by omega) _ hb hbl hBr).mono ?_; rintro e w2 ⟨rfl, hb2, hk2, _⟩))
        refine ⟨⟨i + 1, by omega, rfl, ?_, ?_, hk.trans hk2⟩, by simp [intOf]; omega⟩
        · rw [HT.out]
          intro y hy
          rcases List.mem_append.1 hy with hy | hy
          · exact Hall.out y hy
          · obtain rfl : y = v := by simpa using hy
            exact HsS.out
        · rw [HS.out]
          exact .inr hb2
      · rw [decide_eq_false hs] at hsign
        have hX : Hid (X = [] ∧ V = 11) := by
          have h := HX.out
          unfold txt at h
          rw [if_neg (fun h => hs (h v HM.out))] at h
          cases h
          exact ⟨rfl, rfl⟩
        clear hs
        go_wp2_with (go_at_call 19; refine (hsign _).mono ?_; rintro e w' ⟨rfl, rfl⟩)
        go_ret2
        refine ⟨?_, K1⟩
        rw [hX.out.1, hX.out.2]
        rfl
    · obtain rfl : i = n := by omega
      have hlt' : ¬ (i : Int) < (i : Int) := by omega
      have hfull : l.take i = l := List.take_of_length_le (by rw [HL.out]; omega)
      have hX : Hid (X = encs l ∧ V = 0) := by
        have h := HX.out
        unfold txt at h
        have h2 := Hall.out
        rw [hfull] at h2
        rw [if_pos h2] at h
        cases h
        exact ⟨rfl, rfl⟩
      rw [hfull] at hb
      clear hfull
      go_wp2_with (go_at_call 21; refine (Tryd.Builder_String_any_k bb bb _ _ hb hBr).mono ?_; rintro e w2 ⟨rfl, _, hk2, _⟩)
      go_ret2
      refine ⟨?_, Keeps.ofBelow (by rw [hbb]; exact hk.trans hk2)⟩
      rw [hX.out.1, hX.out.2]
      rfl

end Go.Proofs.YtppliejbpgkaiaaDoor
