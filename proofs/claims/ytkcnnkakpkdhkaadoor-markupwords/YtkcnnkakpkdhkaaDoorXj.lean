/-
  The program's Good and Source.
-/
import Derived.Test.YtkcnnkakpkdhkaaDoorXi
set_option linter.all false
set_option maxRecDepth 100000
namespace Go.Proofs.YtkcnnkakpkdhkaaDoor
open Go.RowKit Go.Sort Go.Shelf
attribute [local go_sem] Oper.semAt_some

set_option maxHeartbeats 8000000 in
theorem pgood16 (w : World) (hT : Lib.Utf8Tabs 0 1 w) (a : Option Addr) (n c : Nat) (P : List Pt) (hl : SlP w a n c P) (hn : n ≤ 100000) (hP : ∀ p ∈ P, p.2.length ≤ 90000 ∧ ∀ x ∈ p.2, x.length ≤ 90000) :
    Calls Tryd.prog 16 #[.slice a n c] w fun e w' => e = .returned (.bool (gdL P)) ∧ Keeps (fun _ => False) w w' := by
  obtain ⟨R, hR⟩ : ∃ R, gdL P = R := ⟨_, rfl⟩
  have HR : Hid (P.all gdP = R) := hR
  have HP := Hid.mk' hP
  have HL : Hid (P.length = n) := hl.len
  rw [hR]
  clear hR hP
  go_enter Tryd.func16, Tryd.ntmps16
  go_wp2
  go_loopw [7] (fun t wr => ∃ i : Nat, t = .int .i64 (i : Int) ∧ i ≤ n ∧ (P.take i).all gdP = true ∧ Keeps (fun _ => False) w wr) (fun t _ => n - (intOf t).toNat)
  case atStart => exact ⟨0, rfl, by omega, by simp, Keeps.refl _ _⟩
  case round =>
    obtain ⟨i, rfl, hi, hall, hk⟩ := hrel
    have Hall := Hid.mk' hall
    have HK := Hid.mk' hk
    clear hall
    by_cases hlt : i < n
    · have hlt' : (i : Int) < (n : Int) := by omega
      have hi0 : (0 : Int) ≤ (i : Int) := by omega
      obtain ⟨p, hp⟩ : ∃ p, P[i]? = some p := ⟨_, List.getElem?_eq_getElem (by rw [hl.len]; exact hlt)⟩
      have Hp : Hid (P.getD i (0, []) = p) := by show _ = _; rw [List.getD_eq_getElem?_getD, hp]; rfl
      obtain ⟨hp1, hp2⟩ := HP.out p (List.mem_of_getElem? hp)
      obtain ⟨b1, o1, rfl, h1, a1, m, c1, h2, s1, _⟩ := (hl.keep hk).at_ i p hp
      obtain ⟨k, ws⟩ := p
      simp only at h1 h2 s1 hp1 hp2
      have hm9 : m ≤ 90000 := by rw [← s1.len]; exact hp1
      have hq := Hid.mk' (fun W (hW : Keeps (fun _ => False) wr W) => isPart33 W (Tabs.keep (Tabs.keep hT hk) hW) k a1 m c1 ws (s1.keep hW) hm9 hp2)
      obtain ⟨G, hG⟩ : ∃ G, gdP (k, ws) = G := ⟨_, rfl⟩
      rw [hG] at hq
      have HF : Hid (G = false → R = false) := fun h => by rw [← HR.out]; exact all_badP (by rw [HL.out]; exact hlt) (by rw [Hp.out, hG]; exact h)
      have HA : Hid (G = true → (P.take (i + 1)).all gdP = true) := fun h => by rw [all_snocP (by rw [HL.out]; exact hlt), Hall.out, Hp.out, hG, h]; rfl
      clear hp hp1 hp2 s1 hG hm9 hk
      cases G with
      | false =>
        have HR0 : Hid (R = false) := HF.out rfl
        clear HF HA
        go_wp2_with (first
          | (have hh := h1; clear h1; refine wpList_load41 rfl _ rfl b1 (o1 + i * 2) rfl _ _ hh h2 ?_; clear hh; have hL : Hid True := trivial)
          | (have hh := hL; clear hL; refine wpList_alloc41 rfl rfl ?_; intro g w2 r2 z2 k2)
          | (have hh := r2; clear r2; refine wpList_store41 rfl _ _ rfl g rfl k a1 m c1 rfl _ hh ?_; intro w3 r3 k3; clear hh; have q0 : w3.cell? ⟨g, 0, none⟩ = some (.int .i64 k) := (by rw [cell_of_row w3 g 0 _ _ _ r3.row]; rfl); have q1 : w3.cell? ⟨g, 1, none⟩ = some (.slice a1 m c1) := (by rw [cell_of_row w3 g 1 _ _ _ r3.row]; rfl); have K3 : Hid (Keeps (fun _ => False) wr w3) := k2.trans' k3 (fun k e => .inr (by omega)))
          | (have hh := q0; clear q0; refine wpList_load41 rfl _ rfl g 0 rfl _ _ hh q1 ?_; have hC : Hid True := trivial)
          | (have hh := hC; clear hC; go_at_call 33; refine (hq.out _ K3.out).mono ?_; rintro e w4 ⟨rfl, k4⟩))
        go_ret
        exact ⟨by rw [HR0.out]; rfl, (HK.out.trans K3.out).trans k4⟩
      | true =>
        have HA0 := Hid.mk' (HA.out rfl)
        clear HF HA
        go_wp2_with (first
          | (have hh := h1; clear h1; refine wpList_load41 rfl _ rfl b1 (o1 + i * 2) rfl _ _ hh h2 ?_; clear hh; have hL : Hid True := trivial)
          | (have hh := hL; clear hL; refine wpList_alloc41 rfl rfl ?_; intro g w2 r2 z2 k2)
          | (have hh := r2; clear r2; refine wpList_store41 rfl _ _ rfl g rfl k a1 m c1 rfl _ hh ?_; intro w3 r3 k3; clear hh; have q0 : w3.cell? ⟨g, 0, none⟩ = some (.int .i64 k) := (by rw [cell_of_row w3 g 0 _ _ _ r3.row]; rfl); have q1 : w3.cell? ⟨g, 1, none⟩ = some (.slice a1 m c1) := (by rw [cell_of_row w3 g 1 _ _ _ r3.row]; rfl); have K3 : Hid (Keeps (fun _ => False) wr w3) := k2.trans' k3 (fun k e => .inr (by omega)))
          | (have hh := q0; clear q0; refine wpList_load41 rfl _ rfl g 0 rfl _ _ hh q1 ?_; have hC : Hid True := trivial)
          | (have hh := hC; clear hC; go_at_call 33; refine (hq.out _ K3.out).mono ?_; rintro e w4 ⟨rfl, k4⟩))
        exact ⟨⟨i + 1, rfl, by omega, HA0.out, (HK.out.trans K3.out).trans k4⟩, by simp [intOf]; omega⟩
    · obtain rfl : i = n := by omega
      have hlt' : ¬ (i : Int) < (i : Int) := by omega
      have HR0 : Hid (R = true) := by
        show _ = _
        have h := Hall.out
        rw [List.take_of_length_le (by rw [HL.out]; exact Nat.le_refl _)] at h
        rw [← HR.out, h]
      clear hk hlt hi Hall
      go_wp2
      go_ret
      exact ⟨by rw [HR0.out]; rfl, HK.out⟩

/-! A strings.Builder. -/
/-- In block b, the builder that has the text l; what is its own lies from B on. -/
structure Bd (w : World) (B b : Nat) (l : List UInt8) : Prop where
  is : Lib.IsBuilderF 58 5 B b (Lib.byteCells l) w
theorem Bd.keep {w w' : World} {B b : Nat} {l : List UInt8} (h : Bd w B b l) (k : Keeps (fun _ => False) w w') : Bd w' B b l := by
  have key : ∀ p, Lib.BuilderAtF 58 5 B b p (Lib.byteCells l) w → Lib.BuilderAtF 58 5 B b p (Lib.byteCells l) w' := by
    rintro p ⟨hB, v, h1, h2, h3⟩
    refine ⟨hB, v, k.row h1 (fun h => h), h2.kept (grown_of_keeps k) ?_, h3⟩
    cases v.ownBlock with
    | none => exact .inl rfl
    | some g => exact .inr (by simp)
  exact ⟨h.is.elim (fun x => .inl (key _ x)) (fun x => .inr (key _ x))⟩
theorem Bd.new {w : World} {b : Nat} (h : w.heap[b]? = some (.cells #[.pointer none, .slice none 0 0] 58 (0, 0))) {B : Nat} (hB : B ≤ b) : Bd w B b [] :=
  ⟨.inl ⟨hB, _, h, World.ownsRowF_nil w B 5 1, by simp [Value.ownBlock]⟩⟩
theorem zero58 (w : World) : (zeroValue 58).run Tryd.prog w = .ok (.agg #[.pointer none, .slice none 0 0]) w := by kernel_rfl
theorem wpList_alloc58 {ops : Array Oper} {rest : List Oper} {o : Oper} {a : Act} {w : World} {Q : Exit → Act → World → Prop} (hgd : o.guard = none) (ho : o.op = .alloc 58)
    (h : ∀ g w', Bd w' w.heap.size g [] → w.heap.size ≤ g → Keeps (fun _ => False) w w' → wpList Tryd.prog ops Q rest (a.put o.dst (.pointer (some ⟨g, 0, none⟩))) w') : wpList Tryd.prog ops Q (o :: rest) a w := by
  refine wpList_plain hgd fun K hK => ?_
  unfold Oper.wp execOp
  simp only [ho, Instr.alloc, zero58, newVar, newRow, Sem.run_bind, Result.andThen_ok, Sem.run_pure]
  exact hK _ _ (h w.heap.size _ (Bd.new (heap_alloc_new w _) (Nat.le_refl _)) (Nat.le_refl _) (keeps_alloc w _))
theorem bwrite29 (w : World) (B b : Nat) (l : List UInt8) (x : List UInt8) (h : Bd w B b l) (hB : B ≤ w.heap.size) (hl : l.length + x.length ≤ 140737488355328) :
    Calls Tryd.prog 29 #[.pointer (some ⟨b, 0, none⟩), .string (bs x)] w fun e w' => (∃ v, e = .returned v) ∧ Bd w' B b (l ++ x) ∧ Keeps (fun k => B ≤ k) w w' ∧ ∀ g z, PrAt w g z → PrAt w' g z := by
  refine (Tryd.Builder_WriteString_k B b _ (bs x) w h.is (by rw [Lib.byteCells_length, bs_size]; exact hl) hB).mono ?_
  rintro e w' ⟨rfl, h1, h2, h3⟩
  refine ⟨⟨_, rfl⟩, ⟨.inr (by rw [Lib.byteCells_append]; rw [Lib.strCells_eq, bs_data] at h1; exact h1)⟩, ⟨h2.os, h2.tape, h2.output, h2.size, fun k hk hs => h2.block k (Nat.lt_of_not_le hs)⟩, fun g z hg => ⟨?_⟩⟩
  refine h3 g _ hg.row (fun e => ?_) (fun c fz e => by cases e)
  obtain ⟨q, _, v, hv, _⟩ : ∃ q, Lib.BuilderAtF 58 5 B b q (Lib.byteCells l) w := h.is.elim (fun x => ⟨_, x⟩) (fun x => ⟨_, x⟩)
  cases e
  have := hg.row
  rw [hv] at this
  simp at this
theorem blen31 (w : World) (B b : Nat) (l : List UInt8) (h : Bd w B b l) : Calls Tryd.prog 31 #[.pointer (some ⟨b, 0, none⟩)] w fun e w' => e = .returned (.int .i64 (l.length : Int)) ∧ w' = w := by
  have := Tryd.Builder_Len_f B b _ w h.is
  rw [Lib.byteCells_length] at this
  exact this
theorem bstr32 (w : World) (B b : Nat) (l : List UInt8) (h : Bd w B b l) (hB : B ≤ w.heap.size) :
    Calls Tryd.prog 32 #[.pointer (some ⟨b, 0, none⟩)] w fun e w' => e = .returned (.string (bs l)) ∧ Keeps (fun k => B ≤ k) w w' := by
  refine (Tryd.Builder_String_any_k B b l w h.is hB).mono ?_
  rintro e w' ⟨rfl, _, h2, _⟩
  exact ⟨rfl, ⟨h2.os, h2.tape, h2.output, h2.size, fun k hk hs => h2.block k (Nat.lt_of_not_le hs)⟩⟩

/-- What Source tells. -/
def srcR (P : List Pt) : List UInt8 × Int := if gdL P = true ∧ (srcL P).length ≤ 240 then (srcL P, 0) else ([], 11)
theorem srcL_snoc {P : List Pt} {i : Nat} (hi : i < P.length) : srcL (P.take (i + 1)) = srcL (P.take i) ++ ((if i = 0 then [] else [10, 10]) ++ lineP (P.getD i (0, []))) := by
  unfold srcL
  rw [List.take_succ, List.getElem?_eq_getElem hi, List.getD_eq_getElem?_getD, List.getElem?_eq_getElem hi, List.map_append]
  show Lib.join (List.map lineP (List.take i P) ++ [lineP P[i]]) _ = _
  rw [join_snoc]
  congr 2
  by_cases h0 : i = 0
  · subst h0; rfl
  · rw [if_neg h0, if_neg]
    intro e
    have := congrArg List.length e
    rw [List.length_map, List.length_take, List.length_nil] at this
    omega
theorem srcL_mono {P : List Pt} : ∀ (d i : Nat), i + d = P.length → (srcL (P.take i)).length ≤ (srcL P).length
  | 0, i, h => by rw [List.take_of_length_le (by omega)]; exact Nat.le_refl _
  | d + 1, i, h => by
    refine Nat.le_trans ?_ (srcL_mono d (i + 1) (by omega))
    rw [srcL_snoc (by omega), List.length_append]
    omega

end Go.Proofs.YtkcnnkakpkdhkaaDoor
