
/-
  Packed texts: Rf, Rn, Lf, Lg.
-/
import Derived.RangeFuncNested
import Derived.RangeFuncBound
import Derived.RangeFuncCalls
import Derived.RangeFuncLeaves
import Derived.Shelf.Abstract
import Derived.Shelf.RegionOpen
import Derived.WalkKit
import Derived.OwnWalkIn
import Derived.TacticsInMore
import Derived.LoopNIn
import Derived.LoopIn
import Derived.Test.YtdgnjpdjohibeaaDoorGC
set_option linter.all false
set_option maxRecDepth 100000
namespace Go.Proofs.YtdgnjpdjohibeaaDoor

/-! Rf: A range over a function, walked at the wide fence: an iterator's contract whose invariant abides the turn of whatever is no cells (so that an iterator may itself range over a function), and the caller's law over it. -/
section
open Go.RowKit Go.Shelf

theorem Keeps.grown {S : Nat → Prop} {a w w' : World} {row : Option Nat} (h : Keeps S a w) (hg : w.grownBy w' row) (hr : ∀ k, row = some k → S k ∨ a.heap.size ≤ k) : Keeps S a w' :=
  ⟨hg.os.trans h.os, hg.tape.trans h.tape, hg.output.trans h.output, Nat.le_trans h.size hg.size,
   fun k hk hs => (hg.block k (Nat.lt_of_lt_of_le hk h.size) (fun e => by rcases hr k e.symm with h1 | h1; exact hs h1; omega)).trans (h.block k hk hs)⟩

/-- The iterator g (with what it has captured, lb) hands xs to its loop's body, one behind the other, till all have come or a round says no more. Kp: what a round that goes on must keep. -/
def SeqO {α : Type} (P : Program) (g : Nat) (lb : Array Value) (encs : α → Array Value) (Kp : World → World → Prop) (xs : List α) (w : World) : Prop :=
  ∀ (l n : Nat) (J Jx : List α → World → Prop) (W : World), Below w.heap.size w W → OwnFrom W.heap.size J → OwnFrom W.heap.size Jx →
    (∀ pre x rest W1, xs = pre ++ x :: rest → J pre W1 → YieldAt Fence.wide (n - 1) P l (encs x) W1 fun e W' =>
      KeepsFrom W.heap.size W1 W' ∧ ((e = .returned (.bool true) ∧ J (pre ++ [x]) W' ∧ Kp W1 W') ∨ (e = .returned (.bool false) ∧ Jx (pre ++ [x]) W'))) →
    J [] W →
    CallsIn Fence.wide n P g (#[.func (.yield l) #[] #[]] ++ lb) W fun e W' =>
      (∃ v, e = .returned v) ∧ (J xs W' ∨ ∃ pre x rest, xs = pre ++ x :: rest ∧ Jx (pre ++ [x]) W')

/-- What a block that lies below the turned ones holds stays. -/
theorem own_same {B : Nat} {W W' : World} {row : Option Nat} (hg : W.grownBy W' row) (hr : ∀ r, row = some r → B ≤ r ∧ ∃ o : Obj, W.heap[r]? = some o ∧ o.isCells = false) {k : Nat} {o : Obj} (hk : W.heap[k]? = some o) (hB : k < B) : W'.heap[k]? = some o := by
  refine (hg.block k (Array.getElem?_eq_some_iff.1 hk).1 ?_).trans hk
  intro e
  have := (hr k e.symm).1
  omega

/-- A block of cells stays, wherever it lies. -/
theorem own_cells {B : Nat} {W W' : World} {row : Option Nat} (hg : W.grownBy W' row) (hr : ∀ r, row = some r → B ≤ r ∧ ∃ o : Obj, W.heap[r]? = some o ∧ o.isCells = false) {k : Nat} {cs : Array Value} {t : TypeId} {fr : Nat × Nat} (hk : W.heap[k]? = some (.cells cs t fr)) : W'.heap[k]? = some (.cells cs t fr) :=
  (grownBy_keeps_cells hg (fun r e => (hr r e).2) hk rfl).trans hk

theorem own_keeps {B : Nat} {S : Nat → Prop} {a W W' : World} {row : Option Nat} (hg : W.grownBy W' row) (hr : ∀ r, row = some r → B ≤ r ∧ ∃ o : Obj, W.heap[r]? = some o ∧ o.isCells = false) (hk : Keeps S a W) (hB : a.heap.size ≤ B) : Keeps S a W' :=
  hk.grown hg (fun k e => .inr (Nat.le_trans hB (hr k e).1))

theorem range_law {P : Program} {n : Nat} {α : Type} {g : Operand} {ps : Array Tmp} {assign body : Code} {Q : Exit → Act → World → Prop} {a : Act} {w : World}
    {gf : Nat} {lb : Array Value} (hg : a.eval g = .func (.func gf) #[] lb) (eg : ∀ args w, (callFunc gf args).run P w = .ok (.enter gf args) w)
    {encs : α → Array Value} {Kp : World → World → Prop} {xs : List α} {w0 : World} (hseq : SeqO P gf lb encs Kp xs w0)
    (hKt : ∀ {A B C : World}, Kp A B → Kp B C → Kp A C) (hKb : ∀ (W : World) (l : Nat) (o o' : Obj), w.heap.size ≤ l → W.heap[l]? = some o → o.isCells = false → Kp W (W.putObj l o')) (hb0 : Below w0.heap.size w0 w) (hps : ∀ x, (encs x).size = ps.size)
    (I : List α → World → Prop) (Ix : Code → List α → World → Prop) (hI : OwnFrom w.heap.size I) (hIx : ∀ c, OwnFrom w.heap.size (Ix c)) (h0 : I [] w)
    (Ax : List α → α → Act → World → Prop) (hAx : ∀ pre x a', OwnFrom w.heap.size (fun (_ : Unit) W => Ax pre x a' W))
    (hassign : ∀ (l : Nat) (pre : List α) (x : α) (rest : List α) (W : World) (K : Act → World → Prop), xs = pre ++ x :: rest → I pre W → (∀ a' W', KeepsFrom w.heap.size W W' → Kp W W' → Ax pre x a' W' → K a' W') →
      assign.wpIn (Fence.wide.inRound l) (n - 1 - 1) P (Exit.then K (fun _ _ _ => False)) { tmps := (ps.zip (encs x)).foldl (fun t (p, v) => t.setIfInBounds p v) a.tmps, defers := [] } W)
    (hbody : ∀ (l : Nat) (pre : List α) (x : α) (rest : List α) (a' : Act) (W : World), w.heap.size ≤ l → xs = pre ++ x :: rest → Ax pre x a' W →
      body.wpIn (Fence.wide.inRound l) (n - 1 - 1) P (ownPostG w.heap.size Kp I Ix (pre ++ [x]) W) a' W)
    (hdone : ∀ (D : Nat) (W : World), w.heap.size ≤ D → I xs W → W.heap[D]? = some (.deferred (some [])) → Q .normal { a with defers := { target := .collected D, args := #[] } :: a.defers } W)
    (hstop : ∀ (D : Nat) (c : Code) (pre : List α) (x : α) (rest : List α) (W : World), w.heap.size ≤ D → xs = pre ++ x :: rest → Ix c (pre ++ [x]) W → W.heap[D]? = some (.deferred (some [])) → c.wpIn Fence.wide n P Q { a with defers := { target := .collected D, args := #[] } :: a.defers } W) :
    (Code.rangeFunc g ps assign body).wpIn Fence.wide n P Q a w := by
  refine wpIn_rangeFunc ?_
  intro fn hfn
  obtain ⟨R, hR⟩ : ∃ R : LoopState → Option Code → Loop, R = fun st pe => { state := st, pending := pe, fn, tmps := a.tmps, params := ps, assign, body, defers := w.heap.size } := ⟨_, rfl⟩
  obtain ⟨W1, hW1⟩ : ∃ W1, (w.alloc (.deferred (some []))).alloc (.loop (R .ready none)) = W1 := ⟨_, rfl⟩
  have hL1 : W1.heap[w.heap.size + 1]? = some (.loop (R .ready none)) := by rw [← hW1]; exact heap_alloc2_new w _ _
  have hD1 : W1.heap[w.heap.size]? = some (.deferred (some [])) := by rw [← hW1]; exact heap_alloc2_old w _ _
  have hs1 : W1.heap.size = w.heap.size + 2 := by rw [← hW1]; simp
  have hI1 : I [] W1 := by rw [← hW1]; exact hI.alloc _ (hI.alloc _ h0)
  have hb1 : Below w0.heap.size w0 W1 := by
    rw [← hW1]; exact (hb0.alloc hb0.size _).alloc (by have := hb0.size; simp; omega) _
  refine ⟨w.heap.size + 1, [{ target := .collected w.heap.size, args := #[] }], W1, { target := .fn (.func gf) lb, args := #[.func (.yield (w.heap.size + 1)) #[] #[]] }, W1, gf,
    #[.func (.yield (w.heap.size + 1)) #[] #[]] ++ lb, W1, ?_, ?_, fun _ _ => trivial, ?_, (fun h => by cases h), ?_⟩
  · rw [← hW1, hR]; exact run_enterLoop_outer _ _ _ _ _
  · simp only [resolve, hg]
    simp [go_sem]
  · simp [invoke, go_sem, eg]
  · refine (hseq (w.heap.size + 1) (n - 1)
      (fun pre W => I pre W ∧ W.heap[w.heap.size + 1]? = some (.loop (R .ready none)) ∧ W.heap[w.heap.size]? = some (.deferred (some [])))
      (fun pre W => ∃ c, Ix c pre W ∧ W.heap[w.heap.size + 1]? = some (.loop (R .done (some c))) ∧ W.heap[w.heap.size]? = some (.deferred (some [])))
      W1 hb1 ?_ ?_ ?_ ⟨hI1, hL1, hD1⟩).mono ?_
    · rintro s A B row ⟨h1, h2, h3⟩ hgr hr
      exact ⟨hI s A B row h1 hgr (fun r e => ⟨by have := (hr r e).1; omega, (hr r e).2⟩), own_same hgr hr h2 (by omega), own_same hgr hr h3 (by omega)⟩
    · rintro s A B row ⟨c, h1, h2, h3⟩ hgr hr
      exact ⟨c, hIx c s A B row h1 hgr (fun r e => ⟨by have := (hr r e).1; omega, (hr r e).2⟩), own_same hgr hr h2 (by omega), own_same hgr hr h3 (by omega)⟩
    · rintro pre x rest W hx ⟨hi, hl, hd⟩
      have hy := run_yield (P := P) (args := encs x) hl (by rw [hR]; exact hps x)
      rw [hR] at hy
      refine ⟨fn, _, assign, body, hy, roundIn_of_wpIn hfn (hassign _ pre x rest W _ hx hi ?_)⟩
      clear hy
      intro a' Wa hka hpa hax
      have hla := hka.same _ _ (by omega) hl rfl
      have hda := hka.same _ _ (Nat.le_refl _) hd rfl
      have hlt : w.heap.size + 1 < Wa.heap.size := (Array.getElem?_eq_some_iff.1 hla).1
      refine ⟨_, run_beginRound hla (by rw [hR]), ?_⟩
      obtain ⟨Wb, hWb⟩ : ∃ Wb, Wa.putObj (w.heap.size + 1) (.loop { R .ready none with state := .busy }) = Wb := ⟨_, rfl⟩
      have hlb : Wb.heap[w.heap.size + 1]? = some (.loop { R .ready none with state := .busy }) := by rw [← hWb]; exact World.putObj_heap_same hlt
      have hdb : Wb.heap[w.heap.size]? = some (.deferred (some [])) := by rw [← hWb]; exact (World.putObj_heap_other (by omega)).trans hda
      have hpb : Kp Wa Wb := by rw [← hWb]; exact hKb _ _ _ _ (by omega) hla rfl
      have haxb : Ax pre x a' Wb := by rw [← hWb]; exact (hAx pre x a').putObj (s := ()) _ hax (by omega) hla rfl
      have hkb : KeepsFrom W1.heap.size W Wb := by
        refine (⟨hka.size, fun k o hB hk ho => hka.same k o (by omega) hk ho⟩ : KeepsFrom W1.heap.size W Wa).trans ?_
        rw [← hWb]
        exact ⟨by simp, fun k o hB hk _ => (World.putObj_heap_other (by omega)).trans hk⟩
      have hke : ∀ (W3 : World) (o : Obj), KeepsFrom w.heap.size Wb W3 → KeepsFrom W1.heap.size W (W3.putObj (w.heap.size + 1) o) := fun W3 o hk3 => by
        refine (hkb.trans ⟨hk3.size, fun k o hB hk ho => hk3.same k o (by omega) hk ho⟩).trans ?_
        exact ⟨by simp, fun k o hB hk _ => (World.putObj_heap_other (by omega)).trans hk⟩
      rw [hWb]
      have fin : ∀ (jump : Option Code) (W3 : World), KeepsFrom w.heap.size Wb W3 →
          (Instr.endRound (w.heap.size + 1) jump).run P W3 = .ok (.bool jump.isNone) (W3.putObj (w.heap.size + 1) (.loop (R (if jump.isNone then .ready else .done) jump))) ∧
          W3.heap[w.heap.size + 1]? = some (.loop { R .ready none with state := .busy }) ∧
          (W3.putObj (w.heap.size + 1) (.loop (R (if jump.isNone then .ready else .done) jump))).heap[w.heap.size + 1]? = some (.loop (R (if jump.isNone then .ready else .done) jump)) ∧
          (W3.putObj (w.heap.size + 1) (.loop (R (if jump.isNone then .ready else .done) jump))).heap[w.heap.size]? = some (.deferred (some [])) := fun jump W3 hk3 => by
        have hl3 := hk3.same _ _ (by omega) hlb rfl
        have hrun := run_endRound (P := P) jump hl3
        refine ⟨?_, hl3, World.putObj_heap_same (Array.getElem?_eq_some_iff.1 hl3).1, (World.putObj_heap_other (by omega)).trans (hk3.same _ _ (Nat.le_refl _) hdb rfl)⟩
        rw [hR] at hrun ⊢
        exact hrun
      refine wpIn_mono (hbody _ pre x rest a' Wb (by omega) hx haxb) ?_
      rintro e a3 W3 hp
      cases e with
      | normal =>
        obtain ⟨hk3, hkp3, hi3⟩ := hp
        obtain ⟨hr, hl3, hl4, hd4⟩ := fin none W3 hk3
        exact ⟨_, _, hr, hke _ _ hk3, .inl ⟨rfl, ⟨hI.putObj _ hi3 (by omega) hl3 rfl, hl4, hd4⟩, hKt hpa (hKt (hKt hpb hkp3) (hKb _ _ _ _ (by omega) hl3 rfl))⟩⟩
      | ret =>
        obtain ⟨hk3, hi3⟩ := hp
        obtain ⟨hr, hl3, hl4, hd4⟩ := fin (some .ret) W3 hk3
        exact ⟨_, _, hr, hke _ _ hk3, .inr ⟨rfl, .ret, (hIx _).putObj _ hi3 (by omega) hl3 rfl, hl4, hd4⟩⟩
      | exit id =>
        obtain ⟨hk3, hi3⟩ := hp
        obtain ⟨hr, hl3, hl4, hd4⟩ := fin (some (.exit id)) W3 hk3
        exact ⟨_, _, hr, hke _ _ hk3, .inr ⟨rfl, .exit id, (hIx _).putObj _ hi3 (by omega) hl3 rfl, hl4, hd4⟩⟩
      | goto t =>
        obtain ⟨hk3, hi3⟩ := hp
        obtain ⟨hr, hl3, hl4, hd4⟩ := fin (some (.goto t)) W3 hk3
        exact ⟨_, _, hr, hke _ _ hk3, .inr ⟨rfl, .goto t, (hIx _).putObj _ hi3 (by omega) hl3 rfl, hl4, hd4⟩⟩
      | panic ch => exact hp.elim
      | outgrown => exact hp.elim
    · rintro e W2 ⟨⟨v, rfl⟩, (⟨hi, hl, hd⟩ | ⟨pre, x, rest, hx, c, hi, hl, hd⟩)⟩
      · have hrun := run_endLoop (P := P) hl (by rw [hR]; simp)
        have hpe : (R .ready none).pending = none := by rw [hR]
        rw [hpe] at hrun
        exact ⟨none, _, hrun, hdone _ _ (Nat.le_refl _) (hI.putObj _ hi (by omega) hl rfl) ((World.putObj_heap_other (by omega)).trans hd)⟩
      · have hrun := run_endLoop (P := P) hl (by rw [hR]; simp)
        have hpe : (R .done (some c)).pending = some c := by rw [hR]
        rw [hpe] at hrun
        exact ⟨some c, _, hrun, hstop _ c pre x rest _ (Nat.le_refl _) hx ((hIx c).putObj _ hi (by omega) hl rfl) ((World.putObj_heap_other (by omega)).trans hd)⟩

theorem semAt_load (ro : Option Nat) (ρ : Operand → Value) (o : Oper) (ty : TypeId) (x : Operand) (ho : o.op = .load ty x) : Oper.semAt ro ρ o = execOp ρ o := by
  unfold Oper.semAt; cases ro <;> simp [ho]
theorem semAt_store (ro : Option Nat) (ρ : Operand → Value) (o : Oper) (ty : TypeId) (x y : Operand) (ho : o.op = .store ty x y) : Oper.semAt ro ρ o = execOp ρ o := by
  unfold Oper.semAt; cases ro <;> simp [ho]
theorem semAt_call (ro : Option Nat) (ρ : Operand → Value) (o : Oper) (c : Call) (ho : o.op = .call c) : Oper.semAt ro ρ o = execOp ρ o := by
  unfold Oper.semAt; cases ro <;> simp [ho]

theorem wpListIn_load_row {F : Fence} {m : Nat} {ops : Array Oper} {rest : List Oper} {op : Oper} {a : Act} {w : World} {Q : Exit → Act → World → Prop} (hgd : op.guard = none) (ty : TypeId) (x : Operand) (ho : op.op = .load ty x)
    (g o : Nat) (hx : a.eval x = .pointer (some ⟨g, o, none⟩)) (cs : Array Value) (hc : w.rangeAt g o cs.toList) (td : TypeDesc)
    (hu : Tryd.prog.underlying ty = some td) (hd : td.isRow = true) (hi : (Tryd.prog.info? ty).map (·.size) = some cs.size)
    (h : wpListIn F m Tryd.prog ops Q rest (a.put op.dst (.agg cs)) w) : wpListIn F m Tryd.prog ops Q (op :: rest) a w := by
  refine wpListIn_plain hgd fun K hK => ?_
  have hr := run_loadVar_mid (P := Tryd.prog) w g o ty cs.toList td hc hu hd (by rw [hi, Array.length_toList])
  rw [Array.toArray_toList] at hr
  refine ⟨fun f hf => by simp [Oper.about, ho] at hf, ?_⟩
  rw [semAt_load _ _ _ ty x ho]
  unfold execOp
  simp only [ho, hx, Instr.loadAt, Instr.sureAddr, Sem.run_bind, Sem.run_pure, Result.andThen_ok, hr]
  exact hK _ _ h

theorem wpListIn_store_row {F : Fence} {m : Nat} {ops : Array Oper} {rest : List Oper} {o : Oper} {a : Act} {w : World} {Q : Exit → Act → World → Prop} (hgd : o.guard = none) (ty : TypeId) (x y : Operand) (ho : o.op = .store ty x y)
    (g : Nat) (hx : a.eval x = .pointer (some ⟨g, 0, none⟩)) (new : Array Value) (hy : a.eval y = .agg new) (t : TypeId) (old : Array Value) (hg : w.heap[g]? = some (.cells old t (0, 0)))
    (hi : (Tryd.prog.info? ty).map (·.size) = some new.size) (hs : old.size = new.size) (h1 : new.all (·.oneCell') = true)
    (h : ∀ w', w'.heap[g]? = some (.cells new t (0, 0)) → Keeps (· = g) w w' → w'.heap.size = w.heap.size → wpListIn F m Tryd.prog ops Q rest (a.put o.dst undef) w') : wpListIn F m Tryd.prog ops Q (o :: rest) a w := by
  refine wpListIn_plain hgd fun K hK => ?_
  refine ⟨fun f hf => by simp [Oper.about, ho] at hf, ?_⟩
  rw [semAt_store _ _ _ ty x y ho]
  unfold execOp
  simp only [ho, hx, hy, Instr.storeAt, Instr.sureAddr, Sem.run_bind, Sem.run_pure, Result.andThen_ok, run_storeVar_row w g t ty old new hg hi hs h1]
  exact hK _ _ (h _ (setRow_heap w g _ _ _ _ hg) ((Keeps.refl (· = g) w).setRow (.inl rfl) _) (by simp))

theorem Keeps.from {S : Nat → Prop} {B : Nat} {W W' : World} (h : Keeps S W W') (hS : ∀ k, B ≤ k → S k → ∃ cs t fr, W.heap[k]? = some (.cells cs t fr)) : KeepsFrom B W W' :=
  ⟨h.size, fun k o hB hk ho => (h.block k (Array.getElem?_eq_some_iff.1 hk).1 (fun hs => by obtain ⟨cs, t, fr, e⟩ := hS k hB hs; rw [e] at hk; cases hk; simp [Obj.isCells] at ho)).trans hk⟩

/-- What a round that goes on keeps: every block of cells but those of S. -/
def KpX (S : Nat → Prop) (W W' : World) : Prop := W.heap.size ≤ W'.heap.size ∧ ∀ k cs t fr, W.heap[k]? = some (.cells cs t fr) → ¬ S k → W'.heap[k]? = some (.cells cs t fr)
theorem KpX.refl (S : Nat → Prop) (W : World) : KpX S W W := ⟨Nat.le_refl _, fun _ _ _ _ h _ => h⟩
theorem KpX.trans {S : Nat → Prop} {A B C : World} (h : KpX S A B) (k : KpX S B C) : KpX S A C := ⟨Nat.le_trans h.1 k.1, fun j cs t fr e hs => k.2 j cs t fr (h.2 j cs t fr e hs) hs⟩
theorem KpX.putObj {S : Nat → Prop} {W : World} {l : Nat} {o : Obj} (o' : Obj) (h : W.heap[l]? = some o) (hc : o.isCells = false) : KpX S W (W.putObj l o') :=
  ⟨by simp, fun k cs t fr e _ => (World.putObj_heap_other (by rintro rfl; rw [e] at h; cases h; simp [Obj.isCells] at hc)).trans e⟩
theorem Keeps.kpx {S T : Nat → Prop} {W W' : World} (h : Keeps T W W') (hT : ∀ k, T k → S k ∨ W.heap.size ≤ k) : KpX S W W' :=
  ⟨h.size, fun k cs t fr e hs => (h.block k (Array.getElem?_eq_some_iff.1 e).1 (fun ht => by rcases hT k ht with h1 | h1; exact hs h1; have := (Array.getElem?_eq_some_iff.1 e).1; omega)).trans e⟩
theorem KpX.cell {S : Nat → Prop} {W W' : World} (h : KpX S W W') {b o : Nat} {v : Value} (hc : W.cell? ⟨b, o, none⟩ = some v) (hS : ¬ S b) : W'.cell? ⟨b, o, none⟩ = some v := by
  cases hq : W.heap[b]? with
  | none => simp [World.cell?, hq] at hc
  | some ob =>
    cases ob with
    | cells cs t fr =>
      rw [cell_of_row W b o cs t fr hq] at hc
      rw [cell_of_row W' b o cs t fr (h.2 b cs t fr hq hS)]
      exact hc
    | _ => simp [World.cell?, hq] at hc
theorem grown_kpx {B : Nat} {S : Nat → Prop} {W W' : World} {row : Option Nat} (hg : W.grownBy W' row) (hr : ∀ r, row = some r → B ≤ r ∧ ∃ o : Obj, W.heap[r]? = some o ∧ o.isCells = false) : KpX S W W' :=
  ⟨hg.size, fun _ _ _ _ e _ => own_cells hg hr e⟩
theorem SlB.kpx {S : Nat → Prop} {W W' : World} {a : Option Addr} {n c : Nat} {l : List B} (h : SlB W a n c l) (hk : KpX S W W') (hs : 0 < n → ∀ b o, a = some ⟨b, o, none⟩ → ¬ S b) : SlB W' a n c l :=
  ⟨h.len, h.cap, fun j x hx => by obtain ⟨b, o, e, hc⟩ := h.at_ j x hx; exact ⟨b, o, e, hk.cell hc (hs (by have := (List.getElem?_eq_some_iff.1 hx).1; have := h.len; omega) b o e)⟩⟩
theorem round_any {n m l l' : Nat} {f : FuncId} {tmps : Array Value} {assign body : Code} {w : World} {R : Ending → World → Prop} (h : RoundIn Fence.wide n Tryd.prog l f tmps assign body w R) : RoundIn (Fence.wide.inRound l') m Tryd.prog l f tmps assign body w R :=
  ⟨trivial, fun c cs _ => h.2 c cs (room_wide _)⟩
end

/-! Rn: A region that draws its order, in a round: what is shown of it outside a round serves, where it holds no defer. -/
section
open Go.RowKit Go.Shelf

theorem opIn_of_op {P : Program} {l n : Nat} {o : Oper} {a : Act} {w : World} {K : Act → World → Prop} {Q : Exit → Act → World → Prop} (hnd : ∀ c, o.op ≠ .defer c) (h : o.wp P a w K Q) : o.wpIn (Fence.wide.inRound l) n P a w K Q := by
  refine ⟨fun _ _ => trivial, ?_⟩
  rw [show Oper.semAt (Fence.wide.inRound l).round a.eval o = execOp a.eval o from Oper.semAt_some l a.eval o hnd]
  unfold Oper.wp at h
  cases hr : (execOp a.eval o).run P w with
  | ok nx w' =>
    rw [hr] at h
    cases nx with
    | value v => exact h
    | skip => exact h
    | defer d => exact h
    | enter f args => exact ⟨(fun hd => by cases hd), callsIn_wide.2 h⟩
    | row r args => exact ⟨(fun hd => by cases hd), fun c cs _ => let ⟨v, w'', q, s⟩ := h c cs; ⟨v, w'', q, stepsIn_wide.2 s⟩⟩
    | _ => exact h.elim
  | halt hh w' =>
    rw [hr] at h
    cases hh with
    | panic v => exact h
    | _ => exact h.elim

theorem anyIn_of_any {P : Program} {l n : Nat} {md : Region.Mode} {ops : Array Oper} {Q : Exit → Act → World → Prop} (hnd : ∀ (i : Nat) (o : Oper), ops[i]? = some o → ∀ c, o.op ≠ .defer c) (hno : ¬ LetsOut Q) :
    ∀ (fuel : Nat) (listed : Array Bool) (a : Act) (w : World), wpAny P md ops Q fuel listed a w → wpAnyIn (Fence.wide.inRound l) n P md ops Q fuel listed a w := by
  intro fuel
  induction fuel with
  | zero => intro listed a w h; exact h
  | succ fuel ih =>
    intro listed a w h
    refine ⟨h.1, fun i hi => ?_⟩
    have h2 := h.2 i hi
    unfold wpOp at h2
    unfold wpOpIn
    cases ho : ops[i]? with
    | none => simp only [ho] at h2 ⊢; exact ih _ _ _ h2
    | some o =>
      simp only [ho] at h2 ⊢
      by_cases hw : Region.wanted o (yielded ops a.tmps) = true
      · rw [if_pos hw] at h2 ⊢
        rcases h2 with h2 | h2
        · exact opIn_of_op (hnd i o ho) (Oper.wp_mono (fun a w => ih _ a w) h2)
        · exact absurd h2.2 hno
      · rw [if_neg hw] at h2 ⊢
        exact ⟨fun _ _ => trivial, ih _ _ _ h2⟩

def noDefer (ops : Array Oper) : Bool := ops.all fun o => match o.op with | .defer _ => false | _ => true

theorem noDefer_spec {ops : Array Oper} (h : noDefer ops = true) : ∀ (i : Nat) (o : Oper), ops[i]? = some o → ∀ c, o.op ≠ .defer c := by
  intro i o hi c hc
  have hm : o ∈ ops := Array.mem_of_getElem? hi
  have := (Array.all_eq_true_iff_forall_mem.1 h) o hm
  simp [hc] at this

theorem region_round {P : Program} {l n id : Nat} {ops : Array Oper} {Q : Exit → Act → World → Prop} {a : Act} {w : World} (S : World → Prop) (hm : P.follows .mixedOrders = true) (hnd : noDefer ops = true) (hno : ¬ LetsOut Q)
    (h : wpAnyH P .any ops Q S ops.size (Array.replicate ops.size false) a w.drew) : (Code.region id ops true).wpIn (Fence.wide.inRound l) n P Q a w :=
  wpIn_region_any hm (anyIn_of_any (noDefer_spec hnd) hno _ _ _ _ (wpAny_of_held _ _ _ _ h))

/-- A region that draws its order, in a round, walked by a plan. -/
theorem region_plan_round {P : Program} {S : World → Prop} {lr n id : Nat} {l : List Oper} {a : Act} {w : World} {Q : Exit → Act → World → Prop} (pl : List (List Nat × Nat)) (last : List Nat) (hm : P.follows .mixedOrders = true) (hs : Region.noSelect l.toArray = true) (hn : planLen pl last = l.length)
    (hB : planB .any l.toArray pl last (Array.replicate l.length false) = true) (hnd : noDefer l.toArray = true) (hno : ¬ LetsOut Q) (hS : S w.drew) (h : wpPlan P l (NoPanic Q) S pl last a w.drew) : (Code.region id l.toArray true).wpIn (Fence.wide.inRound lr) n P Q a w := by
  refine wpIn_mono (region_round (Q := NoPanic Q) S hm hnd (fun ⟨a, w, h⟩ => hno ⟨a, w, h⟩) ?_) (fun e a w h => NoPanic.imp e a w h)
  have := any_of_plan hs (fun _ _ _ _ _ h => h) pl last _ a _ hS hB h
  rw [hn] at this
  simpa using this
end

/-! Lf: Leaves and roots in plain mathematics: entries, their bytes, the block, and back. -/
section
open Go.RowKit

structure En where
  key : List B
  place : Int
  blocks : Int
  refs : Int
  deriving DecidableEq, Inhabited

/-- May an entry be? -/
def one (e : En) : Bool := decide (2 ≤ e.place ∧ e.place ≤ 127 ∧ 1 ≤ e.blocks ∧ e.blocks ≤ 8 ∧ e.place + e.blocks ≤ 128 ∧ 0 ≤ e.refs ∧ e.refs ≤ 1000)
/-- Entry i may not be there. -/
def badAt (l : List En) (i : Nat) : Bool := !one (l.getD i default) || (decide (0 < i) && !lessB (l.getD (i - 1) default).key (l.getD i default).key)
def okAll (l : List En) (k : Nat) : Bool := (List.range k).all fun i => !badAt l i
/-- Entries may be. -/
def gd (l : List En) : Bool := okAll l l.length && decide (1 ≤ l.length ∧ l.length ≤ 3)
/-- Each Key has 32 bytes. -/
def Keyed (l : List En) : Prop := ∀ e ∈ l, e.key.length = 32

theorem okAll_iff {l : List En} {k : Nat} : okAll l k = true ↔ ∀ i, i < k → badAt l i = false := by simp [okAll]
theorem okAll_bad {l : List En} {k i : Nat} (hi : i < k) (h : badAt l i = true) : okAll l k = false := by
  cases hk : okAll l k with
  | false => rfl
  | true => rw [okAll_iff.1 hk i hi] at h; cases h
theorem okAll_succ (l : List En) (k : Nat) : okAll l (k + 1) = (okAll l k && !badAt l k) := by simp [okAll, List.range_succ]

def ebytes (e : En) : List B := e.key ++ [kb e.place, kb e.blocks, kb (e.refs / 256), kb e.refs]
theorem ebytes_len {e : En} (h : e.key.length = 32) : (ebytes e).length = 36 := by simp [ebytes, h]
def flat (l : List En) : List B := l.flatMap ebytes
theorem flatE_len {l : List En} (h : Keyed l) : (flat l).length = 36 * l.length := by
  induction l with
  | nil => rfl
  | cons e l ih =>
    have h1 := ebytes_len (h e (by simp))
    have h2 := ih (fun x hx => h x (by simp [hx]))
    unfold flat at *
    rw [List.flatMap_cons, List.length_append, h1, h2, List.length_cons]; omega
theorem flat_snoc (l : List En) (e : En) : flat (l ++ [e]) = flat l ++ ebytes e := by simp [flat]
theorem flat_drop {l : List En} (h : Keyed l) : ∀ i, (flat l).drop (36 * i) = flat (l.drop i) := by
  induction l with
  | nil => intro i; simp [flat]
  | cons e l ih =>
    intro i
    have hk : Keyed l := fun x hx => h x (by simp [hx])
    cases i with
    | zero => simp
    | succ i =>
      have h1 := ebytes_len (h e (by simp))
      have h2 := ih hk i
      unfold flat at *
      rw [List.flatMap_cons, List.drop_succ_cons, ← h2, List.drop_append, List.drop_of_length_le (by omega), List.nil_append, h1]
      congr 1

/-- The bytes ahead of the check. -/
def ltxt (l : List En) : List B := kb 76 :: kb (l.length : Int) :: flat l
def rtxt (l : List Int) : List B := kb 82 :: kb (l.length : Int) :: l.map kb
/-- Bytes, their check, zeros. -/
def blk5 (t : List B) : List B := t ++ ((sha t).take 4 ++ zb (124 - t.length))
theorem blk5_len {t : List B} (h : t.length ≤ 124) : (blk5 t).length = 128 := by
  unfold blk5; rw [List.length_append, List.length_append, zb_len, List.length_take, sha_len]; omega
/-- A leaf. -/
def lf (l : List En) : List B := blk5 (ltxt l)
/-- A root. -/
def rt (l : List Int) : List B := blk5 (rtxt l)
theorem ltxt_len {l : List En} (h : Keyed l) : (ltxt l).length = 2 + 36 * l.length := by unfold ltxt; rw [List.length_cons, List.length_cons, flatE_len h]; omega
theorem rtxt_len (l : List Int) : (rtxt l).length = 2 + l.length := by simp [rtxt]; omega

/-- Entry i of a block. -/
def entAt (x : List B) (i : Nat) : En := ⟨(x.drop (2 + 36 * i)).take 32, nb (x.getD (2 + 36 * i + 32) 0), nb (x.getD (2 + 36 * i + 33) 0), nb (x.getD (2 + 36 * i + 34) 0) * 256 + nb (x.getD (2 + 36 * i + 35) 0)⟩
def entN (x : List B) (k : Nat) : List En := (List.range k).map (entAt x)
/-- The entries of a block. -/
def ents (x : List B) : List En := entN x (min (x.getD 1 0).toNat 3)
def plcN (x : List B) (k : Nat) : List Int := (List.range k).map fun i => nb (x.getD (2 + i) 0)
def plcs (x : List B) : List Int := plcN x (min (x.getD 1 0).toNat 100)
theorem entN_len (x : List B) (k : Nat) : (entN x k).length = k := by simp [entN]
theorem entN_succ (x : List B) (k : Nat) : entN x (k + 1) = entN x k ++ [entAt x k] := by simp [entN, List.range_succ]
theorem plcN_len (x : List B) (k : Nat) : (plcN x k).length = k := by simp [plcN]
theorem plcN_succ (x : List B) (k : Nat) : plcN x (k + 1) = plcN x k ++ [nb (x.getD (2 + k) 0)] := by simp [plcN, List.range_succ]
theorem entN_keyed {x : List B} (hx : x.length = 128) {k : Nat} (hk : k ≤ 3) : Keyed (entN x k) := by
  intro e he
  simp [entN] at he
  obtain ⟨i, hi, rfl⟩ := he
  simp [entAt, hx]; omega
theorem ents_keyed {x : List B} (hx : x.length = 128) : Keyed (ents x) := entN_keyed hx (by omega)

/-- x is a leaf. -/
def isLf (x : List B) : Bool := gd (ents x) && decide (lf (ents x) = x)

/-- May places be a root's? -/
def rbad (l : List Int) (i : Nat) : Bool := decide (l.getD i 0 < 2 ∨ 127 < l.getD i 0) || (List.range i).any fun k => l.getD k 0 == l.getD i 0
def okR (l : List Int) : Bool := decide (1 ≤ l.length ∧ l.length ≤ 100) && (List.range l.length).all fun i => !rbad l i
def isRt (x : List B) : Bool := okR (plcs x) && decide (rt (plcs x) = x)

theorem gd_len {l : List En} (h : gd l = true) : 1 ≤ l.length ∧ l.length ≤ 3 := by
  unfold gd at h
  simp only [Bool.and_eq_true, decide_eq_true_eq] at h
  exact h.2
theorem gd_one {l : List En} (h : gd l = true) {i : Nat} (hi : i < l.length) : one (l.getD i default) = true := by
  unfold gd at h
  simp only [Bool.and_eq_true] at h
  have := okAll_iff.1 h.1 i hi
  unfold badAt at this
  simp only [Bool.or_eq_false_iff, Bool.not_eq_false'] at this
  exact this.1

theorem getD_cat {l r : List B} {i : Nat} (h : i < l.length) : (l ++ r).getD i 0 = l.getD i 0 := by
  simp [List.getD_eq_getElem?_getD, List.getElem?_append_left h]
theorem getD_drop (l : List B) (i j : Nat) : (l.drop i).getD j 0 = l.getD (i + j) 0 := by
  simp [List.getD_eq_getElem?_getD]

theorem entAt_flat {l : List En} (h : Keyed l) (a b : B) (r : List B) {i : Nat} (hi : i < l.length) (ho : one (l.getD i default) = true) : entAt (a :: b :: (flat l ++ r)) i = l.getD i default := by
  have hd : (a :: b :: (flat l ++ r)).drop (2 + 36 * i) = ebytes (l.getD i default) ++ (flat (l.drop (i + 1)) ++ r) := by
    rw [show 2 + 36 * i = (36 * i + 1) + 1 by omega, List.drop_succ_cons, List.drop_succ_cons, List.drop_append_of_le_length (by rw [flatE_len h]; omega), flat_drop h i, List.drop_eq_getElem_cons hi]
    unfold flat
    rw [List.flatMap_cons, List.append_assoc]
    congr 1
    rw [List.getD_eq_getElem?_getD, List.getElem?_eq_getElem hi]; rfl
  have hg : ∀ j, (a :: b :: (flat l ++ r)).getD (2 + 36 * i + j) 0 = (ebytes (l.getD i default) ++ (flat (l.drop (i + 1)) ++ r)).getD j 0 := fun j => by
    rw [← getD_drop, hd]
  have hm : l.getD i default ∈ l := by rw [List.getD_eq_getElem?_getD, List.getElem?_eq_getElem hi]; exact List.getElem_mem _
  generalize l.getD i default = e at *
  have hk := h e hm
  unfold one at ho
  simp only [decide_eq_true_eq] at ho
  unfold entAt
  rw [hd, hg, hg, hg, hg]
  have e1 : (ebytes e ++ (flat (l.drop (i + 1)) ++ r)).take 32 = e.key := by
    unfold ebytes
    rw [List.append_assoc, List.take_append_of_le_length (by omega), List.take_of_length_le (by omega)]
  have e2 : ∀ j y, [kb e.place, kb e.blocks, kb (e.refs / 256), kb e.refs][j]? = some y → (ebytes e ++ (flat (l.drop (i + 1)) ++ r)).getD (32 + j) 0 = y := fun j y hy => by
    have hj : j < 4 := by have := (List.getElem?_eq_some_iff.1 hy).1; simpa using this
    rw [getD_cat (by rw [ebytes_len hk]; omega), ebytes, List.getD_eq_getElem?_getD, List.getElem?_append_right (by omega), show 32 + j - e.key.length = j by omega, hy]; rfl
  rw [e1, e2 0 _ rfl, e2 1 _ rfl, e2 2 _ rfl, e2 3 _ rfl, nb_kb, nb_kb, nb_kb, nb_kb]
  cases e
  simp only [En.mk.injEq, true_and] at *
  omega

theorem lf_cons (l : List En) : lf l = kb 76 :: kb (l.length : Int) :: (flat l ++ ((sha (ltxt l)).take 4 ++ zb (124 - (ltxt l).length))) := by
  unfold lf blk5
  conv => lhs; lhs; unfold ltxt
  rfl
theorem rt_cons (l : List Int) : rt l = kb 82 :: kb (l.length : Int) :: (l.map kb ++ ((sha (rtxt l)).take 4 ++ zb (124 - (rtxt l).length))) := by
  unfold rt blk5
  conv => lhs; lhs; unfold rtxt
  rfl
theorem lf_len {l : List En} (h : Keyed l) (hn : l.length ≤ 3) : (lf l).length = 128 := blk5_len (by rw [ltxt_len h]; omega)
theorem rt_len {l : List Int} (hn : l.length ≤ 100) : (rt l).length = 128 := blk5_len (by rw [rtxt_len]; omega)

/-- The entries of a leaf are those that it was made of. -/
theorem ents_lf {l : List En} (h : Keyed l) (hg : gd l = true) : ents (lf l) = l := by
  have hn := gd_len hg
  have h1 : ((lf l).getD 1 0).toNat = l.length := by
    rw [lf_cons]
    show (kb (l.length : Int)).toNat = _
    have := nb_kb (l.length : Int)
    unfold nb at this
    omega
  unfold ents
  rw [h1, show min l.length 3 = l.length by omega]
  apply List.ext_getElem (entN_len _ _)
  intro i h2 h3
  have h4 : (entN (lf l) l.length)[i] = entAt (lf l) i := by simp [entN]
  rw [h4, lf_cons, entAt_flat h _ _ _ h3 (gd_one hg h3), List.getD_eq_getElem?_getD, List.getElem?_eq_getElem h3]; rfl
theorem isLf_lf {l : List En} (h : Keyed l) (hg : gd l = true) : isLf (lf l) = true := by
  unfold isLf; rw [ents_lf h hg, hg]; simp
theorem lf_inj {l m : List En} (hl : Keyed l) (hm : Keyed m) (gl : gd l = true) (gm : gd m = true) (h : lf l = lf m) : l = m := by
  rw [← ents_lf hl gl, ← ents_lf hm gm, h]
theorem isLf_iff {x : List B} : isLf x = true ↔ gd (ents x) = true ∧ lf (ents x) = x := by simp [isLf]
theorem okR_iff {l : List Int} : okR l = true ↔ (1 ≤ l.length ∧ l.length ≤ 100) ∧ ∀ i, i < l.length → rbad l i = false := by simp [okR]
theorem isRt_iff {x : List B} : isRt x = true ↔ okR (plcs x) = true ∧ rt (plcs x) = x := by simp [isRt]
theorem plcs_rt {l : List Int} (hg : okR l = true) : plcs (rt l) = l := by
  obtain ⟨hn, hb⟩ := okR_iff.1 hg
  have h1 : ((rt l).getD 1 0).toNat = l.length := by
    rw [rt_cons]
    show (kb (l.length : Int)).toNat = _
    have := nb_kb (l.length : Int)
    unfold nb at this
    omega
  unfold plcs
  rw [h1, show min l.length 100 = l.length by omega]
  apply List.ext_getElem (plcN_len _ _)
  intro i h2 h3
  have h4 : (plcN (rt l) l.length)[i] = nb ((rt l).getD (2 + i) 0) := by simp [plcN]
  have h5 := hb i h3
  unfold rbad at h5
  simp only [Bool.or_eq_false_iff, decide_eq_false_iff_not] at h5
  have h6 : l.getD i 0 = l[i] := by rw [List.getD_eq_getElem?_getD, List.getElem?_eq_getElem h3]; rfl
  rw [h6] at h5
  rw [h4, rt_cons, show 2 + i = (i + 1) + 1 by omega, List.getD_cons_succ, List.getD_cons_succ, getD_cat (by simp; exact h3), List.getD_eq_getElem?_getD, List.getElem?_map, List.getElem?_eq_getElem h3]
  show nb (kb l[i]) = l[i]
  rw [nb_kb]; omega
theorem isRt_rt {l : List Int} (hg : okR l = true) : isRt (rt l) = true := by
  unfold isRt; rw [plcs_rt hg, hg]; simp
/-- A leaf is no root. -/
theorem lf_rt (l : List En) (m : List Int) : lf l ≠ rt m := by
  intro h
  rw [lf_cons, rt_cons] at h
  have := congrArg (fun x => x.head?) h
  simp at this
  revert this
  decide
theorem lf_noRt {l : List En} : isRt (lf l) = false := by
  cases h : isRt (lf l) with
  | false => rfl
  | true => exact absurd (isRt_iff.1 h).2.symm (lf_rt _ _)
theorem rt_noLf {l : List Int} : isLf (rt l) = false := by
  cases h : isLf (rt l) with
  | false => rfl
  | true => exact absurd (isLf_iff.1 h).2 (lf_rt _ _)
end

/-! Lg: Leaves and roots: what the laws rest on. -/
section
open Go.RowKit

theorem less_asymm {x y : List B} (h : lessB x y = true) : lessB y x = false := by
  rcases less_ways x y [] with ⟨h1, _⟩ | ⟨h1, _⟩ | ⟨_, h2, _⟩ | ⟨_, h2, _⟩
  · rw [h] at h1; cases h1
  · rw [h] at h1; cases h1
  · exact h2
  · exact h2
theorem gd_less {l : List En} (h : gd l = true) {i : Nat} (hi : i + 1 < l.length) : lessB (l.getD i default).key (l.getD (i + 1) default).key = true := by
  unfold gd at h
  simp only [Bool.and_eq_true] at h
  have := okAll_iff.1 h.1 (i + 1) hi
  unfold badAt at this
  simp only [Bool.or_eq_false_iff, Bool.and_eq_false_iff, Nat.add_sub_cancel] at this
  rcases this.2 with h1 | h1
  · simp at h1
  · simpa using h1
theorem gd_of {l : List En} (h1 : 1 ≤ l.length) (h3 : l.length ≤ 3) (ho : ∀ i, i < l.length → one (l.getD i default) = true) (hr : ∀ i, i + 1 < l.length → lessB (l.getD i default).key (l.getD (i + 1) default).key = true) : gd l = true := by
  unfold gd
  rw [decide_eq_true ⟨h1, h3⟩, Bool.and_true]
  refine okAll_iff.2 fun i hi => ?_
  unfold badAt
  rw [ho i hi]
  cases i with
  | zero => rfl
  | succ i => rw [Nat.add_sub_cancel, hr i hi]; simp
theorem gd_falls {l : List En} {i : Nat} (hi : i + 1 < l.length) (h : lessB (l.getD i default).key (l.getD (i + 1) default).key = false) : gd l = false := by
  cases hg : gd l with
  | false => rfl
  | true => rw [gd_less hg hi] at h; cases h
theorem gd_long {l : List En} (h : 3 < l.length) : gd l = false := by
  cases hg : gd l with
  | false => rfl
  | true => have := (gd_len hg).2; omega
/-- Entries turned round may not be. -/
theorem gd_back {l : List En} (h : gd l = true) (h2 : 2 ≤ l.length) : gd l.reverse = false := by
  refine gd_falls (i := 0) (by rw [List.length_reverse]; omega) ?_
  have g : ∀ j, j < l.length → l.reverse.getD j default = l.getD (l.length - 1 - j) default := fun j hj => by
    rw [List.getD_eq_getElem?_getD, List.getD_eq_getElem?_getD, List.getElem?_reverse hj]
  rw [g 0 (by omega), g (0 + 1) (by omega)]
  have := gd_less h (i := l.length - 2) (by omega)
  rw [show l.length - 2 + 1 = l.length - 1 by omega] at this
  rw [show l.length - 1 - 0 = l.length - 1 by omega, show l.length - 1 - (0 + 1) = l.length - 2 by omega]
  exact less_asymm this
theorem gd_twice (e : En) : gd [e, e] = false := gd_falls (i := 0) (by simp) (less_self _)
theorem gd_tail {l : List En} (h : gd l = true) (h2 : 2 ≤ l.length) : gd (l.drop 1) = true := by
  have hn := gd_len h
  have g : ∀ j, (l.drop 1).getD j default = l.getD (1 + j) default := fun j => by simp [List.getD_eq_getElem?_getD, Nat.add_comm]
  refine gd_of (by rw [List.length_drop]; omega) (by rw [List.length_drop]; omega) (fun i hi => ?_) (fun i hi => ?_)
  · rw [List.length_drop] at hi
    rw [g]; exact gd_one h (by omega)
  · rw [List.length_drop] at hi
    rw [g, g, ← Nat.add_assoc]; exact gd_less h (by omega)
theorem gd_head {l : List En} (h : gd l = true) : gd (l.take 1) = true := by
  have hn := gd_len h
  refine gd_of (by rw [List.length_take]; omega) (by rw [List.length_take]; omega) (fun i hi => ?_) (fun i hi => ?_)
  · rw [List.length_take] at hi
    obtain rfl : i = 0 := by omega
    have : (l.take 1).getD 0 default = l.getD 0 default := by simp [List.getD_eq_getElem?_getD]
    rw [this]; exact gd_one h (by omega)
  · rw [List.length_take] at hi; omega

/-- With a bit turned it is another. -/
theorem turned_ne {L : List B} {p k : Nat} (hp : p < L.length) (hk : k < 8) : L.set p (L.getD p 0 ^^^ (1#8 <<< k)) ≠ L := by
  intro h
  have h1 := congrArg (fun l => l[p]?) h
  simp only [List.getElem?_set_self hp, List.getElem?_eq_getElem hp, Option.some.injEq] at h1
  rw [List.getD_eq_getElem?_getD, List.getElem?_eq_getElem hp] at h1
  have h2 := congrArg (fun x : B => x.getLsbD k) h1
  simp [hk] at h2

theorem entAt_lf {l : List En} (h : Keyed l) (hg : gd l = true) {i : Nat} (hi : i < l.length) : entAt (lf l) i = l.getD i default := by
  rw [lf_cons, entAt_flat h _ _ _ hi (gd_one hg hi)]
theorem blk5_take (t : List B) : (blk5 t).take t.length = t := by unfold blk5; rw [List.take_append_of_le_length (by omega), List.take_of_length_le (by omega)]
theorem blk5_check (t : List B) : ((blk5 t).drop t.length).take 4 = (sha t).take 4 := by
  unfold blk5
  rw [List.drop_append_of_le_length (by omega), List.drop_of_length_le (by omega), List.nil_append, List.take_append_of_le_length (by rw [List.length_take, sha_len]; omega), List.take_of_length_le (by rw [List.length_take, sha_len]; omega)]
theorem blk5_zero {t : List B} {j : Nat} (hj : t.length + 4 ≤ j) : (blk5 t).getD j 0 = 0 := by
  unfold blk5
  rw [List.getD_eq_getElem?_getD, List.getElem?_append_right (by omega), List.getElem?_append_right (by rw [List.length_take, sha_len]; omega)]
  unfold zb
  rw [List.getElem?_replicate]
  split <;> rfl
theorem blk5_get {t : List B} {j : Nat} (hj : j < t.length) : (blk5 t).getD j 0 = t.getD j 0 := by unfold blk5; exact getD_cat hj
theorem lf_0 (l : List En) : (lf l).getD 0 0 = kb 76 := by rw [lf_cons]; rfl
theorem lf_1 (l : List En) : (lf l).getD 1 0 = kb (l.length : Int) := by rw [lf_cons]; rfl
theorem rt_0 (l : List Int) : (rt l).getD 0 0 = kb 82 := by rw [rt_cons]; rfl
theorem rt_1 (l : List Int) : (rt l).getD 1 0 = kb (l.length : Int) := by rw [rt_cons]; rfl
theorem rt_get {l : List Int} {i : Nat} (hi : i < l.length) : (rt l).getD (2 + i) 0 = kb (l.getD i 0) := by
  rw [rt_cons, show 2 + i = (i + 1) + 1 by omega, List.getD_cons_succ, List.getD_cons_succ, getD_cat (by simp; exact hi), List.getD_eq_getElem?_getD, List.getElem?_map, List.getElem?_eq_getElem hi, List.getD_eq_getElem?_getD, List.getElem?_eq_getElem hi]; rfl

/-- The entries and places of wakes. -/
def w0 : En := ⟨1#8 :: zb 31, 9, 2, 258⟩
def w1 : En := ⟨2#8 :: zb 31, 5, 1, 0⟩
theorem gd_w : gd [w0, w1] = true := by decide +kernel
theorem gd_w' : gd [w1, w0] = false := by decide +kernel
theorem okR_w : okR [7, 3] = true := by decide +kernel
theorem keyed_w : Keyed [w0, w1] := fun e he => by
  simp at he
  rcases he with rfl | rfl <;> decide
theorem lf_w {j : Nat} {x : B} (hj : j < 74) (h : (ltxt [w0, w1]).getD j 0 = x) : (lf [w0, w1]).getD j 0 = x := by
  unfold lf; rw [blk5_get (by rw [ltxt_len keyed_w]; exact hj), h]
theorem lf_w2 : (lf [w0, w1]).getD 2 0 = 1#8 := lf_w (by omega) (by decide +kernel)
theorem lf_w34 : (lf [w0, w1]).getD 34 0 = 9#8 := lf_w (by omega) (by decide +kernel)
theorem lf_w35 : (lf [w0, w1]).getD 35 0 = 2#8 := lf_w (by omega) (by decide +kernel)
theorem lf_w36 : (lf [w0, w1]).getD 36 0 = 1#8 := lf_w (by omega) (by decide +kernel)
theorem lf_w37 : (lf [w0, w1]).getD 37 0 = 2#8 := lf_w (by omega) (by decide +kernel)
theorem rt_w2 : (rt [7, 3]).getD 2 0 = 7#8 := (rt_get (l := [7, 3]) (i := 0) (by simp)).trans (by decide +kernel)
end

end Go.Proofs.YtdgnjpdjohibeaaDoor
