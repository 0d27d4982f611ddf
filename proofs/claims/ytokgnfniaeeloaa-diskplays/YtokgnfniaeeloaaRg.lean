/-
  Long rows in the fenced walk; the loose writes as a list; the iterator over them.
-/
import Derived.Test.YtokgnfniaeeloaaRf
set_option linter.all false
namespace Go.Proofs.Ytokgnfniaeeloaa
open Go.RowKit Go.Shelf
attribute [local go_sem] Oper.semAt_some

theorem semAt_load (ro : Option Nat) (ρ : Operand → Value) (o : Oper) (ty : TypeId) (x : Operand) (ho : o.op = .load ty x) : Oper.semAt ro ρ o = execOp ρ o := by
  unfold Oper.semAt; cases ro <;> simp [ho]
theorem semAt_store (ro : Option Nat) (ρ : Operand → Value) (o : Oper) (ty : TypeId) (x y : Operand) (ho : o.op = .store ty x y) : Oper.semAt ro ρ o = execOp ρ o := by
  unfold Oper.semAt; cases ro <;> simp [ho]

theorem wpListIn_load_cells {F : Fence} {m : Nat} {ops : Array Oper} {rest : List Oper} {op : Oper} {a : Act} {w : World} {Q : Exit → Act → World → Prop} (hgd : op.guard = none) (ty : TypeId) (x : Operand) (ho : op.op = .load ty x)
    (g o : Nat) (hx : a.eval x = .pointer (some ⟨g, o, none⟩)) (n : Nat) (cs : Array Value) (hc : cellsAt w g o n = cs) (hn : cs.size = n) (td : TypeDesc)
    (hu : Try.prog.underlying ty = some td) (hd : td.isRow = true) (hi : (Try.prog.info? ty).map (·.size) = some n)
    (h : wpListIn F m Try.prog ops Q rest (a.put op.dst (.agg cs)) w) : wpListIn F m Try.prog ops Q (op :: rest) a w := by
  refine wpListIn_plain hgd fun K hK => ?_
  have hr := run_loadVar_mid (P := Try.prog) w g o ty cs.toList td (by rw [← hc]; exact rangeAt_cellsAt w g o n) hu hd (by rw [hi, Array.length_toList, hn])
  rw [Array.toArray_toList] at hr
  refine ⟨fun f hf => by simp [Oper.about, ho] at hf, ?_⟩
  rw [semAt_load _ _ _ ty x ho]
  unfold execOp
  simp only [ho, hx, Instr.loadAt, Instr.sureAddr, Sem.run_bind, Sem.run_pure, Result.andThen_ok, hr]
  exact hK _ _ h

theorem opIn_load_cells {F : Fence} {m : Nat} {op : Oper} {a : Act} {w : World} {K : Act → World → Prop} {Q : Exit → Act → World → Prop} (ty : TypeId) (x : Operand) (ho : op.op = .load ty x)
    (g o : Nat) (hx : a.eval x = .pointer (some ⟨g, o, none⟩)) (n : Nat) (cs : Array Value) (hc : cellsAt w g o n = cs) (hn : cs.size = n) (td : TypeDesc)
    (hu : Try.prog.underlying ty = some td) (hd : td.isRow = true) (hi : (Try.prog.info? ty).map (·.size) = some n)
    (h : K (a.put op.dst (.agg cs)) w) : op.wpIn F m Try.prog a w K Q := by
  have hr := run_loadVar_mid (P := Try.prog) w g o ty cs.toList td (by rw [← hc]; exact rangeAt_cellsAt w g o n) hu hd (by rw [hi, Array.length_toList, hn])
  rw [Array.toArray_toList] at hr
  refine ⟨fun f hf => by simp [Oper.about, ho] at hf, ?_⟩
  rw [semAt_load _ _ _ ty x ho]
  unfold execOp
  simp only [ho, hx, Instr.loadAt, Instr.sureAddr, Sem.run_bind, Sem.run_pure, Result.andThen_ok, hr]
  exact h

theorem wpListIn_store_row {F : Fence} {m : Nat} {ops : Array Oper} {rest : List Oper} {o : Oper} {a : Act} {w : World} {Q : Exit → Act → World → Prop} (hgd : o.guard = none) (ty : TypeId) (x y : Operand) (ho : o.op = .store ty x y)
    (g : Nat) (hx : a.eval x = .pointer (some ⟨g, 0, none⟩)) (new : Array Value) (hy : a.eval y = .agg new) (t : TypeId) (old : Array Value) (hg : w.heap[g]? = some (.cells old t (0, 0)))
    (hi : (Try.prog.info? ty).map (·.size) = some new.size) (hs : old.size = new.size) (h1 : new.all (·.oneCell') = true)
    (h : ∀ w', w'.heap[g]? = some (.cells new t (0, 0)) → Keeps (· = g) w w' → w'.heap.size = w.heap.size → wpListIn F m Try.prog ops Q rest (a.put o.dst undef) w') : wpListIn F m Try.prog ops Q (o :: rest) a w := by
  refine wpListIn_plain hgd fun K hK => ?_
  refine ⟨fun f hf => by simp [Oper.about, ho] at hf, ?_⟩
  rw [semAt_store _ _ _ ty x y ho]
  unfold execOp
  simp only [ho, hx, hy, Instr.storeAt, Instr.sureAddr, Sem.run_bind, Sem.run_pure, Result.andThen_ok, run_storeVar_row w g t ty old new hg hi hs h1]
  exact hK _ _ (h _ (setRow_heap w g _ _ _ _ hg) ((Keeps.refl (· = g) w).setRow (.inl rfl) _) (by simp))

theorem Keeps.from {S : Nat → Prop} {B : Nat} {W W' : World} (h : Keeps S W W') (hS : ∀ k, B ≤ k → S k → ∃ cs t fr, W.heap[k]? = some (.cells cs t fr)) : KeepsFrom B W W' :=
  ⟨h.size, fun k o hB hk ho => (h.block k (Array.getElem?_eq_some_iff.1 hk).1 (fun hs => by obtain ⟨cs, t, fr, e⟩ := hS k hB hs; rw [e] at hk; cases hk; simp [Obj.isCells] at ho)).trans hk⟩

/-- Block g is a row that may be written. -/
def FreeRow (w : World) (g n : Nat) : Prop := ∃ cs t, w.heap[g]? = some (.cells cs t (0, 0)) ∧ cs.size = n
theorem FreeRow.drew {w : World} {g n : Nat} (h : FreeRow w g n) : FreeRow w.drew g n := h

def aggOf : Value → Array Value
  | .agg cs => cs
  | _ => #[]

/-- Each is one cell. -/
def AllOne (A : Array Value) : Prop := A.all (·.oneCell') = true

theorem wp_store37 {d : Option Tmp} {x y : Operand} {tt : TypeId} {ps : String} {af : Array Edge} {a : Act} {w : World} {K : Act → World → Prop} {Q : Exit → Act → World → Prop}
    (h1 : a.eval x = .pointer (some ⟨(addrOf (a.eval x)).block, 0, none⟩)) (h2 : a.eval y = .agg (aggOf (a.eval y))) (h3 : (aggOf (a.eval y)).size = 128) (h4 : AllOne (aggOf (a.eval y))) (h5 : FreeRow w (addrOf (a.eval x)).block 128) :
    Oper.wp Try.prog { dst := d, op := .store 37 x y, type := tt, pos := ps, after := af, guard := none } a w K Q =
      K (a.put d undef) (w.setRow (addrOf (a.eval x)).block (aggOf (a.eval y))) := by
  obtain ⟨cs, t, hg, hs⟩ := h5
  have hr := run_storeVar_row w (addrOf (a.eval x)).block t 37 cs (aggOf (a.eval y)) hg (by rw [h3]; exact size37) (by rw [hs, h3]) h4
  unfold Oper.wp execOp
  dsimp only
  rw [h1, h2]
  simp only [Instr.storeAt, Instr.sureAddr, Sem.run_bind, Sem.run_pure, Result.andThen_ok]
  simp only [addrOf, aggOf] at hr ⊢
  rw [hr]
  rfl

/-- A loose write: its place, its block's cells. -/
abbrev LW := Int × List Value
def lcells (x : LW) : List Value := .int .i64 x.1 :: x.2
def flat (ws : List LW) : List Value := ws.flatMap lcells
def LwOk (x : LW) : Prop := x.2.length = 128 ∧ ∀ v ∈ x.2, v.oneCell' = true

theorem length_lcells {x : LW} (h : LwOk x) : (lcells x).length = 129 := by simp [lcells, h.1]
theorem one_lcells {x : LW} (h : LwOk x) : ∀ v ∈ lcells x, v.oneCell' = true := by
  intro v hv
  rcases List.mem_cons.1 hv with rfl | hv
  · rfl
  · exact h.2 v hv

theorem length_flat {ws : List LW} (h : ∀ x ∈ ws, LwOk x) : (flat ws).length = ws.length * 129 := by
  induction ws with
  | nil => rfl
  | cons x ws ih =>
    have e : flat (x :: ws) = lcells x ++ flat ws := rfl
    rw [e, List.length_append, ih (fun y hy => h y (by simp [hy])), length_lcells (h x (by simp))]
    simp; omega

theorem flat_part {ws : List LW} (h : ∀ x ∈ ws, LwOk x) (pre : List LW) (x : LW) (rest : List LW) (hws : ws = pre ++ x :: rest) : ((flat ws).drop (pre.length * 129)).take 129 = lcells x := by
  subst hws
  have e : flat (pre ++ x :: rest) = flat pre ++ (lcells x ++ flat rest) := by simp [flat]
  have hp : (flat pre).length = pre.length * 129 := length_flat (fun y hy => h y (by simp [hy]))
  rw [e, ← hp, List.drop_left, ← length_lcells (h x (by simp)), List.take_left]

/-- The loose writes ws lie in the slice vl. -/
structure LooseAt (w : World) (vl : Value) (ws : List LW) : Prop where
  owns : w.ownsRow 0 65 129 vl ws.length (flat ws)
  ok : ∀ x ∈ ws, LwOk x

theorem LooseAt.form {w : World} {vl : Value} {ws : List LW} (h : LooseAt w vl ws) : (vl = .slice none 0 0 ∧ ws = []) ∨
    ∃ g cap cur, vl = .slice (some ⟨g, 0, none⟩) ws.length cap ∧ w.heap[g]? = some (.cells cur 65 (0, 0)) ∧
      ∀ pre x rest, ws = pre ++ x :: rest → cur.extract (pre.length * 129) (pre.length * 129 + 129) = (lcells x).toArray := by
  rcases h.owns.2 with ⟨rfl, h0⟩ | ⟨g, cap, cur, rfl, hb, hg, hn, hm, hs, ht⟩
  · exact .inl ⟨rfl, List.eq_nil_of_length_eq_zero h0⟩
  · refine .inr ⟨g, cap, cur, rfl, hg, fun pre x rest hws => ?_⟩
    have hp := flat_part h.ok pre x rest hws
    have hl : pre.length + 1 ≤ ws.length := by rw [hws]; simp
    rw [← ht, List.drop_take, List.take_take] at hp
    rw [Nat.min_eq_left (by have := Nat.mul_le_mul_right 129 hl; omega)] at hp
    rw [← hp]
    apply Array.toList_inj.1
    simp

def encW (x : Nat × LW) : Array Value := #[.int .i64 (x.1 : Int), .agg (lcells x.2).toArray]
def idx (ws : List LW) : List (Nat × LW) := ws.zipIdx.map fun x => (x.2, x.1)

theorem idx_split {ws : List LW} {pre : List (Nat × LW)} {x : Nat × LW} {rest : List (Nat × LW)} (h : idx ws = pre ++ x :: rest) :
    x.1 = pre.length ∧ ws = (ws.take pre.length) ++ x.2 :: ws.drop (pre.length + 1) ∧ pre.length < ws.length := by
  have hl : (idx ws).length = ws.length := by simp [idx]
  have hlt : pre.length < ws.length := by rw [← hl, h]; simp
  have hx : (idx ws)[pre.length]? = some x := by rw [h]; simp
  have hx' : (idx ws)[pre.length]? = some (pre.length, ws[pre.length]) := by simp [idx, hlt]
  rw [hx'] at hx
  have e : (pre.length, ws[pre.length]) = x := by simpa using hx
  subst e
  refine ⟨rfl, ?_, hlt⟩
  simp

theorem size65 : (Try.prog.info? 65).map (·.size) = some 129 := by kernel_rfl

end Go.Proofs.Ytokgnfniaeeloaa
