/-
  Superblocks and steps that came in as slices; a copy of bytes; laws for SuperTorn.
-/
import Derived.Test.YtdgnjpdjohibeaaDoorTa
import Derived.Test.YtdgnjpdjohibeaaDoorYf
import Derived.Deep.AppendSrc
set_option linter.all false
set_option maxRecDepth 100000
namespace Go.Proofs.YtdgnjpdjohibeaaDoor
open Go.ChangeShapes Go.WideShapes Go.ChangeAt Go.RowKit Go.Deep Go.Joins Go.Shelf

theorem infoB5 : (Tryd.prog.info? 5).map (fun i => (i.zero, i.size, i.bytes)) = some (some (.int .u8 0), 1, 1) := by kernel_rfl
theorem op_keepCopy {o : Oper} {a : Act} {w : World} {K : Act → World → Prop} {Q : Exit → Act → World → Prop} (s x : Operand)
    (ho : o.op = .call { callee := .builtin .append, args := #[s, x], argTypes := #[51, 51] }) (g : Nat) (hs : a.eval s = .slice (some ⟨g, 0, none⟩) 0 0) (ka : Option Addr) (kc : Nat) (ks : List Int) (hx : a.eval x = .slice ka ks.length kc) (hK : KeepAt w ka ks) (hn : ks.length ≤ 300)
    (h : ∀ a' c' w', KeepAt w' a' ks → Keeps (fun _ => False) w w' → (∀ b o, a' = some ⟨b, o, none⟩ → b = g ∨ w.heap.size ≤ b) → K (a.put o.dst (.slice a' ks.length c')) w') : o.wp Tryd.prog a w K Q := by
  obtain ⟨i, hi, hz, hsz, hby⟩ := info_parts infoB5
  have hbytes : ∀ (j : Nat) (x : Int), ks[j]? = some x → 0 ≤ x ∧ x ≤ 255 := fun j x hj => by obtain ⟨_, _, _, _, h0, h1⟩ := hK j x hj; exact ⟨h0, h1⟩
  have hsrc : Src Tryd.prog 1 51 (.slice ka ks.length kc) ks.length (ks.map fun z => (.int .u8 z : Value)) w := by
    cases ks with
    | nil =>
      cases ka with
      | none => exact Src.ofNil w Tryd.underlying51 kc
      | some ad => exact Src.ofSlice w Tryd.underlying51 ad 0 kc [] (by simp) (fun j u hj => by simp at hj) (fun u hu => by simp at hu)
    | cons z ks =>
      obtain ⟨b, off, rfl, _⟩ := hK 0 z rfl
      refine Src.ofSlice w Tryd.underlying51 ⟨b, off, none⟩ _ kc _ (by simp) (fun j u hj => ?_) (fun u hu => ?_)
      · rw [List.getElem?_map] at hj
        cases hq : (z :: ks)[j]? with
        | none => rw [hq] at hj; simp at hj
        | some y =>
          rw [hq] at hj
          simp at hj
          subst hj
          obtain ⟨b', off', e, hc, _⟩ := hK j y hq
          simp at e
          obtain ⟨rfl, rfl⟩ := e
          rw [Addr.add_mid]
          exact hc
      · obtain ⟨y, _, rfl⟩ := List.mem_map.1 hu
        rfl
  by_cases h0 : ks.length = 0
  · obtain rfl : ks = [] := List.eq_nil_of_length_eq_zero h0
    have hr := run_append_room_src (P := Tryd.prog) w 51 51 o.type 5 i Tryd.underlying51 hi g 0 0 0 (.slice ka 0 kc) 0 [] (by rw [hsz]; exact hsrc) (by omega) (fun j hj => by simp at hj) (fun j hj => by simp at hj)
    unfold Oper.wp execOp
    simp only [List.length_nil] at hx
    simp only [ho, resolve, invoke, builtin, Sem.run_bind, Sem.run_pure, Result.andThen_ok, List.map_toArray, List.map_cons, List.map_nil, hs, hx, hr]
    exact h (some ⟨g, 0, none⟩) 0 w (fun j x hj => by simp at hj) (Keeps.refl _ _) (fun b o e => .inl (by cases e; rfl))
  · have hr := run_append_grow_src (P := Tryd.prog) w 51 51 o.type 5 i (.int .u8 0) Tryd.underlying51 hi hz (some ⟨g, 0, none⟩) 0 0 [] (by
        have := run_firstCells_some (P := Tryd.prog) w.drew i.size 0 ⟨g, 0, none⟩ 0 0 [] (by simp) (fun j u hj => by simp at hj)
        exact this) (.slice ka ks.length kc) ks.length _ (by rw [hsz]; exact hsrc) (by omega) (by omega) (growslice_fits (by omega) (by rw [hby]; omega))
    unfold Oper.wp execOp
    simp only [ho, resolve, invoke, builtin, Sem.run_bind, Sem.run_pure, Result.andThen_ok, List.map_toArray, List.map_cons, List.map_nil, hs, hx, hr]
    have hk : Keeps (fun _ => False) w (w.drew.alloc (.cells ((([] : List Value) ++ ks.map fun z => (.int .u8 z : Value)).toArray ++ Builtin.zeroCells (Value.int .u8 0).cells (grownCap w (0 + ks.length) 0 5 - (0 + ks.length))) 5)) := ((Keeps.refl _ _).drew).alloc _
    rw [Oper.upon_value, show (0 + ks.length) = ks.length from Nat.zero_add _] at *
    refine h (some ⟨w.heap.size, 0, none⟩) _ _ (fun j x hj => ⟨w.heap.size, 0, rfl, ?_, hbytes j x hj⟩) hk (fun b o e => .inr (by cases e; exact Nat.le_refl _))
    refine (cell_of_row _ w.heap.size _ _ _ _ (heap_alloc2_x w.drew _)).trans ?_
    rw [Nat.zero_add]
    have hj' : j < ks.length := (List.getElem?_eq_some_iff.1 hj).1
    have hjx : ks[j] = x := (List.getElem?_eq_some_iff.1 hj).2
    simp [Array.getElem?_append, hj', hjx]

theorem cells72 : Tryd.prog.cellsOf 72 = 4 := by kernel_rfl
theorem cells51 : Tryd.prog.cellsOf 51 = 1 := by kernel_rfl
/-- A slice of bytes. -/
theorem keep_of_trod {H : Type} {enc : TypeId × Value → H} {W : World} {m : Nat} {cs : List Value} {y : DataW H × List MemPlace} (h : DataW.trod enc Tryd.prog W 0 (fun _ => true) true m 51 cs = some y) :
    ∃ (ka : Option Addr) (ks : List Int) (kc : Nat), cs = [.slice ka ks.length kc] ∧ KeepAt W ka ks := by
  rcases open_ints Tryd.underlying51 Tryd.underlying5 cells5 h with ⟨hcs, _⟩ | ⟨a, len, cap, zs, hcs, _, hl, hm, hz, _, hcell, hwz⟩
  · exact ⟨none, [], 0, hcs, fun j x hx => by simp at hx⟩
  · simp at hz
    refine ⟨some a, zs.take len, cap, by rw [hcs]; simp [hz, hl], fun j x hx => ?_⟩
    rw [List.getElem?_take] at hx
    split at hx
    · have hj : j < zs.length := (List.getElem?_eq_some_iff.1 hx).1
      obtain ⟨b, off, rfl, hc⟩ := ints_at hcell (by omega)
      have e : zs.getD j 0 = x := by rw [List.getD_eq_getElem?_getD, hx]; rfl
      have hxm : x ∈ zs := List.mem_of_getElem? hx
      have hcj := hcell j hj
      rw [Addr.add_mid, e] at hcj
      have hb := byte_bounds (hwz x hxm)
      exact ⟨b, off, rfl, hcj, by omega, by omega⟩
    · cases hx
/-- One step's cells. -/
theorem step_of_trod {H : Type} {enc : TypeId × Value → H} {W : World} {m : Nat} {cs : List Value} {y : DataW H × List MemPlace} (h : DataW.trod enc Tryd.prog W 0 (fun _ => true) true m 72 cs = some y) :
    ∃ x : StepV, cs = [.int .i64 x.kind, .int .i64 x.i, .int .u8 x.v, .slice x.ka x.ks.length x.kc] ∧ KeepAt W x.ka x.ks ∧ (-9223372036854775808 ≤ x.i ∧ x.i ≤ 9223372036854775807) ∧ (0 ≤ x.v ∧ x.v ≤ 255) := by
  obtain ⟨xs, n, _, _, hlen, hxs, hf⟩ := DataW.trod_struct Tryd.underlying72 h
  rw [cells72] at hlen
  obtain ⟨c0, c1, c2, c3, rfl⟩ : ∃ c0 c1 c2 c3, cs = [c0, c1, c2, c3] := by
    match cs, hlen with
    | [a, b, c, d], _ => exact ⟨a, b, c, d, rfl⟩
  obtain ⟨y0, y1, y2, y3, rfl⟩ : ∃ y0 y1 y2 y3, xs = [y0, y1, y2, y3] := by
    match xs, hxs with
    | [a, b, c, d], _ => exact ⟨a, b, c, d, rfl⟩
  have t0 : DataW.trod enc Tryd.prog W 0 (fun _ => true) true n 3 (List.take (Tryd.prog.cellsOf 3) [c0, c1, c2, c3]) = some y0 := hf 0 _ rfl
  have t1 : DataW.trod enc Tryd.prog W 0 (fun _ => true) true n 3 (List.take (Tryd.prog.cellsOf 3) [c1, c2, c3]) = some y1 := hf 1 _ rfl
  have t2 : DataW.trod enc Tryd.prog W 0 (fun _ => true) true n 5 (List.take (Tryd.prog.cellsOf 5) [c2, c3]) = some y2 := hf 2 _ rfl
  have t3 : DataW.trod enc Tryd.prog W 0 (fun _ => true) true n 51 (List.take (Tryd.prog.cellsOf 51) [c3]) = some y3 := hf 3 _ rfl
  rw [cells3] at t0 t1
  rw [cells5] at t2
  rw [cells51] at t3
  obtain ⟨a, e0, _, wa⟩ := DataW.trod_int Tryd.underlying3 t0
  obtain ⟨b, e1, _, wb⟩ := DataW.trod_int Tryd.underlying3 t1
  obtain ⟨c, e2, _, wc⟩ := DataW.trod_int Tryd.underlying5 t2
  obtain ⟨ka, ks, kc, e3, hK⟩ := keep_of_trod t3
  simp at e0 e1 e2 e3
  subst e0 e1 e2 e3
  have hc := byte_bounds wc
  exact ⟨⟨a, b, c, ka, kc, ks⟩, rfl, hK, int_bounds wb, by show 0 ≤ c; omega, by show c ≤ 255; omega⟩
theorem addr_plainS {W : World} {a : Addr} {v : Value} (h : W.cell? ((a.add 0).add 0) = some v) : ∃ b o, a = ⟨b, o, none⟩ := by
  have := World.cell?_spot h
  obtain ⟨b, o, sp⟩ := a
  simp [Addr.add] at this
  subst this
  exact ⟨b, o, rfl⟩
/-- A slice of steps. -/
theorem steps_of_trod {H : Type} {enc : TypeId × Value → H} {W : World} {v : Value} {d : DataW H} {p : List MemPlace} (h : DataW.Trod enc Tryd.prog W 0 (fun _ => true) true 68 v d p) (hv : ∃ a n c, v = .slice a n c) :
    ∃ xs : List StepV, StepsAt W v xs ∧ xs.length ≤ 9223372036854775807 := by
  obtain ⟨a0, n0, c0, rfl⟩ := hv
  obtain ⟨fuel, hf⟩ := h
  rcases open_slice Tryd.underlying68 hf with ⟨hcs, _⟩ | ⟨a, len, cap, m, n, D, Pl, hcs, _, hl, hm, hmm, _, hel⟩
  · simp [Value.cells] at hcs
    obtain ⟨rfl, rfl, rfl⟩ := hcs
    exact ⟨[], ⟨none, 0, rfl, fun j x hj => by simp at hj⟩, by simp⟩
  · simp [Value.cells] at hcs
    obtain ⟨rfl, rfl, rfl⟩ := hcs
    simp at hmm
    rw [cells72] at hel
    have hpl : ∀ i, i < n0 → ∃ b o, a = ⟨b, o, none⟩ := fun i hi => by
      obtain ⟨cs, hc, ht⟩ := hel 0 (by omega)
      obtain ⟨x, rfl, _⟩ := step_of_trod ht
      obtain ⟨_, hlen, hcell⟩ := World.cells?_some hc
      exact addr_plainS (hcell 0 (by omega))
    have hst : ∀ i, i < n0 → ∃ x : StepV, ∃ b o, a = ⟨b, o, none⟩ ∧ StepAt W b (o + i * 4) x := fun i hi => by
      obtain ⟨b, o, rfl⟩ := hpl i hi
      obtain ⟨cs, hc, ht⟩ := hel i (by omega)
      obtain ⟨x, rfl, hK, h1, h2⟩ := step_of_trod ht
      obtain ⟨_, hlen, hcell⟩ := World.cells?_some hc
      simp only [Addr.add_mid] at hcell
      exact ⟨x, b, o, rfl, ⟨hcell 0 (by omega), hcell 1 (by omega), hcell 2 (by omega), hcell 3 (by omega), hK, h1, h2⟩⟩
    obtain ⟨X, hX⟩ := @choose_lt StepV ⟨⟨0, 0, 0, none, 0, []⟩⟩ n0 (p := fun i x => ∃ b o, a = ⟨b, o, none⟩ ∧ StepAt W b (o + i * 4) x) hst
    refine ⟨(List.range n0).map X, ⟨some a, c0, by simp, fun j x hj => ?_⟩, by simp; simp only [maxLen] at hm; omega⟩
    have hjn : j < n0 := by have := (List.getElem?_eq_some_iff.1 hj).1; simpa using this
    simp [hjn] at hj
    subst hj
    obtain ⟨b, o, rfl, hs⟩ := hX j hjn
    exact ⟨b, o, rfl, hs⟩

/-- A superblock in the midst of a block. -/
def SuM (w : World) (b o : Nat) (s : Su) : Prop := ∀ (j : Nat) (v : Value), s.cells[j]? = some v → w.cell? ⟨b, o + j, none⟩ = some v
theorem SuM.keeps {w w' : World} {b o : Nat} {s : Su} (h : SuM w b o s) (hk : Keeps (fun _ => False) w w') : SuM w' b o s := fun j v hv => cell_keeps hk (h j v hv) (fun h => h)
theorem SuM.log {w : World} {b o : Nat} {s : Su} (h : SuM w b o s) (hs : s.Ok) : w.rangeAt b (o + 3) (brow s.log).toList := fun j v hv => by
  rw [Nat.add_assoc]
  refine h (3 + j) v ?_
  have hj : j < 32 := by have := (List.getElem?_eq_some_iff.1 hv).1; simpa [size_brow, hs.log] using this
  simp only [Su.cells, List.getElem?_toArray, show 3 + j = j + 1 + 1 + 1 by omega, List.getElem?_cons_succ]
  rw [List.getElem?_append_left (by simp [size_brow, hs.log]; exact hj)]
  exact hv
theorem SuM.ucell {w : World} {b o : Nat} {s : Su} (h : SuM w b o s) (hs : s.Ok) (j : Nat) (hj : j < 16) : w.cell? ⟨b, o + 35 + j, none⟩ = some (.int .u8 (nb (s.used.getD j 0))) := by
  have hl := hs.used
  rw [Nat.add_assoc]
  refine h (35 + j) _ ?_
  simp only [Su.cells, List.getElem?_toArray, show 35 + j = (32 + j) + 1 + 1 + 1 by omega, List.getElem?_cons_succ]
  rw [List.getElem?_append_right (by simp [size_brow, hs.log])]
  simp only [Array.length_toList, size_brow, hs.log, show 32 + j - 32 = j by omega, Array.getElem?_toList, brow_get, List.getElem?_eq_getElem (show j < s.used.length by omega), getD_lt (show j < s.used.length by omega)]
  rfl
theorem SuM.root {w : World} {b o : Nat} {s : Su} (h : SuM w b o s) : w.cell? ⟨b, o + 2, none⟩ = some (.int .i64 s.root) := h 2 _ rfl
/-- A slice of superblocks. -/
def SupsAt (w : World) (a : Option Addr) (n : Nat) : Prop := ∀ i, i < n → ∃ b o s, a = some ⟨b, o, none⟩ ∧ SuM w b (o + i * 51) s ∧ Su.Ok s
theorem SupsAt.keeps {w w' : World} {a : Option Addr} {n : Nat} (h : SupsAt w a n) (hk : Keeps (fun _ => False) w w') : SupsAt w' a n := fun i hi => by
  obtain ⟨b, o, s, e, hs, ho⟩ := h i hi
  exact ⟨b, o, s, e, hs.keeps hk, ho⟩
theorem supers_of_trod {H : Type} {enc : TypeId × Value → H} {W : World} {v : Value} {d : DataW H} {p : List MemPlace} (h : DataW.Trod enc Tryd.prog W 0 (fun _ => true) true 67 v d p) (hv : ∃ a n c, v = .slice a n c) :
    ∃ a n c, v = .slice a n c ∧ SupsAt W a n ∧ n ≤ 9223372036854775807 := by
  obtain ⟨a0, n0, c0, rfl⟩ := hv
  obtain ⟨fuel, hf⟩ := h
  rcases open_slice Tryd.underlying67 hf with ⟨hcs, _⟩ | ⟨a, len, cap, m, n, D, Pl, hcs, _, hl, hm, hmm, _, hel⟩
  · simp [Value.cells] at hcs
    obtain ⟨rfl, rfl, rfl⟩ := hcs
    exact ⟨none, 0, 0, rfl, (fun i hi => by omega), by omega⟩
  · simp [Value.cells] at hcs
    obtain ⟨rfl, rfl, rfl⟩ := hcs
    simp at hmm
    rw [cells28] at hel
    refine ⟨some a, n0, c0, rfl, fun i hi => ?_, by simp only [maxLen] at hm; omega⟩
    have hpl : ∃ b o, a = ⟨b, o, none⟩ := by
      obtain ⟨cs, hc, ht⟩ := hel 0 (by omega)
      obtain ⟨x, rfl, hx⟩ := super_of_trod ht
      obtain ⟨_, hlen, hcell⟩ := World.cells?_some hc
      exact addr_plainS (hcell 0 (by omega))
    obtain ⟨b, o, rfl⟩ := hpl
    obtain ⟨cs, hc, ht⟩ := hel i (by omega)
    obtain ⟨x, rfl, hx⟩ := super_of_trod ht
    obtain ⟨_, hlen, hcell⟩ := World.cells?_some hc
    refine ⟨b, o, x, rfl, fun j v hv => ?_, hx⟩
    have hj : j < 51 := by have := (Array.getElem?_eq_some_iff.1 hv).1; rwa [hx.size] at this
    have := hcell j hj
    simp only [Addr.add_mid] at this
    rw [this, Array.getElem?_toList]; exact hv
end Go.Proofs.YtdgnjpdjohibeaaDoor
