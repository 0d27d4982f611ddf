/-
  What came in: texts and parts.
-/
import Derived.Test.YtkcnnkakpkdhkaaDoorUh
import Derived.Test.YtkcnnkakpkdhkaaDoorVr
import Derived.SliceStrings
import Derived.ChangeSame
set_option linter.all false
set_option maxRecDepth 100000
namespace Go.Proofs.YtkcnnkakpkdhkaaDoor
open Go.ChangeShapes Go.WideShapes Go.ChangeAt Go.RowKit Go.Deep

theorem cells9 : Tryd.prog.cellsOf 9 = 1 := by kernel_rfl
theorem cells5 : Tryd.prog.cellsOf 5 = 1 := by kernel_rfl
theorem cells41 : Tryd.prog.cellsOf 41 = 2 := by kernel_rfl
theorem cells37 : Tryd.prog.cellsOf 37 = 1 := by kernel_rfl
theorem addr_plain1 {W : World} {a : Addr} {v : Value} (h : W.cell? (a.add 0) = some v) : ∃ b o, a = ⟨b, o, none⟩ := by
  have := World.cell?_spot h
  obtain ⟨b, o, sp⟩ := a
  simp [Addr.add] at this
  subst this
  exact ⟨b, o, rfl⟩
theorem addr_plain2 {W : World} {a : Addr} {v : Value} (h : W.cell? ((a.add 0).add 0) = some v) : ∃ b o, a = ⟨b, o, none⟩ := by
  have := World.cell?_spot h
  obtain ⟨b, o, sp⟩ := a
  simp [Addr.add] at this
  subst this
  exact ⟨b, o, rfl⟩
theorem addr_add {b o i : Nat} : (⟨b, o, none⟩ : Addr).add i = ⟨b, o + i, none⟩ := by
  have := Addr.add_mid b o i
  exact this
theorem choose_lt {α : Type} [Inhabited α] {n : Nat} {p : Nat → α → Prop} (h : ∀ i, i < n → ∃ x, p i x) : ∃ X : Nat → α, ∀ i, i < n → p i (X i) :=
  ⟨fun i => if hi : i < n then Classical.choose (h i hi) else default, fun i hi => by simp only [dif_pos hi]; exact Classical.choose_spec (h i hi)⟩

theorem texts_open {H : Type} {enc : TypeId × Value → H} {W : World} {fuel : Nat} {cs : List Value} {x : DataW H × List MemPlace} (h : DataW.trod enc Tryd.prog W 0 (fun _ => true) true fuel 37 cs = some x) :
    ∃ a n c l, cs = [.slice a n c] ∧ SlT W a n c l ∧ n ≤ 9223372036854775807 ∧ (a = none → c = 0) := by
  rcases open_strings Tryd.underlying37 Tryd.underlying9 cells9 h with ⟨rfl, _⟩ | ⟨a, len, cap, ss, rfl, _, hl, hm, hz, _, hcell, _⟩
  · exact ⟨none, 0, 0, [], rfl, SlT.nil W, by omega, fun _ => rfl⟩
  · simp at hz
    refine ⟨some a, len, cap, (ss.take len).map (·.data.toList), rfl, ⟨by simp [hz]; omega, hl, fun j v hv => ?_⟩, by simp only [maxLen] at hm; omega, fun e => by cases e⟩
    rw [List.getElem?_map, List.getElem?_take] at hv
    split at hv
    · cases hq : ss[j]? with
      | none => rw [hq] at hv; cases hv
      | some s =>
        rw [hq] at hv
        simp at hv
        subst hv
        have hj : j < ss.length := (List.getElem?_eq_some_iff.1 hq).1
        have hc := hcell j hj
        obtain ⟨b, o, rfl⟩ := addr_plain1 (hcell 0 (by omega))
        refine ⟨b, o, rfl, ?_⟩
        rw [addr_add] at hc
        rw [hc, List.getD_eq_getElem?_getD, hq, bs_of]; rfl
    · cases hv
/-- A slice of texts. -/
theorem texts_of_trod {H : Type} {enc : TypeId × Value → H} {W : World} {v : Value} {d : DataW H} {p : List MemPlace} (h : DataW.Trod enc Tryd.prog W 0 (fun _ => true) true 37 v d p) (hv : ∃ a n c, v = .slice a n c) :
    ∃ a n c l, v = .slice a n c ∧ SlT W a n c l ∧ n ≤ 9223372036854775807 := by
  obtain ⟨a0, n0, c0, rfl⟩ := hv
  obtain ⟨fuel, hf⟩ := h
  obtain ⟨a, n, c, l, e, s, hn, _⟩ := texts_open hf
  simp [Value.cells] at e
  obtain ⟨rfl, rfl, rfl⟩ := e
  exact ⟨_, _, _, l, rfl, s, hn⟩
/-- A slice of bytes. -/
theorem u8s_of_trod {H : Type} {enc : TypeId × Value → H} {W : World} {v : Value} {d : DataW H} {p : List MemPlace} (h : DataW.Trod enc Tryd.prog W 0 (fun _ => true) true 43 v d p) (hv : ∃ a n c, v = .slice a n c) :
    ∃ a n c l, v = .slice a n c ∧ SlU W a n c l ∧ n ≤ 9223372036854775807 := by
  obtain ⟨a0, n0, c0, rfl⟩ := hv
  obtain ⟨fuel, hf⟩ := h
  rcases open_ints Tryd.underlying43 Tryd.underlying5 cells5 hf with ⟨hcs, _⟩ | ⟨a, len, cap, zs, hcs, _, hl, hm, hz, _, hcell, hwz⟩
  · simp [Value.cells] at hcs
    obtain ⟨rfl, rfl, rfl⟩ := hcs
    exact ⟨none, 0, 0, [], rfl, SlU.nil W, by omega⟩
  · simp [Value.cells] at hcs
    obtain ⟨rfl, rfl, rfl⟩ := hcs
    simp at hz
    refine ⟨some a, n0, c0, (zs.take n0).map (fun z => UInt8.ofNat z.toNat), rfl, ⟨by simp [hz]; omega, hl, fun j x hx => ?_⟩, by simp only [maxLen] at hm; omega⟩
    rw [List.getElem?_map, List.getElem?_take] at hx
    split at hx
    · cases hq : zs[j]? with
      | none => rw [hq] at hx; cases hx
      | some z =>
        rw [hq] at hx
        simp at hx
        subst hx
        have hj : j < zs.length := (List.getElem?_eq_some_iff.1 hq).1
        obtain ⟨b, off, rfl, hc⟩ := _root_.Go.ints_at hcell (by omega)
        have e : zs.getD j 0 = z := by rw [List.getD_eq_getElem?_getD, hq]; rfl
        have hxm : z ∈ zs := List.mem_of_getElem? hq
        have hcj := hcell j hj
        rw [Addr.add_mid, e] at hcj
        refine ⟨b, off, rfl, ?_⟩
        have hb : 0 ≤ z ∧ z ≤ 255 := by simpa [Lit.wf, IntKind.min, IntKind.max, IntKind.signed, IntKind.bits] using hwz z hxm
        rw [hcj]
        congr 2
        rw [UInt8.toNat_ofNat']
        omega
    · cases hx
/-- A slice of parts. -/
theorem parts_of_trod {H : Type} {enc : TypeId × Value → H} {W : World} {v : Value} {d : DataW H} {p : List MemPlace} (h : DataW.Trod enc Tryd.prog W 0 (fun _ => true) true 22 v d p) (hv : ∃ a n c, v = .slice a n c) :
    ∃ a n c l, v = .slice a n c ∧ SlP W a n c l ∧ n ≤ 9223372036854775807 := by
  obtain ⟨a0, n0, c0, rfl⟩ := hv
  obtain ⟨fuel, hf⟩ := h
  rcases open_slice Tryd.underlying22 hf with ⟨hcs, _⟩ | ⟨a, len, cap, m, n, D, Pl, hcs, _, hl, hm, hmm, _, hel⟩
  · simp [Value.cells] at hcs
    obtain ⟨rfl, rfl, rfl⟩ := hcs
    exact ⟨none, 0, 0, [], rfl, ⟨rfl, Nat.le_refl _, fun j p h => by simp at h⟩, by omega⟩
  · simp [Value.cells] at hcs
    obtain ⟨rfl, rfl, rfl⟩ := hcs
    simp at hmm
    rw [cells41] at hel
    have hpl : 0 < n0 → ∃ b o, a = ⟨b, o, none⟩ := fun hi => by
      obtain ⟨cs, hc, ht⟩ := hel 0 (by omega)
      obtain ⟨y0, y1, f, _, hlen, t0, t1⟩ := trod_struct2 Tryd.underlying41 ht
      rw [cells41] at hlen
      obtain ⟨_, _, hcell⟩ := World.cells?_some hc
      have h0 := hcell 0 (by omega)
      rw [Nat.zero_mul, List.getElem?_eq_getElem (by omega)] at h0
      exact addr_plain2 h0
    have hst : ∀ i, i < n0 → ∃ q : Pt, ∃ b o, a = ⟨b, o, none⟩ ∧ W.cell? ⟨b, o + i * 2, none⟩ = some (.int .i64 q.1) ∧ ∃ a' n' c', W.cell? ⟨b, o + i * 2 + 1, none⟩ = some (.slice a' n' c') ∧ SlT W a' n' c' q.2 ∧ (a' = none → c' = 0) := fun i hi => by
      obtain ⟨cs, hc, ht⟩ := hel i (by omega)
      obtain ⟨y0, y1, f, _, hlen, t0, t1⟩ := trod_struct2 Tryd.underlying41 ht
      rw [cells41] at hlen
      simp only [cells3, cells37] at t0 t1
      obtain ⟨k, e0, _, _⟩ := DataW.trod_int Tryd.underlying3 t0
      obtain ⟨a', n', c', l', e1, s1, _, z1⟩ := texts_open t1
      obtain ⟨_, _, hcell⟩ := World.cells?_some hc
      have h0 := hcell 0 (by omega)
      have h1 := hcell 1 (by omega)
      have g0 : cs[0]? = some (.int .i64 k) := by
        have := congrArg (fun l => l[0]?) e0
        simpa using this
      have g1 : cs[1]? = some (.slice a' n' c') := by
        have := congrArg (fun l => l[0]?) e1
        simpa using this
      rw [g0] at h0
      rw [g1] at h1
      obtain ⟨b, o, rfl⟩ := hpl (by omega)
      rw [addr_add, addr_add] at h0 h1
      exact ⟨(k, l'), b, o, rfl, h0, a', n', c', h1, s1, z1⟩
    obtain ⟨X, hX⟩ := @choose_lt Pt ⟨(0, [])⟩ n0 (p := fun i q => ∃ b o, a = ⟨b, o, none⟩ ∧ W.cell? ⟨b, o + i * 2, none⟩ = some (.int .i64 q.1) ∧ ∃ a' n' c', W.cell? ⟨b, o + i * 2 + 1, none⟩ = some (.slice a' n' c') ∧ SlT W a' n' c' q.2 ∧ (a' = none → c' = 0)) hst
    refine ⟨some a, n0, c0, (List.range n0).map X, rfl, ⟨by simp, hl, fun j q hq => ?_⟩, by simp only [maxLen] at hm; omega⟩
    have hj : j < n0 := by have := (List.getElem?_eq_some_iff.1 hq).1; simpa using this
    rw [List.getElem?_map, List.getElem?_range hj] at hq
    cases hq
    obtain ⟨b, o, rfl, h1, h2⟩ := hX j hj
    exact ⟨b, o, rfl, h1, h2⟩

end Go.Proofs.YtkcnnkakpkdhkaaDoor
