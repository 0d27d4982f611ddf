/-
  Steps of SuperPlays: what came in; fair; a row read out of the midst of a block.
-/
import Derived.Test.YtdgnjpdjohibeaaDoorTb
set_option linter.all false
set_option maxRecDepth 100000
namespace Go.Proofs.YtdgnjpdjohibeaaDoor
open Go.ChangeShapes Go.WideShapes Go.ChangeAt Go.RowKit Go.Deep Go.Joins Go.Shelf

theorem run_loadV {w : World} {b of : Nat} {t : TypeId} {cs : Array Value} (hr : w.rangeAt b of cs.toList) (hs : RowTy t cs.size) : (loadVar t ⟨b, of, none⟩).run Tryd.prog w = .ok (.agg cs) w := by
  obtain ⟨u, hu, hr'⟩ := hs.under
  have := run_loadVar_mid (P := Tryd.prog) w b of t cs.toList u hr hu (by cases u <;> first | rfl | cases hr') (by rw [hs.size, Array.length_toList])
  rwa [Array.toArray_toList] at this
theorem wpList_loadV {ops : Array Oper} {rest : List Oper} {o : Oper} {a : Act} {w : World} {Q : Exit → Act → World → Prop} (hw : Region.wanted o (yielded ops a.tmps) = true) (t : TypeId) (x : Operand) (ho : o.op = .load t x) (b of : Nat) (hx : a.eval x = .pointer (some ⟨b, of, none⟩)) (cs : Array Value) (hr : w.rangeAt b of cs.toList) (hs : RowTy t cs.size)
    (h : wpList Tryd.prog ops Q rest (a.put o.dst (.agg cs)) w) : wpList Tryd.prog ops Q (o :: rest) a w := by
  unfold wpList
  rw [if_pos hw]
  left
  unfold Oper.wp execOp
  simp only [ho, hx, Instr.loadAt, Instr.sureAddr, Sem.run_bind, Sem.run_pure, Result.andThen_ok, run_loadV hr hs]
  exact h
theorem quiet_loadV {o : Oper} {a : Act} {C : World → Prop} {K : Act → Prop} (t : TypeId) (x : Operand) (ho : o.op = .load t x) (b of : Nat) (hx : a.eval x = .pointer (some ⟨b, of, none⟩)) (cs : Array Value) (hr : ∀ w, C w → w.rangeAt b of cs.toList) (hs : RowTy t cs.size) (hk : K (a.put o.dst (.agg cs))) : o.quiet Tryd.prog a C K := by
  refine ⟨.agg cs, fun w hw => ?_, hk⟩
  unfold Oper.quietAt execOp
  simp only [ho, hx, Instr.loadAt, Instr.sureAddr, Sem.run_bind, Sem.run_pure, Result.andThen_ok, run_loadV (hr w hw) hs]
  exact ⟨rfl, rfl⟩

/-- A step. -/
structure Stp where
  kind : Int
  i : Int
  s : Su
  b : List B
  ka : Option Addr
  kc : Nat
  ks : List Int
def Stp.cells (x : Stp) : Array Value := (.int .i64 x.kind :: .int .i64 x.i :: (x.s.cells.toList ++ ((brow x.b).toList ++ [.slice x.ka x.ks.length x.kc]))).toArray
structure Stp.Ok (x : Stp) : Prop where
  s : x.s.Ok
  b : x.b.length = 128
  i : -9223372036854775808 ≤ x.i ∧ x.i ≤ 9223372036854775807
theorem Stp.size {x : Stp} (h : x.Ok) : x.cells.size = 182 := by simp [Stp.cells, h.s.size, size_brow, h.b]
theorem rowTy53 : RowTy 53 182 := ⟨⟨_, Tryd.underlying53, rfl⟩, by kernel_rfl⟩
theorem Stp.ty {x : Stp} (h : x.Ok) : RowTy 53 x.cells.size := by rw [Stp.size h]; exact rowTy53
theorem Stp.one {x : Stp} : x.cells.all (·.oneCell') = true := by
  have h1 := x.s.one
  have h2 := brow_one x.b
  rw [Array.all_eq_true_iff_forall_mem] at *
  intro v hv
  simp only [Stp.cells, List.mem_toArray, List.mem_cons, List.mem_append, Array.mem_toList_iff, List.mem_nil_iff, or_false] at hv
  rcases hv with rfl | rfl | hv | hv | rfl
  · rfl
  · rfl
  · exact h1 v hv
  · exact h2 v hv
  · rfl
def st0 : Stp := ⟨0, 0, su0, zb 128, none, 0, []⟩
theorem st0_ok : st0.Ok := ⟨su0_ok, zb_len _, by decide⟩
theorem zero53 (w : World) : (zeroValue 53).run Tryd.prog w = .ok (.agg st0.cells) w := by kernel_rfl

/-- A step in a block of its own: its fields. -/
theorem Stp.f0 {w : World} {g : Nat} {x : Stp} (h : RoAt w g 53 x.cells) : w.cell? ⟨g, 0, none⟩ = some (.int .i64 x.kind) := h.cell 0
theorem Stp.f1 {w : World} {g : Nat} {x : Stp} (h : RoAt w g 53 x.cells) : w.cell? ⟨g, 1, none⟩ = some (.int .i64 x.i) := h.cell 1
theorem Stp.get2 (x : Stp) (j : Nat) : x.cells[2 + j]? = (x.s.cells.toList ++ ((brow x.b).toList ++ [Value.slice x.ka x.ks.length x.kc]))[j]? := by
  simp only [Stp.cells, List.getElem?_toArray, show 2 + j = j + 1 + 1 by omega, List.getElem?_cons_succ]
theorem Stp.f2 {w : World} {g : Nat} {x : Stp} (h : RoAt w g 53 x.cells) (hx : x.Ok) : w.rangeAt g 2 x.s.cells.toList := fun j v hv => by
  have hj : j < x.s.cells.toList.length := (List.getElem?_eq_some_iff.1 hv).1
  rw [h.cell (2 + j), Stp.get2, List.getElem?_append_left hj]
  exact hv
theorem Stp.f3 {w : World} {g : Nat} {x : Stp} (h : RoAt w g 53 x.cells) (hx : x.Ok) : w.rangeAt g 53 (brow x.b).toList := fun j v hv => by
  have hj : j < (brow x.b).toList.length := (List.getElem?_eq_some_iff.1 hv).1
  have hl : x.s.cells.toList.length = 51 := by rw [Array.length_toList, hx.s.size]
  rw [h.cell (53 + j), show 53 + j = 2 + (51 + j) by omega, Stp.get2, List.getElem?_append_right (by omega), show 51 + j - x.s.cells.toList.length = j by omega, List.getElem?_append_left hj]
  exact hv
theorem Stp.f4 {w : World} {g : Nat} {x : Stp} (h : RoAt w g 53 x.cells) (hx : x.Ok) : w.cell? ⟨g, 181, none⟩ = some (.slice x.ka x.ks.length x.kc) := by
  have hl : x.s.cells.toList.length = 51 := by rw [Array.length_toList, hx.s.size]
  have hb : (brow x.b).toList.length = 128 := by rw [Array.length_toList, size_brow, hx.b]
  rw [h.cell 181, show 181 = 2 + 179 from rfl, Stp.get2, List.getElem?_append_right (by omega), List.getElem?_append_right (by omega), show 179 - x.s.cells.toList.length - (brow x.b).toList.length = 0 by omega]
  rfl

/-- A step among what came in. -/
structure StM (w : World) (b o : Nat) (x : Stp) : Prop where
  at_ : w.rangeAt b o x.cells.toList
  keep : KeepAt w x.ka x.ks
  ok : x.Ok
def StsAt (w : World) (a : Option Addr) (n : Nat) (xs : List Stp) : Prop := xs.length = n ∧ ∀ j x, xs[j]? = some x → ∃ b o, a = some ⟨b, o, none⟩ ∧ StM w b (o + j * 182) x
theorem StM.keeps {w w' : World} {b o : Nat} {x : Stp} (h : StM w b o x) (hk : Keeps (fun _ => False) w w') : StM w' b o x :=
  ⟨fun j v hv => cell_keeps hk (h.at_ j v hv) (fun h => h), KeepAt.keeps h.keep hk, h.ok⟩
theorem StsAt.keeps {w w' : World} {a : Option Addr} {n : Nat} {xs : List Stp} (h : StsAt w a n xs) (hk : Keeps (fun _ => False) w w') : StsAt w' a n xs := ⟨h.1, fun j x hx => by
  obtain ⟨b, o, e, hs⟩ := h.2 j x hx
  exact ⟨b, o, e, hs.keeps hk⟩⟩
theorem StM.kc {w : World} {b o : Nat} {x : Stp} (h : StM w b o x) : w.cell? ⟨b, o + 181, none⟩ = some (.slice x.ka x.ks.length x.kc) := by
  have hl : x.s.cells.toList.length = 51 := by rw [Array.length_toList, h.ok.s.size]
  have hb : (brow x.b).toList.length = 128 := by rw [Array.length_toList, size_brow, h.ok.b]
  refine h.at_ 181 _ ?_
  rw [Array.getElem?_toList, show 181 = 2 + 179 from rfl, Stp.get2, List.getElem?_append_right (by omega), List.getElem?_append_right (by omega), show 179 - x.s.cells.toList.length - (brow x.b).toList.length = 0 by omega]
  rfl

theorem cells53 : Tryd.prog.cellsOf 53 = 182 := by kernel_rfl
theorem cells30b : Tryd.prog.cellsOf 30 = 128 := by kernel_rfl
theorem st_of_trod {H : Type} {enc : TypeId × Value → H} {W : World} {m : Nat} {cs : List Value} {y : DataW H × List MemPlace} (h : DataW.trod enc Tryd.prog W 0 (fun _ => true) true m 53 cs = some y) :
    ∃ x : Stp, cs = x.cells.toList ∧ KeepAt W x.ka x.ks ∧ x.Ok := by
  obtain ⟨xs, n, _, _, hlen, hxs, hf⟩ := DataW.trod_struct Tryd.underlying53 h
  rw [cells53] at hlen
  obtain ⟨y0, y1, y2, y3, y4, rfl⟩ : ∃ y0 y1 y2 y3 y4, xs = [y0, y1, y2, y3, y4] := by
    match xs, hxs with
    | [a, b, c, d, e], _ => exact ⟨a, b, c, d, e, rfl⟩
  have t0 : DataW.trod enc Tryd.prog W 0 (fun _ => true) true n 3 (List.take (Tryd.prog.cellsOf 3) (cs.drop 0)) = some y0 := hf 0 _ rfl
  have t1 : DataW.trod enc Tryd.prog W 0 (fun _ => true) true n 3 (List.take (Tryd.prog.cellsOf 3) (cs.drop 1)) = some y1 := hf 1 _ rfl
  have t2 : DataW.trod enc Tryd.prog W 0 (fun _ => true) true n 28 (List.take (Tryd.prog.cellsOf 28) (cs.drop 2)) = some y2 := hf 2 _ rfl
  have t3 : DataW.trod enc Tryd.prog W 0 (fun _ => true) true n 30 (List.take (Tryd.prog.cellsOf 30) (cs.drop 53)) = some y3 := hf 3 _ rfl
  have t4 : DataW.trod enc Tryd.prog W 0 (fun _ => true) true n 51 (List.take (Tryd.prog.cellsOf 51) (cs.drop 181)) = some y4 := hf 4 _ rfl
  rw [cells3] at t0 t1
  rw [cells28] at t2
  rw [cells30b] at t3
  rw [cells51] at t4
  obtain ⟨a, e0, _, wa⟩ := DataW.trod_int Tryd.underlying3 t0
  obtain ⟨b, e1, _, wb⟩ := DataW.trod_int Tryd.underlying3 t1
  obtain ⟨s, e2, hs⟩ := super_of_trod t2
  obtain ⟨L, e3, hL⟩ := row_of_trod Tryd.underlying30 cells30b t3
  obtain ⟨ka, ks, kc, e4, hK⟩ := keep_of_trod t4
  refine ⟨⟨a, b, s, L, ka, kc, ks⟩, ?_, hK, ⟨hs, hL, int_bounds wb⟩⟩
  have f0 := cut_off cs 0 1
  have f1 := cut_off cs 1 1
  have f2 := cut_off cs 2 51
  have f3 := cut_off cs 53 128
  have f4 := cut_off cs 181 1
  rw [e4, show cs.drop (181 + 1) = [] from List.drop_eq_nil_of_le (by omega), List.append_nil] at f4
  rw [e3, f4] at f3
  rw [e2, f3] at f2
  rw [e1, f2] at f1
  rw [e0, f1, List.drop_zero] at f0
  rw [f0]
  simp [Stp.cells, brow]
theorem sts_of_trod {H : Type} {enc : TypeId × Value → H} {W : World} {v : Value} {d : DataW H} {p : List MemPlace} (h : DataW.Trod enc Tryd.prog W 0 (fun _ => true) true 43 v d p) (hv : ∃ a n c, v = .slice a n c) :
    ∃ a n c xs, v = .slice a n c ∧ StsAt W a n xs ∧ n ≤ 9223372036854775807 := by
  obtain ⟨a0, n0, c0, rfl⟩ := hv
  obtain ⟨fuel, hf⟩ := h
  rcases open_slice Tryd.underlying43 hf with ⟨hcs, _⟩ | ⟨a, len, cap, m, n, D, Pl, hcs, _, hl, hm, hmm, _, hel⟩
  · simp [Value.cells] at hcs
    obtain ⟨rfl, rfl, rfl⟩ := hcs
    exact ⟨none, 0, 0, [], rfl, ⟨rfl, fun j x hj => by simp at hj⟩, by omega⟩
  · simp [Value.cells] at hcs
    obtain ⟨rfl, rfl, rfl⟩ := hcs
    simp at hmm
    rw [cells53] at hel
    have hst : ∀ i, i < n0 → ∃ x : Stp, ∃ b o, a = ⟨b, o, none⟩ ∧ StM W b (o + i * 182) x := fun i hi => by
      have hpl : ∃ b o, a = ⟨b, o, none⟩ := by
        obtain ⟨cs, hc, ht⟩ := hel 0 (by omega)
        obtain ⟨x, rfl, _, hx⟩ := st_of_trod ht
        obtain ⟨_, hlen, hcell⟩ := World.cells?_some hc
        exact addr_plainS (hcell 0 (by omega))
      obtain ⟨b, o, rfl⟩ := hpl
      obtain ⟨cs, hc, ht⟩ := hel i (by omega)
      obtain ⟨x, rfl, hK, hx⟩ := st_of_trod ht
      obtain ⟨_, hlen, hcell⟩ := World.cells?_some hc
      refine ⟨x, b, o, rfl, ⟨fun j v hv => ?_, hK, hx⟩⟩
      have hj : j < 182 := by have := (List.getElem?_eq_some_iff.1 hv).1; rwa [Array.length_toList, Stp.size hx] at this
      have := hcell j hj
      simp only [Addr.add_mid] at this
      rw [this]; exact hv
    obtain ⟨X, hX⟩ := @choose_lt Stp ⟨st0⟩ n0 (p := fun i x => ∃ b o, a = ⟨b, o, none⟩ ∧ StM W b (o + i * 182) x) hst
    refine ⟨some a, n0, c0, (List.range n0).map X, rfl, ⟨by simp, fun j x hj => ?_⟩, by simp only [maxLen] at hm; omega⟩
    have hjn : j < n0 := by have := (List.getElem?_eq_some_iff.1 hj).1; simpa using this
    simp [hjn] at hj
    subst hj
    obtain ⟨b, o, rfl, hs⟩ := hX j hjn
    exact ⟨b, o, rfl, hs⟩

/-- May the law ask of these steps? -/
def fair7 (xs : List Stp) : Bool := xs.all (fun x => decide (x.ks.length ≤ 300)) && decide (xs.length ≤ 60)
set_option maxHeartbeats 1000000 in
theorem fair17 (w : World) (a : Option Addr) (n c : Nat) (xs : List Stp) (h : StsAt w a n xs) (hn : n ≤ 9223372036854775807) :
    Calls Tryd.prog 17 #[.slice a n c] w fun e w' => e = .returned (.bool (fair7 xs)) ∧ Keeps (fun _ => False) w w' := by
  have HL : Hid (xs.length = n) := h.1
  obtain ⟨F, hF⟩ : ∃ F, fair7 xs = F := ⟨_, rfl⟩
  have HF : Hid (fair7 xs = F) := hF
  rw [hF]
  clear hF
  go_enter Tryd.func17, Tryd.ntmps17
  go_wp2
  go_loopw [3] (fun t wr => ∃ i : Nat, i ≤ n ∧ t = .int .i64 (i : Int) ∧ (∀ x ∈ xs.take i, x.ks.length ≤ 300) ∧ Keeps (fun _ => False) w wr) (fun t _ => n - (intOf t).toNat)
  case atStart => exact ⟨0, by omega, rfl, by simp, Keeps.refl _ _⟩
  case round =>
    obtain ⟨i, hi, rfl, hall, hk⟩ := hrel
    have Hall : Hid (∀ x ∈ xs.take i, x.ks.length ≤ 300) := hall
    clear hall
    by_cases hlt : i < n
    · have hlt' : (i : Int) < (n : Int) := by omega
      have hi0 : (0 : Int) ≤ (i : Int) := by omega
      have hxi : i < xs.length := by rw [HL.out]; exact hlt
      obtain ⟨x, hx⟩ : ∃ x, xs[i]'hxi = x := ⟨_, rfl⟩
      have HT : Hid (xs.take (i + 1) = xs.take i ++ [x]) := by show _ = _; rw [List.take_succ_eq_append_getElem hxi, hx]
      have HM : Hid (x ∈ xs) := by show _ ∈ _; rw [← hx]; exact List.getElem_mem hxi
      obtain ⟨b, o, rfl, hs⟩ := h.2 i x (by rw [List.getElem?_eq_getElem hxi, hx])
      have hc := (hs.keeps hk).kc
      obtain ⟨m, hm⟩ : ∃ m, x.ks.length = m := ⟨_, rfl⟩
      rw [hm] at hc
      have Hm : Hid (x.ks.length = m) := hm
      obtain ⟨q, hq⟩ : ∃ q, o + i * 182 + 181 = q := ⟨_, rfl⟩
      have hq2 : o + i * 182 + 181 = q := hq
      rw [hq] at hc
      clear hx hm hs
      by_cases hf : m ≤ 300
      · have hf' : (m : Int) ≤ 300 := by omega
        go_wp2
        refine ⟨⟨i + 1, by omega, rfl, ?_, hk⟩, by simp [intOf]; omega⟩
        rw [HT.out]
        intro y hy
        rcases List.mem_append.1 hy with hy | hy
        · exact Hall.out y hy
        · obtain rfl : y = x := by simpa using hy
          rw [Hm.out]; exact hf
      · have hf' : (300 : Int) < (m : Int) := by omega
        go_wp2
        go_ret
        refine ⟨?_, hk⟩
        have : F = false := by
          rw [← HF.out]
          unfold fair7
          rw [Bool.and_eq_false_iff]
          left
          rw [List.all_eq_false]
          exact ⟨x, HM.out, by rw [Hm.out]; simp; omega⟩
        rw [this]; rfl
    · obtain rfl : i = n := by omega
      have hlt' : ¬ (i : Int) < (i : Int) := by omega
      have HA : Hid (F = decide ((i : Int) ≤ 60)) := by
        show _ = _
        rw [← HF.out]
        unfold fair7
        have : xs.all (fun x => decide (x.ks.length ≤ 300)) = true := by
          rw [List.all_eq_true]
          intro x hx
          refine decide_eq_true (Hall.out x ?_)
          rw [List.take_of_length_le (by rw [HL.out]; omega)]
          exact hx
        rw [this, Bool.true_and, HL.out]
        exact decide_eq_decide.2 (by omega)
      go_wp2
      go_ret
      refine ⟨?_, hk⟩
      rw [HA.out]
      rfl
end Go.Proofs.YtdgnjpdjohibeaaDoor
