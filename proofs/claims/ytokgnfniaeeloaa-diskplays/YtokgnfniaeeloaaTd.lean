/-
  The reference's Sync and Crash.
-/
import Derived.Test.YtokgnfniaeeloaaTc
set_option linter.all false
namespace Go.Proofs.Ytokgnfniaeeloaa
open Go.RowKit Go.Shelf

theorem step_store37 {ops : Array Oper} {o : Oper} {a : Act} {w : World} {K : Act → World → Prop} {Q : Exit → Act → World → Prop} {E : Prop} (hgd : o.guard = none) (x y : Operand) (ho : o.op = .store 37 x y)
    (g off : Nat) (hx : a.eval x = .pointer (some ⟨g, off, none⟩)) (new : Array Value) (hy : a.eval y = .agg new) (t : TypeId) (cur : Array Value) (hg : w.heap[g]? = some (.cells cur t (0, 0)))
    (hfit : off + 128 ≤ cur.size) (hs : new.size = 128) (h1 : AllOne new)
    (h : ∀ w', w'.heap[g]? = some (.cells (over cur off new) t (0, 0)) → Keeps (· = g) w w' → K (a.put o.dst undef) w') :
    if Region.wanted o (yielded ops a.tmps) = true then Oper.wp Try.prog o a w K Q else E := by
  have hw : Region.wanted o (yielded ops a.tmps) = true := by simp [Region.wanted, hgd]
  rw [if_pos hw]
  exact op_store37 x y ho g off new hx hy cur t hg hfit hs h1 (h _ (setRow_heap w g _ _ _ _ hg) ((Keeps.refl (· = g) w).setRow (.inl rfl) _))

theorem wp_store37m {d : Option Tmp} {x y : Operand} {tt : TypeId} {ps : String} {af : Array Edge} {a : Act} {w : World} {K : Act → World → Prop} {Q : Exit → Act → World → Prop}
    (h1 : a.eval x = .pointer (some ⟨(addrOf (a.eval x)).block, (addrOf (a.eval x)).off, none⟩)) (h2 : a.eval y = .agg (aggOf (a.eval y))) (h3 : (aggOf (a.eval y)).size = 128) (h4 : AllOne (aggOf (a.eval y))) (h5 : RoomRow w (addrOf (a.eval x)).block ((addrOf (a.eval x)).off + 128)) :
    Oper.wp Try.prog { dst := d, op := .store 37 x y, type := tt, pos := ps, after := af, guard := none } a w K Q =
      K (a.put d undef) (w.setRow (addrOf (a.eval x)).block (over (rowOf w (addrOf (a.eval x)).block) (addrOf (a.eval x)).off (aggOf (a.eval y)))) := by
  obtain ⟨cs, t, hg, hs⟩ := h5
  have hr := run_storeVar_over w (addrOf (a.eval x)).block (addrOf (a.eval x)).off t 37 cs (aggOf (a.eval y)) hg (by rw [h3]; exact size37) (by rw [h3]; exact hs) h4
  rw [← rowOf_of hg] at hr
  unfold Oper.wp execOp
  dsimp only
  rw [h1, h2]
  simp only [Instr.storeAt, Instr.sureAddr, Sem.run_bind, Sem.run_pure, Result.andThen_ok]
  simp only [addrOf, aggOf] at hr ⊢
  rw [hr]
  rfl

theorem there_row {w : World} {g o n : Nat} {cur : Array Value} {t : TypeId} (hg : w.heap[g]? = some (.cells cur t (0, 0))) (hfit : o + n ≤ cur.size) : w.there g o n := fun j hj => by
  refine ⟨?_, frozen_of_row w g _ _ _ hg⟩
  rw [cell_of_row w g _ _ _ _ hg, Array.getElem?_eq_getElem (by omega)]
  rfl

theorem setCells37 {w : World} {g o : Nat} {cur : Array Value} {t : TypeId} {new : List Value} (hg : w.heap[g]? = some (.cells cur t (0, 0))) (hfit : o + 128 ≤ cur.size) (hs : new.length = 128) (h1 : ∀ v ∈ new, v.oneCell' = true) :
    w.setCells g o new = w.setRow g (over cur o new.toArray) := by
  have hA := run_storeVar_over w g o t 37 cur new.toArray hg (by simp only [List.size_toArray, hs]; exact size37) (by simp [hs]; exact hfit) (all_oneCell_toArray h1)
  have hB := run_storeVar_mid (P := Try.prog) w g o 37 new.toArray (by simpa [hs] using there_row hg hfit) (by simp only [List.size_toArray, hs]; exact size37) (all_oneCell_toArray h1)
  rw [hA] at hB
  injection hB with _ h
  simpa using h.symm

theorem idx_take_succ {ws : List LW} {k : Nat} (hk : k < ws.length) : idx (ws.take (k + 1)) = idx (ws.take k) ++ [(k, ws[k])] := by
  rw [List.take_succ_eq_append_getElem hk, idx_snoc, List.length_take, Nat.min_eq_left (by omega)]

theorem keptOf_rest (ks : List Int) (ws : List LW) (k : Nat) (h : ks.length ≤ k) : keptOf ks (idx ws) = keptOf ks (idx (ws.take k)) := by
  suffices H : ∀ (m : Nat), k ≤ m → keptOf ks (idx (ws.take m)) = keptOf ks (idx (ws.take k)) by
    by_cases hl : k ≤ ws.length
    · have := H ws.length hl
      rwa [List.take_length] at this
    · rw [List.take_of_length_le (by omega)]
  intro m hm
  induction m with
  | zero => rw [show k = 0 by omega]
  | succ m ih =>
    by_cases e : k = m + 1
    · rw [e]
    · by_cases hl : m < ws.length
      · rw [idx_take_succ hl, keptOf_snoc, ih (by omega)]
        have hnk : isKept ks m = false := by unfold isKept; rw [List.getElem?_eq_none (by omega)]
        simp [hnk]
      · rw [List.take_of_length_le (by omega), ← ih (by omega), List.take_of_length_le (by omega)]

theorem over_nil (row : Array Value) (o : Nat) (h : o ≤ row.size) : over row o #[] = row := by
  apply Array.ext_getElem?
  intro j
  rw [getElem?_over _ _ _ _ (by simpa using h), if_neg (by simp)]

theorem over_take_succ (row : Array Value) (o : Nat) (b : List Value) (q : Nat) (hq : q < b.length) (h : o + q < row.size) :
    (over row o (b.take q).toArray).setIfInBounds (o + q) b[q] = over row o (b.take (q + 1)).toArray := by
  have s1 : (b.take q).toArray.size = q := by simp; omega
  have s2 : (b.take (q + 1)).toArray.size = q + 1 := by simp; omega
  apply Array.ext_getElem?
  intro j
  rw [Array.getElem?_setIfInBounds, size_over (by omega), getElem?_over _ _ _ _ (by omega), getElem?_over _ _ _ _ (by omega), s1, s2]
  simp only [List.getElem?_toArray, List.getElem?_take]
  by_cases e : o + q = j
  · subst e
    rw [if_pos rfl, if_pos h, if_pos (by omega), if_pos (by omega), show o + q - o = q by omega]
    simp [hq]
  · rw [if_neg e]
    by_cases h1 : o ≤ j ∧ j < o + q
    · rw [if_pos h1, if_pos (by omega), if_pos (by omega), if_pos (by omega)]
    · rw [if_neg h1, if_neg (by omega)]

attribute [local go_sem ↓] Go.wp_at_zero Go.wp_at_succ wp_load37 wp_store37m
attribute [local go_sem] addrOf aggOf cellsAt_drew

set_option maxHeartbeats 400000 in
theorem rsync_down (w : World) (p : Nat) (vb vl : Value) (F : Int) (dn : Bool) (dc : Int) (hD : RefAt w p vb vl F dn dc) (hd : F = 0 ∨ dn = true) :
    Calls Try.prog 20 #[.pointer (some ⟨p, 0, none⟩)] w fun e w' => e = .returned (.int .i64 12) ∧ RefAt w' p vb vl F true dc ∧ Keeps (· = p) w w' := by
  go_enter Try.func20, Try.ntmps20
  go_wp2_with (go_at_call 31; refine (goes_down _ p _ vl F dn dc hD hd).mono ?_; rintro e w1 ⟨rfl, hD1, hK1⟩)
  go_ret
  exact ⟨rfl, hD1, hK1⟩

set_option maxRecDepth 100000 in
set_option maxHeartbeats 1000000 in
theorem rsync_goes (w : World) (p gb n : Nat) (vl : Value) (F dc : Int) (ws : List LW) (bl : Array Value)
    (hD : RefAt w p (.slice (some ⟨gb, 0, none⟩) n n) vl F false dc) (hB : w.heap[gb]? = some (.cells bl 37 (0, 0))) (hbl : bl.size = n * 128)
    (hL : RLoose w vl ws) (hlen : ws.length < 1000000) (hpl : ∀ x ∈ ws, 0 ≤ x.1 ∧ x.1 < (n : Int)) (hpg : p ≠ gb) (hlg : vl.ownBlock ≠ some gb) (hlp : vl.ownBlock ≠ some p)
    (hF : F ≠ 0) (hlo : -9223372036854775808 ≤ F) (hhi : F ≤ 9223372036854775807) (hd0 : 0 ≤ dc) (hd1 : dc < 1000000) :
    Calls Try.prog 20 #[.pointer (some ⟨p, 0, none⟩)] w fun e w' => e = .returned (.int .i64 0) ∧
      RefAt w' p (.slice (some ⟨gb, 0, none⟩) n n) (.slice none 0 0) (burnt F) false (dc + 1) ∧ w'.heap[gb]? = some (.cells (crashRow (-1) bl (idx ws)) 37 (0, 0)) ∧ Keeps (fun k => k = p ∨ k = gb) w w' := by
  obtain ⟨va, vc, rfl⟩ := hL.len
  go_enter Try.func20, Try.ntmps20
  go_wp2_with fail
  refine (goes_goes _ p _ _ F dc hD hF hlo hhi hd0 hd1).mono ?_
  rintro e w1 ⟨rfl, hD1, hK1⟩
  have hB1 : w1.heap[gb]? = some (.cells bl 37 (0, 0)) := (hK1.block gb (Array.getElem?_eq_some_iff.1 hB).1 (fun e => hpg e.symm)).trans hB
  have hL1 := hL.keeps hK1 (fun g e he => hlp (by rw [e, he]))
  have hgl : gb < w1.heap.size := (Array.getElem?_eq_some_iff.1 hB1).1
  clear hL hB hD
  go_wp2
  go_loopw [3] (fun j wr => ∃ (k : Nat), k ≤ ws.length ∧ j = .int .i64 (k : Int) ∧ wr.heap[gb]? = some (.cells (crashRow (-1) bl (idx (ws.take k))) 37 (0, 0)) ∧ Keeps (· = gb) w1 wr) (fun j _ => ws.length - (intOf j).toNat)
  case atStart => exact ⟨0, by omega, rfl, hB1, Keeps.refl _ _⟩
  case round =>
    obtain ⟨k, hk, rfl, gr, hKr⟩ := hrel
    have hDr := hD1.kept hKr hpg
    have c0 := hDr.cells.1
    have c1 := hDr.cells.2.1
    by_cases hlt : k < ws.length
    · obtain ⟨g, cap, cur, he, hg, hcI, hcB, hsz⟩ := (hL1.keeps hKr (fun g e h => hlg (by rw [e, h]))).at k hlt
      cases he
      have hm := List.getElem_mem hlt
      obtain ⟨q0, q1⟩ := hpl _ hm
      have hok := hL1.ok _ hm
      have Hnext := idx_take_succ hlt
      obtain ⟨x, hx⟩ : ∃ x, ws[k] = x := ⟨_, rfl⟩
      rw [hx] at hcI hcB q0 q1 hok Hnext
      obtain ⟨i, hi⟩ := Int.eq_ofNat_of_zero_le q0
      have hsR : (crashRow (-1) bl (idx (ws.take k))).size = n * 128 := size_crashRow (-1) n _ _ hbl (fun y hy => ⟨hL1.ok _ (List.mem_of_mem_take (mem_idx hy)), hpl _ (List.mem_of_mem_take (mem_idx hy))⟩)
      have hiN : i < n := by omega
      have hmul : (i + 1) * 128 ≤ n * 128 := Nat.mul_le_mul_right 128 hiN
      have hfit : i * 128 + 128 ≤ (crashRow (-1) bl (idx (ws.take k))).size := by omega
      have hs2 : x.2.toArray.size = 128 := by simp [hok.1]
      have hone : AllOne x.2.toArray := all_oneCell_toArray hok.2
      have Hrow : Hid (over (crashRow (-1) bl (idx (ws.take k))) (i * 128) x.2.toArray = crashRow (-1) bl (idx (ws.take (k + 1)))) := by
        show over _ _ _ = _
        rw [Hnext, crashRow_snoc]
        have hcut : cutOf (-1) k = 128 := by unfold cutOf; rw [if_neg (by omega)]
        simp [crashStep, hi, hcut, List.take_of_length_le (Nat.le_of_eq hok.1)]
      rw [hi] at hcI
      have hi0 : (0 : Int) ≤ (i : Int) := by omega
      have hi1 : (i : Int) < (n : Int) := by omega
      have hk0 : (0 : Int) ≤ (k : Int) := by omega
      have hkl : (k : Int) < (ws.length : Int) := by omega
      clear Hnext hx hi q0 q1 hpl hmul hsR hm
      go_wp2_with fail
      have hroom : RoomRow wr.drew gb (i * 128 + 128) := ⟨_, _, gr, hfit⟩
      have hrow : rowOf wr.drew gb = crashRow (-1) bl (idx (ws.take k)) := rowOf_of gr
      have hgg : ¬ g = gb := fun e => hlg (by rw [e]; rfl)
      have hthere : wr.drew.there gb (i * 128) 128 := there_row (w := wr.drew) gr hfit
      have hsc : wr.drew.setCells gb (i * 128) x.2 = wr.drew.setRow gb (over (crashRow (-1) bl (idx (ws.take k))) (i * 128) x.2.toArray) := setCells37 (w := wr.drew) gr hfit hok.1 hok.2
      have kS : Keeps (· = gb) wr (wr.drew.setCells gb (i * 128) x.2) := by rw [hsc]; exact ((Keeps.refl (· = gb) wr).drew).setRow (.inl rfl) _
      have rx : wr.rangeAt g (k * 129 + 1) x.2 := by
        have := rangeAt_cellsAt wr g (k * 129 + 1) 128
        rw [hcB] at this
        exact this
      have rxS : (wr.drew.setCells gb (i * 128) x.2).rangeAt g (k * 129 + 1) x.2 := fun j v hv => cell_keeps kS (rx j v hv) hgg
      have hu37 := Try.underlying37
      have hi37 : (Try.prog.info? 37).map (·.size) = some x.2.length := by rw [hok.1]; exact size37
      have hfin : ((wr.drew.setCells gb (i * 128) x.2).heap[gb]? = some (.cells (crashRow (-1) bl (idx (ws.take (k + 1)))) 37 (0, 0))) := by
        rw [← Hrow.out, hsc]
        exact setRow_heap wr.drew gb _ _ _ _ gr
      have Hfin : Hid _ := hfin
      have hone2 := hok.2
      clear hok hcB hfin hsc
      go_region_held3 (fun w' => w'.cell? ⟨p, 0, none⟩ = some (.slice (some ⟨gb, 0, none⟩) n n) ∧ w'.cell? ⟨p, 1, none⟩ = some (.slice (some ⟨g, 0, none⟩) ws.length vc) ∧ w'.cell? ⟨g, k * 129, none⟩ = some (.int .i64 (i : Int)) ∧ w'.rangeAt g (k * 129 + 1) x.2)
        (first | assumption | exact ⟨c0, c1, hcI, rx⟩ | exact ⟨cell_keeps kS c0 hpg, cell_keeps kS c1 hpg, cell_keeps kS hcI hgg, rxS⟩) (fail)
      go_wp2
      exact ⟨⟨k + 1, by omega, by go_num, Hfin.out, hKr.trans kS⟩, by simp [intOf]; omega⟩
    · obtain rfl : k = ws.length := by omega
      rw [List.take_length] at gr
      have f1 := hDr.free 1
      go_wp2
      go_ret
      refine ⟨rfl, hDr.set1 _, ?_, ?_⟩
      · rw [heap_setCell_other _ _ _ _ (fun e => hpg e.symm)]; exact gr
      · exact ((hK1.mono (fun k _ e => .inl e)).trans (hKr.mono (fun k _ e => .inr e))).setCell (p := ⟨p, 1, none⟩) (.inl (.inl rfl)) _

set_option maxRecDepth 100000 in
set_option maxHeartbeats 1000000 in
theorem rcrash_any (w : World) (p gb n : Nat) (vl : Value) (F dc t : Int) (dn : Bool) (ws : List LW) (bl : Array Value) (ka : Option Addr) (kc : Nat) (ks : List Int)
    (hD : RefAt w p (.slice (some ⟨gb, 0, none⟩) n n) vl F dn dc) (hB : w.heap[gb]? = some (.cells bl 37 (0, 0))) (hbl : bl.size = n * 128)
    (hL : RLoose w vl ws) (hlen : ws.length < 1000000) (hpl : ∀ x ∈ ws, 0 ≤ x.1 ∧ x.1 < (n : Int)) (hbyte : ∀ x ∈ ws, ∀ v ∈ x.2, ∃ z, v = .int .u8 z) (hK : KeepAt w ka ks) (hkl : ks.length ≤ 1000000) (hka : ks ≠ [] → ∀ b o, ka = some ⟨b, o, none⟩ → b ≠ gb) (hpg : p ≠ gb) (hlg : vl.ownBlock ≠ some gb) :
    Calls Try.prog 22 #[.pointer (some ⟨p, 0, none⟩), .slice ka ks.length kc, .int .i64 t] w fun e w' => e = .returned (.tuple #[]) ∧
      RefAt w' p (.slice (some ⟨gb, 0, none⟩) n n) (.slice none 0 0) (-1) false dc ∧ w'.heap[gb]? = some (.cells (crashRow t bl (keptOf ks (idx ws))) 37 (0, 0)) ∧ Keeps (fun k => k = p ∨ k = gb) w w' := by
  obtain ⟨va, vc, rfl⟩ := hL.len
  have hgl : gb < w.heap.size := (Array.getElem?_eq_some_iff.1 hB).1
  go_enter Try.func22, Try.ntmps22
  go_wp2
  go_loopw [6] (fun j wr => ∃ (k : Nat), k ≤ ws.length ∧ k ≤ ks.length ∧ j = .int .i64 (k : Int) ∧ wr.heap[gb]? = some (.cells (crashRow t bl (keptOf ks (idx (ws.take k)))) 37 (0, 0)) ∧ Keeps (· = gb) w wr) (fun j _ => ws.length - (intOf j).toNat)
  case atStart => exact ⟨0, by omega, by omega, rfl, hB, Keeps.refl _ _⟩
  case round =>
    obtain ⟨k, hk, hkk, rfl, gr, hKr⟩ := hrel
    have hDr := hD.kept hKr hpg
    have c0 := hDr.cells.1
    have c1 := hDr.cells.2.1
    by_cases hlt : k < ws.length
    · have hk0 : (0 : Int) ≤ (k : Int) := by omega
      have hkl' : (k : Int) < (ws.length : Int) := by omega
      by_cases hks : k < ks.length
      · have hks' : (k : Int) < (ks.length : Int) := by omega
        obtain ⟨kb, ko, rfl, hkcell, hki⟩ := hK k ks[k] (by simp [hks])
        have hkcell' := cell_keeps hKr hkcell (hka (by rintro rfl; simp at hks) _ _ rfl)
        have hisk : isKept ks k = (ks[k] % 2 == 1) := by unfold isKept; rw [List.getElem?_eq_getElem hks]
        obtain ⟨ki, hkie⟩ : ∃ ki, ks[k] = ki := ⟨_, rfl⟩
        rw [hkie] at hkcell' hki hisk
        clear hkie hkcell
        have hnext := idx_take_succ hlt
        obtain ⟨g, cap, cur, he, hg, hcI, hcB, hsz⟩ := (hL.keeps hKr (fun g e h => hlg (by rw [e, h]))).at k hlt
        cases he
        have hm := List.getElem_mem hlt
        obtain ⟨q0, q1⟩ := hpl _ hm
        have hok := hL.ok _ hm
        have hby := hbyte _ hm
        obtain ⟨x, hx⟩ : ∃ x, ws[k] = x := ⟨_, rfl⟩
        rw [hx] at hcI hcB q0 q1 hok hnext hby
        obtain ⟨i, hi⟩ := Int.eq_ofNat_of_zero_le q0
        rw [hi] at hcI
        by_cases hodd : ki % 2 = 0
        · have hkept : isKept ks k = false := by rw [hisk, hodd]; rfl
          have hev : (ki % 2 == 0) = true := by simpa using hodd
          rw [← show keptOf ks (idx (ws.take (k + 1))) = keptOf ks (idx (ws.take k)) by rw [hnext, keptOf_snoc]; simp [hkept]] at gr
          have Hend : Hid (wr.heap[gb]? = some (.cells (crashRow t bl (keptOf ks (idx (ws.take (k + 1))))) 37 (0, 0))) := gr
          clear gr hcI hcB
          go_wp2
          exact ⟨⟨k + 1, by omega, by omega, by go_num, Hend.out, hKr⟩, by simp [intOf]; omega⟩
        · have hkept : isKept ks k = true := by rw [hisk]; simp; omega
          have hev : (ki % 2 == 0) = false := by simpa using hodd
          have hgg : ¬ g = gb := fun e => hlg (by rw [e]; rfl)
          have hiN : i < n := by omega
          have hmul : (i + 1) * 128 ≤ n * 128 := Nat.mul_le_mul_right 128 hiN
          obtain ⟨row, hrow⟩ : ∃ row, crashRow t bl (keptOf ks (idx (ws.take k))) = row := ⟨_, rfl⟩
          have hsR : row.size = n * 128 := by
            rw [← hrow]
            exact size_crashRow t n _ _ hbl (fun y hy => ⟨hL.ok _ (List.mem_of_mem_take (mem_idx (List.mem_filter.1 hy).1)), hpl _ (List.mem_of_mem_take (mem_idx (List.mem_filter.1 hy).1))⟩)
          have Hrow : Hid (over row (i * 128) (x.2.take (cutOf t k)).toArray = crashRow t bl (keptOf ks (idx (ws.take (k + 1))))) := by
            show over _ _ _ = _
            rw [hnext, keptOf_snoc, if_pos hkept, crashRow_snoc, hrow]
            simp [crashStep, hi]
          have rx : wr.rangeAt g (k * 129 + 1) x.2 := by
            have := rangeAt_cellsAt wr g (k * 129 + 1) 128
            rw [hcB] at this
            exact this
          rw [hrow] at gr
          have hi0 : (0 : Int) ≤ (i : Int) := by omega
          have hi1 : (i : Int) < (n : Int) := by omega
          have hx1 := hok.1
          clear hnext hx hi q0 q1 hpl hm hcB hrow hbyte
          by_cases hit : (k : Int) = t
          · have hit' : ((k : Int) == t) = true := by simpa using hit
            have hN : cutOf t k = 64 := by unfold cutOf; rw [if_pos hit]
            rw [hN] at Hrow
            clear hN hit
            obtain ⟨w0, rfl⟩ : ∃ w0, w0 = wr := ⟨_, rfl⟩
            go_wp2
            go_loopw [8] (fun m wq => ∃ (q : Nat), q ≤ 64 ∧ m = .int .i64 (q : Int) ∧ wq.heap[gb]? = some (.cells (over row (i * 128) (x.2.take q).toArray) 37 (0, 0)) ∧ Keeps (· = gb) w0 wq) (fun m _ => 64 - (intOf m).toNat)
            case atStart => exact ⟨0, by omega, rfl, by rw [List.take_zero, over_nil _ _ (by omega)]; exact gr, Keeps.refl _ _⟩
            case round =>
              obtain ⟨q, hq, rfl, gq, hKq⟩ := hrel
              by_cases hqn : q < 64
              · have hqn' : (q : Int) < 64 := by omega
                have hq00 : (0 : Int) ≤ (q : Int) := by omega
                have hq128 : (q : Int) < 128 := by omega
                have hq1 : q < x.2.length := by rw [hok.1]; omega
                have d0 := cell_keeps hKq c0 hpg
                have d1 := cell_keeps hKq c1 hpg
                have dI := cell_keeps hKq hcI hgg
                have dB : wr.cell? ⟨g, k * 129 + 1 + q, none⟩ = some x.2[q] := cell_keeps hKq (rx q x.2[q] (by simp [hq1])) hgg
                obtain ⟨z, hz⟩ : ∃ z, x.2[q] = .int .u8 z := hby _ (List.getElem_mem hq1)
                rw [hz] at dB
                have hsq : (over row (i * 128) (x.2.take q).toArray).size = row.size := size_over (by simp; omega)
                have hcell : wr.drew.cell? ⟨gb, i * 128 + q, none⟩ = some ((over row (i * 128) (x.2.take q).toArray)[i * 128 + q]'(by omega)) := by
                  rw [cell_of_row wr.drew _ _ _ _ _ gq, Array.getElem?_eq_getElem]
                have hfz : wr.drew.frozen? ⟨gb, i * 128 + q, none⟩ = false := frozen_of_row wr.drew _ _ _ _ gq
                have kC : ∀ u, Keeps (· = gb) wr ((wr.setCell ⟨gb, i * 128 + q, none⟩ u).drew) := fun u => ((Keeps.refl (· = gb) wr).setCell (p := ⟨gb, i * 128 + q, none⟩) (.inl rfl) _).drew
                have hnx : (over row (i * 128) (x.2.take q).toArray).setIfInBounds (i * 128 + q) (.int .u8 z) = over row (i * 128) (x.2.take (q + 1)).toArray := by
                  rw [← hz]; exact over_take_succ row (i * 128) x.2 q hq1 (by omega)
                have Hnx : Hid ((wr.setCell ⟨gb, i * 128 + q, none⟩ (.int .u8 z)).heap[gb]? = some (.cells (over row (i * 128) (x.2.take (q + 1)).toArray) 37 (0, 0))) := by
                  have := heap_setCell_same wr gb (i * 128 + q) _ _ (.int .u8 z) gq
                  rw [hnx] at this
                  exact this
                clear hnx hz rx
                go_wp2_with fail
                go_region_held3 (fun w' => w'.cell? ⟨p, 0, none⟩ = some (.slice (some ⟨gb, 0, none⟩) n n) ∧ w'.cell? ⟨p, 1, none⟩ = some (.slice (some ⟨g, 0, none⟩) ws.length vc) ∧ w'.cell? ⟨g, k * 129, none⟩ = some (.int .i64 (i : Int)) ∧ w'.cell? ⟨g, k * 129 + 1 + q, none⟩ = some (.int .u8 z))
                  (first | assumption | exact ⟨d0, d1, dI, dB⟩ | exact ⟨cell_keeps (kC _) d0 hpg, cell_keeps (kC _) d1 hpg, cell_keeps (kC _) dI hgg, cell_keeps (kC _) dB hgg⟩) (fail)
                go_wp2
                exact ⟨⟨q + 1, by omega, by go_num, Hnx.out, hKq.trans (kC _)⟩, by simp [intOf]; omega⟩
              · obtain rfl : q = 64 := by omega
                rw [Hrow.out] at gq
                have Hend : Hid (wr.heap[gb]? = some (.cells (crashRow t bl (keptOf ks (idx (ws.take (k + 1))))) 37 (0, 0)) ∧ Keeps (· = gb) w wr) := ⟨gq, hKr.trans hKq⟩
                clear gq hKq
                go_wp2
                exact ⟨⟨k + 1, by omega, by omega, by go_num, Hend.out⟩, by simp [intOf]; omega⟩
          · have hit' : ((k : Int) == t) = false := by simpa using hit
            have hN : cutOf t k = 128 := by unfold cutOf; rw [if_neg hit]
            rw [hN] at Hrow
            clear hN hit
            obtain ⟨w0, rfl⟩ : ∃ w0, w0 = wr := ⟨_, rfl⟩
            go_wp2
            go_loopw [8] (fun m wq => ∃ (q : Nat), q ≤ 128 ∧ m = .int .i64 (q : Int) ∧ wq.heap[gb]? = some (.cells (over row (i * 128) (x.2.take q).toArray) 37 (0, 0)) ∧ Keeps (· = gb) w0 wq) (fun m _ => 128 - (intOf m).toNat)
            case atStart => exact ⟨0, by omega, rfl, by rw [List.take_zero, over_nil _ _ (by omega)]; exact gr, Keeps.refl _ _⟩
            case round =>
              obtain ⟨q, hq, rfl, gq, hKq⟩ := hrel
              by_cases hqn : q < 128
              · have hqn' : (q : Int) < 128 := by omega
                have hq00 : (0 : Int) ≤ (q : Int) := by omega
                have hq128 : (q : Int) < 128 := by omega
                have hq1 : q < x.2.length := by rw [hok.1]; omega
                have d0 := cell_keeps hKq c0 hpg
                have d1 := cell_keeps hKq c1 hpg
                have dI := cell_keeps hKq hcI hgg
                have dB : wr.cell? ⟨g, k * 129 + 1 + q, none⟩ = some x.2[q] := cell_keeps hKq (rx q x.2[q] (by simp [hq1])) hgg
                obtain ⟨z, hz⟩ : ∃ z, x.2[q] = .int .u8 z := hby _ (List.getElem_mem hq1)
                rw [hz] at dB
                have hsq : (over row (i * 128) (x.2.take q).toArray).size = row.size := size_over (by simp; omega)
                have hcell : wr.drew.cell? ⟨gb, i * 128 + q, none⟩ = some ((over row (i * 128) (x.2.take q).toArray)[i * 128 + q]'(by omega)) := by
                  rw [cell_of_row wr.drew _ _ _ _ _ gq, Array.getElem?_eq_getElem]
                have hfz : wr.drew.frozen? ⟨gb, i * 128 + q, none⟩ = false := frozen_of_row wr.drew _ _ _ _ gq
                have kC : ∀ u, Keeps (· = gb) wr ((wr.setCell ⟨gb, i * 128 + q, none⟩ u).drew) := fun u => ((Keeps.refl (· = gb) wr).setCell (p := ⟨gb, i * 128 + q, none⟩) (.inl rfl) _).drew
                have hnx : (over row (i * 128) (x.2.take q).toArray).setIfInBounds (i * 128 + q) (.int .u8 z) = over row (i * 128) (x.2.take (q + 1)).toArray := by
                  rw [← hz]; exact over_take_succ row (i * 128) x.2 q hq1 (by omega)
                have Hnx : Hid ((wr.setCell ⟨gb, i * 128 + q, none⟩ (.int .u8 z)).heap[gb]? = some (.cells (over row (i * 128) (x.2.take (q + 1)).toArray) 37 (0, 0))) := by
                  have := heap_setCell_same wr gb (i * 128 + q) _ _ (.int .u8 z) gq
                  rw [hnx] at this
                  exact this
                clear hnx hz rx
                go_wp2_with fail
                go_region_held3 (fun w' => w'.cell? ⟨p, 0, none⟩ = some (.slice (some ⟨gb, 0, none⟩) n n) ∧ w'.cell? ⟨p, 1, none⟩ = some (.slice (some ⟨g, 0, none⟩) ws.length vc) ∧ w'.cell? ⟨g, k * 129, none⟩ = some (.int .i64 (i : Int)) ∧ w'.cell? ⟨g, k * 129 + 1 + q, none⟩ = some (.int .u8 z))
                  (first | assumption | exact ⟨d0, d1, dI, dB⟩ | exact ⟨cell_keeps (kC _) d0 hpg, cell_keeps (kC _) d1 hpg, cell_keeps (kC _) dI hgg, cell_keeps (kC _) dB hgg⟩) (fail)
                go_wp2
                exact ⟨⟨q + 1, by omega, by go_num, Hnx.out, hKq.trans (kC _)⟩, by simp [intOf]; omega⟩
              · obtain rfl : q = 128 := by omega
                rw [Hrow.out] at gq
                have Hend : Hid (wr.heap[gb]? = some (.cells (crashRow t bl (keptOf ks (idx (ws.take (k + 1))))) 37 (0, 0)) ∧ Keeps (· = gb) w wr) := ⟨gq, hKr.trans hKq⟩
                clear gq hKq
                go_wp2
                exact ⟨⟨k + 1, by omega, by omega, by go_num, Hend.out⟩, by simp [intOf]; omega⟩
      · obtain rfl : k = ks.length := by omega
        rw [← keptOf_rest ks ws ks.length (Nat.le_refl _)] at gr
        have f1 := hDr.free 1
        have f2 := hDr.free 2
        have f3 := hDr.free 3
        obtain ⟨_, _, c2, c3, _⟩ := hDr.cells
        go_wp2
        go_end0
        refine ⟨rfl, ((hDr.set1 _).set2 _).set3 _, ?_, ?_⟩
        · rw [heap_setCell_other _ _ _ _ (fun e => hpg e.symm), heap_setCell_other _ _ _ _ (fun e => hpg e.symm), heap_setCell_other _ _ _ _ (fun e => hpg e.symm)]; exact gr
        · exact (((hKr.mono (fun k _ e => .inr e)).setCell (p := ⟨p, 1, none⟩) (.inl (.inl rfl)) _).setCell (p := ⟨p, 2, none⟩) (.inl (.inl rfl)) _).setCell (p := ⟨p, 3, none⟩) (.inl (.inl rfl)) _
    · obtain rfl : k = ws.length := by omega
      rw [List.take_length] at gr
      have f1 := hDr.free 1
      have f2 := hDr.free 2
      have f3 := hDr.free 3
      obtain ⟨_, _, c2, c3, _⟩ := hDr.cells
      go_wp2
      go_end0
      refine ⟨rfl, ((hDr.set1 _).set2 _).set3 _, ?_, ?_⟩
      · rw [heap_setCell_other _ _ _ _ (fun e => hpg e.symm), heap_setCell_other _ _ _ _ (fun e => hpg e.symm), heap_setCell_other _ _ _ _ (fun e => hpg e.symm)]; exact gr
      · exact (((hKr.mono (fun k _ e => .inr e)).setCell (p := ⟨p, 1, none⟩) (.inl (.inl rfl)) _).setCell (p := ⟨p, 2, none⟩) (.inl (.inl rfl)) _).setCell (p := ⟨p, 3, none⟩) (.inl (.inl rfl)) _

end Go.Proofs.Ytokgnfniaeeloaa
