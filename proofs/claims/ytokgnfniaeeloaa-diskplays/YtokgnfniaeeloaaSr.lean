/-
  DiskReads: the walk.
-/
import Derived.Test.YtokgnfniaeeloaaSg
set_option linter.all false
namespace Go.Proofs.Ytokgnfniaeeloaa
open Go.RowKit Go.Shelf
attribute [local go_sem ↓] wp_build37

theorem info58 : (Try.prog.info? 58).map (fun i => (i.zero, i.size)) = some (some (.agg (zeros 7)), 896) := by kernel_rfl
theorem zero58 (w : World) : (zeroValue 58).run Try.prog w = .ok (.agg (zeros 7)) w := (zero_of_info info58).1 w

theorem blk_zeros (n k : Nat) (h : k < n) : blk (zeros n) k = fill 0 := by
  apply Array.ext_getElem?
  intro j
  rw [getElem?_blk]
  by_cases hj : j < 128
  · have : (k + 1) * 128 ≤ n * 128 := Nat.mul_le_mul_right 128 h
    rw [if_pos hj]
    unfold zeros fill
    rw [Array.getElem?_replicate, Array.getElem?_replicate, if_pos (by omega), if_pos hj]
  · rw [if_neg hj]; simp [fill]; omega

/-- Every byte of the state is a byte. -/
def AllByte (A : Array Value) : Prop := ∀ (j : Nat) (v : Value), A[j]? = some v → ∃ z, v = .int .u8 z

theorem bytes_blk {A : Array Value} {k : Nat} (h : AllByte A) (hs : k * 128 + 128 ≤ A.size) : Bytes (blk A k) := by
  refine ⟨by unfold blk; simp; omega, fun i hi => ?_⟩
  rw [getElem?_blk, if_pos hi]
  have hlt : k * 128 + i < A.size := by omega
  obtain ⟨z, hz⟩ := h _ _ (Array.getElem?_eq_getElem hlt)
  exact ⟨z, by rw [Array.getElem?_eq_getElem hlt, hz]⟩

theorem allByte_over {row cs : Array Value} {o : Nat} (h : AllByte row) (h' : AllByte cs) (hf : o + cs.size ≤ row.size) : AllByte (over row o cs) := fun j v hv => by
  rw [getElem?_over _ _ _ _ hf] at hv
  split at hv
  · exact h' _ _ hv
  · exact h _ _ hv

theorem allByte_fill (v : Int) : AllByte (fill v) := fun j u hu => by
  unfold fill at hu
  rw [Array.getElem?_replicate] at hu
  split at hu
  · cases hu; exact ⟨v, rfl⟩
  · cases hu

theorem allByte_zeros (n : Nat) : AllByte (zeros n) := fun j u hu => by
  unfold zeros at hu
  rw [Array.getElem?_replicate] at hu
  split at hu
  · cases hu; exact ⟨0, rfl⟩
  · cases hu

theorem op_load37 {op : Oper} {a : Act} {w : World} {K : Act → World → Prop} {Q : Exit → Act → World → Prop} (x : Operand) (ho : op.op = .load 37 x)
    (g o : Nat) (hx : a.eval x = .pointer (some ⟨g, o, none⟩)) (cs : Array Value) (hc : cellsAt w g o 128 = cs) (hn : cs.size = 128)
    (h : K (a.put op.dst (.agg cs)) w) : op.wp Try.prog a w K Q := by
  have hr := run_loadVar_mid (P := Try.prog) w g o 37 cs.toList _ (by rw [← hc]; exact rangeAt_cellsAt w g o 128) Try.underlying37 rfl (by rw [size37, Array.length_toList, hn])
  rw [Array.toArray_toList] at hr
  unfold Oper.wp execOp
  simp only [ho, hx, Instr.loadAt, Instr.sureAddr, Sem.run_bind, Sem.run_pure, Result.andThen_ok, hr]
  exact h

theorem wp_build37g {d : Option Tmp} {tt : TypeId} {ps : String} {af : Array Edge} {gd : Option (Nat × Bool)} {a : Act} {w : World} {K : Act → World → Prop} {Q : Exit → Act → World → Prop} :
    Oper.wp Try.prog { dst := d, op := .build 37 #[], type := tt, pos := ps, after := af, guard := gd } a w K Q = K (a.put d (.agg (fill 0))) w := by
  have := @wp_build37 d tt ps af a w K Q
  exact this

theorem wp_load37g {d : Option Tmp} {x : Operand} {tt : TypeId} {ps : String} {af : Array Edge} {gd : Option (Nat × Bool)} {a : Act} {w : World} {K : Act → World → Prop} {Q : Exit → Act → World → Prop}
    (h1 : a.eval x = .pointer (some ⟨(addrOf (a.eval x)).block, (addrOf (a.eval x)).off, none⟩)) (h2 : (cellsAt w (addrOf (a.eval x)).block (addrOf (a.eval x)).off 128).size = 128) :
    Oper.wp Try.prog { dst := d, op := .load 37 x, type := tt, pos := ps, after := af, guard := gd } a w K Q =
      K (a.put d (.agg (cellsAt w (addrOf (a.eval x)).block (addrOf (a.eval x)).off 128))) w := by
  have := @wp_load37 d x tt ps af a w K Q h1 h2
  exact this

structure Stop (P : Prop) : Prop where out : P

theorem Lies.keptC {B : Nat} {C : Nat → Prop} {w w' : World} {p gb : Nat} {s : DS} (h : Lies B C w p gb s) (hk : Keeps C w w') : Lies B C w' p gb s := by
  obtain ⟨vl, hD, hB, hL, h1, h2, h3, h4, h5, h6, h7⟩ := h
  exact ⟨vl, hD.kept hk (fun h => (h7 _ h).1 rfl), (hk.block gb (Array.getElem?_eq_some_iff.1 hB).1 (fun h => (h7 _ h).2.1 rfl)).trans hB, ownsRow_keeps hL hk (fun g e h => (h7 _ h).2.2 e), h1, h2, h3, h4, h5, h6, h7⟩

theorem sync_n (s : DS) : s.sync.2.n = s.n := by unfold DS.sync; split <;> rfl
theorem write_n (s : DS) (i : Int) (b : List Value) : (s.write i b).2.n = s.n := by 
  unfold DS.write
  split
  · rfl
  · split <;> rfl

attribute [local go_sem ↓] wp_build37g Go.wp_at_zero Go.wp_at_succ wp_load37g
attribute [local go_sem] addrOf cellsAt_drew

set_option maxRecDepth 100000 in
set_option maxHeartbeats 4000000 in
theorem reads_any (w : World) (v : Value) (xs : List StepV) (h : StepsAt w v xs) (hlen : xs.length ≤ 9223372036854775807) :
    Calls Try.prog 7 #[v] w fun e w' => e = .returned (.bool true) ∧ Keeps (fun _ => False) w w' := by
  obtain ⟨sa, scap, rfl, hx0⟩ := id h
  have hz58 := zero58
  go_enter Try.func7, Try.ntmps7
  go_wp2_with fail
  refine (new_ds 16 w (by omega) (by omega) none' (fun _ h => h.elim)).mono ?_
  rintro e w1 ⟨rfl, hL, hs1, hK⟩
  clear hs1
  go_wp2_with fail
  refine (fair_any w1 _ xs (h.keeps hK) hlen).mono ?_
  rintro e w' ⟨rfl, rfl⟩
  cases hf : fairB xs with
  | false =>
    go_wp2_with (go_at_call 11; refine (wakes_any _).mono ?_; rintro e w3 ⟨rfl, k3⟩)
    go_ret
    exact ⟨rfl, hK.trans k3⟩
  | true =>
    obtain ⟨hl200, hk300⟩ := fairB_spec hf
    have H0 : Hid (StepsAt w (.slice sa xs.length scap) xs) := h
    clear hf h hx0 hk300
    go_wp2
    obtain ⟨c, hc⟩ : ∃ c, w'.heap.size = c := ⟨_, rfl⟩
    obtain ⟨W2, hW2⟩ : ∃ W2, w'.alloc (.cells (zeros 7) 58) = W2 := ⟨_, rfl⟩
    rw [hW2, hc]
    have kW2 : Keeps (fun _ => False) w' W2 := by rw [← hW2]; exact (Keeps.refl _ _).alloc _
    have gW2 : W2.heap[c]? = some (.cells (zeros 7) 58 (0, 0)) := by rw [← hW2, ← hc]; exact heap_alloc2_x w' _
    have hLc := (hL.more (C' := (· = c)) (fun k e => .inr (by omega))).kept kW2
    have hKc := hK.trans kW2
    have hwc : w.heap.size ≤ c := by rw [← hc]; exact hK.size
    clear hc hW2 kW2 hL hK hz58
    go_loopw [6] (fun i wr => ∃ (k : Nat) (s : DS) (Wt : Array Value), k ≤ xs.length ∧ i = .int .i64 (k : Int) ∧ Lies w.heap.size (· = c) wr (w.heap.size + 1) w.heap.size s ∧ s.Ok ∧ s.n = 16 ∧ 0 ≤ s.dc ∧ s.dc ≤ (k : Int) ∧ s.ws.length ≤ k ∧ wr.heap[c]? = some (.cells Wt 58 (0, 0)) ∧ Wt.size = 896 ∧ AllByte Wt ∧ (∀ i, i < 7 → blk Wt i = s.block i) ∧ Keeps (fun _ => False) w wr) (fun i _ => xs.length - (intOf i).toNat)
    case atStart => exact ⟨0, DS.new 16, zeros 7, Nat.zero_le _, rfl, hLc, DS.Ok.new 16, rfl, by simp [DS.new], by simp [DS.new], by simp [DS.new], gW2, by simp [zeros], allByte_zeros 7, fun i hi => by rw [blk_zeros 7 i hi]; exact (blk_zeros 16 i (by omega)).symm, hKc⟩
    case round =>
      obtain ⟨k, s, Wt, hk, rfl, hLr, hok, hn, hd0, hd1, hw1, gr, hsz, hby, hblk, hKr⟩ := hrel
      clear hLc hKc gW2
      by_cases hlt : k < xs.length
      · obtain ⟨sa', scap', e0, hx0⟩ := H0.out.keeps hKr
        cases e0
        obtain ⟨b, o, rfl, hs⟩ := hx0 k xs[k] (by simp [hlt])
        obtain ⟨x, hxk⟩ : ∃ x, xs[k] = x := ⟨_, rfl⟩
        rw [hxk] at hs
        have hlt' : (k : Int) < (xs.length : Int) := by omega
        have hk0 : (0 : Int) ≤ (k : Int) := by omega
        have hkl : k < 200 := by omega
        have hbw0 : b < w.heap.size := by
          obtain ⟨_, _, e1, hy0⟩ := H0.out
          cases e1
          obtain ⟨b2, o2, e2, hs2⟩ := hy0 k xs[k] (by simp [hlt])
          cases e2
          exact World.block_lt_of_cell? w _ hs2.c0
        obtain ⟨c0, c1, c2, c3, ckeep, chi, chv⟩ := hs
        have hnb : ¬ w.heap.size ≤ b := by omega
        clear hx0 hxk c3 ckeep
        obtain ⟨j, hj⟩ := Int.eq_ofNat_of_zero_le (show 0 ≤ x.i % 7 by omega)
        have hj7 : j < 7 := by omega
        have hz := zero37
        have hs0 : (Try.prog.info? 37).map (·.size) = some (fill 0).size := by rw [size_fill]; exact size37
        have ho0 := fill_one 0
        have hmod := mod_any wr x.i 7 (by omega) (by omega) chi.1 chi.2
        rw [hj] at hmod
        clear hj
        go_wp2_with fail
        refine hmod.mono ?_
        rintro e w2 ⟨rfl, rfl⟩
        clear hmod c1
        have hkind : x.kind = 0 ∨ x.kind = 2 ∨ x.kind = 4 ∨ ((x.kind == 0) = false ∧ (x.kind == 2) = false ∧ (x.kind == 4) = false) := by
          simp only [beq_eq_false_iff_ne]; omega
        rcases hkind with hkd | hkd | hkd | ⟨q0, q2, q4⟩
        · rw [hkd] at c0
          obtain ⟨cd, s', hws, hcs⟩ := write_cases s (j : Int) (fill x.v).toList
          have hok' := hok.write (j : Int) (fill x.v).toList (ok_fill x.v)
          have hn' : s'.n = 16 := by rw [← hn, ← write_n s (j : Int) (fill x.v).toList, hws]
          have hblk' : ∀ i, i < 7 → s'.block i = if cd = 0 ∧ j = i then fill x.v else s.block i := fun i hi => by
            have := write_block s j (by omega) (fill x.v).toList i
            rw [hws] at this
            exact this
          rw [hws] at hok'
          have Hws : Hid (s.write (j : Int) (fill x.v).toList = (cd, s')) := hws
          have Hblk0 : Hid (∀ i, i < 7 → blk Wt i = s.block i) := hblk
          have Hblk1 : Hid (∀ i, i < 7 → s'.block i = if cd = 0 ∧ j = i then fill x.v else s.block i) := hblk'
          have hwsz := hKr.size
          have hcw : c < w2.heap.size := (Array.getElem?_eq_some_iff.1 gr).1
          have hj0 : (0 : Int) ≤ (j : Int) := by omega
          have hj7' : (j : Int) < 7 := by omega
          clear hws hblk hblk'
          go_wp2_with fail
          refine (fill_any _ _).mono ?_
          rintro e w5 ⟨rfl, hkf⟩
          have hcw5 : c < w5.heap.size := by have := hkf.size; omega
          have g5 : w5.heap[c]? = some (.cells Wt 58 (0, 0)) := (hkf.block c hcw (fun h => h)).trans gr
          go_wp2_with fail
          refine (write_fill (hLr.kept hkf) hok (fun k e => by rw [e]; exact hcw5) (by omega) ⟨hd0, by omega⟩ (by omega) _ _).mono ?_
          rw [Hws.out]
          rintro e w6 ⟨rfl, hL6, hK6⟩
          have c2' := cell_keeps hK6 (cell_keeps hkf c2 (fun h => h)) (fun h => hnb h.1)
          have g6 : w6.heap[c]? = some (.cells Wt 58 (0, 0)) := (hK6.block c hcw5 (fun h => h.2 rfl)).trans g5
          have hK56 : Keeps (fun _ => False) w w6 := (hKr.trans hkf).trans' hK6 (fun k e => .inr e.1)
          clear hLr c0 c2 hK6 hkf g5 gr hKr
          rcases hcs with ⟨rfl, hdc, hl'⟩ | ⟨hc0, hdc, hl'⟩
          · have hfo : AllOne (fill x.v) := fill_one x.v
            have hfs := size_fill x.v
            have hfit : j * 128 + 128 ≤ Wt.size := by omega
            go_wp2_with fail
            refine (fill_any _ _).mono ?_
            rintro e w7 ⟨rfl, hk7⟩
            have g7 : w7.heap[c]? = some (.cells Wt 58 (0, 0)) := (hk7.block c (Array.getElem?_eq_some_iff.1 g6).1 (fun h => h)).trans g6
            have hL7 := hL6.kept hk7
            have hK7 := hK56.trans hk7
            clear hL6 g6 hK56 hk7 c2'
            go_wp2_with (refine wpList_store_blk rfl _ _ rfl c (j * 128) (by first | rfl | (simp [Act.eval]; done) | go_num) (fill x.v) rfl 58 Wt g7 hfit hfs hfo ?_; intro w6 gr' k6; refine Stop.out ?_)
            refine Stop.mk ?_
            obtain ⟨Wt', hWt'⟩ : ∃ Wt', over Wt (j * 128) (fill x.v) = Wt' := ⟨_, rfl⟩
            have hL6 : Lies w.heap.size (· = c) w6 (w.heap.size + 1) w.heap.size s' := hL7.keptC k6
            have hKf : Keeps (fun _ => False) w w6 := hK7.trans' k6 (fun k e => .inr (by omega))
            have hws' : s'.ws.length < 1000000 := by omega
            have hdl : 0 ≤ s'.dc ∧ s'.dc ≤ (k : Int) + 1 ∧ s'.ws.length ≤ k + 1 := by omega
            have hblk : ∀ i, i < 7 → blk Wt' i = s'.block i := fun i hi => by
              rw [Hblk1.out i hi, ← hWt']
              by_cases e : j = i
              · rw [if_pos (by first | exact ⟨trivial, e⟩ | exact ⟨rfl, e⟩ | exact e), ← e]; exact blk_over_same (by omega) hfs
              · rw [if_neg (by first | exact fun h => e h.2 | exact e), blk_over_other (by omega) (by omega) (by omega)]; exact Hblk0.out i hi
            have hby' : AllByte Wt' := by rw [← hWt']; exact allByte_over hby (allByte_fill x.v) (by omega)
            have hsz' : Wt'.size = 896 := by rw [← hWt', size_over (by omega)]; exact hsz
            rw [hWt'] at gr'
            clear hby hsz hWt' Hblk0 Hblk1 Hws hL7 hK7 g7 k6 hfo hfs hfit
            have hby := hby'
            have hsz := hsz'
            clear hby' hsz'
            have hrow := read_row hok' (j : Int)
            have hrd := fun w0 (hk0 : Keeps (fun _ => False) w6 w0) => read_ds (hL6.kept hk0) hok' hws' (j : Int)
            have hin : ¬ ((j : Int) < 0 ∨ (s'.n : Int) ≤ (j : Int)) := by rw [hn']; omega
            cases hdn : s'.dn with
            | true =>
              have hr : s'.read (j : Int) = (fill 0, 12) := by unfold DS.read; rw [if_neg hin, if_pos hdn]
              rw [hr] at hrd
              have hrd0 := hrd _ (Keeps.refl _ _)
              clear hrd hrow hr hin
              go_wp2_with (first | (go_at_call 17; refine hrd0.mono ?_; rintro e w7 ⟨rfl, k7⟩) | (refine wpList_store_row rfl 37 _ _ rfl w7.heap.size rfl (fill 0) rfl 37 (fill 0) (heap_alloc2_x w7 _) hs0 rfl ho0 ?_; intro w8 n8 k8'; have k8 : Keeps (fun _ => False) w6 w8 := k7.trans (((Keeps.refl _ _).alloc _).trans' k8' (fun k e => .inr (by omega)))) | (go_at_call 26; refine (down_ds (hL6.kept k8)).mono ?_; rw [hdn]; rintro e w9 ⟨rfl, rfl⟩))
              have hce8 : cellsAt w9 w7.heap.size 0 128 = fill 0 := by rw [cellsAt, rowOf_of n8]; simp [← size_fill 0]
              have heq := eq_bytes (bytes_fill 0)
              have hsf := size_fill 0
              refine op_load37 _ rfl w7.heap.size 0 rfl (fill 0) hce8 hsf ?_
              go_wp2_with (go_at_call 11; refine (wakes_any _).mono ?_; rintro e w10 ⟨rfl, k10⟩)
              go_ret
              exact ⟨rfl, (hKf.trans k8).trans k10⟩
            | false =>
              obtain ⟨A, hA⟩ : ∃ A, s'.block j = A := ⟨_, rfl⟩
              have hr : s'.read (j : Int) = (A, 0) := by unfold DS.read; rw [if_neg hin, if_neg (by rw [hdn]; simp), Int.toNat_natCast, hA]
              rw [hr] at hrd hrow
              have hrd0 := hrd _ (Keeps.refl _ _)
              have hAb : Bytes A := by rw [← hA, ← hblk j hj7]; exact bytes_blk hby (by omega)
              have hbj := hblk j hj7
              rw [hA] at hbj
              have hs1 : (Try.prog.info? 37).map (·.size) = some A.size := by rw [hAb.1]; exact size37
              have hz1 : (fill 0).size = A.size := by rw [hAb.1]; exact size_fill 0
              have ho1 := hrow.2
              clear hrd hrow hr hin hA
              go_wp2_with (first | (go_at_call 17; refine hrd0.mono ?_; rintro e w7 ⟨rfl, k7⟩) | (refine wpList_store_row rfl 37 _ _ rfl w7.heap.size rfl A rfl 37 (fill 0) (heap_alloc2_x w7 _) hs1 hz1 ho1 ?_; intro w8 n8 k8'; have k8 : Keeps (fun _ => False) w6 w8 := k7.trans (((Keeps.refl _ _).alloc _).trans' k8' (fun k e => .inr (by omega)))) | (go_at_call 26; refine (down_ds (hL6.kept k8)).mono ?_; rw [hdn]; rintro e w9 ⟨rfl, rfl⟩))
              have g9 : w9.heap[c]? = some (.cells Wt' 58 (0, 0)) := (k8.block c (Array.getElem?_eq_some_iff.1 gr').1 (fun h => h)).trans gr'
              have hc1 : cellsAt w9 w7.heap.size 0 128 = A := by rw [cellsAt, rowOf_of n8]; simp [← hAb.1]
              have hc2 : cellsAt w9 c (j * 128) 128 = A := by rw [cellsAt, rowOf_of g9]; exact hbj
              have hsA := hAb.1
              have heq := eq_bytes hAb
              have hj0 : (0 : Int) ≤ (j : Int) := by omega
              have hj7' : (j : Int) < 7 := by omega
              have Hblk : Hid (∀ i, i < 7 → blk Wt' i = s'.block i) := hblk
              clear hblk hbj n8 hs1 hz1 ho1 hz hs0 ho0
              go_region_law (fail)
              all_goals go_wp2
              all_goals exact ⟨⟨k + 1, s', Wt', by omega, by go_num, (hL6.kept k8).kept ((Keeps.refl _ _).drew), hok', hn', by omega, by omega, by omega, g9, hsz, hby, Hblk.out, (hKf.trans k8).drew⟩, by simp [intOf]; omega⟩
          · obtain ⟨Wt', hWt'⟩ : ∃ Wt', Wt' = Wt := ⟨_, rfl⟩
            rw [← hWt'] at g6 hsz hby Hblk0
            have gr' := g6
            have hL6' := hL6
            clear hL6
            have hL6 := hL6'
            have hKf := hK56
            have hws' : s'.ws.length < 1000000 := by omega
            have hdl : 0 ≤ s'.dc ∧ s'.dc ≤ (k : Int) + 1 ∧ s'.ws.length ≤ k + 1 := by omega
            have hblk : ∀ i, i < 7 → blk Wt' i = s'.block i := fun i hi => by rw [Hblk0.out i hi, Hblk1.out i hi, if_neg (fun e => by rw [e.1] at hc0; cases hc0)]
            clear hWt' g6 hK56 hL6' c2' Hblk0 Hblk1 Hws
            have hccd := hc0
            have hrow := read_row hok' (j : Int)
            have hrd := fun w0 (hk0 : Keeps (fun _ => False) w6 w0) => read_ds (hL6.kept hk0) hok' hws' (j : Int)
            have hin : ¬ ((j : Int) < 0 ∨ (s'.n : Int) ≤ (j : Int)) := by rw [hn']; omega
            cases hdn : s'.dn with
            | true =>
              have hr : s'.read (j : Int) = (fill 0, 12) := by unfold DS.read; rw [if_neg hin, if_pos hdn]
              rw [hr] at hrd
              have hrd0 := hrd _ (Keeps.refl _ _)
              clear hrd hrow hr hin
              go_wp2_with (first | (go_at_call 17; refine hrd0.mono ?_; rintro e w7 ⟨rfl, k7⟩) | (refine wpList_store_row rfl 37 _ _ rfl w7.heap.size rfl (fill 0) rfl 37 (fill 0) (heap_alloc2_x w7 _) hs0 rfl ho0 ?_; intro w8 n8 k8'; have k8 : Keeps (fun _ => False) w6 w8 := k7.trans (((Keeps.refl _ _).alloc _).trans' k8' (fun k e => .inr (by omega)))) | (go_at_call 26; refine (down_ds (hL6.kept k8)).mono ?_; rw [hdn]; rintro e w9 ⟨rfl, rfl⟩))
              have hce8 : cellsAt w9 w7.heap.size 0 128 = fill 0 := by rw [cellsAt, rowOf_of n8]; simp [← size_fill 0]
              have heq := eq_bytes (bytes_fill 0)
              have hsf := size_fill 0
              refine op_load37 _ rfl w7.heap.size 0 rfl (fill 0) hce8 hsf ?_
              go_wp2_with (go_at_call 11; refine (wakes_any _).mono ?_; rintro e w10 ⟨rfl, k10⟩)
              go_ret
              exact ⟨rfl, (hKf.trans k8).trans k10⟩
            | false =>
              obtain ⟨A, hA⟩ : ∃ A, s'.block j = A := ⟨_, rfl⟩
              have hr : s'.read (j : Int) = (A, 0) := by unfold DS.read; rw [if_neg hin, if_neg (by rw [hdn]; simp), Int.toNat_natCast, hA]
              rw [hr] at hrd hrow
              have hrd0 := hrd _ (Keeps.refl _ _)
              have hAb : Bytes A := by rw [← hA, ← hblk j hj7]; exact bytes_blk hby (by omega)
              have hbj := hblk j hj7
              rw [hA] at hbj
              have hs1 : (Try.prog.info? 37).map (·.size) = some A.size := by rw [hAb.1]; exact size37
              have hz1 : (fill 0).size = A.size := by rw [hAb.1]; exact size_fill 0
              have ho1 := hrow.2
              clear hrd hrow hr hin hA
              go_wp2_with (first | (go_at_call 17; refine hrd0.mono ?_; rintro e w7 ⟨rfl, k7⟩) | (refine wpList_store_row rfl 37 _ _ rfl w7.heap.size rfl A rfl 37 (fill 0) (heap_alloc2_x w7 _) hs1 hz1 ho1 ?_; intro w8 n8 k8'; have k8 : Keeps (fun _ => False) w6 w8 := k7.trans (((Keeps.refl _ _).alloc _).trans' k8' (fun k e => .inr (by omega)))) | (go_at_call 26; refine (down_ds (hL6.kept k8)).mono ?_; rw [hdn]; rintro e w9 ⟨rfl, rfl⟩))
              have g9 : w9.heap[c]? = some (.cells Wt' 58 (0, 0)) := (k8.block c (Array.getElem?_eq_some_iff.1 gr').1 (fun h => h)).trans gr'
              have hc1 : cellsAt w9 w7.heap.size 0 128 = A := by rw [cellsAt, rowOf_of n8]; simp [← hAb.1]
              have hc2 : cellsAt w9 c (j * 128) 128 = A := by rw [cellsAt, rowOf_of g9]; exact hbj
              have hsA := hAb.1
              have heq := eq_bytes hAb
              have hj0 : (0 : Int) ≤ (j : Int) := by omega
              have hj7' : (j : Int) < 7 := by omega
              have Hblk : Hid (∀ i, i < 7 → blk Wt' i = s'.block i) := hblk
              clear hblk hbj n8 hs1 hz1 ho1 hz hs0 ho0
              go_region_law (fail)
              all_goals go_wp2
              all_goals exact ⟨⟨k + 1, s', Wt', by omega, by go_num, (hL6.kept k8).kept ((Keeps.refl _ _).drew), hok', hn', by omega, by omega, by omega, g9, hsz, hby, Hblk.out, (hKf.trans k8).drew⟩, by simp [intOf]; omega⟩
        · rw [hkd] at c0
          obtain ⟨cd, s', hws, hcs⟩ := sync_cases s
          have hok' := hok.sync
          have hsy := sync_ds hLr hok (by omega) ⟨hd0, by omega⟩
          have hblk' : ∀ i, i < 7 → blk Wt i = s'.block i := fun i hi => by
            have := sync_block hok i (by omega)
            rw [hws] at this
            rw [hblk i hi]; exact this.symm
          have hn' : s'.n = 16 := by rw [← hn, ← sync_n s, hws]
          rw [hws] at hok' hsy
          clear hws c2 hblk
          have hblk := hblk'
          clear hblk'
          go_wp2_with fail
          refine hsy.mono ?_
          rintro e w6 ⟨rfl, hL6, hK6⟩
          have hKf : Keeps (fun _ => False) w w6 := hKr.trans' hK6 (fun k e => .inr e.1)
          have gr' : w6.heap[c]? = some (.cells Wt 58 (0, 0)) := (hK6.block c (Array.getElem?_eq_some_iff.1 gr).1 (fun h => h.2 rfl)).trans gr
          obtain ⟨Wt', hWt'⟩ : ∃ Wt', Wt' = Wt := ⟨_, rfl⟩
          rw [← hWt'] at gr' hsz hby hblk
          have hws' : s'.ws.length < 1000000 := by omega
          have hdl : 0 ≤ s'.dc ∧ s'.dc ≤ (k : Int) + 1 ∧ s'.ws.length ≤ k + 1 := by omega
          clear hWt' hsy hLr c0 hK6 gr hcs hKr
          have hrow := read_row hok' (j : Int)
          have hrd := fun w0 (hk0 : Keeps (fun _ => False) w6 w0) => read_ds (hL6.kept hk0) hok' hws' (j : Int)
          have hin : ¬ ((j : Int) < 0 ∨ (s'.n : Int) ≤ (j : Int)) := by rw [hn']; omega
          cases hdn : s'.dn with
          | true =>
            have hr : s'.read (j : Int) = (fill 0, 12) := by unfold DS.read; rw [if_neg hin, if_pos hdn]
            rw [hr] at hrd
            have hrd0 := hrd _ (Keeps.refl _ _)
            clear hrd hrow hr hin
            go_wp2_with (first | (go_at_call 17; refine hrd0.mono ?_; rintro e w7 ⟨rfl, k7⟩) | (refine wpList_store_row rfl 37 _ _ rfl w7.heap.size rfl (fill 0) rfl 37 (fill 0) (heap_alloc2_x w7 _) hs0 rfl ho0 ?_; intro w8 n8 k8'; have k8 : Keeps (fun _ => False) w6 w8 := k7.trans (((Keeps.refl _ _).alloc _).trans' k8' (fun k e => .inr (by omega)))) | (go_at_call 26; refine (down_ds (hL6.kept k8)).mono ?_; rw [hdn]; rintro e w9 ⟨rfl, rfl⟩))
            have hce8 : cellsAt w9 w7.heap.size 0 128 = fill 0 := by rw [cellsAt, rowOf_of n8]; simp [← size_fill 0]
            have heq := eq_bytes (bytes_fill 0)
            have hsf := size_fill 0
            refine op_load37 _ rfl w7.heap.size 0 rfl (fill 0) hce8 hsf ?_
            go_wp2_with (go_at_call 11; refine (wakes_any _).mono ?_; rintro e w10 ⟨rfl, k10⟩)
            go_ret
            exact ⟨rfl, (hKf.trans k8).trans k10⟩
          | false =>
            obtain ⟨A, hA⟩ : ∃ A, s'.block j = A := ⟨_, rfl⟩
            have hr : s'.read (j : Int) = (A, 0) := by unfold DS.read; rw [if_neg hin, if_neg (by rw [hdn]; simp), Int.toNat_natCast, hA]
            rw [hr] at hrd hrow
            have hrd0 := hrd _ (Keeps.refl _ _)
            have hAb : Bytes A := by rw [← hA, ← hblk j hj7]; exact bytes_blk hby (by omega)
            have hbj := hblk j hj7
            rw [hA] at hbj
            have hs1 : (Try.prog.info? 37).map (·.size) = some A.size := by rw [hAb.1]; exact size37
            have hz1 : (fill 0).size = A.size := by rw [hAb.1]; exact size_fill 0
            have ho1 := hrow.2
            clear hrd hrow hr hin hA
            go_wp2_with (first | (go_at_call 17; refine hrd0.mono ?_; rintro e w7 ⟨rfl, k7⟩) | (refine wpList_store_row rfl 37 _ _ rfl w7.heap.size rfl A rfl 37 (fill 0) (heap_alloc2_x w7 _) hs1 hz1 ho1 ?_; intro w8 n8 k8'; have k8 : Keeps (fun _ => False) w6 w8 := k7.trans (((Keeps.refl _ _).alloc _).trans' k8' (fun k e => .inr (by omega)))) | (go_at_call 26; refine (down_ds (hL6.kept k8)).mono ?_; rw [hdn]; rintro e w9 ⟨rfl, rfl⟩))
            have g9 : w9.heap[c]? = some (.cells Wt' 58 (0, 0)) := (k8.block c (Array.getElem?_eq_some_iff.1 gr').1 (fun h => h)).trans gr'
            have hc1 : cellsAt w9 w7.heap.size 0 128 = A := by rw [cellsAt, rowOf_of n8]; simp [← hAb.1]
            have hc2 : cellsAt w9 c (j * 128) 128 = A := by rw [cellsAt, rowOf_of g9]; exact hbj
            have hsA := hAb.1
            have heq := eq_bytes hAb
            have hj0 : (0 : Int) ≤ (j : Int) := by omega
            have hj7' : (j : Int) < 7 := by omega
            have Hblk : Hid (∀ i, i < 7 → blk Wt' i = s'.block i) := hblk
            clear hblk hbj n8 hs1 hz1 ho1 hz hs0 ho0
            go_region_law (fail)
            all_goals go_wp2
            all_goals exact ⟨⟨k + 1, s', Wt', by omega, by go_num, (hL6.kept k8).kept ((Keeps.refl _ _).drew), hok', hn', by omega, by omega, by omega, g9, hsz, hby, Hblk.out, (hKf.trans k8).drew⟩, by simp [intOf]; omega⟩
        · rw [hkd] at c0
          obtain ⟨s', hs'⟩ : ∃ s', s.fuse (j : Int) = s' := ⟨_, rfl⟩
          have hok' := hok.fuse (j : Int) (by omega)
          have hfu := fuse_ds hLr (j : Int)
          have hblk' : ∀ i, i < 7 → blk Wt i = s'.block i := fun i hi => by rw [hblk i hi, ← hs']; rfl
          have hn' : s'.n = 16 := by rw [← hn, ← hs']; rfl
          have hdc' : s'.dc = s.dc := by rw [← hs']; rfl
          have hwl' : s'.ws = s.ws := by rw [← hs']; rfl
          rw [hs'] at hok' hfu
          clear hs' c2 hblk
          have hblk := hblk'
          clear hblk'
          go_wp2_with fail
          refine hfu.mono ?_
          rintro e w6 ⟨rfl, hL6, hK6⟩
          have hKf : Keeps (fun _ => False) w w6 := hKr.trans' hK6 (fun k e => .inr e.1)
          have gr' : w6.heap[c]? = some (.cells Wt 58 (0, 0)) := (hK6.block c (Array.getElem?_eq_some_iff.1 gr).1 (fun h => h.2 rfl)).trans gr
          obtain ⟨Wt', hWt'⟩ : ∃ Wt', Wt' = Wt := ⟨_, rfl⟩
          rw [← hWt'] at gr' hsz hby hblk
          have hws' : s'.ws.length < 1000000 := by rw [hwl']; omega
          have hdl : 0 ≤ s'.dc ∧ s'.dc ≤ (k : Int) + 1 ∧ s'.ws.length ≤ k + 1 := by rw [hdc', hwl']; omega
          clear hWt' hfu hLr c0 hK6 gr hKr
          have hrow := read_row hok' (j : Int)
          have hrd := fun w0 (hk0 : Keeps (fun _ => False) w6 w0) => read_ds (hL6.kept hk0) hok' hws' (j : Int)
          have hin : ¬ ((j : Int) < 0 ∨ (s'.n : Int) ≤ (j : Int)) := by rw [hn']; omega
          cases hdn : s'.dn with
          | true =>
            have hr : s'.read (j : Int) = (fill 0, 12) := by unfold DS.read; rw [if_neg hin, if_pos hdn]
            rw [hr] at hrd
            have hrd0 := hrd _ (Keeps.refl _ _)
            clear hrd hrow hr hin
            go_wp2_with (first | (go_at_call 17; refine hrd0.mono ?_; rintro e w7 ⟨rfl, k7⟩) | (refine wpList_store_row rfl 37 _ _ rfl w7.heap.size rfl (fill 0) rfl 37 (fill 0) (heap_alloc2_x w7 _) hs0 rfl ho0 ?_; intro w8 n8 k8'; have k8 : Keeps (fun _ => False) w6 w8 := k7.trans (((Keeps.refl _ _).alloc _).trans' k8' (fun k e => .inr (by omega)))) | (go_at_call 26; refine (down_ds (hL6.kept k8)).mono ?_; rw [hdn]; rintro e w9 ⟨rfl, rfl⟩))
            have hce8 : cellsAt w9 w7.heap.size 0 128 = fill 0 := by rw [cellsAt, rowOf_of n8]; simp [← size_fill 0]
            have heq := eq_bytes (bytes_fill 0)
            have hsf := size_fill 0
            refine op_load37 _ rfl w7.heap.size 0 rfl (fill 0) hce8 hsf ?_
            go_wp2_with (go_at_call 11; refine (wakes_any _).mono ?_; rintro e w10 ⟨rfl, k10⟩)
            go_ret
            exact ⟨rfl, (hKf.trans k8).trans k10⟩
          | false =>
            obtain ⟨A, hA⟩ : ∃ A, s'.block j = A := ⟨_, rfl⟩
            have hr : s'.read (j : Int) = (A, 0) := by unfold DS.read; rw [if_neg hin, if_neg (by rw [hdn]; simp), Int.toNat_natCast, hA]
            rw [hr] at hrd hrow
            have hrd0 := hrd _ (Keeps.refl _ _)
            have hAb : Bytes A := by rw [← hA, ← hblk j hj7]; exact bytes_blk hby (by omega)
            have hbj := hblk j hj7
            rw [hA] at hbj
            have hs1 : (Try.prog.info? 37).map (·.size) = some A.size := by rw [hAb.1]; exact size37
            have hz1 : (fill 0).size = A.size := by rw [hAb.1]; exact size_fill 0
            have ho1 := hrow.2
            clear hrd hrow hr hin hA
            go_wp2_with (first | (go_at_call 17; refine hrd0.mono ?_; rintro e w7 ⟨rfl, k7⟩) | (refine wpList_store_row rfl 37 _ _ rfl w7.heap.size rfl A rfl 37 (fill 0) (heap_alloc2_x w7 _) hs1 hz1 ho1 ?_; intro w8 n8 k8'; have k8 : Keeps (fun _ => False) w6 w8 := k7.trans (((Keeps.refl _ _).alloc _).trans' k8' (fun k e => .inr (by omega)))) | (go_at_call 26; refine (down_ds (hL6.kept k8)).mono ?_; rw [hdn]; rintro e w9 ⟨rfl, rfl⟩))
            have g9 : w9.heap[c]? = some (.cells Wt' 58 (0, 0)) := (k8.block c (Array.getElem?_eq_some_iff.1 gr').1 (fun h => h)).trans gr'
            have hc1 : cellsAt w9 w7.heap.size 0 128 = A := by rw [cellsAt, rowOf_of n8]; simp [← hAb.1]
            have hc2 : cellsAt w9 c (j * 128) 128 = A := by rw [cellsAt, rowOf_of g9]; exact hbj
            have hsA := hAb.1
            have heq := eq_bytes hAb
            have hj0 : (0 : Int) ≤ (j : Int) := by omega
            have hj7' : (j : Int) < 7 := by omega
            have Hblk : Hid (∀ i, i < 7 → blk Wt' i = s'.block i) := hblk
            clear hblk hbj n8 hs1 hz1 ho1 hz hs0 ho0
            go_region_law (fail)
            all_goals go_wp2
            all_goals exact ⟨⟨k + 1, s', Wt', by omega, by go_num, (hL6.kept k8).kept ((Keeps.refl _ _).drew), hok', hn', by omega, by omega, by omega, g9, hsz, hby, Hblk.out, (hKf.trans k8).drew⟩, by simp [intOf]; omega⟩
        · obtain ⟨s', hs'⟩ : ∃ s', s' = s := ⟨_, rfl⟩
          obtain ⟨w6, hw6⟩ : ∃ w6, w6 = w2 := ⟨_, rfl⟩
          rw [← hs'] at hLr hok hn hd0 hd1 hw1 hblk
          rw [← hw6] at hLr gr hKr c0 c2 ⊢
          have hL6 := hLr
          have hok' := hok
          have hn' := hn
          have hws' : s'.ws.length < 1000000 := by omega
          have hKf := hKr
          obtain ⟨Wt', hWt'⟩ : ∃ Wt', Wt' = Wt := ⟨_, rfl⟩
          rw [← hWt'] at gr hsz hby hblk
          have gr' := gr
          clear hs' hw6 hWt'
          have hrow := read_row hok' (j : Int)
          have hrd := fun w0 (hk0 : Keeps (fun _ => False) w6 w0) => read_ds (hL6.kept hk0) hok' hws' (j : Int)
          have hin : ¬ ((j : Int) < 0 ∨ (s'.n : Int) ≤ (j : Int)) := by rw [hn']; omega
          cases hdn : s'.dn with
          | true =>
            have hr : s'.read (j : Int) = (fill 0, 12) := by unfold DS.read; rw [if_neg hin, if_pos hdn]
            rw [hr] at hrd
            have hrd0 := hrd _ (Keeps.refl _ _)
            clear hrd hrow hr hin
            go_wp2_with (first | (go_at_call 17; refine hrd0.mono ?_; rintro e w7 ⟨rfl, k7⟩) | (refine wpList_store_row rfl 37 _ _ rfl w7.heap.size rfl (fill 0) rfl 37 (fill 0) (heap_alloc2_x w7 _) hs0 rfl ho0 ?_; intro w8 n8 k8'; have k8 : Keeps (fun _ => False) w6 w8 := k7.trans (((Keeps.refl _ _).alloc _).trans' k8' (fun k e => .inr (by omega)))) | (go_at_call 26; refine (down_ds (hL6.kept k8)).mono ?_; rw [hdn]; rintro e w9 ⟨rfl, rfl⟩))
            have hce8 : cellsAt w9 w7.heap.size 0 128 = fill 0 := by rw [cellsAt, rowOf_of n8]; simp [← size_fill 0]
            have heq := eq_bytes (bytes_fill 0)
            have hsf := size_fill 0
            refine op_load37 _ rfl w7.heap.size 0 rfl (fill 0) hce8 hsf ?_
            go_wp2_with (go_at_call 11; refine (wakes_any _).mono ?_; rintro e w10 ⟨rfl, k10⟩)
            go_ret
            exact ⟨rfl, (hKf.trans k8).trans k10⟩
          | false =>
            obtain ⟨A, hA⟩ : ∃ A, s'.block j = A := ⟨_, rfl⟩
            have hr : s'.read (j : Int) = (A, 0) := by unfold DS.read; rw [if_neg hin, if_neg (by rw [hdn]; simp), Int.toNat_natCast, hA]
            rw [hr] at hrd hrow
            have hrd0 := hrd _ (Keeps.refl _ _)
            have hAb : Bytes A := by rw [← hA, ← hblk j hj7]; exact bytes_blk hby (by omega)
            have hbj := hblk j hj7
            rw [hA] at hbj
            have hs1 : (Try.prog.info? 37).map (·.size) = some A.size := by rw [hAb.1]; exact size37
            have hz1 : (fill 0).size = A.size := by rw [hAb.1]; exact size_fill 0
            have ho1 := hrow.2
            clear hrd hrow hr hin hA
            go_wp2_with (first | (go_at_call 17; refine hrd0.mono ?_; rintro e w7 ⟨rfl, k7⟩) | (refine wpList_store_row rfl 37 _ _ rfl w7.heap.size rfl A rfl 37 (fill 0) (heap_alloc2_x w7 _) hs1 hz1 ho1 ?_; intro w8 n8 k8'; have k8 : Keeps (fun _ => False) w6 w8 := k7.trans (((Keeps.refl _ _).alloc _).trans' k8' (fun k e => .inr (by omega)))) | (go_at_call 26; refine (down_ds (hL6.kept k8)).mono ?_; rw [hdn]; rintro e w9 ⟨rfl, rfl⟩))
            have g9 : w9.heap[c]? = some (.cells Wt' 58 (0, 0)) := (k8.block c (Array.getElem?_eq_some_iff.1 gr').1 (fun h => h)).trans gr'
            have hc1 : cellsAt w9 w7.heap.size 0 128 = A := by rw [cellsAt, rowOf_of n8]; simp [← hAb.1]
            have hc2 : cellsAt w9 c (j * 128) 128 = A := by rw [cellsAt, rowOf_of g9]; exact hbj
            have hsA := hAb.1
            have heq := eq_bytes hAb
            have hj0 : (0 : Int) ≤ (j : Int) := by omega
            have hj7' : (j : Int) < 7 := by omega
            have Hblk : Hid (∀ i, i < 7 → blk Wt' i = s'.block i) := hblk
            clear hblk hbj n8 hs1 hz1 ho1 hz hs0 ho0
            go_region_law (fail)
            all_goals go_wp2
            all_goals exact ⟨⟨k + 1, s', Wt', by omega, by go_num, (hL6.kept k8).kept ((Keeps.refl _ _).drew), hok', hn', by omega, by omega, by omega, g9, hsz, hby, Hblk.out, (hKf.trans k8).drew⟩, by simp [intOf]; omega⟩
      · obtain rfl : k = xs.length := by omega
        go_wp2_with (go_at_call 11; refine (wakes_any _).mono ?_; rintro e w3 ⟨rfl, k3⟩)
        go_ret
        exact ⟨rfl, hKr.trans k3⟩

end Go.Proofs.Ytokgnfniaeeloaa
