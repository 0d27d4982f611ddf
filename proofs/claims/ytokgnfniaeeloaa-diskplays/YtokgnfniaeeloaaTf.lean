/-
  DiskPlays: the walk.
-/
import Derived.Test.YtokgnfniaeeloaaTe
import Derived.Deep.QuietTactic
import Derived.BigQuiet
set_option linter.all false
namespace Go.Proofs.Ytokgnfniaeeloaa
open Go.RowKit Go.Shelf
attribute [local go_sem ↓] wp_build37
attribute [local go_sem ↓] wp_build37g Go.wp_at_zero Go.wp_at_succ wp_load37g
attribute [local go_sem] addrOf cellsAt_drew cellsAt_drewN

/-- A block is read in a region that only reads. -/
theorem quiet_load37 {o : Oper} {a : Act} {w0 : World} {K : Act → Prop} (x : Operand) (ho : o.op = .load 37 x) (g off : Nat) (hx : a.eval x = .pointer (some ⟨g, off, none⟩)) (cs : Array Value) (hc : cellsAt w0 g off 128 = cs) (hn : cs.size = 128)
    (hk : K (a.put o.dst (.agg cs))) : o.quiet Try.prog a (fun w' => ∃ n, w' = w0.drewN n) K := by
  refine ⟨.agg cs, ?_, hk⟩
  rintro w ⟨n, rfl⟩
  have hr := run_loadVar_mid (P := Try.prog) (w0.drewN n) g off 37 cs.toList _ (by rw [← hc, ← cellsAt_drewN w0 n]; exact rangeAt_cellsAt _ g off 128) Try.underlying37 rfl (by rw [size37, Array.length_toList, hn])
  rw [Array.toArray_toList] at hr
  unfold Oper.quietAt execOp
  simp only [ho, hx, Instr.loadAt, Instr.sureAddr, Sem.run_bind, Sem.run_pure, Result.andThen_ok, hr]
  exact ⟨rfl, rfl⟩

section
variable {B : Nat} {X : Nat → Prop} {w : World} {p gb p' gb' : Nat} {s r r' : DS}
theorem dwrite_fill {i v c : Int} (hw : r.write i (fill v).toList = (c, r')) (h : Half B X w p gb p' gb' r.cap r) (hok : r.Ok) (hX : ∀ k, X k → k < w.heap.size) (hBw : B ≤ w.heap.size) (hdc : 0 ≤ r.dc ∧ r.dc < 1000000) (hws : r.ws.length < 1000000) :
    Calls Try.prog 14 #[.pointer (some ⟨p, 0, none⟩), .int .i64 i, .agg (fill v)] w fun e w' => e = .returned (.int .i64 c) ∧ Half B X w' p gb p' gb' r'.cap r ∧ Keeps (Own1 B X) w w' := by
  have := dwrite_half h hok hX hBw hdc hws i (fill v).toList (ok_fill v)
  rw [hw, Array.toArray_toList] at this
  exact this
theorem rwrite_fill {i v c : Int} (hw : r.write i (fill v).toList = (c, r')) (h : Half B X w p gb p' gb' s r) (hok : r.Ok) (hX : ∀ k, X k → k < w.heap.size) (hBw : B ≤ w.heap.size) (hdc : 0 ≤ r.dc ∧ r.dc < 1000000) (hws : r.ws.length < 1000000) :
    Calls Try.prog 16 #[.pointer (some ⟨p', 0, none⟩), .int .i64 i, .agg (fill v)] w fun e w' => e = .returned (.int .i64 c) ∧ Half B X w' p gb p' gb' s r' ∧ Keeps (Own1 B X) w w' := by
  have := rwrite_half h hok hX hBw hdc hws i (fill v).toList (ok_fill v)
  rw [hw, Array.toArray_toList] at this
  exact this
theorem dsync_at {c : Int} (hw : r.sync = (c, r')) (h : Half B X w p gb p' gb' r.cap r) (hok : r.Ok) (hX : ∀ k, X k → k < w.heap.size) (hdc : 0 ≤ r.dc ∧ r.dc < 1000000) (hws : r.ws.length < 1000000) :
    Calls Try.prog 19 #[.pointer (some ⟨p, 0, none⟩)] w fun e w' => e = .returned (.int .i64 c) ∧ Half B X w' p gb p' gb' r'.cap r ∧ Keeps (Own1 B X) w w' := by
  have := dsync_half h hok hX hdc hws
  rw [hw] at this
  exact this
theorem rsync_at {c : Int} (hw : r.sync = (c, r')) (h : Half B X w p gb p' gb' s r) (hok : r.Ok) (hX : ∀ k, X k → k < w.heap.size) (hBw : B ≤ w.heap.size) (hdc : 0 ≤ r.dc ∧ r.dc < 1000000) (hws : r.ws.length < 1000000) :
    Calls Try.prog 20 #[.pointer (some ⟨p', 0, none⟩)] w fun e w' => e = .returned (.int .i64 c) ∧ Half B X w' p gb p' gb' s r' ∧ Keeps (Own1 B X) w w' := by
  have := rsync_half h hok hX hBw hdc hws
  rw [hw] at this
  exact this
theorem play_write (r : DS) (i : Int) (b : List Value) : (r.write i b).2.n = r.n ∧ r.dc ≤ (r.write i b).2.dc ∧ (r.write i b).2.dc ≤ r.dc + 1 ∧ (r.write i b).2.ws.length ≤ r.ws.length + 1 := by
  unfold DS.write
  split
  · exact ⟨rfl, by dsimp only; omega, by dsimp only; omega, by dsimp only; omega⟩
  · split
    · exact ⟨rfl, by dsimp only; omega, by dsimp only; omega, by dsimp only; omega⟩
    · refine ⟨rfl, by dsimp only; omega, by dsimp only; omega, by simp⟩
theorem play_sync (r : DS) : r.sync.2.n = r.n ∧ r.dc ≤ r.sync.2.dc ∧ r.sync.2.dc ≤ r.dc + 1 ∧ r.sync.2.ws.length ≤ r.ws.length := by
  unfold DS.sync
  split
  · exact ⟨rfl, by dsimp only; omega, by dsimp only; omega, by dsimp only; omega⟩
  · refine ⟨rfl, by dsimp only; omega, by dsimp only; omega, by simp⟩
end

set_option maxRecDepth 100000 in
set_option maxHeartbeats 4000000 in
theorem plays_any (w : World) (n : Int) (v : Value) (xs : List StepV) (h : StepsAt w v xs) (hlen : xs.length ≤ 9223372036854775807) :
    Calls Try.prog 3 #[.int .i64 n, v] w fun e w' => e = .returned (.bool true) ∧ Keeps (fun _ => False) w w' := by
  obtain ⟨sa, scap, rfl⟩ := stepsAt_slice h
  go_enter Try.func3, Try.ntmps3
  go_wp2_with fail
  refine (fair_any w _ xs h hlen).mono ?_
  rintro e w' ⟨rfl, rfl⟩
  cases hf : fairB xs with
  | false =>
    go_wp2_with (go_at_call 11; refine (wakes_any _).mono ?_; rintro e w3 ⟨rfl, k3⟩)
    go_ret
    exact ⟨rfl, k3⟩
  | true =>
    obtain ⟨hl200, hk300⟩ := fairB_spec hf
    clear hf
    by_cases hn : 16 ≤ n ∧ n ≤ 128
    · obtain ⟨m, rfl⟩ := Int.eq_ofNat_of_zero_le (show 0 ≤ n by omega)
      go_wp2_with fail
      refine (new_ds m w' (by omega) (by omega) none' (fun _ h => h.elim)).mono ?_
      rintro e w1 ⟨rfl, hL, hs1, hK⟩
      go_wp2_with fail
      refine (rnew_yes m w1 (by omega) (by omega)).mono ?_
      rintro e w2 ⟨rfl, hR, hB, hs2, hK2⟩
      have hH := half_new m (w := w') (w1 := w1) (w2 := w2) hL hs1 hK2 hR hB
      have hKw := hK.trans hK2
      have hne : w'.heap.size + 1 ≠ 0 := by omega
      clear hs1 hL hR hB hK hK2 hs2
      obtain ⟨p, hp⟩ : ∃ p, w'.heap.size + 1 = p := ⟨_, rfl⟩
      obtain ⟨p', hp'⟩ : ∃ p', w1.heap.size + 1 = p' := ⟨_, rfl⟩
      obtain ⟨gb', hgb'⟩ : ∃ gb', w1.heap.size = gb' := ⟨_, rfl⟩
      rw [hp, hp', hgb'] at hH
      rw [hp, hp']
      clear hp hp' hgb' hne
      have H0 : Hid (StepsAt w' (.slice sa xs.length scap) xs) := h
      have Hx300 : Hid (∀ x ∈ xs, x.ks.length ≤ 300) := hk300
      clear h hk300
      obtain ⟨hm1, hm2⟩ := hn
      go_wp2
      go_loopw [9] (fun i wr => ∃ (k : Nat) (r : DS), k ≤ xs.length ∧ i = .int .i64 (k : Int) ∧ Half w'.heap.size (fun _ => False) wr p w'.heap.size p' gb' r.cap r ∧ r.Ok ∧ r.By ∧ 0 ≤ r.dc ∧ r.dc ≤ (k : Int) ∧ r.ws.length ≤ k ∧ r.n ≤ 128 ∧ Keeps (fun _ => False) w' wr) (fun i _ => xs.length - (intOf i).toNat)
      case atStart => exact ⟨0, DS.new m, Nat.zero_le _, rfl, hH, DS.Ok.new m, By.new m, by simp [DS.new], by simp [DS.new], by simp [DS.new], by simp only [DS.new]; omega, hKw⟩
      case round =>
        obtain ⟨k, r, hk, rfl, hHr, hok, hby, hd0, hd1, hw1, hn1, hKr⟩ := hrel
        clear hH hKw
        by_cases hlt : k < xs.length
        · obtain ⟨b, o, rfl, hs, hbw0⟩ := step_now H0.out hKr k hlt
          obtain ⟨x, hxk⟩ : ∃ x, xs[k] = x := ⟨_, rfl⟩
          rw [hxk] at hs
          have hx300 : x.ks.length ≤ 300 := Hx300.out x (by rw [← hxk]; exact List.getElem_mem hlt)
          have hlt' : (k : Int) < (xs.length : Int) := by omega
          have hk0 : (0 : Int) ≤ (k : Int) := by omega
          have hkl : k < 200 := by omega
          obtain ⟨c0, c1, c2, c3, ckeep, chi, chv⟩ := hs
          have hk00 : KeepAt w' x.ka x.ks := by
            obtain ⟨_, _, e1, hy0⟩ := H0.out
            cases e1
            obtain ⟨b2, o2, _, hs2⟩ := hy0 k xs[k] (by simp [hlt])
            rw [← hxk]
            exact hs2.keep
          clear hxk
          have hwsz := hKr.size
          have hkind : x.kind = 0 ∨ x.kind = 1 ∨ x.kind = 2 ∨ x.kind = 3 ∨ x.kind = 4 ∨ ((x.kind == 0) = false ∧ (x.kind == 1) = false ∧ (x.kind == 2) = false ∧ (x.kind == 3) = false ∧ (x.kind == 4) = false) := by
            simp only [beq_eq_false_iff_ne]; omega
          rcases hkind with hkd | hkd | hkd | hkd | hkd | ⟨q0, q1, q2, q3, q4⟩
          · rw [hkd] at c0
            go_wp2_with fail
            obtain ⟨W, hW⟩ : ∃ W, wr.alloc (.cells #[.int .i64 0, .int .i64 x.i, .int .u8 x.v, .slice x.ka x.ks.length x.kc] 34) = W := ⟨_, rfl⟩
            rw [hW]
            have kW : Keeps (fun _ => False) wr W := by rw [← hW]; exact (Keeps.refl _ _).alloc _
            have gW : W.heap[wr.heap.size]? = some (.cells #[.int .i64 0, .int .i64 x.i, .int .u8 x.v, .slice x.ka x.ks.length x.kc] 34 (0, 0)) := by rw [← hW]; exact heap_alloc2_x wr _
            have hHW : Half w'.heap.size (· = wr.heap.size) W p w'.heap.size p' gb' r.cap r := (hHr.more (X' := (· = wr.heap.size)) (fun k e => .inr (by omega))).kept kW
            have hsz : wr.heap.size < W.heap.size := (Array.getElem?_eq_some_iff.1 gW).1
            have hKW := hKr.trans kW
            have d1 : W.cell? ⟨wr.heap.size, 1, none⟩ = some (.int .i64 x.i) := by simp [World.cell?, gW]
            have d2 : W.cell? ⟨wr.heap.size, 2, none⟩ = some (.int .u8 x.v) := by simp [World.cell?, gW]
            have d3 : W.cell? ⟨wr.heap.size, 3, none⟩ = some (.slice x.ka x.ks.length x.kc) := by simp [World.cell?, gW]
            have ckW := ckeep.keeps kW
            obtain ⟨c, hc⟩ : ∃ c, wr.heap.size = c := ⟨_, rfl⟩
            rw [hc] at hHW hsz d1 d2 d3 hwsz
            rw [hc]
            have hgW := hHr.lt
            clear hW gW c0 c1 c2 c3 ckeep kW hHr
            obtain ⟨cd, rE, hws⟩ : ∃ cd rE, r.write x.i (fill x.v).toList = (cd, rE) := ⟨_, _, rfl⟩
            have hokE : rE.Ok := by have := hok.write x.i (fill x.v).toList (ok_fill x.v); rwa [hws] at this
            have hbyE : rE.By := by have := hby.write x.i x.v; rwa [hws] at this
            obtain ⟨hb1, hb2, hb3, hb4⟩ : rE.n = r.n ∧ r.dc ≤ rE.dc ∧ rE.dc ≤ r.dc + 1 ∧ rE.ws.length ≤ r.ws.length + 1 := by have := play_write r x.i (fill x.v).toList; rwa [hws] at this
            have Hws : Hid (r.write x.i (fill x.v).toList = (cd, rE)) := hws
            clear hws d3 ckW
            go_region_held3 (fun v' => v'.cell? ⟨c, 1, none⟩ = some (.int .i64 x.i) ∧ v'.cell? ⟨c, 2, none⟩ = some (.int .u8 x.v))
              (first | assumption | exact ⟨d1, d2⟩ | (have q8 := hH8; exact ⟨cell_keeps hK8 (cell_keeps hkf2 (cell_keeps hK6 (cell_keeps hkf d1 (fun h => h)) (fun h => h.2 rfl)) (fun h => h)) (fun h => h.2 rfl), cell_keeps hK8 (cell_keeps hkf2 (cell_keeps hK6 (cell_keeps hkf d2 (fun h => h)) (fun h => h.2 rfl)) (fun h => h)) (fun h => h.2 rfl)⟩) | exact ⟨cell_keeps hkf2 (cell_keeps hK6 (cell_keeps hkf d1 (fun h => h)) (fun h => h.2 rfl)) (fun h => h), cell_keeps hkf2 (cell_keeps hK6 (cell_keeps hkf d2 (fun h => h)) (fun h => h.2 rfl)) (fun h => h)⟩ | exact ⟨cell_keeps hK6 (cell_keeps hkf d1 (fun h => h)) (fun h => h.2 rfl), cell_keeps hK6 (cell_keeps hkf d2 (fun h => h)) (fun h => h.2 rfl)⟩ | exact ⟨cell_keeps hkf d1 (fun h => h), cell_keeps hkf d2 (fun h => h)⟩)
              (first | (go_at_call 15; have q6 := hH6; refine (fill_any _ _).mono ?_; rintro e w7 ⟨rfl, hkf2⟩) | (go_at_call 15; refine (fill_any _ _).mono ?_; rintro e w5 ⟨rfl, hkf⟩) | (go_at_call 14; have hz5 : W.heap.size ≤ w5.heap.size := (by have := hkf.size; simpa using this); refine (dwrite_fill Hws.out (hHW.kept (((Keeps.refl _ _).drew).trans hkf)) hok (fun k e => by subst e; omega) (by omega) (by omega) (by omega)).mono ?_; rintro e w6 ⟨rfl, hH6, hK6⟩) | (go_at_call 16; have hz7 : W.heap.size ≤ w7.heap.size := (by have := hkf2.size; have := hK6.size; omega); refine (rwrite_fill Hws.out (hH6.kept hkf2) hok (fun k e => by subst e; omega) (by omega) (by omega) (by omega)).mono ?_; rintro e wE ⟨rfl, hH8, hK8⟩))
            have hHE := hH8
            have hKE : Keeps (fun _ => False) w' wE := ((((hKW.drew).trans hkf).trans' hK6 (fun k e => .inr e.1)).trans hkf2).trans' hK8 (fun k e => .inr e.1)
            clear hHW d1 d2 hK6 hkf hKr hKW hkf2 hK8 hH6 hH8 Hws
            obtain ⟨la, lc, e0, e1, e2, e3, e4, _, _⟩ := hHE.cells
            clear e2
            go_wp2_with fail
            go_quiet (first | (go_at_call 24; exact Calls.quiet_of_same (dloose_half (hHE.kept ((Keeps.refl _ _).drewN _)))) | (go_at_call 25; exact Calls.quiet_of_same (dlen_half (hHE.kept ((Keeps.refl _ _).drewN _)))) | (go_at_call 26; exact Calls.quiet_of_same (ddown_half (hHE.kept ((Keeps.refl _ _).drewN _)))) | (go_at_call 27; exact Calls.quiet_of_same (ddone_half (hHE.kept ((Keeps.refl _ _).drewN _)))))
            go_wp2
            exact ⟨⟨k + 1, rE, by omega, by go_num, Half.more (hHE.kept ((Keeps.refl _ _).drewN _)) (fun k h => h.elim), hokE, hbyE, by omega, by omega, by omega, by omega, hKE.drewN _⟩, by simp [intOf]; omega⟩
          · rw [hkd] at c0
            go_wp2_with fail
            obtain ⟨W, hW⟩ : ∃ W, wr.alloc (.cells #[.int .i64 1, .int .i64 x.i, .int .u8 x.v, .slice x.ka x.ks.length x.kc] 34) = W := ⟨_, rfl⟩
            rw [hW]
            have kW : Keeps (fun _ => False) wr W := by rw [← hW]; exact (Keeps.refl _ _).alloc _
            have gW : W.heap[wr.heap.size]? = some (.cells #[.int .i64 1, .int .i64 x.i, .int .u8 x.v, .slice x.ka x.ks.length x.kc] 34 (0, 0)) := by rw [← hW]; exact heap_alloc2_x wr _
            have hHW : Half w'.heap.size (· = wr.heap.size) W p w'.heap.size p' gb' r.cap r := (hHr.more (X' := (· = wr.heap.size)) (fun k e => .inr (by omega))).kept kW
            have hsz : wr.heap.size < W.heap.size := (Array.getElem?_eq_some_iff.1 gW).1
            have hKW := hKr.trans kW
            have d1 : W.cell? ⟨wr.heap.size, 1, none⟩ = some (.int .i64 x.i) := by simp [World.cell?, gW]
            have d2 : W.cell? ⟨wr.heap.size, 2, none⟩ = some (.int .u8 x.v) := by simp [World.cell?, gW]
            have d3 : W.cell? ⟨wr.heap.size, 3, none⟩ = some (.slice x.ka x.ks.length x.kc) := by simp [World.cell?, gW]
            have ckW := ckeep.keeps kW
            obtain ⟨c, hc⟩ : ∃ c, wr.heap.size = c := ⟨_, rfl⟩
            rw [hc] at hHW hsz d1 d2 d3 hwsz
            rw [hc]
            have hgW := hHr.lt
            clear hW gW c0 c1 c2 c3 ckeep kW hHr
            have hRd := hby.read hok x.i
            obtain ⟨A, cd, hrd⟩ : ∃ A cd, r.read x.i = (A, cd) := ⟨_, _, rfl⟩
            have hrow := read_row hok x.i
            rw [hrd] at hRd hrow
            have hAb : Bytes A := hRd
            have hrd1 := fun u (hu : Keeps (fun _ => False) W u) => dread_half (hHW.kept hu) hok (by omega) x.i
            have hrd2 := fun u (hu : Keeps (fun _ => False) W u) => rread_half (hHW.kept hu) hok (by omega) x.i
            rw [hrd] at hrd1 hrd2
            have hs1 : (Try.prog.info? 37).map (·.size) = some A.size := by rw [hAb.1]; exact size37
            have hz1 : (fill 0).size = A.size := by rw [hAb.1]; exact size_fill 0
            have ho1 := hrow.2
            have hz := zero37
            clear hrow d2 d3 ckW hrd hRd
            refine (hrd1 W (Keeps.refl _ _)).mono ?_
            rintro e w7 ⟨rfl, k7⟩
            go_wp2_with (first | (go_at_call 18; refine (hrd2 _ k8).mono ?_; rintro e wA ⟨rfl, kA⟩) | (have qA := kA; refine wpList_store_row rfl 37 _ _ rfl wA.heap.size rfl A rfl 37 (fill 0) (heap_alloc2_x wA _) hs1 hz1 ho1 ?_; intro wE nE kE'; refine Stop.out ?_) | (refine wpList_store_row rfl 37 _ _ rfl w7.heap.size rfl A rfl 37 (fill 0) (heap_alloc2_x w7 _) hs1 hz1 ho1 ?_; intro w8 n8 k8'; have k8 : Keeps (fun _ => False) W w8 := k7.trans (((Keeps.refl _ _).alloc _).trans' k8' (fun k e => .inr (by omega))); have d1' := cell_keeps k8 d1 (fun h => h)))
            refine Stop.mk ?_
            have kE : Keeps (fun _ => False) w8 wE := kA.trans (((Keeps.refl _ _).alloc _).trans' kE' (fun k e => .inr (by omega)))
            have n8E : wE.heap[w7.heap.size]? = some (.cells A 37 (0, 0)) := (kE.block _ (Array.getElem?_eq_some_iff.1 n8).1 (fun h => h)).trans n8
            have hc1 : cellsAt wE w7.heap.size 0 128 = A := by rw [cellsAt, rowOf_of n8E]; simp [← hAb.1]
            have hc2 : cellsAt wE wA.heap.size 0 128 = A := by rw [cellsAt, rowOf_of nE]; simp [← hAb.1]
            have hsA := hAb.1
            have heq := eq_bytes hAb
            have hHE := (hHW.kept k8).kept kE
            have hKE := (hKW.trans k8).trans kE
            have hokE := hok
            have hbyE := hby
            clear hrd1 hrd2 hHW hKW k8 kE n8 nE n8E k7 kA k8' kE' d1 d1' hs1 hz1 ho1 hz hKr
            go_wp2_with fail
            obtain ⟨la, lc, e0, e1, e2, e3, e4, _, _⟩ := hHE.cells
            clear e2
            go_quiet (first | (go_at_call 24; exact Calls.quiet_of_same (dloose_half (hHE.kept ((Keeps.refl _ _).drewN _)))) | (go_at_call 25; exact Calls.quiet_of_same (dlen_half (hHE.kept ((Keeps.refl _ _).drewN _)))) | (go_at_call 26; exact Calls.quiet_of_same (ddown_half (hHE.kept ((Keeps.refl _ _).drewN _)))) | (go_at_call 27; exact Calls.quiet_of_same (ddone_half (hHE.kept ((Keeps.refl _ _).drewN _)))))
            go_wp2
            exact ⟨⟨k + 1, r, by omega, by go_num, Half.more (hHE.kept ((Keeps.refl _ _).drewN _)) (fun k h => h.elim), hokE, hbyE, by omega, by omega, by omega, by omega, hKE.drewN _⟩, by simp [intOf]; omega⟩
          · rw [hkd] at c0
            go_wp2_with fail
            obtain ⟨W, hW⟩ : ∃ W, wr.alloc (.cells #[.int .i64 2, .int .i64 x.i, .int .u8 x.v, .slice x.ka x.ks.length x.kc] 34) = W := ⟨_, rfl⟩
            rw [hW]
            have kW : Keeps (fun _ => False) wr W := by rw [← hW]; exact (Keeps.refl _ _).alloc _
            have gW : W.heap[wr.heap.size]? = some (.cells #[.int .i64 2, .int .i64 x.i, .int .u8 x.v, .slice x.ka x.ks.length x.kc] 34 (0, 0)) := by rw [← hW]; exact heap_alloc2_x wr _
            have hHW : Half w'.heap.size (· = wr.heap.size) W p w'.heap.size p' gb' r.cap r := (hHr.more (X' := (· = wr.heap.size)) (fun k e => .inr (by omega))).kept kW
            have hsz : wr.heap.size < W.heap.size := (Array.getElem?_eq_some_iff.1 gW).1
            have hKW := hKr.trans kW
            have d1 : W.cell? ⟨wr.heap.size, 1, none⟩ = some (.int .i64 x.i) := by simp [World.cell?, gW]
            have d2 : W.cell? ⟨wr.heap.size, 2, none⟩ = some (.int .u8 x.v) := by simp [World.cell?, gW]
            have d3 : W.cell? ⟨wr.heap.size, 3, none⟩ = some (.slice x.ka x.ks.length x.kc) := by simp [World.cell?, gW]
            have ckW := ckeep.keeps kW
            obtain ⟨c, hc⟩ : ∃ c, wr.heap.size = c := ⟨_, rfl⟩
            rw [hc] at hHW hsz d1 d2 d3 hwsz
            rw [hc]
            have hgW := hHr.lt
            clear hW gW c0 c1 c2 c3 ckeep kW hHr
            obtain ⟨cd, rE, hws⟩ : ∃ cd rE, r.sync = (cd, rE) := ⟨_, _, rfl⟩
            have hokE : rE.Ok := by have := hok.sync; rwa [hws] at this
            have hbyE : rE.By := by have := hby.sync hok; rwa [hws] at this
            obtain ⟨hb1, hb2, hb3, hb4⟩ : rE.n = r.n ∧ r.dc ≤ rE.dc ∧ rE.dc ≤ r.dc + 1 ∧ rE.ws.length ≤ r.ws.length := by have := play_sync r; rwa [hws] at this
            clear d1 d2 d3 ckW
            refine (dsync_at hws hHW hok (fun k e => by subst e; omega) (by omega) (by omega)).mono ?_
            rintro e w6 ⟨rfl, hH6, hK6⟩
            have hz6 := hK6.size
            have hrs := rsync_at hws hH6 hok (fun k e => by subst e; omega) (by omega) (by omega) (by omega)
            clear hws
            go_wp2_with fail
            refine hrs.mono ?_
            rintro e wE ⟨rfl, hHE, hK8⟩
            have hKE : Keeps (fun _ => False) w' wE := (hKW.trans' hK6 (fun k e => .inr e.1)).trans' hK8 (fun k e => .inr e.1)
            clear hHW hK6 hKr hKW hK8 hH6 hrs
            obtain ⟨la, lc, e0, e1, e2, e3, e4, _, _⟩ := hHE.cells
            clear e2
            go_wp2_with fail
            go_quiet (first | (go_at_call 24; exact Calls.quiet_of_same (dloose_half (hHE.kept ((Keeps.refl _ _).drewN _)))) | (go_at_call 25; exact Calls.quiet_of_same (dlen_half (hHE.kept ((Keeps.refl _ _).drewN _)))) | (go_at_call 26; exact Calls.quiet_of_same (ddown_half (hHE.kept ((Keeps.refl _ _).drewN _)))) | (go_at_call 27; exact Calls.quiet_of_same (ddone_half (hHE.kept ((Keeps.refl _ _).drewN _)))))
            go_wp2
            exact ⟨⟨k + 1, rE, by omega, by go_num, Half.more (hHE.kept ((Keeps.refl _ _).drewN _)) (fun k h => h.elim), hokE, hbyE, by omega, by omega, by omega, by omega, hKE.drewN _⟩, by simp [intOf]; omega⟩
          · rw [hkd] at c0
            go_wp2_with fail
            obtain ⟨W, hW⟩ : ∃ W, wr.alloc (.cells #[.int .i64 3, .int .i64 x.i, .int .u8 x.v, .slice x.ka x.ks.length x.kc] 34) = W := ⟨_, rfl⟩
            rw [hW]
            have kW : Keeps (fun _ => False) wr W := by rw [← hW]; exact (Keeps.refl _ _).alloc _
            have gW : W.heap[wr.heap.size]? = some (.cells #[.int .i64 3, .int .i64 x.i, .int .u8 x.v, .slice x.ka x.ks.length x.kc] 34 (0, 0)) := by rw [← hW]; exact heap_alloc2_x wr _
            have hHW : Half w'.heap.size (· = wr.heap.size) W p w'.heap.size p' gb' r.cap r := (hHr.more (X' := (· = wr.heap.size)) (fun k e => .inr (by omega))).kept kW
            have hsz : wr.heap.size < W.heap.size := (Array.getElem?_eq_some_iff.1 gW).1
            have hKW := hKr.trans kW
            have d1 : W.cell? ⟨wr.heap.size, 1, none⟩ = some (.int .i64 x.i) := by simp [World.cell?, gW]
            have d2 : W.cell? ⟨wr.heap.size, 2, none⟩ = some (.int .u8 x.v) := by simp [World.cell?, gW]
            have d3 : W.cell? ⟨wr.heap.size, 3, none⟩ = some (.slice x.ka x.ks.length x.kc) := by simp [World.cell?, gW]
            have ckW := ckeep.keeps kW
            obtain ⟨c, hc⟩ : ∃ c, wr.heap.size = c := ⟨_, rfl⟩
            rw [hc] at hHW hsz d1 d2 d3 hwsz
            rw [hc]
            have hgW := hHr.lt
            clear hW gW c0 c1 c2 c3 ckeep kW hHr
            obtain ⟨rE, hrE⟩ : ∃ rE, r.crash x.ks x.i = rE := ⟨_, rfl⟩
            have hokE : rE.Ok := by rw [← hrE]; exact hok.crash _ _
            have hbyE : rE.By := by rw [← hrE]; exact hby.crash hok _ _
            obtain ⟨hb1, hb2, hb4⟩ : rE.n = r.n ∧ rE.dc = r.dc ∧ rE.ws.length = 0 := by rw [← hrE]; exact ⟨rfl, rfl, rfl⟩
            have HrE : Hid (r.crash x.ks x.i = rE) := hrE
            clear hrE d2
            go_region_held3 (fun v' => v'.cell? ⟨c, 1, none⟩ = some (.int .i64 x.i) ∧ v'.cell? ⟨c, 3, none⟩ = some (.slice x.ka x.ks.length x.kc))
              (first | assumption | exact ⟨d1, d3⟩ | exact ⟨cell_keeps hK6 (cell_keeps hkk (cell_keeps (((Keeps.refl (fun _ => False) W).alloc _).drew) d1 (fun h => h)) (fun h => h)) (fun h => h.2 rfl), cell_keeps hK6 (cell_keeps hkk (cell_keeps (((Keeps.refl (fun _ => False) W).alloc _).drew) d3 (fun h => h)) (fun h => h)) (fun h => h.2 rfl)⟩ | exact ⟨cell_keeps hkk (cell_keeps (((Keeps.refl (fun _ => False) W).alloc _).drew) d1 (fun h => h)) (fun h => h), cell_keeps hkk (cell_keeps (((Keeps.refl (fun _ => False) W).alloc _).drew) d3 (fun h => h)) (fun h => h)⟩ | exact ⟨cell_keeps (((Keeps.refl (fun _ => False) W).alloc _).drew) d1 (fun h => h), cell_keeps (((Keeps.refl (fun _ => False) W).alloc _).drew) d3 (fun h => h)⟩)
              (first | (refine step_keepCopy (by rfl) _ _ (by rfl) W.heap.size (by rfl) x.ka x.kc x.ks (by rfl) (ckW.keeps (((Keeps.refl (fun _ => False) W).alloc _).drew)) hx300 ?_; intro a4 c4 w4 hk4 hkk hab) | (go_at_call 21; have hz4 : W.heap.size ≤ w4.heap.size := (by have := hkk.size; simp at this; omega); refine (dcrash_half (hHW.kept ((((Keeps.refl (fun _ => False) W).alloc _).drew).trans hkk)) hok (fun k e => by subst e; omega) (by omega) a4 c4 x.ks x.i hk4 (fun b o e => by have := hab b o e; simp at this; omega)).mono ?_; rintro e w6 ⟨rfl, hH6, hK6⟩))
            rw [HrE.out] at hH6
            have hK06 : Keeps (fun _ => False) w' w6 := (((hKW.alloc _).drew).trans hkk).trans' hK6 (fun k e => .inr e.1)
            have k06 : Keeps (· ≠ c) W w6 := ((((Keeps.refl (fun _ => False) W).alloc _).drew).trans hkk |>.mono (fun k _ h => h.elim)).trans (hK6.mono (fun k _ e => e.2))
            have d1' := cell_keeps k06 d1 (fun h => h rfl)
            have d3' := cell_keeps k06 d3 (fun h => h rfl)
            have hz6 : W.heap.size ≤ w6.heap.size := by have := hK6.size; have := hkk.size; simp at this; omega
            have hrc := rcrash_half hH6 hok hby (fun k e => by subst e; omega) (by omega) (by omega) x.ka x.kc x.ks x.i (hk00.keeps hK06) (by omega) (fun hne b o e => by
              obtain ⟨y, ys, hy⟩ := List.exists_cons_of_ne_nil hne
              obtain ⟨b2, o2, e2, hc2, _⟩ := hk00 0 y (by rw [hy]; rfl)
              rw [e] at e2
              cases e2
              have := World.block_lt_of_cell? w' _ hc2
              dsimp only at this
              have := hgW
              omega)
            rw [HrE.out] at hrc
            clear hHW hk4 hkk hab hK6 d1 d3 k06 ckW
            go_wp2_with fail
            refine hrc.mono ?_
            rintro e wE ⟨rfl, hHE, hK8⟩
            have hKE : Keeps (fun _ => False) w' wE := hK06.trans' hK8 (fun k e => .inr e.1)
            clear hrc hK06 hK8 hH6 hKr hKW d1' d3' HrE
            obtain ⟨la, lc, e0, e1, e2, e3, e4, _, _⟩ := hHE.cells
            clear e2
            go_wp2_with fail
            go_quiet (first | (go_at_call 24; exact Calls.quiet_of_same (dloose_half (hHE.kept ((Keeps.refl _ _).drewN _)))) | (go_at_call 25; exact Calls.quiet_of_same (dlen_half (hHE.kept ((Keeps.refl _ _).drewN _)))) | (go_at_call 26; exact Calls.quiet_of_same (ddown_half (hHE.kept ((Keeps.refl _ _).drewN _)))) | (go_at_call 27; exact Calls.quiet_of_same (ddone_half (hHE.kept ((Keeps.refl _ _).drewN _)))))
            go_wp2
            exact ⟨⟨k + 1, rE, by omega, by go_num, Half.more (hHE.kept ((Keeps.refl _ _).drewN _)) (fun k h => h.elim), hokE, hbyE, by omega, by omega, by omega, by omega, hKE.drewN _⟩, by simp [intOf]; omega⟩
          · rw [hkd] at c0
            go_wp2_with fail
            obtain ⟨W, hW⟩ : ∃ W, wr.alloc (.cells #[.int .i64 4, .int .i64 x.i, .int .u8 x.v, .slice x.ka x.ks.length x.kc] 34) = W := ⟨_, rfl⟩
            rw [hW]
            have kW : Keeps (fun _ => False) wr W := by rw [← hW]; exact (Keeps.refl _ _).alloc _
            have gW : W.heap[wr.heap.size]? = some (.cells #[.int .i64 4, .int .i64 x.i, .int .u8 x.v, .slice x.ka x.ks.length x.kc] 34 (0, 0)) := by rw [← hW]; exact heap_alloc2_x wr _
            have hHW : Half w'.heap.size (· = wr.heap.size) W p w'.heap.size p' gb' r.cap r := (hHr.more (X' := (· = wr.heap.size)) (fun k e => .inr (by omega))).kept kW
            have hsz : wr.heap.size < W.heap.size := (Array.getElem?_eq_some_iff.1 gW).1
            have hKW := hKr.trans kW
            have d1 : W.cell? ⟨wr.heap.size, 1, none⟩ = some (.int .i64 x.i) := by simp [World.cell?, gW]
            have d2 : W.cell? ⟨wr.heap.size, 2, none⟩ = some (.int .u8 x.v) := by simp [World.cell?, gW]
            have d3 : W.cell? ⟨wr.heap.size, 3, none⟩ = some (.slice x.ka x.ks.length x.kc) := by simp [World.cell?, gW]
            have ckW := ckeep.keeps kW
            obtain ⟨c, hc⟩ : ∃ c, wr.heap.size = c := ⟨_, rfl⟩
            rw [hc] at hHW hsz d1 d2 d3 hwsz
            rw [hc]
            have hgW := hHr.lt
            clear hW gW c0 c1 c2 c3 ckeep kW hHr
            have hokE : (r.raw x.i).Ok := hok.raw x.i chi.1 chi.2
            have hbyE : (r.raw x.i).By := hby.raw x.i
            clear d2 d3 ckW
            refine (dfuse_half hHW (fun k e => by subst e; omega) x.i).mono ?_
            rintro e w6 ⟨rfl, hH6, hK6⟩
            have hz6 := hK6.size
            have d1' := cell_keeps hK6 d1 (fun h => h.2 rfl)
            obtain ⟨hHE, hK8⟩ := hH6.fuse (fun k e => by subst e; omega) (by omega) x.i
            obtain ⟨_, _, _, _, f2, _, _, ffr, _⟩ := hH6.cells
            have ff2 := ffr 2
            clear d1 ffr
            obtain ⟨rE, hrE⟩ : ∃ rE, r.raw x.i = rE := ⟨_, rfl⟩
            obtain ⟨hb1, hb2, hb4⟩ : rE.n = r.n ∧ rE.dc = r.dc ∧ rE.ws.length = r.ws.length := by rw [← hrE]; exact ⟨rfl, rfl, rfl⟩
            rw [hrE] at hHE hokE hbyE
            clear hrE
            go_wp2_with fail
            obtain ⟨wE, hwE⟩ : ∃ wE, w6.setCell ⟨p', 2, none⟩ (.int .i64 x.i) = wE := ⟨_, rfl⟩
            rw [hwE] at hHE hK8
            rw [hwE]
            have hKE : Keeps (fun _ => False) w' wE := (hKW.trans' hK6 (fun k e => .inr e.1)).trans' hK8 (fun k e => .inr e.1)
            clear hwE hHW hK6 hK8 hH6 hKr hKW d1' f2 ff2
            obtain ⟨la, lc, e0, e1, e2, e3, e4, _, _⟩ := hHE.cells
            clear e2
            go_quiet (first | (go_at_call 24; exact Calls.quiet_of_same (dloose_half (hHE.kept ((Keeps.refl _ _).drewN _)))) | (go_at_call 25; exact Calls.quiet_of_same (dlen_half (hHE.kept ((Keeps.refl _ _).drewN _)))) | (go_at_call 26; exact Calls.quiet_of_same (ddown_half (hHE.kept ((Keeps.refl _ _).drewN _)))) | (go_at_call 27; exact Calls.quiet_of_same (ddone_half (hHE.kept ((Keeps.refl _ _).drewN _)))))
            go_wp2
            exact ⟨⟨k + 1, rE, by omega, by go_num, Half.more (hHE.kept ((Keeps.refl _ _).drewN _)) (fun k h => h.elim), hokE, hbyE, by omega, by omega, by omega, by omega, hKE.drewN _⟩, by simp [intOf]; omega⟩
          · go_wp2_with fail
            obtain ⟨W, hW⟩ : ∃ W, wr.alloc (.cells #[.int .i64 x.kind, .int .i64 x.i, .int .u8 x.v, .slice x.ka x.ks.length x.kc] 34) = W := ⟨_, rfl⟩
            rw [hW]
            have kW : Keeps (fun _ => False) wr W := by rw [← hW]; exact (Keeps.refl _ _).alloc _
            have gW : W.heap[wr.heap.size]? = some (.cells #[.int .i64 x.kind, .int .i64 x.i, .int .u8 x.v, .slice x.ka x.ks.length x.kc] 34 (0, 0)) := by rw [← hW]; exact heap_alloc2_x wr _
            have hHW : Half w'.heap.size (· = wr.heap.size) W p w'.heap.size p' gb' r.cap r := (hHr.more (X' := (· = wr.heap.size)) (fun k e => .inr (by omega))).kept kW
            have hsz : wr.heap.size < W.heap.size := (Array.getElem?_eq_some_iff.1 gW).1
            have hKW := hKr.trans kW
            have d1 : W.cell? ⟨wr.heap.size, 1, none⟩ = some (.int .i64 x.i) := by simp [World.cell?, gW]
            have d2 : W.cell? ⟨wr.heap.size, 2, none⟩ = some (.int .u8 x.v) := by simp [World.cell?, gW]
            have d3 : W.cell? ⟨wr.heap.size, 3, none⟩ = some (.slice x.ka x.ks.length x.kc) := by simp [World.cell?, gW]
            have ckW := ckeep.keeps kW
            obtain ⟨c, hc⟩ : ∃ c, wr.heap.size = c := ⟨_, rfl⟩
            rw [hc] at hHW hsz d1 d2 d3 hwsz
            rw [hc]
            have hgW := hHr.lt
            clear hW gW c0 c1 c2 c3 ckeep kW hHr
            have hHE := hHW
            have hokE := hok
            have hbyE := hby
            have hKE := hKW
            clear d1 d2 d3 ckW
            obtain ⟨la, lc, e0, e1, e2, e3, e4, _, _⟩ := hHE.cells
            clear e2
            go_quiet (first | (go_at_call 24; exact Calls.quiet_of_same (dloose_half (hHE.kept ((Keeps.refl _ _).drewN _)))) | (go_at_call 25; exact Calls.quiet_of_same (dlen_half (hHE.kept ((Keeps.refl _ _).drewN _)))) | (go_at_call 26; exact Calls.quiet_of_same (ddown_half (hHE.kept ((Keeps.refl _ _).drewN _)))) | (go_at_call 27; exact Calls.quiet_of_same (ddone_half (hHE.kept ((Keeps.refl _ _).drewN _)))))
            go_wp2
            exact ⟨⟨k + 1, r, by omega, by go_num, Half.more (hHE.kept ((Keeps.refl _ _).drewN _)) (fun k h => h.elim), hokE, hbyE, by omega, by omega, by omega, by omega, hKE.drewN _⟩, by simp [intOf]; omega⟩
        · obtain rfl : k = xs.length := by omega
          go_wp2_with fail
          refine (dcrash_half hHr hok (fun k e => e.elim) (by omega) none 0 [] (-1) (fun j x hx => by simp at hx) (fun b o e => by cases e)).mono ?_
          rintro e w2 ⟨rfl, hH2, hK2⟩
          have hz2 := hK2.size
          have hwsz := hKr.size
          have hrc := rcrash_half hH2 hok hby (fun k e => e.elim) (by omega) (by omega) none 0 [] (-1) (fun j x hx => by simp at hx) (by simp) (fun hne => absurd rfl hne)
          obtain ⟨rE, hrE⟩ : ∃ rE, r.crash [] (-1) = rE := ⟨_, rfl⟩
          have hokE : rE.Ok := by rw [← hrE]; exact hok.crash _ _
          have hbyE : rE.By := by rw [← hrE]; exact hby.crash hok _ _
          obtain ⟨hb1, hb2, hb4⟩ : rE.n = r.n ∧ rE.dn = false ∧ rE.ws = [] := by rw [← hrE]; exact ⟨rfl, rfl, rfl⟩
          rw [hrE] at hrc hH2
          clear hrE
          go_wp2_with fail
          refine hrc.mono ?_
          rintro e w3 ⟨rfl, hH3, hK3⟩
          have hK03 : Keeps (fun _ => False) w' w3 := (hKr.trans' hK2 (fun k e => .inr e.1)).trans' hK3 (fun k e => .inr e.1)
          have hrd3 : ∀ j : Nat, j < rE.n → rE.read (j : Int) = (blk rE.bl j, 0) := fun j hj => by
            unfold DS.read
            rw [if_neg (by omega), if_neg (by rw [hb2]; simp), Int.toNat_natCast]
            unfold DS.block
            rw [hb4]
            rfl
          have Hrd3 : Hid (∀ j : Nat, j < rE.n → rE.read (j : Int) = (blk rE.bl j, 0)) := hrd3
          have hn3 : rE.n ≤ 128 := by omega
          have hws3 : rE.ws.length < 1000000 := by rw [hb4]; simp
          clear hrd3 hHr hok hby hH2 hK2 hK3 hrc hKr hb2
          go_wp2
          go_loopw [15] (fun i wr => ∃ (j : Nat), j ≤ rE.n ∧ i = .int .i64 (j : Int) ∧ Half w'.heap.size (fun _ => False) wr p w'.heap.size p' gb' rE.cap rE ∧ Keeps (fun _ => False) w' wr) (fun i _ => rE.n - (intOf i).toNat)
          case atStart => exact ⟨0, Nat.zero_le _, rfl, hH3, hK03⟩
          case round =>
            clear hH3 hK03
            obtain ⟨j, hj, rfl, hHr, hKr⟩ := hrel
            obtain ⟨la, lc, e0, e1, e2, e3, e4, _, eB⟩ := hHr.cells
            clear e1 e2 e3 e4
            by_cases hlt : j < rE.n
            · have hj0 : (0 : Int) ≤ (j : Int) := by omega
              have hjn : (j : Int) < (rE.n : Int) := by omega
              have hmul : (j + 1) * 128 ≤ rE.n * 128 := Nat.mul_le_mul_right 128 hlt
              have hszE := hokE.size
              obtain ⟨A, hA⟩ : ∃ A, blk rE.bl j = A := ⟨_, rfl⟩
              have hrd := dread_half hHr hokE hws3 (j : Int)
              have hrow := read_row hokE (j : Int)
              rw [Hrd3.out j hlt, hA] at hrd hrow
              have hAb : Bytes A := by rw [← hA]; exact bytes_blk hbyE.bl (by omega)
              have hs1 : (Try.prog.info? 37).map (·.size) = some A.size := by rw [hAb.1]; exact size37
              have hz1 : (fill 0).size = A.size := by rw [hAb.1]; exact size_fill 0
              have ho1 := hrow.2
              have hz := zero37
              clear hrow hszE hmul
              obtain ⟨w6, rfl⟩ : ∃ w6, w6 = wr := ⟨_, rfl⟩
              go_wp2_with (first | (go_at_call 17; refine hrd.mono ?_; rintro e w7 ⟨rfl, k7⟩) | (refine wpList_store_row rfl 37 _ _ rfl w7.heap.size rfl A rfl 37 (fill 0) (heap_alloc2_x w7 _) hs1 hz1 ho1 ?_; intro w9 n8 k8'; have k8 : Keeps (fun _ => False) w6 w9 := k7.trans (((Keeps.refl _ _).alloc _).trans' k8' (fun k e => .inr (by omega)))))
              have g9 : w9.heap[gb']? = some (.cells rE.bl 37 (0, 0)) := (k8.block gb' (Array.getElem?_eq_some_iff.1 eB).1 (fun h => h)).trans eB
              have f0 := cell_keeps k8 e0 (fun h => h)
              have hc1 : cellsAt w9 w7.heap.size 0 128 = A := by rw [cellsAt, rowOf_of n8]; simp [← hAb.1]
              have hc2 : cellsAt w9 gb' (j * 128) 128 = A := by rw [cellsAt, rowOf_of g9]; exact hA
              have hsA := hAb.1
              have heq := eq_bytes hAb
              clear n8 hs1 hz1 ho1 hz hA e0
              refine wp_region_quiet_lit (by kernel_rfl) (by kernel_rfl) ?_
              iterate 3 go_big_quiet_step (fail)
              go_big_quiet_want
              refine quiet_load37 _ rfl w7.heap.size 0 rfl A hc1 hsA ?_
              go_simp
              go_big_quiet_on
              repeat (first | go_big_quiet_step (fail) | (go_big_quiet_want; refine quiet_load37 _ rfl w7.heap.size 0 rfl A hc1 hsA ?_; go_simp; go_big_quiet_on) | (go_big_quiet_want; refine quiet_load37 _ rfl gb' (j * 128) (by simp [Act.eval]) A hc2 hsA ?_; go_simp; go_big_quiet_on))
              refine wpQuiet_nil ?_
              intro _ hw'
              obtain ⟨nq, hw''⟩ := hw'
              subst hw''
              go_wp2
              exact ⟨⟨j + 1, by omega, by go_num, (hHr.kept k8).kept ((Keeps.refl _ _).drewN _), (hKr.trans k8).drewN _⟩, by simp [intOf]; omega⟩
            · obtain rfl : j = rE.n := by omega
              go_wp2_with (go_at_call 11; refine (wakes_any _).mono ?_; rintro e w3 ⟨rfl, k3⟩)
              go_ret
              exact ⟨rfl, hKr.trans k3⟩
    · have hn' : n < 16 ∨ 128 < n := by omega
      go_wp2_with fail
      refine (new_no n w' hn').mono ?_
      rintro e w1 ⟨rfl, rfl⟩
      go_wp2_with fail
      refine (rnew_no n _ hn').mono ?_
      rintro e w1 ⟨rfl, rfl⟩
      go_wp2
      go_loopw [9] (fun i wr => i = .int .i64 0 ∧ wr = w1) (fun i _ => 0)
      case atStart => exact ⟨rfl, rfl⟩
      case round =>
        obtain ⟨rfl, rfl⟩ := hrel
        by_cases hx0 : (0 : Int) < (xs.length : Int)
        · go_wp2_with (go_at_call 11; refine (wakes_any _).mono ?_; rintro e w3 ⟨rfl, k3⟩)
          go_ret
          exact ⟨rfl, k3⟩
        · go_wp2_with (go_at_call 11; refine (wakes_any _).mono ?_; rintro e w3 ⟨rfl, k3⟩)
          go_ret
          exact ⟨rfl, k3⟩

end Go.Proofs.Ytokgnfniaeeloaa
