/-
  Sync.
-/
import Derived.Test.YtokgnfniaeeloaaRm
set_option linter.all false
namespace Go.Proofs.Ytokgnfniaeeloaa
open Go.RowKit Go.Shelf
attribute [local go_sem] Oper.semAt_some

theorem sync_nil (w : World) : Calls Try.prog 19 #[.pointer none] w fun e w' => e = .returned (.int .i64 1) ∧ Keeps (fun _ => False) w w' := by
  refine (callsIn_wide (n := 9)).1 ?_
  refine callsIn_of_wp_marks Try.func19 rfl trivial ?_ rfl
  simp only [Try.ntmps19, List.size_toArray, List.length_cons, List.length_nil, Nat.reduceAdd, Nat.reduceSub, Array.replicate_succ, Array.replicate_zero, List.push_toArray, List.append_toArray, List.nil_append, List.cons_append]
  gi_wp2
  exact ⟨_, results_tmp rfl _ _ _, rfl, (Keeps.refl _ _).alloc _⟩

theorem sync_down (w : World) (p : Nat) (vb vl : Value) (F : Int) (dn : Bool) (dc : Int) (hD : DiskAt w p vb vl F dn dc) (hd : F = 0 ∨ dn = true) :
    Calls Try.prog 19 #[.pointer (some ⟨p, 0, none⟩)] w fun e w' => e = .returned (.int .i64 12) ∧ DiskAt w' p vb vl F true dc ∧ Keeps (· = p) w w' := by
  refine (callsIn_wide (n := 9)).1 ?_
  refine callsIn_of_wp_marks Try.func19 rfl trivial ?_ rfl
  simp only [Try.ntmps19, List.size_toArray, List.length_cons, List.length_nil, Nat.reduceAdd, Nat.reduceSub, Array.replicate_succ, Array.replicate_zero, List.push_toArray, List.append_toArray, List.nil_append, List.cons_append]
  gi_wp2_with (refine ⟨trivial, ?_⟩; gi_at_call 29; refine (callsIn_wide.2 (burn_down _ p vb vl F dn dc (hD.alloc _) hd)).mono ?_; rintro e w1 ⟨rfl, hD1, hK1⟩)
  exact ⟨_, results_tmp rfl _ _ _, rfl, hD1, ((Keeps.refl _ _).alloc _).trans hK1⟩

theorem op_store37 {o : Oper} {a : Act} {w : World} {K : Act → World → Prop} {Q : Exit → Act → World → Prop} (x y : Operand) (ho : o.op = .store 37 x y) (g off : Nat) (new : Array Value)
    (hx : a.eval x = .pointer (some ⟨g, off, none⟩)) (hy : a.eval y = .agg new) (cur : Array Value) (t : TypeId) (hg : w.heap[g]? = some (.cells cur t (0, 0))) (hfit : off + 128 ≤ cur.size) (hs : new.size = 128) (h1 : AllOne new)
    (h : K (a.put o.dst undef) (w.setRow g (over cur off new))) : o.wp Try.prog a w K Q := by
  have hr := run_storeVar_over w g off t 37 cur new hg (by rw [hs]; exact size37) (by rw [hs]; exact hfit) h1
  unfold Oper.wp execOp
  simp only [ho, hx, hy, Instr.storeAt, Instr.sureAddr, Sem.run_bind, Sem.run_pure, Result.andThen_ok, hr]
  exact h

theorem held_store37 {md : Region.Mode} {ops : Array Oper} {Q : Exit → Act → World → Prop} {S : World → Prop} {fuel : Nat} {listed : Array Bool} {a : Act} {w : World} {i : Nat} {o : Oper} (hr : Region.ready md ops listed = [i]) (ho : ops[i]? = some o) (hgd : o.guard = none)
    (x y : Operand) (hop : o.op = .store 37 x y) (g off : Nat) (new : Array Value) (hx : a.eval x = .pointer (some ⟨g, off, none⟩)) (hy : a.eval y = .agg new) (cur : Array Value) (t : TypeId) (hg : w.heap[g]? = some (.cells cur t (0, 0))) (hfit : off + 128 ≤ cur.size) (hs : new.size = 128) (h1 : AllOne new)
    (hS : S (w.setRow g (over cur off new))) (h : wpAnyH Try.prog md ops Q S fuel (listed.setIfInBounds i true) (a.put o.dst undef) (w.setRow g (over cur off new))) : wpAnyH Try.prog md ops Q S (fuel + 1) listed a w := by
  refine wpAnyH_ready hr (by simp) (AllReadyH.cons ho (fun K hK => ?_) AllReadyH.nil)
  have hw : Region.wanted o (yielded ops a.tmps) = true := by simp [Region.wanted, hgd]
  rw [if_pos hw]
  exact op_store37 x y hop g off new hx hy cur t hg hfit hs h1 (hK.out _ _ hS (fun _ => h))

set_option maxRecDepth 100000 in
set_option maxHeartbeats 1000000 in
theorem sync_goes (w : World) (p gb n : Nat) (vl : Value) (F dc : Int) (ws : List LW) (bl : Array Value)
    (hD : DiskAt w p (.slice (some ⟨gb, 0, none⟩) n n) vl F false dc) (hB : w.heap[gb]? = some (.cells bl 37 (0, 0))) (hbl : bl.size = n * 128)
    (hL : LooseAt w vl ws) (hlen : ws.length < 1000000) (hpl : ∀ x ∈ ws, 0 ≤ x.1 ∧ x.1 < (n : Int)) (hpg : p ≠ gb) (hlg : vl.ownBlock ≠ some gb) (hlp : vl.ownBlock ≠ some p)
    (hF : F ≠ 0) (hlo : -9223372036854775808 ≤ F) (hhi : F ≤ 9223372036854775807) (hd0 : 0 ≤ dc) (hd1 : dc < 1000000) :
    Calls Try.prog 19 #[.pointer (some ⟨p, 0, none⟩)] w fun e w' => e = .returned (.int .i64 0) ∧
      DiskAt w' p (.slice (some ⟨gb, 0, none⟩) n n) (.slice none 0 0) (burnt F) false (dc + 1) ∧ w'.heap[gb]? = some (.cells (crashRow (-1) bl (idx ws)) 37 (0, 0)) ∧ Keeps (fun k => k = p ∨ k = gb) w w' := by
  refine (callsIn_wide (n := 9)).1 ?_
  refine callsIn_of_wp_marks Try.func19 rfl trivial ?_ rfl
  simp only [Try.ntmps19, List.size_toArray, List.length_cons, List.length_nil, Nat.reduceAdd, Nat.reduceSub, Array.replicate_succ, Array.replicate_zero, List.push_toArray, List.append_toArray, List.nil_append, List.cons_append]
  have hpw := hD.lt
  have hgl : gb < w.heap.size := (Array.getElem?_eq_some_iff.1 hB).1
  have hvl := hL.lt
  gi_wp2_with (first | (refine ⟨trivial, ?_⟩; gi_at_call 29; refine (callsIn_wide.2 (burn_goes _ p _ vl F dc (hD.alloc _) hF hlo hhi hd0 hd1)).mono ?_; rintro e w1 ⟨rfl, hD1, hK1⟩; have b1 : w1.heap[w.heap.size]? = some (.cells #[.pointer (some ⟨p, 0, none⟩)] 25 (0, 0)) := (hK1.block _ (by simp) (by omega)).trans (heap_alloc2_x w _); have cb1 : w1.cell? ⟨w.heap.size, 0, none⟩ = some (.pointer (some ⟨p, 0, none⟩)) := (by simp [World.cell?, b1])) | (refine ⟨trivial, ?_⟩; gi_at_call 33; refine (callsIn_wide.2 (writes_any w1 (some ⟨p, 0, none⟩))).mono ?_; rintro e w' ⟨rfl, rfl⟩))
  obtain ⟨W4, hW4⟩ : ∃ W4, w1.alloc (.cells #[.pointer (some ⟨p, 0, none⟩)] 25) = W4 := ⟨_, rfl⟩
  rw [hW4]
  have hs1 := hK1.size
  simp only [World.size_alloc] at hs1
  have k4 : Keeps (· = p) w W4 := by rw [← hW4]; exact (((Keeps.refl _ _).alloc _).trans hK1).alloc _
  have g2 : W4.heap[w1.heap.size]? = some (.cells #[.pointer (some ⟨p, 0, none⟩)] 25 (0, 0)) := by rw [← hW4]; exact heap_alloc2_x w1 _
  have g0 : W4.heap[w.heap.size]? = some (.cells #[.pointer (some ⟨p, 0, none⟩)] 25 (0, 0)) := by rw [← hW4]; exact (Below.heap_alloc w1 _ _ (by omega)).trans b1
  have hsz : W4.heap.size = w1.heap.size + 1 := by rw [← hW4]; simp
  have hD4 : DiskAt W4 p (.slice (some ⟨gb, 0, none⟩) n n) vl (burnt F) false (dc + 1) := by rw [← hW4]; exact hD1.alloc _
  have hB4 : W4.heap[gb]? = some (.cells bl 37 (0, 0)) := (k4.block gb hgl (fun e => hpg e.symm)).trans hB
  have hL4 : LooseAt W4 vl ws := hL.kept ⟨k4.size, fun g e => k4.block g (hL.lt g e) (fun h => hlp (by rw [e, h]))⟩
  clear hW4 hK1 hD1 b1 cb1
  have hin : ∀ pre x rest, idx ws = pre ++ x :: rest → x.2 ∈ ws := fun pre x rest hx => by rw [(idx_split hx).2.1]; simp
  have hrow : ∀ pre x rest, idx ws = pre ++ x :: rest → (crashRow (-1) bl pre).size = n * 128 := fun pre x rest hx => by
    refine size_crashRow (-1) n pre bl hbl (fun y hy => ?_)
    obtain ⟨p1, p2, rfl⟩ := List.append_of_mem hy
    have hm : y.2 ∈ ws := hin p1 y (p2 ++ x :: rest) (by rw [hx]; simp)
    exact ⟨hL.ok _ hm, hpl _ hm⟩
  refine range_law (gf := 36) (lb := #[.pointer (some ⟨w1.heap.size, 0, none⟩)]) rfl (enters_of Try.func36 (by kernel_rfl) rfl)
    (writes1 (· = gb) W4 w1.heap.size p _ vl (burnt F) false (dc + 1) ws g2 hD4 hL4 hlen (fun g e h => hlg (by rw [e, h]))) (fun h1 h2 => h1.trans h2) (fun W l o o' _ ho hc => KpX.putObj o' ho hc) (Below.refl _ _) (fun _ => rfl)
    (fun pre V => V.heap[gb]? = some (.cells (crashRow (-1) bl pre) 37 (0, 0)) ∧ Keeps (· = gb) W4 V) (fun _ _ _ => False) ?hI ?hIx ⟨hB4, Keeps.refl _ _⟩
    (fun pre x a' V => (V.heap[gb]? = some (.cells (crashRow (-1) bl pre) 37 (0, 0)) ∧ Keeps (· = gb) W4 V) ∧ ∃ b, W4.heap.size ≤ b ∧ V.heap[b]? = some (.cells (lcells x.2).toArray 65 (0, 0)) ∧ a' = { tmps := #[Value.pointer (some { block := p, off := 0 }), Value.pointer (some { block := w.heap.size, off := 0 }), Value.int IntKind.i64 0, Value.int IntKind.i64 0, undef, .pointer (some ⟨b, 0, none⟩), Value.pointer (some { block := p, off := 0 }), Value.bool false, Value.pointer (some { block := p, off := 0 }), Value.int IntKind.i64 0, Value.int IntKind.i64 0, Value.bool false, undef, Value.pointer (some { block := p, off := 0 }), Value.func (Fn.func 36) #[] #[Value.pointer (some { block := w1.heap.size, off := 0 })], .int .i64 (x.1 : Int), .agg (lcells x.2).toArray, undef, undef, undef, undef, undef, undef, undef, undef, undef, undef, undef, undef], defers := [] })
    ?hAx ?assign ?body ?done ?stop
  case hI =>
    rintro s A B row ⟨h1, h2⟩ hg hr
    exact ⟨own_cells hg hr h1, own_keeps hg hr h2 (Nat.le_refl _)⟩
  case hIx => exact fun c s A B row h _ _ => h
  case hAx =>
    rintro pre x a' _ A B row ⟨⟨h1, h2⟩, b, h3, h4, h5⟩ hg hr
    exact ⟨⟨own_cells hg hr h1, own_keeps hg hr h2 (Nat.le_refl _)⟩, b, h3, own_cells hg hr h4, h5⟩
  case assign =>
    rintro l' pre x rest V K hx ⟨h1, h2⟩ hK'
    have hok : LwOk x.2 := hL4.ok x.2 (hin _ _ _ hx)
    have hsl : (lcells x.2).toArray.size = 129 := by simp [length_lcells hok]
    have hone : (lcells x.2).toArray.all (·.oneCell') = true := all_oneCell_toArray (one_lcells hok)
    have hi65 : (Try.prog.info? 65).map (·.size) = some (lcells x.2).toArray.size := by rw [hsl]; exact size65
    have hzs : wzero.size = (lcells x.2).toArray.size := by rw [hsl]; exact size_wzero
    have hz65 := zero65
    have HK : Hid (∀ a' W', _ → _ → _ → K a' W') := hK'
    clear hx hK' hok hsl hin hrow
    simp only [encW]
    gi_wp2_with (refine wpListIn_store_row rfl 65 _ _ rfl V.heap.size rfl (lcells x.2).toArray rfl 65 wzero (heap_alloc2_x V _) hi65 hzs hone ?_; intro w1 n1 k1 z1)
    have k0 : Keeps (fun _ => False) V w1 := ((Keeps.refl _ _).alloc _).trans' k1 (fun k e => .inr (by omega))
    refine HK.out _ _ (k0.from (fun _ _ h => h.elim)) (k0.kpx (fun _ h => h.elim)) ⟨⟨?_, h2.trans (k0.mono (fun _ _ h => h.elim))⟩, V.heap.size, h2.size, n1, rfl⟩
    exact (k0.block gb (Array.getElem?_eq_some_iff.1 h1).1 (fun h => h)).trans h1
  case body =>
    rintro l' pre x rest a' V hl hx ⟨⟨h1, h2⟩, b, h3, h4, rfl⟩
    have hm := hin _ _ _ hx
    have hok : LwOk x.2 := hL4.ok x.2 hm
    obtain ⟨q0, q1⟩ := hpl _ hm
    obtain ⟨i, hi⟩ := Int.eq_ofNat_of_zero_le q0
    have hiN : i < n := by omega
    have hsR := hrow _ _ _ hx
    have e0 : V.heap[w.heap.size]? = some (.cells #[.pointer (some ⟨p, 0, none⟩)] 25 (0, 0)) := (h2.block _ (by omega) (by omega)).trans g0
    have eD := hD4.kept h2 hpg
    have c0 : V.cell? ⟨w.heap.size, 0, none⟩ = some (.pointer (some ⟨p, 0, none⟩)) := by simp [World.cell?, e0]
    have cp := eD.cells.1
    have cx : V.cell? ⟨b, 0, none⟩ = some (.int .i64 (i : Int)) := by simp [World.cell?, h4, lcells, hi]
    have hi0 : (0 : Int) ≤ (i : Int) := by omega
    have hi1 : (i : Int) < (n : Int) := by omega
    have hmul : (i + 1) * 128 ≤ n * 128 := Nat.mul_le_mul_right 128 hiN
    have rx : V.rangeAt b 1 x.2.2 := fun j v hv => by
      rw [cell_of_row V b (1 + j) _ _ _ h4, Nat.add_comm 1 j]
      simpa [lcells] using hv
    have hi37 : (Try.prog.info? 37).map (·.size) = some x.2.2.length := by rw [hok.1]; exact size37
    have hsz2 : x.2.2.toArray.size = 128 := by simp [hok.1]
    have hone : AllOne x.2.2.toArray := all_oneCell_toArray hok.2
    have hbg : b ≠ gb := by omega
    have sgb : w.heap.size ≠ gb := by omega
    have fit : i * 128 + 128 ≤ (crashRow (-1) bl pre).size := by rw [hsR]; omega
    have kS : Hid (∀ X, (V.drew.setRow gb X).cell? ⟨w.heap.size, 0, none⟩ = some (.pointer (some ⟨p, 0, none⟩)) ∧ (V.drew.setRow gb X).cell? ⟨p, 0, none⟩ = some (.slice (some ⟨gb, 0, none⟩) n n) ∧ (V.drew.setRow gb X).cell? ⟨b, 0, none⟩ = some (.int .i64 (i : Int)) ∧ (V.drew.setRow gb X).rangeAt b 1 x.2.2) := fun X =>
      ⟨(World.cell?_of_block (w := V) (setRow_other V.drew gb _ X sgb)).trans c0, (World.cell?_of_block (w := V) (setRow_other V.drew gb _ X hpg)).trans cp, (World.cell?_of_block (w := V) (setRow_other V.drew gb _ X hbg)).trans cx, fun j v hv => (World.cell?_of_block (w := V) (a := ⟨b, 1 + j, none⟩) (setRow_other V.drew gb _ X hbg)).trans (rx j v hv)⟩
    have fin : Hid (∀ a3 : Act, ownPostG W4.heap.size (KpX (· = gb)) (fun pre V => V.heap[gb]? = some (.cells (crashRow (-1) bl pre) 37 (0, 0)) ∧ Keeps (· = gb) W4 V) (fun _ _ _ => False) (pre ++ [x]) V .normal a3 (V.drew.setRow gb (over (crashRow (-1) bl pre) (i * 128) x.2.2.toArray))) := fun a3 => by
      have kk : Keeps (· = gb) V (V.drew.setRow gb (over (crashRow (-1) bl pre) (i * 128) x.2.2.toArray)) := ((Keeps.refl (· = gb) V).drew).setRow (.inl rfl) _
      refine ⟨kk.from (fun k _ e => ⟨_, 37, (0, 0), e ▸ h1⟩), kk.kpx (fun k e => .inl e), ?_, h2.trans kk⟩
      rw [setRow_heap V.drew gb _ _ _ _ h1]
      have hcut : cutOf (-1) x.1 = 128 := by unfold cutOf; rw [if_neg (by omega)]
      simp [crashRow, crashStep, hi, hcut, List.take_of_length_le (Nat.le_of_eq hok.1)]
    have hS0 : V.drew.cell? ⟨w.heap.size, 0, none⟩ = some (.pointer (some ⟨p, 0, none⟩)) ∧ V.drew.cell? ⟨p, 0, none⟩ = some (.slice (some ⟨gb, 0, none⟩) n n) ∧ V.drew.cell? ⟨b, 0, none⟩ = some (.int .i64 (i : Int)) ∧ V.drew.rangeAt b 1 x.2.2 := ⟨c0, cp, cx, rx⟩
    clear hx hin hrow hpl hok hi hm q0 q1 hD hB hbl hL hmul hsR
    gi_wp2
    refine region_round (fun w' => w'.cell? ⟨w.heap.size, 0, none⟩ = some (.pointer (some ⟨p, 0, none⟩)) ∧ w'.cell? ⟨p, 0, none⟩ = some (.slice (some ⟨gb, 0, none⟩) n n) ∧ w'.cell? ⟨b, 0, none⟩ = some (.int .i64 (i : Int)) ∧ w'.rangeAt b 1 x.2.2) (by kernel_rfl) (by kernel_rfl) (by rintro ⟨_, _, h⟩; exact h) ?_
    refine wpAnyH_take (i := 0) (v := (.pointer (some ⟨p, 0, none⟩))) rfl (by kernel_rfl) (by kernel_rfl) (by kernel_rfl) (fun _ _ _ h => h) (Or.inl ⟨by rfl, ?_⟩) hS0 ?_
    · intro w' hSw; obtain ⟨s0, s1, s2, s3⟩ := hSw; go_simp
    try simp only [Act.put, List.setIfInBounds_toArray, List.set_cons_zero, List.set_cons_succ]
    refine wpAnyH_take (i := 1) (v := (.pointer (some ⟨p, 0, none⟩))) rfl (by kernel_rfl) (by kernel_rfl) (by kernel_rfl) (fun _ _ _ h => h) (Or.inl ⟨by rfl, ?_⟩) hS0 ?_
    · intro w' hSw; obtain ⟨s0, s1, s2, s3⟩ := hSw; go_simp
    try simp only [Act.put, List.setIfInBounds_toArray, List.set_cons_zero, List.set_cons_succ]
    refine wpAnyH_take (i := 2) (v := (.pointer (some ⟨p, 0, none⟩))) rfl (by kernel_rfl) (by kernel_rfl) (by kernel_rfl) (fun _ _ _ h => h) (Or.inl ⟨by rfl, ?_⟩) hS0 ?_
    · intro w' hSw; obtain ⟨s0, s1, s2, s3⟩ := hSw; go_simp
    try simp only [Act.put, List.setIfInBounds_toArray, List.set_cons_zero, List.set_cons_succ]
    refine wpAnyH_take (i := 3) (v := (.slice (some ⟨gb, 0, none⟩) n n)) rfl (by kernel_rfl) (by kernel_rfl) (by kernel_rfl) (fun _ _ _ h => h) (Or.inl ⟨by rfl, ?_⟩) hS0 ?_
    · intro w' hSw; obtain ⟨s0, s1, s2, s3⟩ := hSw; go_simp
    try simp only [Act.put, List.setIfInBounds_toArray, List.set_cons_zero, List.set_cons_succ]
    refine wpAnyH_take (i := 4) (v := (.pointer (some ⟨b, 0, none⟩))) rfl (by kernel_rfl) (by kernel_rfl) (by kernel_rfl) (fun _ _ _ h => h) (Or.inl ⟨by rfl, ?_⟩) hS0 ?_
    · intro w' hSw; obtain ⟨s0, s1, s2, s3⟩ := hSw; go_simp
    try simp only [Act.put, List.setIfInBounds_toArray, List.set_cons_zero, List.set_cons_succ]
    refine wpAnyH_take (i := 5) (v := (.int .i64 (i : Int))) rfl (by kernel_rfl) (by kernel_rfl) (by kernel_rfl) (fun _ _ _ h => h) (Or.inl ⟨by rfl, ?_⟩) hS0 ?_
    · intro w' hSw; obtain ⟨s0, s1, s2, s3⟩ := hSw; go_simp
    try simp only [Act.put, List.setIfInBounds_toArray, List.set_cons_zero, List.set_cons_succ]
    refine wpAnyH_take (i := 6) (v := (.pointer (some ⟨b, 1, none⟩))) rfl (by kernel_rfl) (by kernel_rfl) (by kernel_rfl) (fun _ _ _ h => h) (Or.inl ⟨by rfl, ?_⟩) hS0 ?_
    · intro w' hSw; obtain ⟨s0, s1, s2, s3⟩ := hSw; go_simp
    try simp only [Act.put, List.setIfInBounds_toArray, List.set_cons_zero, List.set_cons_succ]
    refine wpAnyH_take (i := 7) (v := .agg x.2.2.toArray) rfl (by kernel_rfl) (by kernel_rfl) (by kernel_rfl) (fun _ _ _ h => h) (yieldsIf_load_mid (by rfl) 37 (.tmp 23) rfl b 1 (by simp [Act.eval]) x.2.2 _ (fun w' h => h.2.2.2) Try.underlying37 rfl hi37) hS0 ?_
    try simp only [Act.put, List.setIfInBounds_toArray, List.set_cons_zero, List.set_cons_succ]
    refine wpAnyH_take (i := 8) (v := (.pointer (some ⟨gb, i * 128, none⟩))) rfl (by kernel_rfl) (by kernel_rfl) (by kernel_rfl) (fun _ _ _ h => h) (Or.inl ⟨by rfl, ?_⟩) hS0 ?_
    · intro w' hSw; obtain ⟨s0, s1, s2, s3⟩ := hSw; go_simp
    try simp only [Act.put, List.setIfInBounds_toArray, List.set_cons_zero, List.set_cons_succ]
    refine held_store37 (i := 9) (by kernel_rfl) rfl rfl (.tmp 25) (.tmp 24) rfl gb (i * 128) x.2.2.toArray (by simp [Act.eval]) (by simp [Act.eval]) (crashRow (-1) bl pre) 37 h1 fit hsz2 hone (kS.out _) (wpAnyH_done (by kernel_rfl) ?_ _)
    clear hsz
    gi_wp2
    exact fin.out _
  case done =>
    rintro D V hD' ⟨h1, h2⟩ hd
    have e0 : V.heap[w.heap.size]? = some (.cells #[.pointer (some ⟨p, 0, none⟩)] 25 (0, 0)) := (h2.block _ (by omega) (by omega)).trans g0
    have eD := hD4.kept h2 hpg
    have c0 : V.cell? ⟨w.heap.size, 0, none⟩ = some (.pointer (some ⟨p, 0, none⟩)) := by simp [World.cell?, e0]
    have d1 := eD.cells.2.1
    have f1 := eD.free 1
    clear hin hrow
    gi_wp2
    obtain ⟨V3, hV3⟩ : ∃ V3, V.setCell ⟨p, 1, none⟩ (.slice none 0 0) = V3 := ⟨_, rfl⟩
    rw [hV3]
    have kp : Keeps (· = p) V V3 := by rw [← hV3]; exact (Keeps.refl _ _).at 1 _
    have dp : DiskAt V3 p (.slice (some ⟨gb, 0, none⟩) n n) (.slice none 0 0) (burnt F) false (dc + 1) := by rw [← hV3]; exact eD.set1 _
    have hd3 : V3.heap[D]? = some (.deferred (some [])) := (kp.block D (Array.getElem?_eq_some_iff.1 hd).1 (by omega)).trans hd
    refine ⟨by simp, .inl ⟨_, _, rfl, run_takeDeferred hd3, ?_⟩⟩
    have kD : Keeps (fun k => k = p ∨ k = gb) W4 (V3.putObj D (.deferred none)) := ((h2.mono (fun k _ e => .inr e)).trans (kp.mono (fun k _ e => .inl e))).grown (grownBy_putObj' _ D _) (fun k e => by cases e; exact .inr hD')
    refine ⟨_, results_tmp rfl _ _ _, rfl, ?_, ?_, (k4.mono (fun _ _ h => .inl h)).trans kD⟩
    · exact (World.putObj_heap_other (by omega)).trans dp
    · rw [World.putObj_heap_other (by omega)]
      exact (kp.block gb (Array.getElem?_eq_some_iff.1 h1).1 (fun e => hpg e.symm)).trans h1
  case stop =>
    rintro D c pre x rest V hD' hx h hd
    exact h.elim

end Go.Proofs.Ytokgnfniaeeloaa
