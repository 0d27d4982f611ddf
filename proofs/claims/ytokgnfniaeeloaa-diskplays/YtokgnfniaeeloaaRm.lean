/-
  Crash.
-/
import Derived.Test.YtokgnfniaeeloaaRn
set_option linter.all false
namespace Go.Proofs.Ytokgnfniaeeloaa
open Go.RowKit Go.Shelf
attribute [local go_sem] Oper.semAt_some
attribute [local go_sem ↓] wpIn_at_zero wpIn_at_succ wpIn_copy
attribute [local go_sem] addrOf aggOf slAddr slLen slCap

theorem crash_nil (w : World) (vk : Value) (t : Int) : Calls Try.prog 21 #[.pointer none, vk, .int .i64 t] w fun e w' => e = .returned (.tuple #[]) ∧ Keeps (fun _ => False) w w' := by
  refine (callsIn_wide (n := 9)).1 ?_
  refine callsIn_of_wp_marks Try.func21 rfl trivial ?_ rfl
  simp only [Try.ntmps21, List.size_toArray, List.length_cons, List.length_nil, Nat.reduceAdd, Nat.reduceSub, Array.replicate_succ, Array.replicate_zero, List.push_toArray, List.append_toArray, List.nil_append, List.cons_append]
  gi_wp2
  exact ⟨_, results_none rfl _ _ _, rfl, ((Keeps.refl _ _).alloc _).alloc _⟩

theorem allocs4 (w W : World) (A B C D : Obj) (h : (((w.alloc A).alloc B).alloc C).alloc D = W) :
    W.heap[w.heap.size]? = some A ∧ W.heap[w.heap.size + 1]? = some B ∧ W.heap[w.heap.size + 1 + 1]? = some C ∧ W.heap[w.heap.size + 1 + 1 + 1]? = some D ∧ W.heap.size = w.heap.size + 4 ∧ Keeps (fun _ => False) w W := by
  obtain ⟨W3, h3⟩ : ∃ W3, ((w.alloc A).alloc B).alloc C = W3 := ⟨_, rfl⟩
  obtain ⟨g0, g1, g2, hs, hk⟩ := allocs3 w W3 A B C h3
  rw [h3] at h
  subst h
  refine ⟨?_, ?_, ?_, ?_, by simp [hs], hk.alloc _⟩
  · rw [Below.heap_alloc _ _ _ (by omega)]; exact g0
  · rw [Below.heap_alloc _ _ _ (by omega)]; exact g1
  · rw [Below.heap_alloc _ _ _ (by omega)]; exact g2
  · rw [show w.heap.size + 1 + 1 + 1 = W3.heap.size by omega]; exact heap_alloc2_x W3 D

/-- How many bytes of a block come through. -/
def cutOf (t : Int) (k : Nat) : Nat := if (k : Int) = t then 64 else 128
def crashStep (t : Int) (row : Array Value) (y : Nat × LW) : Array Value := over row (y.2.1.toNat * 128) (y.2.2.take (cutOf t y.1)).toArray
def crashRow (t : Int) (row : Array Value) (l : List (Nat × LW)) : Array Value := l.foldl (crashStep t) row

theorem size_crashRow (t : Int) (n : Nat) : ∀ (l : List (Nat × LW)) (row : Array Value), row.size = n * 128 → (∀ y ∈ l, LwOk y.2 ∧ 0 ≤ y.2.1 ∧ y.2.1 < (n : Int)) → (crashRow t row l).size = n * 128 := by
  intro l
  induction l with
  | nil => intro row h _; exact h
  | cons y l ih =>
    intro row h hl
    refine ih _ ?_ (fun z hz => hl z (by simp [hz]))
    obtain ⟨h1, h2, h3⟩ := hl y (by simp)
    unfold crashStep
    rw [size_over]
    · exact h
    · have hc : cutOf t y.1 ≤ 128 := by unfold cutOf; split <;> omega
      have : (y.2.1.toNat + 1) * 128 ≤ n * 128 := Nat.mul_le_mul_right 128 (by omega)
      simp
      omega

set_option maxRecDepth 100000 in
set_option maxHeartbeats 1000000 in
theorem crash_any (w : World) (p gb n : Nat) (vl : Value) (F dc t : Int) (dn : Bool) (ws : List LW) (bl : Array Value) (ka : Option Addr) (kc : Nat) (ks : List Int)
    (hD : DiskAt w p (.slice (some ⟨gb, 0, none⟩) n n) vl F dn dc) (hB : w.heap[gb]? = some (.cells bl 37 (0, 0))) (hbl : bl.size = n * 128)
    (hL : LooseAt w vl ws) (hlen : ws.length < 1000000) (hpl : ∀ x ∈ ws, 0 ≤ x.1 ∧ x.1 < (n : Int)) (hK : KeepAt w ka ks) (hka : ∀ b o, ka = some ⟨b, o, none⟩ → b ≠ gb) (hpg : p ≠ gb) (hlg : vl.ownBlock ≠ some gb) :
    Calls Try.prog 21 #[.pointer (some ⟨p, 0, none⟩), .slice ka ks.length kc, .int .i64 t] w fun e w' => e = .returned (.tuple #[]) ∧
      DiskAt w' p (.slice (some ⟨gb, 0, none⟩) n n) (.slice none 0 0) (-1) false dc ∧ w'.heap[gb]? = some (.cells (crashRow t bl (keptOf ks (idx ws))) 37 (0, 0)) ∧ Keeps (fun k => k = p ∨ k = gb) w w' := by
  refine (callsIn_wide (n := 9)).1 ?_
  refine callsIn_of_wp_marks Try.func21 rfl trivial ?_ rfl
  simp only [Try.ntmps21, List.size_toArray, List.length_cons, List.length_nil, Nat.reduceAdd, Nat.reduceSub, Array.replicate_succ, Array.replicate_zero, List.push_toArray, List.append_toArray, List.nil_append, List.cons_append]
  gi_wp2_with (refine ⟨trivial, ?_⟩; gi_at_call 34; refine (callsIn_wide.2 (kept_any _ (some ⟨p, 0, none⟩) ka ks.length kc)).mono ?_; rintro e w' ⟨rfl, rfl⟩)
  obtain ⟨W4, hW4⟩ : ∃ W4, (((w.alloc (.cells #[.pointer (some ⟨p, 0, none⟩)] 25)).alloc (.cells #[.int .i64 t] 3)).alloc (.cells #[.pointer (some ⟨p, 0, none⟩)] 25)).alloc (.cells #[.slice ka ks.length kc] 32) = W4 := ⟨_, rfl⟩
  rw [hW4]
  obtain ⟨g0, g1, g2, g3, hsz, k4⟩ := allocs4 w W4 _ _ _ _ hW4
  clear hW4
  have hD4 : DiskAt W4 p (.slice (some ⟨gb, 0, none⟩) n n) vl F dn dc := hD.kept k4 (fun h => h)
  have hgl : gb < w.heap.size := (Array.getElem?_eq_some_iff.1 hB).1
  have hB4 : W4.heap[gb]? = some (.cells bl 37 (0, 0)) := (k4.block gb hgl (fun h => h)).trans hB
  have hL4 : LooseAt W4 vl ws := hL.kept ⟨k4.size, fun g e => k4.block g (hL.lt g e) (fun h => h)⟩
  have hK4 : KeepAt W4 ka ks := hK.kept (S := (· = gb)) (k4.kpx (fun _ h => h.elim)) hka
  have hin : ∀ pre x rest, keptOf ks (idx ws) = pre ++ x :: rest → x.2 ∈ ws := fun pre x rest hx => by
    have hm : x ∈ keptOf ks (idx ws) := by rw [hx]; simp
    have hm2 : x ∈ idx ws := (List.mem_filter.1 hm).1
    simp only [idx, List.mem_map] at hm2
    obtain ⟨⟨u, j⟩, hu, rfl⟩ := hm2
    exact List.fst_mem_of_mem_zipIdx hu
  have hrow : ∀ pre x rest, keptOf ks (idx ws) = pre ++ x :: rest → (crashRow t bl pre).size = n * 128 := fun pre x rest hx => by
    refine size_crashRow t n pre bl hbl (fun y hy => ?_)
    obtain ⟨p1, p2, rfl⟩ := List.append_of_mem hy
    have hm : y.2 ∈ ws := hin p1 y (p2 ++ x :: rest) (by rw [hx]; simp)
    exact ⟨hL.ok _ hm, hpl _ hm⟩
  refine range_law (gf := 37) (lb := #[.pointer (some ⟨w.heap.size + 1 + 1, 0, none⟩), .pointer (some ⟨w.heap.size + 1 + 1 + 1, 0, none⟩)]) rfl (enters_of Try.func37 (by kernel_rfl) rfl)
    (kept1 (· = gb) W4 (w.heap.size + 1 + 1) (w.heap.size + 1 + 1 + 1) p _ vl F dn dc ws ka kc ks g2 g3 hD4 hL4 hlen (fun g e h => hlg (by rw [e, h])) (by omega) (by intro k hk; omega) hK4 hka) (fun h1 h2 => h1.trans h2) (fun W l o o' _ ho hc => KpX.putObj o' ho hc) (Below.refl _ _) (fun _ => rfl)
    (fun pre V => V.heap[gb]? = some (.cells (crashRow t bl pre) 37 (0, 0)) ∧ Keeps (· = gb) W4 V) (fun _ _ _ => False) ?hI ?hIx ⟨hB4, Keeps.refl _ _⟩
    (fun pre x a' V => (V.heap[gb]? = some (.cells (crashRow t bl pre) 37 (0, 0)) ∧ Keeps (· = gb) W4 V) ∧ ∃ b, W4.heap.size ≤ b ∧ V.heap[b]? = some (.cells (lcells x.2).toArray 65 (0, 0)) ∧ a' = { tmps := #[Value.pointer (some { block := p, off := 0 }), Value.slice ka ks.length kc, Value.int IntKind.i64 t, Value.pointer (some { block := w.heap.size, off := 0 }), undef, Value.pointer (some { block := w.heap.size + 1, off := 0 }), .int .i64 (x.1 : Int), .pointer (some ⟨b, 0, none⟩), undef, Value.pointer (some { block := p, off := 0 }), Value.bool false, Value.pointer (some { block := p, off := 0 }), Value.slice ka ks.length kc, Value.func (Fn.func 37) #[] #[Value.pointer (some { block := w.heap.size + 1 + 1, off := 0 }), Value.pointer (some { block := w.heap.size + 1 + 1 + 1, off := 0 })], .int .i64 (x.1 : Int), .agg (lcells x.2).toArray, undef, undef, undef, undef, undef, undef, undef, undef, undef, undef, undef, undef, undef, undef, undef, undef, undef, undef, undef, undef, undef, undef, undef, undef, undef], defers := [] })
    ?hAx ?assign ?body ?done ?stop
  case hI =>
    rintro s A B row ⟨h1, h2⟩ hg hr
    exact ⟨own_cells hg hr h1, own_keeps hg hr h2 (Nat.le_refl _)⟩
  case hIx => exact fun c s A B row h _ _ => h
  case hAx =>
    rintro pre x a' _ A B row ⟨⟨h1, h2⟩, b, h3, h4, h5⟩ hg hr
    exact ⟨⟨own_cells hg hr h1, own_keeps hg hr h2 (Nat.le_refl _)⟩, b, h3, own_cells hg hr h4, h5⟩
  case assign =>
    rintro l' pre x rest V K hx ⟨h1, h2⟩ hK'
    have hok : LwOk x.2 := hL4.ok x.2 (hin _ _ _ hx)
    have hsl : (lcells x.2).toArray.size = 129 := by simp [length_lcells hok]
    have hone : (lcells x.2).toArray.all (·.oneCell') = true := all_oneCell_toArray (one_lcells hok)
    have hi65 : (Try.prog.info? 65).map (·.size) = some (lcells x.2).toArray.size := by rw [hsl]; exact size65
    have hzs : wzero.size = (lcells x.2).toArray.size := by rw [hsl]; exact size_wzero
    have hz65 := zero65
    have HK : Hid (∀ a' W', _ → _ → _ → K a' W') := hK'
    clear hx hK' hok hsl hin hrow
    simp only [encW]
    gi_wp2_with (refine wpListIn_store_row rfl 65 _ _ rfl V.heap.size rfl (lcells x.2).toArray rfl 65 wzero (heap_alloc2_x V _) hi65 hzs hone ?_; intro w1 n1 k1 z1)
    have k0 : Keeps (fun _ => False) V w1 := ((Keeps.refl _ _).alloc _).trans' k1 (fun k e => .inr (by omega))
    refine HK.out _ _ (k0.from (fun _ _ h => h.elim)) (k0.kpx (fun _ h => h.elim)) ⟨⟨?_, h2.trans (k0.mono (fun _ _ h => h.elim))⟩, V.heap.size, h2.size, n1, rfl⟩
    exact (k0.block gb (Array.getElem?_eq_some_iff.1 h1).1 (fun h => h)).trans h1
  case body =>
    rintro l' pre x rest a' V hl hx ⟨⟨h1, h2⟩, b, h3, h4, rfl⟩
    have hm := hin _ _ _ hx
    have hok : LwOk x.2 := hL4.ok x.2 hm
    obtain ⟨q0, q1⟩ := hpl _ hm
    obtain ⟨i, hi⟩ := Int.eq_ofNat_of_zero_le q0
    have hiN : i < n := by omega
    have hsR := hrow _ _ _ hx
    have e0 : V.heap[w.heap.size]? = some (.cells #[.pointer (some ⟨p, 0, none⟩)] 25 (0, 0)) := (h2.block _ (by omega) (by omega)).trans g0
    have e1 : V.heap[w.heap.size + 1]? = some (.cells #[.int .i64 t] 3 (0, 0)) := (h2.block _ (by omega) (by omega)).trans g1
    have eD := hD4.kept h2 hpg
    have c0 : V.cell? ⟨w.heap.size, 0, none⟩ = some (.pointer (some ⟨p, 0, none⟩)) := by simp [World.cell?, e0]
    have c1 : V.cell? ⟨w.heap.size + 1, 0, none⟩ = some (.int .i64 t) := by simp [World.cell?, e1]
    have cp := eD.cells.1
    have cx : V.cell? ⟨b, 0, none⟩ = some (.int .i64 (i : Int)) := by simp [World.cell?, h4, lcells, hi]
    have hi0 : (0 : Int) ≤ (i : Int) := by omega
    have hi1 : (i : Int) < (n : Int) := by omega
    have hmul : (i + 1) * 128 ≤ n * 128 := Nat.mul_le_mul_right 128 hiN
    have src : ∀ m, m ≤ 128 → cellsAt V b 1 m = (x.2.2.take m).toArray := fun m hm => by
      rw [cellsAt, rowOf_of h4]
      apply Array.toList_inj.1
      simp [lcells]
    have srcOk : ∀ m, m ≤ 128 → SrcRow V.drew b 1 m := fun m hm => by
      have e : cellsAt V.drew b 1 m = (x.2.2.take m).toArray := src m hm
      refine ⟨by rw [e]; simp [hok.1]; omega, ?_⟩
      rw [e]
      exact all_oneCell_toArray (fun v hv => hok.2 v (List.mem_of_mem_take hv))
    have room : ∀ m, m ≤ 128 → RoomRow V.drew gb (i * 128 + m) := fun m hm => ⟨_, 37, h1, by rw [hsR]; omega⟩
    have fin : ∀ m, m = cutOf t x.1 → ∀ a3 : Act, ownPostG W4.heap.size (KpX (· = gb)) (fun pre V => V.heap[gb]? = some (.cells (crashRow t bl pre) 37 (0, 0)) ∧ Keeps (· = gb) W4 V) (fun _ _ _ => False) (pre ++ [x]) V .normal a3 (V.drew.setRow gb (over (crashRow t bl pre) (i * 128) (cellsAt V.drew b 1 m))) := fun m hmc a3 => by
      have hm128 : m ≤ 128 := by rw [hmc]; unfold cutOf; split <;> omega
      have kk : Keeps (· = gb) V (V.drew.setRow gb (over (crashRow t bl pre) (i * 128) (cellsAt V.drew b 1 m))) := ((Keeps.refl (· = gb) V).drew).setRow (.inl rfl) _
      refine ⟨kk.from (fun k _ e => ⟨_, 37, (0, 0), e ▸ h1⟩), kk.kpx (fun k e => .inl e), ?_, h2.trans kk⟩
      rw [setRow_heap V.drew gb _ _ _ _ h1]
      have e2 : cellsAt V.drew b 1 m = (x.2.2.take m).toArray := src m hm128
      rw [e2, hmc]
      simp [crashRow, crashStep, hi]
    have hbg : b ≠ gb := by omega
    have sgb : w.heap.size ≠ gb := by omega
    have fit : ∀ m, m ≤ 128 → i * 128 + m ≤ (crashRow t bl pre).size := fun m hm => by rw [hsR]; omega
    have kS : Hid (∀ X, (V.drew.setRow gb X).cell? ⟨w.heap.size, 0, none⟩ = some (.pointer (some ⟨p, 0, none⟩)) ∧ (V.drew.setRow gb X).cell? ⟨p, 0, none⟩ = some (.slice (some ⟨gb, 0, none⟩) n n) ∧ (V.drew.setRow gb X).cell? ⟨b, 0, none⟩ = some (.int .i64 (i : Int))) := fun X =>
      ⟨(World.cell?_of_block (w := V) (setRow_other V.drew gb _ X sgb)).trans c0, (World.cell?_of_block (w := V) (setRow_other V.drew gb _ X hpg)).trans cp, (World.cell?_of_block (w := V) (setRow_other V.drew gb _ X hbg)).trans cx⟩
    by_cases ht : (x.1 : Int) = t
    · have htb : ((x.1 : Int) == t) = true := by simpa using ht
      have s64 := srcOk 64 (by omega)
      have ft64 := fit 64 (by omega)
      have f64 : Hid _ := fin 64 (by simp [cutOf, ht])
      clear fin src srcOk room fit hx ht hin hrow hpl hok hi hm q0 q1 hD hB hbl hL hK hka hmul hsR
      gi_wp2
      have hS0 : V.drew.cell? ⟨w.heap.size, 0, none⟩ = some (.pointer (some ⟨p, 0, none⟩)) ∧ V.drew.cell? ⟨p, 0, none⟩ = some (.slice (some ⟨gb, 0, none⟩) n n) ∧ V.drew.cell? ⟨b, 0, none⟩ = some (.int .i64 (i : Int)) := ⟨c0, cp, cx⟩
      refine region_round (fun w' => w'.cell? ⟨w.heap.size, 0, none⟩ = some (.pointer (some ⟨p, 0, none⟩)) ∧ w'.cell? ⟨p, 0, none⟩ = some (.slice (some ⟨gb, 0, none⟩) n n) ∧ w'.cell? ⟨b, 0, none⟩ = some (.int .i64 (i : Int))) (by kernel_rfl) (by kernel_rfl) (by rintro ⟨_, _, h⟩; exact h) ?_
      refine wpAnyH_take (i := 0) (v := (.pointer (some ⟨p, 0, none⟩))) rfl (by kernel_rfl) (by kernel_rfl) (by kernel_rfl) (fun _ _ _ h => h) (Or.inl ⟨by rfl, ?_⟩) hS0 ?_
      · intro w' hSw; obtain ⟨s0, s1, s2⟩ := hSw; go_simp
      try simp only [Act.put, List.setIfInBounds_toArray, List.set_cons_zero, List.set_cons_succ]
      refine wpAnyH_take (i := 1) (v := (.pointer (some ⟨p, 0, none⟩))) rfl (by kernel_rfl) (by kernel_rfl) (by kernel_rfl) (fun _ _ _ h => h) (Or.inl ⟨by rfl, ?_⟩) hS0 ?_
      · intro w' hSw; obtain ⟨s0, s1, s2⟩ := hSw; go_simp
      try simp only [Act.put, List.setIfInBounds_toArray, List.set_cons_zero, List.set_cons_succ]
      refine wpAnyH_take (i := 2) (v := (.pointer (some ⟨p, 0, none⟩))) rfl (by kernel_rfl) (by kernel_rfl) (by kernel_rfl) (fun _ _ _ h => h) (Or.inl ⟨by rfl, ?_⟩) hS0 ?_
      · intro w' hSw; obtain ⟨s0, s1, s2⟩ := hSw; go_simp
      try simp only [Act.put, List.setIfInBounds_toArray, List.set_cons_zero, List.set_cons_succ]
      refine wpAnyH_take (i := 3) (v := (.slice (some ⟨gb, 0, none⟩) n n)) rfl (by kernel_rfl) (by kernel_rfl) (by kernel_rfl) (fun _ _ _ h => h) (Or.inl ⟨by rfl, ?_⟩) hS0 ?_
      · intro w' hSw; obtain ⟨s0, s1, s2⟩ := hSw; go_simp
      try simp only [Act.put, List.setIfInBounds_toArray, List.set_cons_zero, List.set_cons_succ]
      refine wpAnyH_take (i := 4) (v := (.pointer (some ⟨b, 0, none⟩))) rfl (by kernel_rfl) (by kernel_rfl) (by kernel_rfl) (fun _ _ _ h => h) (Or.inl ⟨by rfl, ?_⟩) hS0 ?_
      · intro w' hSw; obtain ⟨s0, s1, s2⟩ := hSw; go_simp
      try simp only [Act.put, List.setIfInBounds_toArray, List.set_cons_zero, List.set_cons_succ]
      refine wpAnyH_take (i := 5) (v := (.int .i64 (i : Int))) rfl (by kernel_rfl) (by kernel_rfl) (by kernel_rfl) (fun _ _ _ h => h) (Or.inl ⟨by rfl, ?_⟩) hS0 ?_
      · intro w' hSw; obtain ⟨s0, s1, s2⟩ := hSw; go_simp
      try simp only [Act.put, List.setIfInBounds_toArray, List.set_cons_zero, List.set_cons_succ]
      refine wpAnyH_take (i := 6) (v := (.pointer (some ⟨gb, i * 128, none⟩))) rfl (by kernel_rfl) (by kernel_rfl) (by kernel_rfl) (fun _ _ _ h => h) (Or.inl ⟨by rfl, ?_⟩) hS0 ?_
      · intro w' hSw; obtain ⟨s0, s1, s2⟩ := hSw; go_simp
      try simp only [Act.put, List.setIfInBounds_toArray, List.set_cons_zero, List.set_cons_succ]
      refine wpAnyH_take (i := 7) (v := (.int .i64 64)) rfl (by kernel_rfl) (by kernel_rfl) (by kernel_rfl) (fun _ _ _ h => h) (Or.inl ⟨by rfl, ?_⟩) hS0 ?_
      · intro w' hSw; obtain ⟨s0, s1, s2⟩ := hSw; go_simp
      try simp only [Act.put, List.setIfInBounds_toArray, List.set_cons_zero, List.set_cons_succ]
      refine wpAnyH_take (i := 8) (v := (.slice (some ⟨gb, i * 128, none⟩) 64 128)) rfl (by kernel_rfl) (by kernel_rfl) (by kernel_rfl) (fun _ _ _ h => h) (Or.inl ⟨by rfl, ?_⟩) hS0 ?_
      · intro w' hSw; obtain ⟨s0, s1, s2⟩ := hSw; go_simp
      try simp only [Act.put, List.setIfInBounds_toArray, List.set_cons_zero, List.set_cons_succ]
      refine wpAnyH_take (i := 9) (v := (.pointer (some ⟨b, 1, none⟩))) rfl (by kernel_rfl) (by kernel_rfl) (by kernel_rfl) (fun _ _ _ h => h) (Or.inl ⟨by rfl, ?_⟩) hS0 ?_
      · intro w' hSw; obtain ⟨s0, s1, s2⟩ := hSw; go_simp
      try simp only [Act.put, List.setIfInBounds_toArray, List.set_cons_zero, List.set_cons_succ]
      refine wpAnyH_take (i := 10) (v := (.int .i64 64)) rfl (by kernel_rfl) (by kernel_rfl) (by kernel_rfl) (fun _ _ _ h => h) (Or.inl ⟨by rfl, ?_⟩) hS0 ?_
      · intro w' hSw; obtain ⟨s0, s1, s2⟩ := hSw; go_simp
      try simp only [Act.put, List.setIfInBounds_toArray, List.set_cons_zero, List.set_cons_succ]
      refine wpAnyH_take (i := 11) (v := (.slice (some ⟨b, 1, none⟩) 64 128)) rfl (by kernel_rfl) (by kernel_rfl) (by kernel_rfl) (fun _ _ _ h => h) (Or.inl ⟨by rfl, ?_⟩) hS0 ?_
      · intro w' hSw; obtain ⟨s0, s1, s2⟩ := hSw; go_simp
      try simp only [Act.put, List.setIfInBounds_toArray, List.set_cons_zero, List.set_cons_succ]
      refine wpAnyH_ready (rs := [12]) (by kernel_rfl) (by simp) ?_
      refine AllReadyH.cons rfl (fun K hK => ?_) AllReadyH.nil
      rw [if_pos (by rfl)]
      refine op_copy (.tmp 27) (.tmp 30) rfl gb (i * 128) 64 128 b 1 128 (by simp [Act.eval]) (by simp [Act.eval]) (crashRow t bl pre) 37 h1 ft64 s64 ?_
      refine hK.out _ _ (kS.out _) (fun _ => wpAnyH_done (by kernel_rfl) ?_ _)
      clear hsz
      gi_wp2
      exact f64.out _
    · have htb : ((x.1 : Int) == t) = false := by simpa using ht
      have s128 := srcOk 128 (by omega)
      have ft128 := fit 128 (by omega)
      have f128 : Hid _ := fin 128 (by simp [cutOf, ht])
      clear fin src srcOk room fit hx ht hin hrow hpl hok hi hm q0 q1 hD hB hbl hL hK hka hmul hsR
      gi_wp2
      have hS0 : V.drew.cell? ⟨w.heap.size, 0, none⟩ = some (.pointer (some ⟨p, 0, none⟩)) ∧ V.drew.cell? ⟨p, 0, none⟩ = some (.slice (some ⟨gb, 0, none⟩) n n) ∧ V.drew.cell? ⟨b, 0, none⟩ = some (.int .i64 (i : Int)) := ⟨c0, cp, cx⟩
      refine region_round (fun w' => w'.cell? ⟨w.heap.size, 0, none⟩ = some (.pointer (some ⟨p, 0, none⟩)) ∧ w'.cell? ⟨p, 0, none⟩ = some (.slice (some ⟨gb, 0, none⟩) n n) ∧ w'.cell? ⟨b, 0, none⟩ = some (.int .i64 (i : Int))) (by kernel_rfl) (by kernel_rfl) (by rintro ⟨_, _, h⟩; exact h) ?_
      refine wpAnyH_take (i := 0) (v := (.pointer (some ⟨p, 0, none⟩))) rfl (by kernel_rfl) (by kernel_rfl) (by kernel_rfl) (fun _ _ _ h => h) (Or.inl ⟨by rfl, ?_⟩) hS0 ?_
      · intro w' hSw; obtain ⟨s0, s1, s2⟩ := hSw; go_simp
      try simp only [Act.put, List.setIfInBounds_toArray, List.set_cons_zero, List.set_cons_succ]
      refine wpAnyH_take (i := 1) (v := (.pointer (some ⟨p, 0, none⟩))) rfl (by kernel_rfl) (by kernel_rfl) (by kernel_rfl) (fun _ _ _ h => h) (Or.inl ⟨by rfl, ?_⟩) hS0 ?_
      · intro w' hSw; obtain ⟨s0, s1, s2⟩ := hSw; go_simp
      try simp only [Act.put, List.setIfInBounds_toArray, List.set_cons_zero, List.set_cons_succ]
      refine wpAnyH_take (i := 2) (v := (.pointer (some ⟨p, 0, none⟩))) rfl (by kernel_rfl) (by kernel_rfl) (by kernel_rfl) (fun _ _ _ h => h) (Or.inl ⟨by rfl, ?_⟩) hS0 ?_
      · intro w' hSw; obtain ⟨s0, s1, s2⟩ := hSw; go_simp
      try simp only [Act.put, List.setIfInBounds_toArray, List.set_cons_zero, List.set_cons_succ]
      refine wpAnyH_take (i := 3) (v := (.slice (some ⟨gb, 0, none⟩) n n)) rfl (by kernel_rfl) (by kernel_rfl) (by kernel_rfl) (fun _ _ _ h => h) (Or.inl ⟨by rfl, ?_⟩) hS0 ?_
      · intro w' hSw; obtain ⟨s0, s1, s2⟩ := hSw; go_simp
      try simp only [Act.put, List.setIfInBounds_toArray, List.set_cons_zero, List.set_cons_succ]
      refine wpAnyH_take (i := 4) (v := (.pointer (some ⟨b, 0, none⟩))) rfl (by kernel_rfl) (by kernel_rfl) (by kernel_rfl) (fun _ _ _ h => h) (Or.inl ⟨by rfl, ?_⟩) hS0 ?_
      · intro w' hSw; obtain ⟨s0, s1, s2⟩ := hSw; go_simp
      try simp only [Act.put, List.setIfInBounds_toArray, List.set_cons_zero, List.set_cons_succ]
      refine wpAnyH_take (i := 5) (v := (.int .i64 (i : Int))) rfl (by kernel_rfl) (by kernel_rfl) (by kernel_rfl) (fun _ _ _ h => h) (Or.inl ⟨by rfl, ?_⟩) hS0 ?_
      · intro w' hSw; obtain ⟨s0, s1, s2⟩ := hSw; go_simp
      try simp only [Act.put, List.setIfInBounds_toArray, List.set_cons_zero, List.set_cons_succ]
      refine wpAnyH_take (i := 6) (v := (.pointer (some ⟨gb, i * 128, none⟩))) rfl (by kernel_rfl) (by kernel_rfl) (by kernel_rfl) (fun _ _ _ h => h) (Or.inl ⟨by rfl, ?_⟩) hS0 ?_
      · intro w' hSw; obtain ⟨s0, s1, s2⟩ := hSw; go_simp
      try simp only [Act.put, List.setIfInBounds_toArray, List.set_cons_zero, List.set_cons_succ]
      refine wpAnyH_take (i := 7) (v := (.int .i64 128)) rfl (by kernel_rfl) (by kernel_rfl) (by kernel_rfl) (fun _ _ _ h => h) (Or.inl ⟨by rfl, ?_⟩) hS0 ?_
      · intro w' hSw; obtain ⟨s0, s1, s2⟩ := hSw; go_simp
      try simp only [Act.put, List.setIfInBounds_toArray, List.set_cons_zero, List.set_cons_succ]
      refine wpAnyH_take (i := 8) (v := (.slice (some ⟨gb, i * 128, none⟩) 128 128)) rfl (by kernel_rfl) (by kernel_rfl) (by kernel_rfl) (fun _ _ _ h => h) (Or.inl ⟨by rfl, ?_⟩) hS0 ?_
      · intro w' hSw; obtain ⟨s0, s1, s2⟩ := hSw; go_simp
      try simp only [Act.put, List.setIfInBounds_toArray, List.set_cons_zero, List.set_cons_succ]
      refine wpAnyH_take (i := 9) (v := (.pointer (some ⟨b, 1, none⟩))) rfl (by kernel_rfl) (by kernel_rfl) (by kernel_rfl) (fun _ _ _ h => h) (Or.inl ⟨by rfl, ?_⟩) hS0 ?_
      · intro w' hSw; obtain ⟨s0, s1, s2⟩ := hSw; go_simp
      try simp only [Act.put, List.setIfInBounds_toArray, List.set_cons_zero, List.set_cons_succ]
      refine wpAnyH_take (i := 10) (v := (.int .i64 128)) rfl (by kernel_rfl) (by kernel_rfl) (by kernel_rfl) (fun _ _ _ h => h) (Or.inl ⟨by rfl, ?_⟩) hS0 ?_
      · intro w' hSw; obtain ⟨s0, s1, s2⟩ := hSw; go_simp
      try simp only [Act.put, List.setIfInBounds_toArray, List.set_cons_zero, List.set_cons_succ]
      refine wpAnyH_take (i := 11) (v := (.slice (some ⟨b, 1, none⟩) 128 128)) rfl (by kernel_rfl) (by kernel_rfl) (by kernel_rfl) (fun _ _ _ h => h) (Or.inl ⟨by rfl, ?_⟩) hS0 ?_
      · intro w' hSw; obtain ⟨s0, s1, s2⟩ := hSw; go_simp
      try simp only [Act.put, List.setIfInBounds_toArray, List.set_cons_zero, List.set_cons_succ]
      refine wpAnyH_ready (rs := [12]) (by kernel_rfl) (by simp) ?_
      refine AllReadyH.cons rfl (fun K hK => ?_) AllReadyH.nil
      rw [if_pos (by rfl)]
      refine op_copy (.tmp 27) (.tmp 30) rfl gb (i * 128) 128 128 b 1 128 (by simp [Act.eval]) (by simp [Act.eval]) (crashRow t bl pre) 37 h1 ft128 s128 ?_
      refine hK.out _ _ (kS.out _) (fun _ => wpAnyH_done (by kernel_rfl) ?_ _)
      clear hsz
      gi_wp2
      exact f128.out _
  case done =>
    rintro D V hD' ⟨h1, h2⟩ hd
    have e0 : V.heap[w.heap.size]? = some (.cells #[.pointer (some ⟨p, 0, none⟩)] 25 (0, 0)) := (h2.block _ (by omega) (by omega)).trans g0
    have eD := hD4.kept h2 hpg
    have c0 : V.cell? ⟨w.heap.size, 0, none⟩ = some (.pointer (some ⟨p, 0, none⟩)) := by simp [World.cell?, e0]
    obtain ⟨d0, d1, d2, d3, d4⟩ := eD.cells
    have f1 := eD.free 1
    have f2 := eD.free 2
    have f3 := eD.free 3
    have hpl' : p ≠ w.heap.size := by have := hD.lt; omega
    clear hin hrow
    gi_wp2
    obtain ⟨V3, hV3⟩ : ∃ V3, ((V.setCell ⟨p, 1, none⟩ (.slice none 0 0)).setCell ⟨p, 2, none⟩ (.int .i64 (-1))).setCell ⟨p, 3, none⟩ (.bool false) = V3 := ⟨_, rfl⟩
    rw [hV3]
    have kp : Keeps (· = p) V V3 := by rw [← hV3]; exact (((Keeps.refl _ _).at 1 _).at 2 _).at 3 _
    have dp : DiskAt V3 p (.slice (some ⟨gb, 0, none⟩) n n) (.slice none 0 0) (-1) false dc := by rw [← hV3]; exact ((eD.set1 _).set2 _).set3 _
    have hp4 := hD.lt
    have hd3 : V3.heap[D]? = some (.deferred (some [])) := (kp.block D (Array.getElem?_eq_some_iff.1 hd).1 (by omega)).trans hd
    refine ⟨by simp, .inl ⟨_, _, rfl, run_takeDeferred hd3, ?_⟩⟩
    have kD : Keeps (fun k => k = p ∨ k = gb) W4 (V3.putObj D (.deferred none)) := ((h2.mono (fun k _ e => .inr e)).trans (kp.mono (fun k _ e => .inl e))).grown (grownBy_putObj' _ D _) (fun k e => by cases e; exact .inr hD')
    refine ⟨_, results_none rfl _ _ _, rfl, ?_, ?_, (k4.mono (fun _ _ h => h.elim)).trans kD⟩
    · exact (World.putObj_heap_other (by omega)).trans dp
    · rw [World.putObj_heap_other (by omega)]
      exact (kp.block gb (Array.getElem?_eq_some_iff.1 h1).1 (fun e => hpg e.symm)).trans h1
  case stop =>
    rintro D c pre x rest V hD' hx h hd
    exact h.elim

end Go.Proofs.Ytokgnfniaeeloaa
