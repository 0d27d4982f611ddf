/-
  ShaOrder: the walk.
-/
import Derived.Test.YtnocpnpjjiodiaaDoorAp
set_option linter.all false
namespace Go.Proofs.YtnocpnpjjiodiaaDoor
open Go.RowKit Go.Sort

/-- A whole row is read in a region that only reads. -/
theorem quiet_row_at {o : Oper} {a : Act} {C : World → Prop} {K : Act → Prop} (ty : TypeId) (x : Operand) (ho : o.op = .load ty x) (g off : Nat) (hx : a.eval x = .pointer (some ⟨g, off, none⟩)) (cs : Array Value) (hc : ∀ w, C w → w.rangeAt g off cs.toList) {u : TypeDesc} (hu : Tryd.prog.underlying ty = some u) (hd : u.isRow = true)
    (hi : (Tryd.prog.info? ty).map (·.size) = some cs.size) (hk : K (a.put o.dst (.agg cs))) : o.quiet Tryd.prog a C K := by
  refine ⟨.agg cs, fun w hw => ?_, hk⟩
  have hr := run_loadVar_mid (P := Tryd.prog) w g off ty cs.toList _ (hc w hw) hu hd (by rw [Array.length_toList]; exact hi)
  rw [Array.toArray_toList] at hr
  unfold Oper.quietAt execOp
  simp only [ho, hx, Instr.loadAt, Instr.sureAddr, Sem.run_bind, Sem.run_pure, Result.andThen_ok, hr]
  exact ⟨rfl, rfl⟩
/-- .. in a region that stands in its order, guarded or not. -/
theorem wpList_load_want {ops : Array Oper} {rest : List Oper} {o : Oper} {a : Act} {w : World} {Q : Exit → Act → World → Prop} (hw : Region.wanted o (yielded ops a.tmps) = true) (ty : TypeId) (x : Operand) (ho : o.op = .load ty x) (g off : Nat) (hx : a.eval x = .pointer (some ⟨g, off, none⟩)) (cs : Array Value) (hc : w.rangeAt g off cs.toList) {u : TypeDesc} (hu : Tryd.prog.underlying ty = some u) (hd : u.isRow = true)
    (hi : (Tryd.prog.info? ty).map (·.size) = some cs.size) (h : wpList Tryd.prog ops Q rest (a.put o.dst (.agg cs)) w) : wpList Tryd.prog ops Q (o :: rest) a w := by
  have hr := run_loadVar_mid (P := Tryd.prog) w g off ty cs.toList _ hc hu hd (by rw [Array.length_toList]; exact hi)
  rw [Array.toArray_toList] at hr
  unfold wpList
  rw [if_pos hw]
  left
  unfold Oper.wp execOp
  simp only [ho, hx, Instr.loadAt, Instr.sureAddr, Sem.run_bind, Sem.run_pure, Result.andThen_ok, hr]
  exact h

theorem range_mid {w : World} {g : Nat} {l : List B} {t : TypeId} {fr : Nat × Nat} (h : w.heap[g]? = some (.cells (brow l) t fr)) (o n : Nat) : w.rangeAt g o (brow ((l.drop o).take n)).toList := fun j v hv => by
  rw [cell_of_row w _ _ _ _ _ h, brow_get]
  simp [brow, List.getElem?_take, List.getElem?_drop] at hv
  obtain ⟨_, b, hb, rfl⟩ := hv
  rw [hb]; rfl

theorem less_cls {x y : List B} {v : Bool} (h : Hid (lessB x y = v)) (hx : x.length = 32) (hy : y.length = 32) {w0 w1 : World} (hw : ∃ p : Regrown, w1 = grow (redrawn w0 p.d) p.os) :
    Calls Tryd.prog 14 #[.agg (brow x), .agg (brow y)] w1 fun e w'' => e = .returned (.bool v) ∧ ∃ p : Regrown, w'' = grow (redrawn w0 p.d) p.os := by
  refine (less14 w1 x y hx hy).mono fun e w'' ⟨he, hk⟩ => ⟨?_, cls_keeps ((keeps_cls hw).trans hk)⟩
  rw [he, ← h.out]; rfl
theorem less_at {x y : List B} {v : Bool} (h : Hid (lessB x y = v)) (hx : x.length = 32) (hy : y.length = 32) (w : World) :
    Calls Tryd.prog 14 #[.agg (brow x), .agg (brow y)] w fun e w'' => e = .returned (.bool v) ∧ Keeps (fun _ => False) w w'' := by
  rw [← h.out]; exact less14 w x y hx hy

theorem wakes_any (w : World) (hT : Tabs w) : Calls Tryd.prog 6 #[] w fun e w' => e = .returned (.bool true) ∧ Keeps (fun _ => False) w w' :=
  wakes6 w hT _ _ _ (show _ = _ from rfl) (show _ = _ from rfl) (show _ = _ from rfl) (sha_len _) (sha_len _) (by rw [List.length_take, sha_len]; rfl)

theorem of_cls {w0 w1 : World} {k k' : Int} {a : Option Addr} {n c : Nat} {l X : List B} (hX : Hid (sha (kb k :: l) = X)) (hk : kb k' = kb k) (hT : Tabs w0) (hl : SlB w0 a n c l) (hn : n < 800000) (hw : ∃ p : Regrown, w1 = grow (redrawn w0 p.d) p.os) :
    Calls Tryd.prog 10 #[.int .i64 k', .slice a n c] w1 fun e w'' => e = .returned (.agg (brow X)) ∧ ∃ p : Regrown, w'' = grow (redrawn w0 p.d) p.os := by
  have hk1 := keeps_cls hw
  refine (of10 w1 k' a n c l (hT.keeps hk1 (fun h => h) (fun h => h)) (hl.keeps hk1 (fun _ _ _ _ h => h)) hn).mono fun e w'' ⟨he, hk2⟩ => ⟨?_, cls_keeps (hk1.trans hk2)⟩
  rw [he, hk, hX.out]
theorem bytes_cls {w0 w1 : World} {a1 a2 : Option Addr} {n1 c1 n2 c2 : Nat} {x : List B} (h1 : SlB w0 a1 n1 c1 x) (h2 : SlB w0 a2 n2 c2 x) (hw : ∃ p : Regrown, w1 = grow (redrawn w0 p.d) p.os) :
    Calls Tryd.prog 12 #[.slice a1 n1 c1, .slice a2 n2 c2] w1 fun e w'' => e = .returned (.bool true) ∧ ∃ p : Regrown, w'' = grow (redrawn w0 p.d) p.os := by
  have hk1 := keeps_cls hw
  refine (bytes12 w1 a1 a2 n1 c1 n2 c2 x x (h1.keeps hk1 (fun _ _ _ _ h => h)) (h2.keeps hk1 (fun _ _ _ _ h => h))).mono fun e w'' ⟨he, hw2⟩ => ⟨?_, hw2 ▸ hw⟩
  rw [he, decide_eq_true rfl]
theorem wakes_cls {w0 w1 : World} (hT : Tabs w0) (hw : ∃ p : Regrown, w1 = grow (redrawn w0 p.d) p.os) :
    Calls Tryd.prog 6 #[] w1 fun e w'' => e = .returned (.bool true) ∧ ∃ p : Regrown, w'' = grow (redrawn w0 p.d) p.os := by
  have hk1 := keeps_cls hw
  exact (wakes_any w1 (hT.keeps hk1 (fun h => h) (fun h => h))).mono fun e w'' ⟨he, hk2⟩ => ⟨he, cls_keeps (hk1.trans hk2)⟩
theorem sum_at {L X : List B} (hX : Hid (sha L = X)) (w : World) (hT : Tabs w) (a : Option Addr) (n c : Nat) (hl : SlB w a n c L) (hn : n < 900000) :
    Calls Tryd.prog 8 #[.slice a n c] w fun e w' => e = .returned (.agg (brow X)) ∧ Keeps (fun _ => False) w w' := by
  rw [← hX.out]; exact sum8 w a n c L hT hl hn
theorem check_at {L X C : List B} (hX : Hid (sha L = X)) (hC : Hid (X.take 4 = C)) (w : World) (hT : Tabs w) (a : Option Addr) (n c : Nat) (hl : SlB w a n c L) (hn : n < 900000) :
    Calls Tryd.prog 7 #[.slice a n c] w fun e w' => e = .returned (.agg (brow C)) ∧ Keeps (fun _ => False) w w' := by
  rw [← hC.out, ← hX.out]; exact check7 w a n c L hT hl hn
theorem kb_add (k : Int) : kb (k + 256) = kb k := nb_inj (by rw [nb_kb, nb_kb]; omega)
theorem row_kb (k : Int) (hk : 0 ≤ k ∧ k < 256) : #[Value.int .u8 k] = brow [kb k] := by
  have : nb (kb k) = k := by rw [nb_kb]; omega
  simp [brow, vb, this]
theorem own_kb (w : World) (k : Int) (hk : 0 ≤ k ∧ k < 256) : OwnB (w.alloc (.cells #[.int .u8 k] 5)) w.heap.size (.slice (some ⟨w.heap.size, 0, none⟩) 1 1) [kb k] :=
  OwnB.row (t := 5) (l := [kb k]) (by rw [← row_kb k hk]; exact heap_alloc_new w _) (Nat.le_refl _) (by simp)

set_option maxRecDepth 100000 in
set_option maxHeartbeats 4000000 in
theorem order_case (w : World) (hT : Tabs w) (D : List B) (hD : D.length = 96) (k : Int) (hk : 0 ≤ k ∧ k < 256) (a : Option Addr) (n c : Nat) (l : List B) (hl : SlB w a n c l) (hnc : a = none → c = 0) (hn : n ≤ 3000)
    (x y z : List B) (hx : x = (D.drop 0).take 32) (hy : y = (D.drop 32).take 32) (hz : z = (D.drop 64).take 32) (va vb ve vyz vxz : Bool) (h1 : Hid (lessB x y = va)) (h2 : Hid (lessB y x = vb)) (h3 : decide (x = y) = ve) (h4 : Hid (lessB y z = vyz)) (h5 : Hid (lessB x z = vxz))
    (hcase : (va = false ∧ vb = false ∧ ve = true) ∨ (va = false ∧ vb = true ∧ ve = false) ∨ (va = true ∧ vb = false ∧ ve = false ∧ vyz = false) ∨ (va = true ∧ vb = false ∧ ve = false ∧ vyz = true ∧ vxz = true)) :
    Calls Tryd.prog 4 #[.agg (brow D), .int .u8 k, .slice a n c] w fun e w' => e = .returned (.bool true) ∧ Keeps (fun _ => False) w w' := by
  have lx : x.length = 32 := by rw [hx]; simp [hD]
  have ly : y.length = 32 := by rw [hy]; simp [hD]
  have lz : z.length = 32 := by rw [hz]; simp [hD]
  have ix : (Tryd.prog.info? 24).map (·.size) = some (brow x).size := by rw [size_brow, lx]; exact size24
  have iy : (Tryd.prog.info? 24).map (·.size) = some (brow y).size := by rw [size_brow, ly]; exact size24
  have iz : (Tryd.prog.info? 24).map (·.size) = some (brow z).size := by rw [size_brow, lz]; exact size24
  have Ix : Hid ((Tryd.prog.info? 24).map (·.size) = some (brow x).size) := ix
  have Iy : Hid ((Tryd.prog.info? 24).map (·.size) = some (brow y).size) := iy
  have Iz : Hid ((Tryd.prog.info? 24).map (·.size) = some (brow z).size) := iz
  have h6 : Hid (lessB x x = false) := less_self x
  have HR : Hid (∀ w', Keeps (fun _ => False) (w.alloc (.cells (brow D) 35)) w' → w'.rangeAt w.heap.size 0 (brow x).toList ∧ w'.rangeAt w.heap.size 32 (brow y).toList ∧ w'.rangeAt w.heap.size 64 (brow z).toList) := fun w' hk => by
    have g := hk.row (heap_alloc_new w _) (fun h => h)
    rw [hx, hy, hz]
    exact ⟨range_mid g 0 32, range_mid g 32 32, range_mid g 64 32⟩
  have HRc : Hid (∀ w', (∃ p : Regrown, w' = grow (redrawn (w.alloc (.cells (brow D) 35)) p.d) p.os) → w'.rangeAt w.heap.size 0 (brow x).toList ∧ w'.rangeAt w.heap.size 32 (brow y).toList ∧ w'.rangeAt w.heap.size 64 (brow z).toList) := fun w' hp => HR.out _ (keeps_cls hp)
  have heq : ∀ w, (Op.equalIn 10000 24 (.agg (brow x)) (.agg (brow y))).run Tryd.prog w = .ok ve w := fun w => by rw [← h3]; exact eq24 x y lx ly w
  have hn' : ¬ (3000 : Int) < (n : Int) := by omega
  obtain ⟨X, hXe⟩ : ∃ X, sha (kb k :: l) = X := ⟨_, rfl⟩
  have HX : Hid (sha (kb k :: l) = X) := hXe
  obtain ⟨C, hCe⟩ : ∃ C, X.take 4 = C := ⟨_, rfl⟩
  have HC : Hid (X.take 4 = C) := hCe
  have lX : X.length = 32 := by rw [← hXe]; exact sha_len _
  have lC : C.length = 4 := by rw [← hCe, List.length_take, lX]; rfl
  have hz24 := zero24
  have hs3 : (Tryd.prog.info? 24).map (·.size) = some (brow X).size := by rw [size_brow, lX]; exact size24
  have hs4 : (brow (zb 32)).size = (brow X).size := by rw [size_brow, size_brow, lX, zb_len]
  have hone2 := brow_one X
  have hs7 : (Tryd.prog.info? 27).map (·.size) = some (brow C).size := by rw [size_brow, lC]; exact size27
  have hs8 : (#[.int .u8 0, .int .u8 0, .int .u8 0, .int .u8 0] : Array Value).size = (brow C).size := by rw [size_brow, lC]; rfl
  have hone4 := brow_one C
  have IX : Hid ((Tryd.prog.info? 24).map (·.size) = some (brow X).size) := hs3
  have heqX : ∀ w, (Op.equalIn 10000 24 (.agg (brow X)) (.agg (brow X))).run Tryd.prog w = .ok true w := fun w => by
    have := eq24 X X lX lX w
    rwa [decide_eq_true rfl] at this
  obtain ⟨hk0, hk255⟩ := hk
  clear hx hy hz ix iy iz h3 hXe hCe
  go_enter Tryd.func4, Tryd.ntmps4
  go_wp2
  refine wp_region_quiet_below (by kernel_rfl) (by kernel_rfl) ?_
  iterate 12 (first | (go_big_quiet_want; refine quiet_row_at _ _ rfl w.heap.size 0 rfl (brow x) (fun w' hp => (HRc.out w' hp).1) Tryd.underlying24 rfl Ix.out ?_; simp only [Act.put, List.setIfInBounds_toArray, List.set_cons_zero, List.set_cons_succ]; go_big_quiet_on) | (go_big_quiet_want; refine quiet_row_at _ _ rfl w.heap.size 32 rfl (brow y) (fun w' hp => (HRc.out w' hp).2.1) Tryd.underlying24 rfl Iy.out ?_; simp only [Act.put, List.setIfInBounds_toArray, List.set_cons_zero, List.set_cons_succ]; go_big_quiet_on) | go_big_quiet_step (fail) | (go_big_quiet_want; go_big_quiet_op; apply Exists.intro; refine ⟨fun _ => less_cls h1 lx ly ⟨_, rfl⟩, ?_⟩; go_big_quiet_on) | (go_big_quiet_want; go_big_quiet_op; apply Exists.intro; refine ⟨fun _ => less_cls h2 ly lx ⟨_, rfl⟩, ?_⟩; go_big_quiet_on))
  refine wpQuiet_nil ?_
  intro w2 hw2
  rename_i Kn hKn
  refine hKn _ _ ?_
  repeat (refine wp_seq ?_)
  rcases hcase with ⟨rfl, rfl, rfl⟩ | ⟨rfl, rfl, rfl⟩ | ⟨rfl, rfl, rfl, rfl⟩ | ⟨rfl, rfl, rfl, rfl, rfl⟩
  · refine plain_quiet (C := fun w' => ∃ p : Regrown, w' = grow (redrawn (w.alloc (.cells (brow D) 35)) p.d) p.os) hw2 ?_
    iterate 41 (first | go_big_quiet_skip | (go_big_quiet_want; refine quiet_row_at _ _ rfl w.heap.size 0 rfl (brow x) (fun w' hp => (HRc.out w' hp).1) Tryd.underlying24 rfl Ix.out ?_; simp only [Act.put, List.setIfInBounds_toArray, List.set_cons_zero, List.set_cons_succ]; go_big_quiet_on) | (go_big_quiet_want; refine quiet_row_at _ _ rfl w.heap.size 32 rfl (brow y) (fun w' hp => (HRc.out w' hp).2.1) Tryd.underlying24 rfl Iy.out ?_; simp only [Act.put, List.setIfInBounds_toArray, List.set_cons_zero, List.set_cons_succ]; go_big_quiet_on) | (go_big_quiet_want; refine quiet_row_at _ _ rfl w.heap.size 64 rfl (brow z) (fun w' hp => (HRc.out w' hp).2.2) Tryd.underlying24 rfl Iz.out ?_; simp only [Act.put, List.setIfInBounds_toArray, List.set_cons_zero, List.set_cons_succ]; go_big_quiet_on) | go_big_quiet_step (fail) | (go_big_quiet_want; go_big_quiet_op; apply Exists.intro; refine ⟨fun _ => less_cls h6 lx lx ⟨_, rfl⟩, ?_⟩; go_big_quiet_on) | (go_big_quiet_want; go_big_quiet_op; apply Exists.intro; refine ⟨fun _ => less_cls h4 ly lz ⟨_, rfl⟩, ?_⟩; go_big_quiet_on) | (go_big_quiet_want; go_big_quiet_op; apply Exists.intro; refine ⟨fun _ => less_cls h5 lx lz ⟨_, rfl⟩, ?_⟩; go_big_quiet_on))
    refine wpQuiet_nil ?_
    intro w3 hw3
    have hk3 := keeps_cls hw3
    have hk03 := (keeps_alloc w (.cells (brow D) 35)).trans hk3
    have hT3 := hT.keeps hk03 (fun h => h) (fun h => h)
    have hl3 := hl.keeps hk03 (fun _ _ _ _ h => h)
    have hown := own_kb w3 k ⟨hk0, hk255⟩
    have hk34 := keeps_alloc w3 (.cells #[.int .u8 k] 5)
    have hz03 := hk03.size
    clear hw2 hw3 HRc HR hk3 h1 h2 h4 h5 h6 Ix Iy Iz heq
    go_wp2_with (first | (refine wpList_buildSlice1 rfl _ rfl _ rfl ?_) | (refine wpList_app rfl _ _ rfl w3.heap.size _ [kb k] rfl hown a n c l rfl (hl3.keeps hk34 (fun _ _ _ _ h => h)) hnc (by simp; omega) (by simp) ?_; intro v' w5 hO5 hk5; obtain ⟨a', n', c', rfl, hs5, _, _⟩ := hO5.slice; have hk05 : Keeps (fun _ => False) w w5 := (hk03.alloc _).trans' hk5 (fun i e => .inr (by omega)); have hT5 := hT.keeps hk05 (fun h => h) (fun h => h); have hl5 := hl.keeps hk05 (fun _ _ _ _ h => h); have hn5 : n' < 800000 := (by have h1 := hs5.len; have h2 := hl.len; simp at h1; omega); clear hO5 hk5 hown hk34) | (go_at_call 8; refine (sum_at HX _ hT5 _ _ _ hs5 (by omega)).mono ?_; rintro e w6 ⟨rfl, hk6⟩; have hk06 := hk05.trans hk6; have hT6 := hT5.keeps hk6 (fun h => h) (fun h => h); have hs6 := hs5.keeps hk6 (fun _ _ _ _ h => h)) | (go_at_call 7; refine (check_at HX HC _ hT6 _ _ _ hs6 (by omega)).mono ?_; rintro e w7 ⟨rfl, hk7⟩; have hk07 := hk06.trans hk7) | (refine wpList_store_row rfl rfl 24 _ _ rfl w7.heap.size rfl (brow X) rfl 24 (brow (zb 32)) (heap_alloc2_old w7 _ _) hs3 hs4 hone2 ?_; intro w8 g8 hk8 hz8; clear hz8) | (refine wpList_store_row rfl rfl 27 _ _ rfl (w7.heap.size + 1) rfl (brow C) rfl 27 _ (hk8.row (heap_alloc2_new w7 _ _) (by omega)) hs7 hs8 hone4 ?_; intro w9 g9 hk9 hz9; clear hz9; have g89 := hk9.row g8 (by omega); have hk09 : Keeps (fun _ => False) w w9 := (((hk07.alloc _).alloc _).trans' hk8 (fun i e => .inr (by have := hk07.size; omega))).trans' hk9 (fun i e => .inr (by have := hk07.size; omega)); clear hk8 hk9 g8))
    have hT9 := hT.keeps hk09 (fun h => h) (fun h => h)
    have hl9 := hl.keeps hk09 (fun _ _ _ _ h => h)
    have sX : SlB w9 (some ⟨w7.heap.size, 0, none⟩) 4 32 C := by
      have := SlB.ofRow g89 0 4 32 (by rw [lX]; omega) (by omega)
      rwa [List.drop_zero, HC.out] at this
    have sC : SlB w9 (some ⟨w7.heap.size + 1, 0, none⟩) 4 4 C := by
      have := SlB.ofRow g9 0 4 4 (by rw [lC]; omega) (by omega)
      rwa [List.drop_zero, List.take_of_length_le (by omega)] at this
    have HrX : Hid (∀ w', (∃ p : Regrown, w' = grow (redrawn w9 p.d) p.os) → w'.rangeAt w7.heap.size 0 (brow X).toList) := fun w' hp => by
      have := range_mid ((keeps_cls hp).row g89 (fun h => h)) 0 32
      rwa [List.drop_zero, List.take_of_length_le (by omega)] at this
    clear g89 g9 hs3 hs4 hs7 hs8 hone2 hone4 hz24 hs5 hs6 hT5 hT6 hl5 hk06 hk07 hk05 hk6 hk7
    refine wp_region_quiet_below (by kernel_rfl) (by kernel_rfl) ?_
    iterate 24 (first | (go_big_quiet_want; refine quiet_row_at _ _ rfl w7.heap.size 0 rfl (brow X) HrX.out Tryd.underlying24 rfl IX.out ?_; simp only [Act.put, List.setIfInBounds_toArray, List.set_cons_zero, List.set_cons_succ]; go_big_quiet_on) | go_big_quiet_step (fail) | (go_big_quiet_want; go_big_quiet_op; apply Exists.intro; refine ⟨fun _ => of_cls HX rfl hT9 hl9 (by omega) ⟨_, rfl⟩, ?_⟩; go_big_quiet_on) | (go_big_quiet_want; go_big_quiet_op; apply Exists.intro; refine ⟨fun _ => of_cls HX (kb_add k) hT9 hl9 (by omega) ⟨_, rfl⟩, ?_⟩; go_big_quiet_on) | (go_big_quiet_want; go_big_quiet_op; apply Exists.intro; refine ⟨fun _ => bytes_cls sC sX ⟨_, rfl⟩, ?_⟩; go_big_quiet_on) | (go_big_quiet_want; go_big_quiet_op; apply Exists.intro; refine ⟨fun _ => wakes_cls hT9 ⟨_, rfl⟩, ?_⟩; go_big_quiet_on))
    refine wpQuiet_nil ?_
    intro w10 hw10
    go_wp2
    go_ret
    exact ⟨rfl, hk09.trans (keeps_cls hw10)⟩
  · refine plain_quiet (C := fun w' => ∃ p : Regrown, w' = grow (redrawn (w.alloc (.cells (brow D) 35)) p.d) p.os) hw2 ?_
    iterate 41 (first | go_big_quiet_skip | (go_big_quiet_want; refine quiet_row_at _ _ rfl w.heap.size 0 rfl (brow x) (fun w' hp => (HRc.out w' hp).1) Tryd.underlying24 rfl Ix.out ?_; simp only [Act.put, List.setIfInBounds_toArray, List.set_cons_zero, List.set_cons_succ]; go_big_quiet_on) | (go_big_quiet_want; refine quiet_row_at _ _ rfl w.heap.size 32 rfl (brow y) (fun w' hp => (HRc.out w' hp).2.1) Tryd.underlying24 rfl Iy.out ?_; simp only [Act.put, List.setIfInBounds_toArray, List.set_cons_zero, List.set_cons_succ]; go_big_quiet_on) | (go_big_quiet_want; refine quiet_row_at _ _ rfl w.heap.size 64 rfl (brow z) (fun w' hp => (HRc.out w' hp).2.2) Tryd.underlying24 rfl Iz.out ?_; simp only [Act.put, List.setIfInBounds_toArray, List.set_cons_zero, List.set_cons_succ]; go_big_quiet_on) | go_big_quiet_step (fail) | (go_big_quiet_want; go_big_quiet_op; apply Exists.intro; refine ⟨fun _ => less_cls h6 lx lx ⟨_, rfl⟩, ?_⟩; go_big_quiet_on) | (go_big_quiet_want; go_big_quiet_op; apply Exists.intro; refine ⟨fun _ => less_cls h4 ly lz ⟨_, rfl⟩, ?_⟩; go_big_quiet_on) | (go_big_quiet_want; go_big_quiet_op; apply Exists.intro; refine ⟨fun _ => less_cls h5 lx lz ⟨_, rfl⟩, ?_⟩; go_big_quiet_on))
    refine wpQuiet_nil ?_
    intro w3 hw3
    have hk3 := keeps_cls hw3
    have hk03 := (keeps_alloc w (.cells (brow D) 35)).trans hk3
    have hT3 := hT.keeps hk03 (fun h => h) (fun h => h)
    have hl3 := hl.keeps hk03 (fun _ _ _ _ h => h)
    have hown := own_kb w3 k ⟨hk0, hk255⟩
    have hk34 := keeps_alloc w3 (.cells #[.int .u8 k] 5)
    have hz03 := hk03.size
    clear hw2 hw3 HRc HR hk3 h1 h2 h4 h5 h6 Ix Iy Iz heq
    go_wp2_with (first | (refine wpList_buildSlice1 rfl _ rfl _ rfl ?_) | (refine wpList_app rfl _ _ rfl w3.heap.size _ [kb k] rfl hown a n c l rfl (hl3.keeps hk34 (fun _ _ _ _ h => h)) hnc (by simp; omega) (by simp) ?_; intro v' w5 hO5 hk5; obtain ⟨a', n', c', rfl, hs5, _, _⟩ := hO5.slice; have hk05 : Keeps (fun _ => False) w w5 := (hk03.alloc _).trans' hk5 (fun i e => .inr (by omega)); have hT5 := hT.keeps hk05 (fun h => h) (fun h => h); have hl5 := hl.keeps hk05 (fun _ _ _ _ h => h); have hn5 : n' < 800000 := (by have h1 := hs5.len; have h2 := hl.len; simp at h1; omega); clear hO5 hk5 hown hk34) | (go_at_call 8; refine (sum_at HX _ hT5 _ _ _ hs5 (by omega)).mono ?_; rintro e w6 ⟨rfl, hk6⟩; have hk06 := hk05.trans hk6; have hT6 := hT5.keeps hk6 (fun h => h) (fun h => h); have hs6 := hs5.keeps hk6 (fun _ _ _ _ h => h)) | (go_at_call 7; refine (check_at HX HC _ hT6 _ _ _ hs6 (by omega)).mono ?_; rintro e w7 ⟨rfl, hk7⟩; have hk07 := hk06.trans hk7) | (refine wpList_store_row rfl rfl 24 _ _ rfl w7.heap.size rfl (brow X) rfl 24 (brow (zb 32)) (heap_alloc2_old w7 _ _) hs3 hs4 hone2 ?_; intro w8 g8 hk8 hz8; clear hz8) | (refine wpList_store_row rfl rfl 27 _ _ rfl (w7.heap.size + 1) rfl (brow C) rfl 27 _ (hk8.row (heap_alloc2_new w7 _ _) (by omega)) hs7 hs8 hone4 ?_; intro w9 g9 hk9 hz9; clear hz9; have g89 := hk9.row g8 (by omega); have hk09 : Keeps (fun _ => False) w w9 := (((hk07.alloc _).alloc _).trans' hk8 (fun i e => .inr (by have := hk07.size; omega))).trans' hk9 (fun i e => .inr (by have := hk07.size; omega)); clear hk8 hk9 g8))
    have hT9 := hT.keeps hk09 (fun h => h) (fun h => h)
    have hl9 := hl.keeps hk09 (fun _ _ _ _ h => h)
    have sX : SlB w9 (some ⟨w7.heap.size, 0, none⟩) 4 32 C := by
      have := SlB.ofRow g89 0 4 32 (by rw [lX]; omega) (by omega)
      rwa [List.drop_zero, HC.out] at this
    have sC : SlB w9 (some ⟨w7.heap.size + 1, 0, none⟩) 4 4 C := by
      have := SlB.ofRow g9 0 4 4 (by rw [lC]; omega) (by omega)
      rwa [List.drop_zero, List.take_of_length_le (by omega)] at this
    have HrX : Hid (∀ w', (∃ p : Regrown, w' = grow (redrawn w9 p.d) p.os) → w'.rangeAt w7.heap.size 0 (brow X).toList) := fun w' hp => by
      have := range_mid ((keeps_cls hp).row g89 (fun h => h)) 0 32
      rwa [List.drop_zero, List.take_of_length_le (by omega)] at this
    clear g89 g9 hs3 hs4 hs7 hs8 hone2 hone4 hz24 hs5 hs6 hT5 hT6 hl5 hk06 hk07 hk05 hk6 hk7
    refine wp_region_quiet_below (by kernel_rfl) (by kernel_rfl) ?_
    iterate 24 (first | (go_big_quiet_want; refine quiet_row_at _ _ rfl w7.heap.size 0 rfl (brow X) HrX.out Tryd.underlying24 rfl IX.out ?_; simp only [Act.put, List.setIfInBounds_toArray, List.set_cons_zero, List.set_cons_succ]; go_big_quiet_on) | go_big_quiet_step (fail) | (go_big_quiet_want; go_big_quiet_op; apply Exists.intro; refine ⟨fun _ => of_cls HX rfl hT9 hl9 (by omega) ⟨_, rfl⟩, ?_⟩; go_big_quiet_on) | (go_big_quiet_want; go_big_quiet_op; apply Exists.intro; refine ⟨fun _ => of_cls HX (kb_add k) hT9 hl9 (by omega) ⟨_, rfl⟩, ?_⟩; go_big_quiet_on) | (go_big_quiet_want; go_big_quiet_op; apply Exists.intro; refine ⟨fun _ => bytes_cls sC sX ⟨_, rfl⟩, ?_⟩; go_big_quiet_on) | (go_big_quiet_want; go_big_quiet_op; apply Exists.intro; refine ⟨fun _ => wakes_cls hT9 ⟨_, rfl⟩, ?_⟩; go_big_quiet_on))
    refine wpQuiet_nil ?_
    intro w10 hw10
    go_wp2
    go_ret
    exact ⟨rfl, hk09.trans (keeps_cls hw10)⟩
  · refine plain_quiet (C := fun w' => ∃ p : Regrown, w' = grow (redrawn (w.alloc (.cells (brow D) 35)) p.d) p.os) hw2 ?_
    iterate 41 (first | go_big_quiet_skip | (go_big_quiet_want; refine quiet_row_at _ _ rfl w.heap.size 0 rfl (brow x) (fun w' hp => (HRc.out w' hp).1) Tryd.underlying24 rfl Ix.out ?_; simp only [Act.put, List.setIfInBounds_toArray, List.set_cons_zero, List.set_cons_succ]; go_big_quiet_on) | (go_big_quiet_want; refine quiet_row_at _ _ rfl w.heap.size 32 rfl (brow y) (fun w' hp => (HRc.out w' hp).2.1) Tryd.underlying24 rfl Iy.out ?_; simp only [Act.put, List.setIfInBounds_toArray, List.set_cons_zero, List.set_cons_succ]; go_big_quiet_on) | (go_big_quiet_want; refine quiet_row_at _ _ rfl w.heap.size 64 rfl (brow z) (fun w' hp => (HRc.out w' hp).2.2) Tryd.underlying24 rfl Iz.out ?_; simp only [Act.put, List.setIfInBounds_toArray, List.set_cons_zero, List.set_cons_succ]; go_big_quiet_on) | go_big_quiet_step (fail) | (go_big_quiet_want; go_big_quiet_op; apply Exists.intro; refine ⟨fun _ => less_cls h6 lx lx ⟨_, rfl⟩, ?_⟩; go_big_quiet_on) | (go_big_quiet_want; go_big_quiet_op; apply Exists.intro; refine ⟨fun _ => less_cls h4 ly lz ⟨_, rfl⟩, ?_⟩; go_big_quiet_on) | (go_big_quiet_want; go_big_quiet_op; apply Exists.intro; refine ⟨fun _ => less_cls h5 lx lz ⟨_, rfl⟩, ?_⟩; go_big_quiet_on))
    refine wpQuiet_nil ?_
    intro w3 hw3
    have hk3 := keeps_cls hw3
    have hk03 := (keeps_alloc w (.cells (brow D) 35)).trans hk3
    have hT3 := hT.keeps hk03 (fun h => h) (fun h => h)
    have hl3 := hl.keeps hk03 (fun _ _ _ _ h => h)
    have hown := own_kb w3 k ⟨hk0, hk255⟩
    have hk34 := keeps_alloc w3 (.cells #[.int .u8 k] 5)
    have hz03 := hk03.size
    clear hw2 hw3 HRc HR hk3 h1 h2 h4 h5 h6 Ix Iy Iz heq
    go_wp2_with (first | (refine wpList_buildSlice1 rfl _ rfl _ rfl ?_) | (refine wpList_app rfl _ _ rfl w3.heap.size _ [kb k] rfl hown a n c l rfl (hl3.keeps hk34 (fun _ _ _ _ h => h)) hnc (by simp; omega) (by simp) ?_; intro v' w5 hO5 hk5; obtain ⟨a', n', c', rfl, hs5, _, _⟩ := hO5.slice; have hk05 : Keeps (fun _ => False) w w5 := (hk03.alloc _).trans' hk5 (fun i e => .inr (by omega)); have hT5 := hT.keeps hk05 (fun h => h) (fun h => h); have hl5 := hl.keeps hk05 (fun _ _ _ _ h => h); have hn5 : n' < 800000 := (by have h1 := hs5.len; have h2 := hl.len; simp at h1; omega); clear hO5 hk5 hown hk34) | (go_at_call 8; refine (sum_at HX _ hT5 _ _ _ hs5 (by omega)).mono ?_; rintro e w6 ⟨rfl, hk6⟩; have hk06 := hk05.trans hk6; have hT6 := hT5.keeps hk6 (fun h => h) (fun h => h); have hs6 := hs5.keeps hk6 (fun _ _ _ _ h => h)) | (go_at_call 7; refine (check_at HX HC _ hT6 _ _ _ hs6 (by omega)).mono ?_; rintro e w7 ⟨rfl, hk7⟩; have hk07 := hk06.trans hk7) | (refine wpList_store_row rfl rfl 24 _ _ rfl w7.heap.size rfl (brow X) rfl 24 (brow (zb 32)) (heap_alloc2_old w7 _ _) hs3 hs4 hone2 ?_; intro w8 g8 hk8 hz8; clear hz8) | (refine wpList_store_row rfl rfl 27 _ _ rfl (w7.heap.size + 1) rfl (brow C) rfl 27 _ (hk8.row (heap_alloc2_new w7 _ _) (by omega)) hs7 hs8 hone4 ?_; intro w9 g9 hk9 hz9; clear hz9; have g89 := hk9.row g8 (by omega); have hk09 : Keeps (fun _ => False) w w9 := (((hk07.alloc _).alloc _).trans' hk8 (fun i e => .inr (by have := hk07.size; omega))).trans' hk9 (fun i e => .inr (by have := hk07.size; omega)); clear hk8 hk9 g8))
    have hT9 := hT.keeps hk09 (fun h => h) (fun h => h)
    have hl9 := hl.keeps hk09 (fun _ _ _ _ h => h)
    have sX : SlB w9 (some ⟨w7.heap.size, 0, none⟩) 4 32 C := by
      have := SlB.ofRow g89 0 4 32 (by rw [lX]; omega) (by omega)
      rwa [List.drop_zero, HC.out] at this
    have sC : SlB w9 (some ⟨w7.heap.size + 1, 0, none⟩) 4 4 C := by
      have := SlB.ofRow g9 0 4 4 (by rw [lC]; omega) (by omega)
      rwa [List.drop_zero, List.take_of_length_le (by omega)] at this
    have HrX : Hid (∀ w', (∃ p : Regrown, w' = grow (redrawn w9 p.d) p.os) → w'.rangeAt w7.heap.size 0 (brow X).toList) := fun w' hp => by
      have := range_mid ((keeps_cls hp).row g89 (fun h => h)) 0 32
      rwa [List.drop_zero, List.take_of_length_le (by omega)] at this
    clear g89 g9 hs3 hs4 hs7 hs8 hone2 hone4 hz24 hs5 hs6 hT5 hT6 hl5 hk06 hk07 hk05 hk6 hk7
    refine wp_region_quiet_below (by kernel_rfl) (by kernel_rfl) ?_
    iterate 24 (first | (go_big_quiet_want; refine quiet_row_at _ _ rfl w7.heap.size 0 rfl (brow X) HrX.out Tryd.underlying24 rfl IX.out ?_; simp only [Act.put, List.setIfInBounds_toArray, List.set_cons_zero, List.set_cons_succ]; go_big_quiet_on) | go_big_quiet_step (fail) | (go_big_quiet_want; go_big_quiet_op; apply Exists.intro; refine ⟨fun _ => of_cls HX rfl hT9 hl9 (by omega) ⟨_, rfl⟩, ?_⟩; go_big_quiet_on) | (go_big_quiet_want; go_big_quiet_op; apply Exists.intro; refine ⟨fun _ => of_cls HX (kb_add k) hT9 hl9 (by omega) ⟨_, rfl⟩, ?_⟩; go_big_quiet_on) | (go_big_quiet_want; go_big_quiet_op; apply Exists.intro; refine ⟨fun _ => bytes_cls sC sX ⟨_, rfl⟩, ?_⟩; go_big_quiet_on) | (go_big_quiet_want; go_big_quiet_op; apply Exists.intro; refine ⟨fun _ => wakes_cls hT9 ⟨_, rfl⟩, ?_⟩; go_big_quiet_on))
    refine wpQuiet_nil ?_
    intro w10 hw10
    go_wp2
    go_ret
    exact ⟨rfl, hk09.trans (keeps_cls hw10)⟩
  · refine plain_quiet (C := fun w' => ∃ p : Regrown, w' = grow (redrawn (w.alloc (.cells (brow D) 35)) p.d) p.os) hw2 ?_
    iterate 41 (first | go_big_quiet_skip | (go_big_quiet_want; refine quiet_row_at _ _ rfl w.heap.size 0 rfl (brow x) (fun w' hp => (HRc.out w' hp).1) Tryd.underlying24 rfl Ix.out ?_; simp only [Act.put, List.setIfInBounds_toArray, List.set_cons_zero, List.set_cons_succ]; go_big_quiet_on) | (go_big_quiet_want; refine quiet_row_at _ _ rfl w.heap.size 32 rfl (brow y) (fun w' hp => (HRc.out w' hp).2.1) Tryd.underlying24 rfl Iy.out ?_; simp only [Act.put, List.setIfInBounds_toArray, List.set_cons_zero, List.set_cons_succ]; go_big_quiet_on) | (go_big_quiet_want; refine quiet_row_at _ _ rfl w.heap.size 64 rfl (brow z) (fun w' hp => (HRc.out w' hp).2.2) Tryd.underlying24 rfl Iz.out ?_; simp only [Act.put, List.setIfInBounds_toArray, List.set_cons_zero, List.set_cons_succ]; go_big_quiet_on) | go_big_quiet_step (fail) | (go_big_quiet_want; go_big_quiet_op; apply Exists.intro; refine ⟨fun _ => less_cls h6 lx lx ⟨_, rfl⟩, ?_⟩; go_big_quiet_on) | (go_big_quiet_want; go_big_quiet_op; apply Exists.intro; refine ⟨fun _ => less_cls h4 ly lz ⟨_, rfl⟩, ?_⟩; go_big_quiet_on) | (go_big_quiet_want; go_big_quiet_op; apply Exists.intro; refine ⟨fun _ => less_cls h5 lx lz ⟨_, rfl⟩, ?_⟩; go_big_quiet_on))
    refine wpQuiet_nil ?_
    intro w3 hw3
    have hk3 := keeps_cls hw3
    have hk03 := (keeps_alloc w (.cells (brow D) 35)).trans hk3
    have hT3 := hT.keeps hk03 (fun h => h) (fun h => h)
    have hl3 := hl.keeps hk03 (fun _ _ _ _ h => h)
    have hown := own_kb w3 k ⟨hk0, hk255⟩
    have hk34 := keeps_alloc w3 (.cells #[.int .u8 k] 5)
    have hz03 := hk03.size
    clear hw2 hw3 HRc HR hk3 h1 h2 h4 h5 h6 Ix Iy Iz heq
    go_wp2_with (first | (refine wpList_buildSlice1 rfl _ rfl _ rfl ?_) | (refine wpList_app rfl _ _ rfl w3.heap.size _ [kb k] rfl hown a n c l rfl (hl3.keeps hk34 (fun _ _ _ _ h => h)) hnc (by simp; omega) (by simp) ?_; intro v' w5 hO5 hk5; obtain ⟨a', n', c', rfl, hs5, _, _⟩ := hO5.slice; have hk05 : Keeps (fun _ => False) w w5 := (hk03.alloc _).trans' hk5 (fun i e => .inr (by omega)); have hT5 := hT.keeps hk05 (fun h => h) (fun h => h); have hl5 := hl.keeps hk05 (fun _ _ _ _ h => h); have hn5 : n' < 800000 := (by have h1 := hs5.len; have h2 := hl.len; simp at h1; omega); clear hO5 hk5 hown hk34) | (go_at_call 8; refine (sum_at HX _ hT5 _ _ _ hs5 (by omega)).mono ?_; rintro e w6 ⟨rfl, hk6⟩; have hk06 := hk05.trans hk6; have hT6 := hT5.keeps hk6 (fun h => h) (fun h => h); have hs6 := hs5.keeps hk6 (fun _ _ _ _ h => h)) | (go_at_call 7; refine (check_at HX HC _ hT6 _ _ _ hs6 (by omega)).mono ?_; rintro e w7 ⟨rfl, hk7⟩; have hk07 := hk06.trans hk7) | (refine wpList_store_row rfl rfl 24 _ _ rfl w7.heap.size rfl (brow X) rfl 24 (brow (zb 32)) (heap_alloc2_old w7 _ _) hs3 hs4 hone2 ?_; intro w8 g8 hk8 hz8; clear hz8) | (refine wpList_store_row rfl rfl 27 _ _ rfl (w7.heap.size + 1) rfl (brow C) rfl 27 _ (hk8.row (heap_alloc2_new w7 _ _) (by omega)) hs7 hs8 hone4 ?_; intro w9 g9 hk9 hz9; clear hz9; have g89 := hk9.row g8 (by omega); have hk09 : Keeps (fun _ => False) w w9 := (((hk07.alloc _).alloc _).trans' hk8 (fun i e => .inr (by have := hk07.size; omega))).trans' hk9 (fun i e => .inr (by have := hk07.size; omega)); clear hk8 hk9 g8))
    have hT9 := hT.keeps hk09 (fun h => h) (fun h => h)
    have hl9 := hl.keeps hk09 (fun _ _ _ _ h => h)
    have sX : SlB w9 (some ⟨w7.heap.size, 0, none⟩) 4 32 C := by
      have := SlB.ofRow g89 0 4 32 (by rw [lX]; omega) (by omega)
      rwa [List.drop_zero, HC.out] at this
    have sC : SlB w9 (some ⟨w7.heap.size + 1, 0, none⟩) 4 4 C := by
      have := SlB.ofRow g9 0 4 4 (by rw [lC]; omega) (by omega)
      rwa [List.drop_zero, List.take_of_length_le (by omega)] at this
    have HrX : Hid (∀ w', (∃ p : Regrown, w' = grow (redrawn w9 p.d) p.os) → w'.rangeAt w7.heap.size 0 (brow X).toList) := fun w' hp => by
      have := range_mid ((keeps_cls hp).row g89 (fun h => h)) 0 32
      rwa [List.drop_zero, List.take_of_length_le (by omega)] at this
    clear g89 g9 hs3 hs4 hs7 hs8 hone2 hone4 hz24 hs5 hs6 hT5 hT6 hl5 hk06 hk07 hk05 hk6 hk7
    refine wp_region_quiet_below (by kernel_rfl) (by kernel_rfl) ?_
    iterate 24 (first | (go_big_quiet_want; refine quiet_row_at _ _ rfl w7.heap.size 0 rfl (brow X) HrX.out Tryd.underlying24 rfl IX.out ?_; simp only [Act.put, List.setIfInBounds_toArray, List.set_cons_zero, List.set_cons_succ]; go_big_quiet_on) | go_big_quiet_step (fail) | (go_big_quiet_want; go_big_quiet_op; apply Exists.intro; refine ⟨fun _ => of_cls HX rfl hT9 hl9 (by omega) ⟨_, rfl⟩, ?_⟩; go_big_quiet_on) | (go_big_quiet_want; go_big_quiet_op; apply Exists.intro; refine ⟨fun _ => of_cls HX (kb_add k) hT9 hl9 (by omega) ⟨_, rfl⟩, ?_⟩; go_big_quiet_on) | (go_big_quiet_want; go_big_quiet_op; apply Exists.intro; refine ⟨fun _ => bytes_cls sC sX ⟨_, rfl⟩, ?_⟩; go_big_quiet_on) | (go_big_quiet_want; go_big_quiet_op; apply Exists.intro; refine ⟨fun _ => wakes_cls hT9 ⟨_, rfl⟩, ?_⟩; go_big_quiet_on))
    refine wpQuiet_nil ?_
    intro w10 hw10
    go_wp2
    go_ret
    exact ⟨rfl, hk09.trans (keeps_cls hw10)⟩

set_option maxRecDepth 100000 in
theorem order_any (w : World) (hT : Tabs w) (D : List B) (hD : D.length = 96) (k : Int) (hk : 0 ≤ k ∧ k < 256) (a : Option Addr) (n c : Nat) (l : List B) (hl : SlB w a n c l) (hnc : a = none → c = 0) :
    Calls Tryd.prog 4 #[.agg (brow D), .int .u8 k, .slice a n c] w fun e w' => e = .returned (.bool true) ∧ Keeps (fun _ => False) w w' := by
  by_cases hn : n ≤ 3000
  · exact order_case w hT D hD k hk a n c l hl hnc hn _ _ _ rfl rfl rfl _ _ _ _ _ (show _ = _ from rfl) (show _ = _ from rfl) rfl (show _ = _ from rfl) (show _ = _ from rfl) (less_ways _ _ _)
  · have hn' : (3000 : Int) < (n : Int) := by omega
    have hka := keeps_alloc w (.cells (brow D) 35)
    go_enter Tryd.func4, Tryd.ntmps4
    go_wp2_with (go_at_call 6; refine (wakes_any _ (hT.keeps hka (fun h => h) (fun h => h))).mono ?_; rintro e w1 ⟨rfl, hk1⟩)
    go_ret
    exact ⟨rfl, hka.trans hk1⟩

end Go.Proofs.YtnocpnpjjiodiaaDoor
