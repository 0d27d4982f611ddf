/-
  SuperTorn: the walk.
-/
import Derived.Test.YtdgnjpdjohibeaaDoorTb
import Derived.Test.YtdgnjpdjohibeaaDoorXm
set_option linter.all false
set_option maxRecDepth 100000
namespace Go.Proofs.YtdgnjpdjohibeaaDoor
open Go.RowKit Go.Sort Go.Shelf

theorem fair_at {w : World} {v : Value} {xs : List StepV} (h : StepsAt w v xs) (hlen : xs.length ≤ 9223372036854775807) {b : Bool} (hb : fairB xs = b) :
    Calls Tryd.prog 29 #[v] w fun e w' => e = .returned (.bool b) ∧ Keeps (fun _ => False) w w' := by
  rw [← hb]
  exact (fair_any w v xs h hlen).mono fun e w' ⟨h1, h2⟩ => ⟨h1, by rw [h2]; exact Keeps.refl _ _⟩
theorem mod_at (k n m : Int) (hn : 0 < n) (hn2 : n < 1000000) (hk : -9223372036854775808 ≤ k ∧ k ≤ 9223372036854775807) (hm : k % n = m) (w : World) :
    Calls Tryd.prog 30 #[.int .i64 k, .int .i64 n] w fun e w' => e = .returned (.int .i64 m) ∧ Keeps (fun _ => False) w w' := by
  rw [← hm]
  exact (mod_any w k n hn hn2 hk.1 hk.2).mono fun e w' ⟨h1, h2⟩ => ⟨h1, by rw [h2]; exact Keeps.refl _ _⟩

set_option maxHeartbeats 2000000 in
theorem torn_many (w : World) (hT : Tabs w) (a : Option Addr) (n c : Nat) (hn : n ≤ 9223372036854775807) (xa : Option Addr) (xc : Nat) (xs : List StepV) (hX : StepsAt w (.slice xa xs.length xc) xs) (hl : xs.length ≤ 9223372036854775807) (h : 20 < n) :
    Calls Tryd.prog 5 #[.slice a n c, .slice xa xs.length xc] w fun e w' => e = .returned (.bool true) ∧ Keeps (fun _ => False) w w' := by
  have h' : (20 : Int) < (n : Int) := by omega
  have T0 : Hid True := trivial
  go_enter Tryd.func5, Tryd.ntmps5
  go_wp2_with (first
    | (have tt := T0; go_at_call 16; refine (wakes16 _ hT).mono ?_; rintro e w1 ⟨rfl, k1⟩; clear T0 tt))
  go_ret
  exact ⟨rfl, k1⟩

set_option maxHeartbeats 2000000 in
theorem torn_few (w : World) (hT : Tabs w) (a : Option Addr) (n c : Nat) (hn : n ≤ 9223372036854775807) (xa : Option Addr) (xc : Nat) (xs : List StepV) (hX : StepsAt w (.slice xa xs.length xc) xs) (hl : xs.length ≤ 9223372036854775807) (h : n ≤ 20) (h2 : xs.length < n) :
    Calls Tryd.prog 5 #[.slice a n c, .slice xa xs.length xc] w fun e w' => e = .returned (.bool true) ∧ Keeps (fun _ => False) w w' := by
  have h' : (n : Int) ≤ 20 := by omega
  have h2' : (xs.length : Int) < (n : Int) := by omega
  generalize xs.length = m at *
  have T0 : Hid True := trivial
  go_enter Tryd.func5, Tryd.ntmps5
  go_wp2_with (first
    | (have tt := T0; go_at_call 16; refine (wakes16 _ hT).mono ?_; rintro e w1 ⟨rfl, k1⟩; clear T0 tt))
  go_ret
  exact ⟨rfl, k1⟩

set_option maxHeartbeats 2000000 in
theorem torn_unfair (w : World) (hT : Tabs w) (a : Option Addr) (n c : Nat) (xa : Option Addr) (xc m : Nat) (xs : List StepV) (hX : StepsAt w (.slice xa m xc) xs) (hl : xs.length ≤ 9223372036854775807) (h : n ≤ 20) (h2 : n ≤ m) (hf : fairB xs = false) :
    Calls Tryd.prog 5 #[.slice a n c, .slice xa m xc] w fun e w' => e = .returned (.bool true) ∧ Keeps (fun _ => False) w w' := by
  have h' : (n : Int) ≤ 20 := by omega
  have h2' : (n : Int) ≤ (m : Int) := by omega
  have hF1 : ((20 : Int) < (n : Int)) = False := eq_false (by omega)
  have hF2 : ((m : Int) < (n : Int)) = False := eq_false (by omega)
  have HF : Hid (∀ w1, Keeps (fun _ => False) w w1 → Calls Tryd.prog 29 #[.slice xa m xc] w1 fun e w' => e = .returned (.bool false) ∧ Keeps (fun _ => False) w1 w') := fun w1 k => fair_at (hX.keeps k) hl hf
  clear hX hl hf h h2
  have T0 : Hid True := trivial
  go_enter Tryd.func5, Tryd.ntmps5
  go_wp2_with (first
    | (have tt := T0; go_at_call 29; refine (HF.out _ (Keeps.refl _ _)).mono ?_; rintro e w1 ⟨rfl, k1⟩; clear T0 tt; have T1 : Hid True := trivial)
    | (have tt := T1; go_at_call 16; refine (wakes16 _ (hT.keeps k1 (fun h => h) (fun h => h))).mono ?_; rintro e w2 ⟨rfl, k2⟩; clear T1 tt))
  go_ret
  exact ⟨rfl, k1.trans k2⟩


def tn0 : Su := ⟨2, 16, 0, zb 32, 3 :: zb 15⟩
theorem tn0_ok : tn0.Ok := ⟨by decide, by decide, by decide, by simp [tn0, zb], by simp [tn0, zb]⟩
theorem tn0_good : tn0.good = true := by decide +kernel
theorem ts_first : ∃ d, wrR (DS.new 16) tn0 = (0, d) ∧ TS 0 d tn0 := by
  have u0 := up_new 16
  obtain ⟨p1, p2, p3, p4, p5⟩ := wrR_up u0.fit.1 u0.fit.2 u0.dn u0.F tn0_ok tn0_good rfl
  have q := wrR_dc (DS.new 16) tn0
  have u1 := u0.wr tn0_ok tn0_good rfl
  have hw : (wrR (DS.new 16) tn0).2.ws = [] := by
    have hwr := dsb_write u0.fit.1 u0.fit.2 (i := 0) (by decide) u0.dn (by rw [u0.F]; decide) (sblk tn0) 0
    have e : wrR (DS.new 16) tn0 = ((DS.new 16).write ((0 : Nat) : Int) ((sblk tn0).map vb)).2.sync := by unfold wrR; rw [if_pos ⟨tn0_good, rfl⟩, show tn0.gen % 2 = 0 from rfl, if_pos hwr.1]
    rw [e]
    unfold DS.sync
    rw [if_neg (by rw [hwr.2.1, hwr.2.2.1]; decide)]
  have e := pair_of p1
  have b0 := p5 0 (by decide)
  have b1 := p5 1 (by decide)
  rw [if_pos (by rfl)] at b0
  rw [if_neg (by decide), dsb_new (by omega)] at b1
  refine ⟨_, e, ⟨u1, p4, hw, ?_, tn0_ok, tn0_good, rfl, Nat.le_refl _, b0, ?_, ?_⟩⟩
  · have h0 : (DS.new 16).dc = 0 := rfl
    omega
  · intro v hv
    have hv' : cand (wrR (DS.new 16) tn0).2 1 = some v := hv
    rw [cand_no (by rw [b1]; exact decR_zero2)] at hv'
    cases hv'
  · intro j hj
    show (dsb (wrR (DS.new 16) tn0).2 1).getD j 0 = 0
    rw [b1]
    simp only [zb, List.getD_eq_getElem?_getD, List.getElem?_replicate]
    split <;> rfl
/-- The next one, as the law puts it together. -/
def tnx (u x : Su) : Su := ⟨u.gen + 1, 16, x.root % 14 + 2, x.log, (3 ||| x.used.getD 0 0) :: x.used.getD 1 0 :: zb 14⟩
theorem tnx_ok {u x : Su} (hu : u.gen ≤ 1000) (hx : x.Ok) : (tnx u x).Ok := ⟨by show u.gen + 1 < _; omega, by show _ ≤ (16 : Int) ∧ (16 : Int) ≤ _; omega, by show _ ≤ x.root % 14 + 2 ∧ x.root % 14 + 2 ≤ _; omega, hx.log, by simp [tnx, zb]⟩
theorem gu_two (a b : B) : gu ((3 ||| a) :: b :: zb 14) 16 = true := by
  have h : ∀ a : B, (3 ||| a).getLsbD 0 = true ∧ (3 ||| a).getLsbD 1 = true := fun a => by
    simp [BitVec.getLsbD_or]
  have hz : ∀ k, 16 ≤ k → bit ((3 ||| a) :: b :: zb 14) k = false := fun k hk => by
    unfold bit
    have : ((3 ||| a) :: b :: zb 14).getD (k / 8) 0 = 0 := by
      obtain ⟨j, hj⟩ : ∃ j, k / 8 = j + 2 := ⟨k / 8 - 2, by omega⟩
      rw [hj]
      simp only [List.getD_cons_succ]
      rw [List.getD_eq_getElem?_getD]
      unfold zb
      rw [List.getElem?_replicate]
      by_cases hj14 : j < 14
      · rw [if_pos hj14]; rfl
      · rw [if_neg hj14]; rfl
    rw [this]; simp
  have hc : ∀ j, cnt ((3 ||| a) :: b :: zb 14) (16 + j) = cnt ((3 ||| a) :: b :: zb 14) 16 := fun j => by
    induction j with
    | zero => rfl
    | succ j ih => rw [show 16 + (j + 1) = (16 + j) + 1 by omega, cnt, ih, hz _ (by omega)]; rfl
  unfold gu
  rw [Bool.and_eq_true]
  refine ⟨decide_eq_true ?_, decide_eq_true (hc 112)⟩
  show 0 + (bit ((3 ||| a) :: b :: zb 14) 0).toNat + (bit ((3 ||| a) :: b :: zb 14) 1).toNat = 2
  have e0 : bit ((3 ||| a) :: b :: zb 14) 0 = true := (h a).1
  have e1 : bit ((3 ||| a) :: b :: zb 14) 1 = true := (h a).2
  rw [e0, e1]; rfl
theorem tnx_good {u x : Su} (hu : 1 ≤ u.gen ∧ u.gen ≤ 1000) : (tnx u x).good = true := by
  unfold Su.good
  rw [Bool.and_eq_true]
  refine ⟨decide_eq_true ⟨by show 1 ≤ u.gen + 1; omega, by show u.gen + 1 ≤ _; omega, by show (16 : Int) ≤ 16; omega, by show (16 : Int) ≤ 128; omega, .inr ⟨by show (2 : Int) ≤ x.root % 14 + 2; omega, by show x.root % 14 + 2 < 16; omega⟩⟩, gu_two _ _⟩
theorem build26d (x y : Int) (w : World) : (Instr.build 26 #[(0, .int .u8 x), (1, .int .u8 y)]).run Tryd.prog w = .ok (.agg (.int .u8 x :: .int .u8 y :: (zb 14).map vb).toArray) w := by kernel_rfl
theorem quiet_build26d {o : Oper} {a : Act} {C : World → Prop} {K : Act → Prop} (x y : Operand) (ho : o.op = .build 26 #[(0, x), (1, y)]) (b c : B) (hx : a.eval x = .int .u8 (nb b)) (hy : a.eval y = .int .u8 (nb c)) (hk : K (a.put o.dst (.agg (brow (b :: c :: zb 14))))) : o.quiet Tryd.prog a C K := by
  refine ⟨.agg (brow (b :: c :: zb 14)), fun w hw => ?_, hk⟩
  unfold Oper.quietAt execOp
  simp only [ho, hx, hy, List.map_toArray, List.map_cons, List.map_nil, build26d, Sem.run_bind, Sem.run_pure, Result.andThen_ok]
  exact ⟨rfl, rfl⟩


theorem wpList_loadD {d : Nat} {ops : Array Oper} {rest : List Oper} {o : Oper} {a : Act} {w : World} {Q : Exit → Act → World → Prop} (_ : o.dst = some d) (hw : Region.wanted o (yielded ops a.tmps) = true) (x : Operand) (ho : o.op = .load 28 x) (g : Nat) (hx : a.eval x = .pointer (some ⟨g, 0, none⟩)) (s : Su) (hs : s.Ok) (hb : SuAt w g s) (h : wpList Tryd.prog ops Q rest (a.put o.dst (.agg s.cells)) w) : wpList Tryd.prog ops Q (o :: rest) a w := wpList_loadS hw x ho g hx s hs hb h
set_option maxHeartbeats 16000000 in
theorem torn_yes (w : World) (hT : Tabs w) (a : Option Addr) (n c : Nat) (hS : SupsAt w a n) (xa : Option Addr) (xc m : Nat) (xs : List StepV) (hX : StepsAt w (.slice xa m xc) xs) (hm : xs.length = m) (hl : xs.length ≤ 9223372036854775807) (h : n ≤ 20) (h2 : n ≤ m) (hf : fairB xs = true) :
    Calls Tryd.prog 5 #[.slice a n c, .slice xa m xc] w fun e w' => e = .returned (.bool true) ∧ Keeps (fun _ => False) w w' := by
  have h' : (n : Int) ≤ 20 := by omega
  have h2' : (n : Int) ≤ (m : Int) := by omega
  have hF1 : ((20 : Int) < (n : Int)) = False := eq_false (by omega)
  have hF2 : ((m : Int) < (n : Int)) = False := eq_false (by omega)
  have HF : Hid (∀ w1, Keeps (fun _ => False) w w1 → Calls Tryd.prog 29 #[.slice xa m xc] w1 fun e w' => e = .returned (.bool true) ∧ Keeps (fun _ => False) w1 w') := fun w1 k => fair_at (hX.keeps k) hl hf
  have HS : Hid (SupsAt w a n) := hS
  have HX : Hid (StepsAt w (.slice xa m xc) xs) := hX
  have HM : Hid (xs.length = m ∧ n ≤ 20 ∧ n ≤ m) := ⟨hm, h, h2⟩
  have HFr : Hid (∀ x ∈ xs, x.ks.length ≤ 300) := fun x hx => by
    have := hf
    unfold fairB at this
    rw [Bool.and_eq_true, List.all_eq_true] at this
    exact of_decide_eq_true (this.1 x hx)
  obtain ⟨d1, e1, hd1⟩ := ts_first
  obtain ⟨t0, ht0⟩ : ∃ t, tn0 = t := ⟨_, rfl⟩
  have H0 : Hid (t0.gen = 2 ∧ t0.blocks = 16 ∧ t0.root = 0 ∧ t0.log = zb 32 ∧ t0.used = 3 :: zb 15) := by show _; rw [← ht0]; exact ⟨rfl, rfl, rfl, rfl, rfl⟩
  have o0 : t0.Ok := by rw [← ht0]; exact tn0_ok
  rw [ht0] at e1 hd1
  have E1 : Hid (wrR (DS.new 16) t0 = (0, d1)) := e1
  have f0 : (DS.new 16).Fit := ⟨DS.Ok.new 16, DS.Bw.new 16, by decide, ⟨by decide, by decide⟩, by decide⟩
  clear hS hX hm hl hf h h2 ht0 e1
  have T0 : Hid True := trivial
  go_enter Tryd.func5, Tryd.ntmps5
  go_wp2_with (first
    | (have tt := T0; go_at_call 29; refine (HF.out _ (Keeps.refl _ _)).mono ?_; rintro e w1 ⟨rfl, k1⟩; clear T0 tt; have T1 : Hid True := trivial)
    | (have tt := T1; go_at_call 18; refine (new16_at _).mono ?_; rintro e w2 ⟨rfl, l2, s2, k2⟩; have K2 := k1.trans k2; clear T1 tt; have T2 : Hid True := trivial)
    | (have tt := T2; refine wpList_build26c rfl _ rfl 3 rfl t0.used H0.out.2.2.2.2 ?_; clear T2 tt; have T3 : Hid True := trivial)
    | (have tt := T3; refine wpList_build28_014 rfl _ _ _ rfl t0 o0 H0.out.2.2.1 H0.out.2.2.2.1 (congrArg (Value.int .u32) (by have := H0.out.1; omega)) (congrArg (Value.int .i64) (by have := H0.out.2.1; omega)) rfl ?_; clear T3 tt; have T4 : Hid True := trivial)
    | (have tt := T4; refine wpList_allocS rfl rfl ?_; intro g7 w3 c3 z3 k3; have K3 := K2.trans k3; have v7 : w1.heap.size + 2 ≤ g7 := (by omega); clear T4 tt; have T5 : Hid True := trivial)
    | (have tt := T5; refine wpList_storeS rfl _ _ rfl g7 rfl t0 o0 rfl su0 su0_ok c3 ?_; intro w4 c4 k4; have l4 : Lies w1.heap.size (fun k => k = g7) w4 (w1.heap.size + 1) w1.heap.size (DS.new 16) := (Lies.more (C' := fun k => k = g7) l2 (fun k e => .inr (by omega))).kept k3 |>.keptC k4; have K4 : Keeps (fun _ => False) w w4 := K3.trans' k4 (fun i e => .inr (by have := k1.size; omega)); clear T5 tt; have T6 : Hid True := trivial)
    | (have tt := T6; refine wpList_loadS rfl (.tmp 7) rfl g7 rfl t0 o0 c4 ?_; clear T6 tt; have T7 : Hid True := trivial)
    | (have tt := T7; go_at_call 20; refine (write_is (q := (0, d1)) E1.out l4 (hT.keeps K4 (fun h => h) (fun h => h)) f0 (fun k e => by have := RoAt.lt c4; omega) (by have := k3.size; have := k4.size; omega) o0).mono ?_; rintro e w5 ⟨rfl, l5, k5⟩; have c5 := RoAt.keeps c4 k5 (fun h => h.2 rfl); have K5 : Keeps (fun _ => False) w w5 := K4.trans' k5 (fun i e => .inr (by have := k1.size; omega)); clear T7 tt))
  clear hF1 hF2
  have hw1 := k1.size
  have hts := hT.size
  have S5 : w1.heap.size ≤ w5.heap.size := by have := k2.size; have := k3.size; have := k4.size; have := k5.size; omega
  have t5 := hT.keeps K5 (fun h => h) (fun h => h)
  clear k1 k2 l2 s2 K2 c3 k3 K3 c4 k4 l4 K4 k5 z3 E1 f0
  go_loopw [8] (fun t wr => ∃ (i : Nat) (d : DS) (u : Su), i ≤ n ∧ t = .int .i64 (i : Int) ∧ TS i d u ∧ Lies w1.heap.size (fun k => k = g7) wr (w1.heap.size + 1) w1.heap.size d ∧ SuAt wr g7 u ∧ Tabs wr ∧ Keeps (fun _ => False) w wr ∧ w1.heap.size ≤ wr.heap.size) (fun t _ => n - (intOf t).toNat)
  case atStart => exact ⟨0, d1, t0, by omega, rfl, hd1, l5, c5, t5, K5, S5⟩
  case round =>
    clear hd1 l5 c5 t5 K5 S5 H0 o0
    obtain ⟨i, d, u, hi, rfl, hd, hL, hu, hTr, hk, hs⟩ := hrel
    by_cases hlt : i < n
    · have hlt' : (i : Int) < (n : Int) := by omega
      have hi0 : (0 : Int) ≤ (i : Int) := by omega
      have hn20 := HM.out.2.1
      have hnm := HM.out.2.2
      have him : (i : Int) < (m : Int) := by omega
      obtain ⟨bS, oS, x, rfl, hx, hxo⟩ := HS.out i hlt
      obtain ⟨aX, cX, eX, hXs⟩ := HX.out
      obtain ⟨y, hy⟩ : ∃ y, xs[i]? = some y := ⟨_, List.getElem?_eq_getElem (by have := HM.out.1; omega)⟩
      obtain ⟨bX, oX, eX2, hyS⟩ := hXs i y hy
      obtain ⟨rfl, rfl⟩ : xa = aX ∧ xc = cX := by cases eX; exact ⟨rfl, rfl⟩
      clear eX
      subst eX2
      have hks := HFr.out y (List.mem_of_getElem? hy)
      have hug : u.gen ≤ 2 + i := hd.gen
      have hug1 : 1 ≤ u.gen := good_gen hd.good
      obtain ⟨s, hse⟩ : ∃ s, tnx u x = s := ⟨_, rfl⟩
      have hso : s.Ok := by rw [← hse]; exact tnx_ok (by omega) hxo
      have hsg : s.good = true := by rw [← hse]; exact tnx_good (by omega)
      have hsb : s.blocks = 16 := by rw [← hse]; rfl
      have hsgen : s.gen = u.gen + 1 := by rw [← hse]; rfl
      obtain ⟨f, d2, hw, d2ok, d2a, d2b, d2c, hor⟩ := hd.step hso hsg hsb hsgen y.i hyS.hi.2 y.ks
      have huo := hd.uok
      obtain ⟨u1, hu1⟩ : ∃ t : Su, ({ u with gen := u.gen + 1 } : Su) = t := ⟨_, rfl⟩
      obtain ⟨u2, hu2⟩ : ∃ t : Su, ({ u1 with log := x.log } : Su) = t := ⟨_, rfl⟩
      obtain ⟨u3, hu3⟩ : ∃ t : Su, ({ u2 with used := (3 ||| x.used.getD 0 0) :: x.used.getD 1 0 :: zb 14 } : Su) = t := ⟨_, rfl⟩
      have o1 : u1.Ok := by rw [← hu1]; exact ⟨by show u.gen + 1 < _; omega, huo.blocks, huo.root, huo.log, huo.used⟩
      have o2 : u2.Ok := by rw [← hu2]; exact ⟨o1.gen, o1.blocks, o1.root, hxo.log, o1.used⟩
      have o3 : u3.Ok := by rw [← hu3]; exact ⟨o2.gen, o2.blocks, o2.root, o2.log, by simp [zb]⟩
      have V1 : Hid (over u.cells 0 #[.int .u32 ((u.gen + 1 : Nat) : Int)] = u1.cells) := by show _ = _; rw [over_gen, hu1]
      have V2 : Hid (over u1.cells 3 (brow x.log) = u2.cells) := by show _ = _; rw [over_log u1 x.log o1 hxo.log, hu2]
      have V3 : Hid (over u2.cells 35 (brow ((3 ||| x.used.getD 0 0) :: x.used.getD 1 0 :: zb 14)) = u3.cells) := by show _ = _; rw [over_used u2 _ o2 (by simp [zb]), hu3]
      have V4 : Hid (over u3.cells 2 #[.int .i64 (x.root % 14 + 2)] = s.cells) := by
        show _ = _
        rw [over_root, ← hse, ← hu3, ← hu2, ← hu1]
        unfold tnx
        rw [← hd.blocks]
      have E2 : Hid (wrR (d.fuse y.i) s = (f, d2)) := hw
      have HO : Hid ((TS (i + 1) (d2.crash y.ks (y.i % 3 - 1)) s) ∨ (f ≠ 0 ∧ TS (i + 1) (d2.crash y.ks (y.i % 3 - 1)) u)) := hor
      have HG : Hid (s.gen ≠ u.gen) := by show _ ≠ _; omega
      have hgb : (u.gen : Int) ≤ 1000 := by omega
      have hg0 : (0 : Int) ≤ (u.gen : Int) := by omega
      have hfit := hd.fit (by omega)
      clear hu1 hu2 hu3 hse hw hor hd hXs hug hug1 hsgen hsb hsg
      have T0 : Hid True := trivial
      go_wp2_with (first
        | (have tt := T0; refine wpList_loadS rfl (.tmp 7) rfl g7 rfl u huo hu ?_; clear T0 tt; have T1 : Hid True := trivial)
        | (have tt := T1; refine wpList_allocS rfl rfl ?_; intro g9 w6 c6 z6 k6; have b6 := RoAt.keep hu k6; have K6 := hk.trans k6; have l6 := (Lies.more (C' := fun k => k = g7 ∨ k = g9) hL (fun k e => e.elim .inl (fun h => .inr (by omega)))).kept k6; have n79 : g7 ≠ g9 := (by have := RoAt.lt hu; omega); have z9 : w.heap.size ≤ g9 := (by omega); clear T1 tt; have T2 : Hid True := trivial)
        | (have tt := T2; refine wpList_storeS rfl _ _ rfl g9 rfl u huo rfl su0 su0_ok c6 ?_; intro w7 c7 k7; have b7 := RoAt.keeps b6 k7 n79; have R7 : Keeps (fun _ => False) wr w7 := k6.trans' k7 (fun i e => .inr (by omega)); have l7 := l6.keptC (k7.mono (fun i _ e => .inr e)); obtain ⟨p0, _, _⟩ := SuAt.parts c7; have z9w : wr.heap.size ≤ g9 := z6; clear T2 tt; have T3 : Hid True := trivial)
        | (have tt := T3; refine wpList_storeF rfl 22 _ _ rfl g9 0 rfl (.int .u32 ((u.gen + 1 : Nat) : Int)) (congrArg (Value.int .u32) (by omega)) #[.int .u32 ((u.gen + 1 : Nat) : Int)] rfl (by kernel_rfl) (one_int .u32 _) 28 u.cells c7 (by rw [huo.size]; show 0 + 1 ≤ 51; omega) ?_; intro w8 c8 k8; rw [V1.out] at c8; have b8 := RoAt.keeps b7 k8 n79; have R8 : Keeps (fun _ => False) wr w8 := R7.trans' k8 (fun i e => .inr (by omega)); have l8 := l7.keptC (k8.mono (fun i _ e => .inr e)); clear T3 tt))
      clear b6 k6 K6 l6 k7 c7 b7 l7 p0 k8 R7 c6
      have cl : ∀ j v, x.cells[j]? = some v → ∀ d os, (grow (redrawn wr d) os).cell? ⟨bS, oS + i * 51 + j, none⟩ = some v := fun j v hv d os => (hx.keeps (hk.trans (keeps_cls ⟨⟨d, os⟩, rfl⟩))) j v hv
      have u0 : ∀ d os, (grow (redrawn wr d) os).cell? ⟨bS, oS + i * 51 + 35, none⟩ = some (.int .u8 (nb (x.used.getD 0 0))) := fun d os => (hx.keeps (hk.trans (keeps_cls ⟨⟨d, os⟩, rfl⟩))).ucell hxo 0 (by omega)
      have u1' : ∀ d os, (grow (redrawn wr d) os).cell? ⟨bS, oS + i * 51 + 35 + 1, none⟩ = some (.int .u8 (nb (x.used.getD 1 0))) := fun d os => (hx.keeps (hk.trans (keeps_cls ⟨⟨d, os⟩, rfl⟩))).ucell hxo 1 (by omega)
      have lg : ∀ w', (∃ p : Regrown, w' = grow (redrawn wr p.d) p.os) → w'.rangeAt bS (oS + i * 51 + 3) (brow x.log).toList := fun w' hp => (hx.keeps (hk.trans (keeps_cls hp))).log hxo
      have hor3 : Hid (bits BinOp.or IntKind.u8 3 (nb (x.used.getD 0 0)) = nb (3 ||| x.used.getD 0 0)) := bits_or8 3 (x.used.getD 0 0)
      have t24 : Hid (RowTy 24 x.log.length) := by show RowTy _ _; rw [hxo.log]; exact rowTy24
      have hl8 : c8 = c8 := rfl
      clear cl hl8
      generalize x.used.getD 0 0 = y0 at *
      generalize x.used.getD 1 0 = y1 at *
      have kd : Keeps (fun _ => False) w8 w8.drew := (Keeps.refl _ _).drew
      try simp only [Act.put, List.setIfInBounds_toArray, List.set_cons_zero, List.set_cons_succ]
      refine region_planX (S := fun w' => ∃ p : Regrown, w' = grow (redrawn wr p.d) p.os) [([0, 1, 2, 3, 4, 5, 6, 7, 8, 9, 10, 11, 12, 13, 14, 15, 16, 17, 18, 19], 20), ([21], 22)] [] (by kernel_rfl) (by kernel_rfl) (by kernel_rfl) (by kernel_rfl) (cls_keeps R8.drew) ?_
      simp only [wpPlan, opsAt, pick]
      repeat (first
        | (go_big_quiet_want; refine quiet_loadM 24 (.tmp 57) rfl bS (oS + i * 51 + 3) rfl x.log lg t24.out ?_; simp only [Act.put, List.setIfInBounds_toArray, List.set_cons_zero, List.set_cons_succ]; go_big_quiet_on)
        | (go_big_quiet_want; refine quiet_build26d _ _ rfl (3 ||| y0) y1 (congrArg (Value.int .u8) hor3.out) rfl ?_; simp only [Act.put, List.setIfInBounds_toArray, List.set_cons_zero, List.set_cons_succ]; go_big_quiet_on)
        | go_big_quiet_step (fail))
      refine wpQuiet_nil ?_
      have sz1 : (brow x.log).size = 32 := by rw [size_brow, hxo.log]
      have sz2 : (brow ((3 ||| y0) :: y1 :: zb 14)).size = 16 := by rw [size_brow]; simp [zb]
      go_wp2_with (refine wpList_storeF rfl 24 _ _ rfl g9 3 rfl (.agg (brow x.log)) rfl (brow x.log) rfl (by rw [sz1]; kernel_rfl) (brow_one _) 28 u1.cells (RoAt.keep c8 kd) (by rw [o1.size, sz1]; omega) ?_; intro w9 c9 k9; rw [V2.out] at c9)
      have R9 : Keeps (fun _ => False) wr w9 := (R8.trans kd).trans' k9 (fun i e => .inr (by omega))
      refine ⟨cls_keeps R9, ?_⟩
      simp only [wpPlan, opsAt, pick]
      repeat (go_big_quiet_step (fail))
      refine wpQuiet_nil ?_
      go_wp2_with (refine wpList_storeF rfl 26 _ _ rfl g9 35 rfl (.agg (brow ((3 ||| y0) :: y1 :: zb 14))) rfl (brow ((3 ||| y0) :: y1 :: zb 14)) rfl (by rw [sz2]; kernel_rfl) (brow_one _) 28 u2.cells c9 (by rw [o2.size, sz2]; omega) ?_; intro w10 c10 k10; rw [V3.out] at c10)
      have R10 : Keeps (fun _ => False) wr w10 := R9.trans' k10 (fun i e => .inr (by omega))
      refine ⟨cls_keeps R10, ?_⟩
      simp only [wpPlan, opsAt, pick]
      refine wpQuiet_nil ?_
      refine NoPanic.normal ?_
      have b10 := RoAt.keeps (RoAt.keeps (RoAt.keep b8 kd) k9 n79) k10 n79
      have l10 := ((l8.kept kd).keptC (k9.mono (fun i _ e => .inr e))).keptC (k10.mono (fun i _ e => .inr e))
      have K10 := hk.trans R10
      have S10 := Nat.le_trans hs R10.size
      have t10 := hTr.keeps R10 (fun h => h) (fun h => h)
      have pr := (hx.keeps K10).root
      have pi := (hyS.keeps K10).c1
      have hrb := hxo.root
      have hib := hyS.hi
      clear u0 u1' lg hor3 t24 V1 V2 V3 R8 b8 l8 c8 kd sz1 sz2 k9 c9 R9 k10 R10 hu hL hTr hk hs hgb hg0
      have T0 : Hid True := trivial
      go_wp2_with (first
        | (have tt := T0; go_at_call 30; refine (mod_at x.root 14 (x.root % 14) (by omega) (by omega) hrb rfl _).mono ?_; rintro e w11 ⟨rfl, k11⟩; have b11 := RoAt.keep b10 k11; have c11 := RoAt.keep c10 k11; have l11 := l10.kept k11; have K11 := K10.trans k11; have S11 := Nat.le_trans S10 k11.size; have t11 := t10.keeps k11 (fun h => h) (fun h => h); clear T0 tt; have T1 : Hid True := trivial)
        | (have tt := T1; refine wpList_storeF rfl 3 _ _ rfl g9 2 rfl (.int .i64 (x.root % 14 + 2)) rfl #[.int .i64 (x.root % 14 + 2)] rfl (by kernel_rfl) (one_int .i64 _) 28 u3.cells c11 (by rw [o3.size]; show 2 + 1 ≤ 51; omega) ?_; intro w12 c12 k12; rw [V4.out] at c12; have b12 := RoAt.keeps b11 k12 n79; have l12 := l11.keptC (k12.mono (fun i _ e => .inr e)); have K12 : Keeps (fun _ => False) w w12 := K11.trans' k12 (fun i e => .inr (by omega)); have S12 := Nat.le_trans S11 k12.size; have t12 := t11.keeps k12 (fun h => by omega) (fun h => by omega); have pi2 := (hyS.keeps K12).c1; clear T1 tt; have T2 : Hid True := trivial)
        | (have tt := T2; go_at_call 26; refine (fuse_ds l12 y.i).mono ?_; rintro e w13 ⟨rfl, l13, k13⟩; have b13 := RoAt.keeps b12 k13 (fun h => h.2 (.inl rfl)); have c13 := RoAt.keeps c12 k13 (fun h => h.2 (.inr rfl)); have K13 : Keeps (fun _ => False) w w13 := K12.trans' k13 (fun i e => .inr (by omega)); have S13 := Nat.le_trans S12 k13.size; have t13 := t12.keeps k13 (fun h => by omega) (fun h => by omega); clear T2 tt; have T3 : Hid True := trivial)
        | (have tt := T3; refine wpList_loadS rfl (.tmp 9) rfl g9 rfl s hso c13 ?_; clear T3 tt; have T4 : Hid True := trivial)
        | (have tt := T4; go_at_call 20; refine (write_is (q := (f, d2)) E2.out l13 t13 ⟨hfit.ok.fuse y.i hib.2, hfit.bw.fuse y.i, hfit.two, hfit.dc, hfit.ws⟩ (fun k e => by have := RoAt.lt b13; have := RoAt.lt c13; omega) S13 hso).mono ?_; rintro e w14 ⟨rfl, l14, k14⟩; have b14 := RoAt.keeps b13 k14 (fun h => h.2 (.inl rfl)); have c14 := RoAt.keeps c13 k14 (fun h => h.2 (.inr rfl)); have K14 : Keeps (fun _ => False) w w14 := K13.trans' k14 (fun i e => .inr (by omega)); have S14 := Nat.le_trans S13 k14.size; have t14 := t13.keeps k14 (fun h => by omega) (fun h => by omega); clear T4 tt))
      obtain ⟨r3, hr3⟩ : ∃ r : Int, y.i % 3 = r := ⟨_, rfl⟩
      have HR3 : Hid (y.i % 3 = r3) := hr3
      have hr30 : 0 ≤ r3 := by omega
      have hr31 : r3 < 3 := by omega
      rw [hr3] at HO
      clear hr3 b10 c10 l10 K10 S10 t10 pr pi hrb
      have pk : ∀ d os, (grow (redrawn w d) os).cell? ⟨bX, oX + i * 4 + 3, none⟩ = some (.slice y.ka y.ks.length y.kc) := fun d os => (hyS.keeps (keeps_cls ⟨⟨d, os⟩, rfl⟩)).c3
      have pj : ∀ d os, (grow (redrawn w d) os).cell? ⟨bX, oX + i * 4 + 1, none⟩ = some (.int .i64 y.i) := fun d os => (hyS.keeps (keeps_cls ⟨⟨d, os⟩, rfl⟩)).c1
      have kd : Keeps (fun _ => False) w14 w14.drew := (Keeps.refl _ _).drew
      try simp only [Act.put, List.setIfInBounds_toArray, List.set_cons_zero, List.set_cons_succ]
      refine region_planX (S := fun w' => ∃ p : Regrown, w' = grow (redrawn w p.d) p.os) [([0, 2, 3, 4, 5, 6, 8, 9, 10, 11, 12], 1), ([], 7), ([], 13), ([14], 15)] [] (by kernel_rfl) (by kernel_rfl) (by kernel_rfl) (by kernel_rfl) (cls_keeps K14.drew) ?_
      simp only [wpPlan, opsAt, pick]
      repeat (go_big_quiet_step (fail))
      refine wpQuiet_nil ?_
      have lt7 := RoAt.lt b14
      have hdz : w14.drew.heap.size = w14.heap.size := rfl
      go_wp2_with (refine wpList_build0L rfl rfl ?_; intro gk w15 o15 z15 l15' k15)
      have k05 := kd.trans k15
      have K15 := K14.trans k05
      refine ⟨cls_keeps K15, ?_⟩
      simp only [wpPlan, opsAt, pick]
      refine wpQuiet_nil ?_
      have hkA := (hyS.keeps K15).keep
      go_wp2_with (refine wpList_plain rfl fun K hK => op_keepCopy _ _ rfl gk rfl y.ka y.kc y.ks rfl hkA hks ?_; intro a16 c16 w16 kp16 k16 hab; refine hK _ _ ?_)
      have k06 := k05.trans k16
      have K16 := K14.trans k06
      have z16 := k15.size
      refine ⟨cls_keeps K16, ?_⟩
      simp only [wpPlan, opsAt, pick]
      refine wpQuiet_nil ?_
      go_wp2_with (go_at_call 30; refine (mod_at y.i 3 r3 (by omega) (by omega) hib HR3.out _).mono ?_; rintro e w17 ⟨rfl, k17⟩)
      have k07 := k06.trans k17
      have K17 := K14.trans k07
      refine ⟨cls_keeps K17, ?_⟩
      simp only [wpPlan, opsAt, pick]
      repeat (go_big_quiet_step (fail))
      refine wpQuiet_nil ?_
      have l17 := l14.kept k07
      have hne : ∀ b o, a16 = some ⟨b, o, none⟩ → b ≠ w1.heap.size := fun b o e => by
        rcases hab b o e with h | h
        · rw [hdz] at z15; omega
        · rw [hdz] at z16; omega
      go_wp2_with (go_at_call 24; refine (crash_ds l17 d2ok (by omega) a16 c16 y.ks (r3 - 1) (kp16.keeps k17) hne).mono ?_; rintro e w18 ⟨rfl, l18, k18⟩)
      have b18 := RoAt.keeps (RoAt.keep b14 k07) k18 (fun h => h.2 (.inl rfl))
      have c18 := RoAt.keeps (RoAt.keep c14 k07) k18 (fun h => h.2 (.inr rfl))
      have K18 : Keeps (fun _ => False) w w18 := K17.trans' k18 (fun i e => .inr (by omega))
      have S18 := Nat.le_trans (Nat.le_trans S14 k07.size) k18.size
      have t18 := (t14.keeps k07 (fun h => h) (fun h => h)).keeps k18 (fun h => by omega) (fun h => by omega)
      refine ⟨cls_keeps K18, ?_⟩
      simp only [wpPlan, opsAt, pick]
      refine wpQuiet_nil ?_
      refine NoPanic.normal ?_
      clear pk pj kd k15 k05 K15 hkA k16 k06 K16 k17 k07 K17 l17 hne hab kp16 k18 b14 c14 l14 K14 S14 t14 o15 z15 l15' z16
      have qs := eqS hso hso (v := true) (decide_eq_true rfl)
      have qu := eqS huo huo (v := true) (decide_eq_true rfl)
      rcases HO.out with hts2 | ⟨hf0, hts2⟩
      · have NN : Hid (newR (d2.crash y.ks (r3 - 1)) = (s, 0)) := hts2.newest
        have f3 := hts2.fit (by omega)
        have T1 : Hid True := trivial
        go_wp2_with (first
        | (have tt := T1; go_at_call 27; refine (newest_is NN.out l18 t18 f3).mono ?_; rintro e w19 ⟨rfl, k19⟩; have b19 := RoAt.keep b18 k19; have c19 := RoAt.keep c18 k19; have l19 := l18.kept k19; have t19 := t18.keeps k19 (fun h => h) (fun h => h); have K19 := K18.trans k19; have S19 := Nat.le_trans S18 k19.size; clear T1 tt; have T2 : Hid True := trivial)
        | (have tt := T2; refine wpList_allocS rfl rfl ?_; intro g11 w20' e20' z20 k20'; have b20' := RoAt.keep b19 k20'; have c20' := RoAt.keep c19 k20'; have l20' := (Lies.more (C' := fun k => (k = g7 ∨ k = g9) ∨ k = g11) l19 (fun k e => e.elim .inl (fun h => .inr (by omega)))).kept k20'; have t20' := t19.keeps k20' (fun h => h) (fun h => h); have K20' := K19.trans k20'; have S20' := Nat.le_trans S19 k20'.size; have n7b : g7 ≠ g11 := (by have := RoAt.lt b19; omega); have n9b : g9 ≠ g11 := (by have := RoAt.lt c19; omega); have z11 : w.heap.size ≤ g11 := (by omega); clear T2 tt; have T2b : Hid True := trivial)
        | (have tt := T2b; refine wpList_storeS rfl _ _ rfl g11 rfl s hso rfl su0 su0_ok e20' ?_; intro w20 e20 k20; have b20 := RoAt.keeps b20' k20 n7b; have c20 := RoAt.keeps c20' k20 n9b; have l20 := l20'.keptC (k20.mono (fun i _ e => .inr e)); have t20 := t20'.keeps k20 (fun h => by omega) (fun h => by omega); have K20 : Keeps (fun _ => False) w w20 := K20'.trans' k20 (fun i e => .inr (by omega)); have S20 := Nat.le_trans S20' k20.size; clear T2b tt; have T3 : Hid True := trivial)
        | (have tt := T3; refine wpList_loadS rfl (.tmp 11) rfl g11 rfl s hso e20 ?_; clear T3 tt; have T4 : Hid True := trivial)
        | (have tt := T4; refine wpList_loadS rfl (.tmp 9) rfl g9 rfl s hso c20 ?_; clear T4 tt; have T5 : Hid True := trivial)
        | (have tt := T5; refine wpList_loadD (d := 130) rfl rfl (.tmp 11) rfl g11 rfl s hso e20 ?_; clear T5 tt; have T8 : Hid True := trivial)
        | (have tt := T8; refine wpList_storeS rfl _ _ rfl g7 rfl s hso rfl u huo b20 ?_; intro w21 b21 k21; have l21 := (l20.keptC (k21.mono (fun i _ e => .inl (.inl e)))).more (C' := fun k => k = g7) (fun k e => .inl (.inl (.inl e))); have t21 := t20.keeps k21 (fun h => by omega) (fun h => by omega); have K21 : Keeps (fun _ => False) w w21 := K20.trans' k21 (fun i e => .inr (by omega)); have S21 := Nat.le_trans S20 k21.size; clear T8 tt))
        exact ⟨⟨i + 1, _, s, by omega, rfl, hts2, l21, b21, t21, K21, S21⟩, by simp [intOf]; omega⟩
      · have hus : ¬ u = s := fun e => HG.out (by rw [← e])
        have qus := eqS huo hso (v := false) (decide_eq_false hus)
        have hf0' : (f == 0) = false := by simpa using hf0
        have NN : Hid (newR (d2.crash y.ks (r3 - 1)) = (u, 0)) := hts2.newest
        have f3 := hts2.fit (by omega)
        have T1 : Hid True := trivial
        go_wp2_with (first
        | (have tt := T1; go_at_call 27; refine (newest_is NN.out l18 t18 f3).mono ?_; rintro e w19 ⟨rfl, k19⟩; have b19 := RoAt.keep b18 k19; have c19 := RoAt.keep c18 k19; have l19 := l18.kept k19; have t19 := t18.keeps k19 (fun h => h) (fun h => h); have K19 := K18.trans k19; have S19 := Nat.le_trans S18 k19.size; clear T1 tt; have T2 : Hid True := trivial)
        | (have tt := T2; refine wpList_allocS rfl rfl ?_; intro g11 w20' e20' z20 k20'; have b20' := RoAt.keep b19 k20'; have c20' := RoAt.keep c19 k20'; have l20' := (Lies.more (C' := fun k => (k = g7 ∨ k = g9) ∨ k = g11) l19 (fun k e => e.elim .inl (fun h => .inr (by omega)))).kept k20'; have t20' := t19.keeps k20' (fun h => h) (fun h => h); have K20' := K19.trans k20'; have S20' := Nat.le_trans S19 k20'.size; have n7b : g7 ≠ g11 := (by have := RoAt.lt b19; omega); have n9b : g9 ≠ g11 := (by have := RoAt.lt c19; omega); have z11 : w.heap.size ≤ g11 := (by omega); clear T2 tt; have T2b : Hid True := trivial)
        | (have tt := T2b; refine wpList_storeS rfl _ _ rfl g11 rfl u huo rfl su0 su0_ok e20' ?_; intro w20 e20 k20; have b20 := RoAt.keeps b20' k20 n7b; have c20 := RoAt.keeps c20' k20 n9b; have l20 := l20'.keptC (k20.mono (fun i _ e => .inr e)); have t20 := t20'.keeps k20 (fun h => by omega) (fun h => by omega); have K20 : Keeps (fun _ => False) w w20 := K20'.trans' k20 (fun i e => .inr (by omega)); have S20 := Nat.le_trans S20' k20.size; clear T2b tt; have T3 : Hid True := trivial)
        | (have tt := T3; refine wpList_loadS rfl (.tmp 11) rfl g11 rfl u huo e20 ?_; clear T3 tt; have T4 : Hid True := trivial)
        | (have tt := T4; refine wpList_loadS rfl (.tmp 9) rfl g9 rfl s hso c20 ?_; clear T4 tt; have T5 : Hid True := trivial)
        | (have tt := T5; refine wpList_loadD (d := 121) rfl rfl (.tmp 11) rfl g11 rfl u huo e20 ?_; clear T5 tt; have T6 : Hid True := trivial)
        | (have tt := T6; refine wpList_loadD (d := 122) rfl rfl (.tmp 7) rfl g7 rfl u huo b20 ?_; clear T6 tt; have T7 : Hid True := trivial)
        | (have tt := T7; refine wpList_loadD (d := 130) rfl rfl (.tmp 11) rfl g11 rfl u huo e20 ?_; clear T7 tt; have T8 : Hid True := trivial)
        | (have tt := T8; refine wpList_storeS rfl _ _ rfl g7 rfl u huo rfl u huo b20 ?_; intro w21 b21 k21; have l21 := (l20.keptC (k21.mono (fun i _ e => .inl (.inl e)))).more (C' := fun k => k = g7) (fun k e => .inl (.inl (.inl e))); have t21 := t20.keeps k21 (fun h => by omega) (fun h => by omega); have K21 : Keeps (fun _ => False) w w21 := K20.trans' k21 (fun i e => .inr (by omega)); have S21 := Nat.le_trans S20 k21.size; clear T8 tt))
        exact ⟨⟨i + 1, _, u, by omega, rfl, hts2, l21, b21, t21, K21, S21⟩, by simp [intOf]; omega⟩
    · obtain rfl : i = n := by omega
      have hlt' : ¬ (i : Int) < (i : Int) := by omega
      have T0 : Hid True := trivial
      go_wp2_with (have tt := T0; go_at_call 16; refine (wakes16 _ hTr).mono ?_; rintro e w6 ⟨rfl, k6⟩; clear T0 tt)
      go_ret
      exact ⟨rfl, hk.trans k6⟩
end Go.Proofs.YtdgnjpdjohibeaaDoor
