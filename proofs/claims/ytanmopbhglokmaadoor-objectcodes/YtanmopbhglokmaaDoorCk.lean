/-
  checked: a frame's bytes up to the check.
-/
import Derived.Test.YtanmopbhglokmaaDoorBl
import Derived.Test.YtanmopbhglokmaaDoorRf
import Derived.OwnWalk
set_option linter.all false
namespace Go.Proofs.YtanmopbhglokmaaDoor
open Go.RowKit Go.Sort

theorem buildSlice3 (x y z : Int) (w : World) : (Instr.buildSlice 22 3 #[(0, .int .u8 x), (1, .int .u8 y), (2, .int .u8 z)]).run Tryd.prog w = .ok (.slice (some ⟨w.heap.size, 0, none⟩) 3 3) (w.alloc (.cells #[.int .u8 x, .int .u8 y, .int .u8 z] 5)) := by kernel_rfl
theorem wpList_buildSlice3 {ops : Array Oper} {rest : List Oper} {o : Oper} {a : Act} {w : World} {Q : Exit → Act → World → Prop} (hgd : o.guard = none) (x y z : Operand) (ho : o.op = .buildSlice 22 3 #[(0, x), (1, y), (2, z)]) (vx vy vz : Int) (hx : a.eval x = .int .u8 vx) (hy : a.eval y = .int .u8 vy) (hz : a.eval z = .int .u8 vz)
    (h : wpList Tryd.prog ops Q rest (a.put o.dst (.slice (some ⟨w.heap.size, 0, none⟩) 3 3)) (w.alloc (.cells #[.int .u8 vx, .int .u8 vy, .int .u8 vz] 5))) : wpList Tryd.prog ops Q (o :: rest) a w := by
  refine wpList_plain hgd fun K hK => ?_
  unfold Oper.wp execOp
  simp only [ho, hx, hy, hz, List.map_toArray, List.map_cons, List.map_nil, buildSlice3, Sem.run_bind, Result.andThen_ok, Sem.run_pure]
  exact hK _ _ h

theorem wpList_make_b {ops : Array Oper} {rest : List Oper} {o : Oper} {a : Act} {w : World} {Q : Exit → Act → World → Prop} (hgd : o.guard = none) (l c : Operand) (ho : o.op = .makeSlice 22 l c) (hl : a.eval l = .int .i64 0) (m : Nat) (C : Int) (hc : a.eval c = .int .i64 C) (hC : C = (m : Int)) (hm : m ≤ 1000000)
    (h : ∀ w', OwnB w' w.heap.size (.slice (some ⟨w.heap.size, 0, none⟩) 0 m) [] → Keeps (fun _ => False) w w' → wpList Tryd.prog ops Q rest (a.put o.dst (.slice (some ⟨w.heap.size, 0, none⟩) 0 m)) w') : wpList Tryd.prog ops Q (o :: rest) a w := by
  obtain ⟨i, hi, hz, hsz, hby⟩ := info5
  refine wpList_make_own w hgd l c 22 ho w.heap.size 5 i (.int .u8 0) 1 Tryd.underlying22 hi hz hsz .i64 .i64 C m hl hc hC (by rw [hby]; omega) (by unfold maxLen; omega) (Nat.le_refl _) ?_
  intro w' ho' hg
  exact h w' ⟨ho'⟩ ((Keeps.refl _ _).grown hg (fun k e => by cases e))

/-- The three bytes at a frame's beginning. -/
theorem slb_head (w : World) (k : Int) (n : Nat) (hn : n ≤ 1000) : SlB (w.alloc (.cells #[.int .u8 (k % 256), .int .u8 ((n : Int) / 256), .int .u8 ((n : Int) % 256)] 5)) (some ⟨w.heap.size, 0, none⟩) 3 3 [kb k, kb ((n / 256 : Nat) : Int), kb (n : Int)] := by
  have e : #[Value.int .u8 (k % 256), .int .u8 ((n : Int) / 256), .int .u8 ((n : Int) % 256)] = brow [kb k, kb ((n / 256 : Nat) : Int), kb (n : Int)] := by
    simp [brow, vb, nb_kb]; omega
  rw [e]
  exact slb_box (heap_alloc_new w _)

set_option maxRecDepth 100000 in
set_option maxHeartbeats 1000000 in
theorem checked26 (w : World) (hT : Tabs w) (k : Int) (a : Option Addr) (n c : Nat) (l : List B) (hl : SlB w a n c l) (hnc : a = none → c = 0) (hn : n ≤ 1000) {T : List B} (HT : Hid (chk k l = T)) :
    Calls Tryd.prog 26 #[.int .i64 k, .slice a n c] w fun e w' => ∃ a' n' c', e = .returned (.slice a' n' c') ∧ OwnB w' w.heap.size (.slice a' n' c') T ∧ Keeps (fun _ => False) w w' := by
  have hlen := hl.len
  have hn' : (n : Int) ≤ 1000 := by omega
  obtain ⟨X, hX⟩ : ∃ X, sha (txt k l) = X := ⟨_, rfl⟩
  have HX : Hid (sha (txt k l) = X) := hX
  have lX : X.length = 32 := by rw [← hX]; exact sha_len _
  obtain ⟨C, hC⟩ : ∃ C, X.take 4 = C := ⟨_, rfl⟩
  have HC : Hid (X.take 4 = C) := hC
  have lC : C.length = 4 := by rw [← hC, List.length_take, lX]; rfl
  have hcs : (Tryd.prog.info? 41).map (·.size) = some (brow C).size := by rw [size_brow, lC]; exact size27
  have hone := brow_one C
  have H1 : Hid ([] ++ [kb k, kb ((n / 256 : Nat) : Int), kb (n : Int)] = [kb k, kb ((n / 256 : Nat) : Int), kb (n : Int)]) := rfl
  have H2 : Hid ([kb k, kb ((n / 256 : Nat) : Int), kb (n : Int)] ++ l = txt k l) := by show _ = _; unfold txt; rw [hlen]; rfl
  have H3 : Hid (txt k l ++ C = T) := by show _ = _; rw [← HT.out, chk, hX, hC]
  have HL : Hid ((txt k l).length = n + 3) := by show _ = _; rw [txt_len, hlen]
  clear hX hC
  go_enter Tryd.func26, Tryd.ntmps26
  go_wp2_with (first
    | (refine wpList_app rfl _ _ rfl w.heap.size _ (txt k l) rfl O5 _ 4 4 C rfl s5 (fun e => by cases e) (by rw [HL.out]; omega) (by have := K5.size; omega) ?_; intro v6 w6 O6 k6; rw [H3.out] at O6; obtain ⟨a6, n6, c6, rfl, _, _, _⟩ := O6.slice)
    | (refine wpList_app rfl _ _ rfl w.heap.size _ _ rfl O2 a n c l rfl (hl.keeps K2 (fun _ _ _ _ h => h)) hnc (by simp; omega) (by have := K2.size; omega) ?_; intro v3 w3 O3 k3; have K3 : Keeps (fun _ => False) w w3 := K2.trans' k3 (fun i e => .inr e); rw [H2.out] at O3; obtain ⟨a3, n3, c3, rfl, hs3, _, _⟩ := O3.slice; have hn3 : n3 < 900000 := (by have h1 := hs3.len; rw [HL.out] at h1; omega); clear k3)
    | (refine wpList_app rfl _ _ rfl w.heap.size _ [] rfl (own_step _ O1) _ 3 3 [kb k, kb ((n / 256 : Nat) : Int), kb (n : Int)] rfl (slb_head w1 k n hn) (fun e => by cases e) (by simp) (by have := k1.size; simp; omega) ?_; intro v2 w2 O2 k2; have K2 : Keeps (fun _ => False) w w2 := (k1.alloc _).trans' k2 (fun i e => .inr e); rw [H1.out] at O2; obtain ⟨a2, n2, c2, rfl, _, _, _⟩ := O2.slice; clear k2)
    | (refine wpList_make_b rfl _ _ rfl rfl (n + 7) _ rfl (by omega) (by omega) ?_; intro w1 O1 k1)
    | (refine wpList_buildSlice3 rfl _ _ _ rfl _ _ _ rfl rfl rfl ?_)
    | (go_at_call 17; refine (check_at HX HC _ (hT.keeps K3 (fun h => h) (fun h => h)) _ _ _ hs3 hn3).mono ?_; rintro e w4 ⟨rfl, k4⟩; have K4 := K3.trans k4; have O4 := O3.keeps k4 (fun _ _ h => h.elim))
    | (refine wpList_store_row rfl rfl 41 _ _ rfl w4.heap.size rfl (brow C) rfl 41 _ (heap_alloc_new w4 _) hcs (by rw [size_brow, lC]; rfl) hone ?_; intro w5 g5 k5 z5; have k45 := keeps_new5 k5; have K5 := K4.trans k45; have O5 := O4.keeps k45 (fun _ _ h => h.elim); have s5 : SlB w5 (some ⟨w4.heap.size, 0, none⟩) 4 4 C := (by have := slb_box g5; rwa [lC] at this); clear z5 k5 g5))
  go_ret
  exact ⟨_, _, _, rfl, O6, K5.trans' k6 (fun i e => .inr e)⟩
end Go.Proofs.YtanmopbhglokmaaDoor
