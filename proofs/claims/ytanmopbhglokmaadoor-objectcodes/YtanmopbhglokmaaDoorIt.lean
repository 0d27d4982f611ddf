/-
  The iterator over the blocks of an object's frame.
-/
import Derived.Test.YtanmopbhglokmaaDoorCk
set_option linter.all false
namespace Go.Proofs.YtanmopbhglokmaaDoor
open Go.RowKit Go.Shelf Go.Sort
attribute [local go_sem] Oper.semAt_some

/-- A block of the first bytes, with zeros behind. -/
def first128 (l : List B) : List B := l.take 128 ++ zb (128 - l.length)
theorem first128_len (l : List B) : (first128 l).length = 128 := by
  unfold first128; rw [List.length_append, List.length_take, zb_len]; omega
theorem zb_take (m n : Nat) : (zb n).take m = zb (min m n) := by simp [zb, List.take_replicate]
theorem blk_first (T : List B) (i : Nat) (hi : i * 128 < T.length) : blk (padB T) i = first128 (T.drop (i * 128)) := by
  unfold blk padB first128
  rw [List.drop_append_of_le_length (by omega), List.take_append, zb_take, List.length_drop]
  congr 2
  omega
def nbl (T : List B) : Nat := (T.length + 127) / 128
def bls (T : List B) : List (Nat × List B) := (List.range (nbl T)).map fun i => (i, blk (padB T) i)
def encB (x : Nat × List B) : Array Value := #[.int .i64 (x.1 : Int), .agg (brow x.2)]
theorem bls_len (T : List B) : (bls T).length = nbl T := by simp [bls]
theorem bls_split {T : List B} {pre : List (Nat × List B)} {x : Nat × List B} {rest : List (Nat × List B)} (h : bls T = pre ++ x :: rest) : x = (pre.length, blk (padB T) pre.length) ∧ pre.length < nbl T := by
  have hl := bls_len T
  have hlt : pre.length < nbl T := by rw [← hl, h]; simp
  have hx : (bls T)[pre.length]? = some x := by rw [h]; simp
  have hx' : (bls T)[pre.length]? = some (pre.length, blk (padB T) pre.length) := by simp [bls, hlt]
  rw [hx'] at hx
  exact ⟨by simpa using hx.symm, hlt⟩

theorem info40 : (Tryd.prog.info? 40).map (fun i => (i.zero, i.size)) = some (some (.agg (brow (zb 128))), 128) := by kernel_rfl
theorem zero40 (w : World) : (zeroValue 40).run Tryd.prog w = .ok (.agg (brow (zb 128))) w := (zero_of_info info40).1 w
theorem size40 : (Tryd.prog.info? 40).map (·.size) = some 128 := (zero_of_info info40).2

theorem run_copy_new (w : World) (ty : TypeId) (g dCap b o n c : Nat) (l : List B) (hl : SlB w (some ⟨b, o, none⟩) n c l) (hg : w.heap[g]? = some (.cells (brow (zb 128)) 40 (0, 0))) (k : Nat) (hk : k = min n 128) :
    (Builtin.copy_ #[22, 22] ty #[.slice (some ⟨g, 0, none⟩) 128 dCap, .slice (some ⟨b, o, none⟩) n c]).run Tryd.prog w = .ok (goInt k) (w.setRow g (brow (first128 l))) := by
  have hlen := hl.len
  have e : ((l.take 128).map vb).length = k := by rw [List.length_map, List.length_take, hlen, hk]; omega
  have hrun := run_copy_row (P := Tryd.prog) w 22 22 ty 5 g 0 128 dCap ⟨b, o, none⟩ n c (brow (zb 128)) 40 ((l.take 128).map vb) Tryd.underlying22 size5 hg (by rw [e, hk]) (fun j v hv => by
      rw [List.getElem?_map] at hv
      cases hq : (l.take 128)[j]? with
      | none => rw [hq] at hv; cases hv
      | some x =>
        rw [hq] at hv
        rw [List.getElem?_take] at hq
        split at hq
        · obtain ⟨b', o', e', hc⟩ := hl.at_ j x hq
          cases e'
          rw [Addr_add]
          cases hv
          exact hc
        · cases hq) (by rw [e, size_brow, zb_len]; omega) (one_bytes _)
  rw [e] at hrun
  rw [hrun]
  have e2 : ((zb 128).map vb).drop k = (zb (128 - l.length)).map vb := by
    rw [← List.map_drop]; congr 1; simp only [zb, List.drop_replicate]; congr 1; omega
  have e3 : (brow (zb 128)).toList = (zb 128).map vb := rfl
  rw [e3, Nat.zero_add, e2, List.take_zero, List.nil_append]
  unfold first128 brow
  rw [List.map_append]

theorem wpListIn_copy_new {F : Fence} {m : Nat} {ops : Array Oper} {rest : List Oper} {o : Oper} {a : Act} {w : World} {Q : Exit → Act → World → Prop} (hgd : o.guard = none) (d s : Operand) (ho : o.op = .call { callee := .builtin .copy, args := #[d, s], argTypes := #[22, 22] })
    (g dCap b of n c : Nat) (hd : a.eval d = .slice (some ⟨g, 0, none⟩) 128 dCap) (hs : a.eval s = .slice (some ⟨b, of, none⟩) n c) (l : List B) (hl : SlB w (some ⟨b, of, none⟩) n c l) (hg : w.heap[g]? = some (.cells (brow (zb 128)) 40 (0, 0))) (k : Nat) (hk : k = min n 128)
    (h : ∀ w', w'.heap[g]? = some (.cells (brow (first128 l)) 40 (0, 0)) → Keeps (· = g) w w' → w'.heap.size = w.heap.size → wpListIn F m Tryd.prog ops Q rest (a.put o.dst (.int .i64 (k : Int))) w') : wpListIn F m Tryd.prog ops Q (o :: rest) a w := by
  refine wpListIn_plain hgd fun K hK => ?_
  have hrun := run_copy_new w o.type g dCap b of n c l hl hg k hk
  unfold Oper.wpIn
  refine ⟨?_, ?_⟩
  · simp [Oper.about, ho, resolve, Target.leads, Sem.run_pure]
  · rw [semAt_call _ _ _ _ ho]
    simp [execOp, ho, resolve, invoke, builtin, hd, hs, hrun, Result.andThen]
    exact hK _ _ (h _ (setRow_heap w g _ _ _ _ hg) ((Keeps.refl (· = g) w).setRow (.inl rfl) _) (by simp))

theorem grown_of_keeps {w w' : World} (h : Keeps (fun _ => False) w w') : w.grownBy w' none := ⟨h.os, h.tape, h.output, h.size, fun k hk _ => h.block k hk (fun h => h)⟩

/-- Where the iterator stands. -/
structure ItIn (T : List B) (J : List (Nat × List B) → World → Prop) (W : World) (x i : Value) (wr : World) : Prop where
  out : ∃ pre rest a' n' c', bls T = pre ++ rest ∧ i = .int .i64 (pre.length : Int) ∧ x = .slice a' n' c' ∧ SlB wr a' n' c' (T.drop (pre.length * 128)) ∧ (∀ b o, a' = some ⟨b, o, none⟩ → W.heap.size ≤ b) ∧ J pre wr ∧ W.heap.size ≤ wr.heap.size

theorem itIn_next {T : List B} {J : List (Nat × List B) → World → Prop} {W w3 : World} {pre rest : List (Nat × List B)} {x : Nat × List B} {b o n' c' : Nat} (hx : bls T = pre ++ x :: rest) (hl : SlB w3 (some ⟨b, o, none⟩) n' c' (T.drop (pre.length * 128))) (hb : W.heap.size ≤ b) (hJ : J (pre ++ [x]) w3) (hw : W.heap.size ≤ w3.heap.size) (k : Nat) (hk : k = min n' 128) (v : Value)
    (hv : v = .slice (some ⟨b, o + k, none⟩) (n' - k) (c' - k) ∨ ∃ a'' m c'', v = .slice a'' m c'' ∧ m = 0 ∧ n' ≤ 128 ∧ (∀ b o, a'' = some ⟨b, o, none⟩ → W.heap.size ≤ b)) : ItIn T J W v (.int .i64 ((pre.length : Int) + 1)) w3 := by
  have e : (T.drop (pre.length * 128)).drop 128 = T.drop ((pre ++ [x]).length * 128) := by rw [List.drop_drop]; congr 1; simp; omega
  have hlen := hl.len
  have e0 : ((pre ++ [x]).length : Int) = (pre.length : Int) + 1 := by simp
  rcases hv with rfl | ⟨a'', m, c'', rfl, rfl, h1, h2⟩
  · rcases Nat.lt_or_ge n' 128 with h | h
    · obtain rfl : k = n' := by omega
      have e1 : T.drop ((pre ++ [x]).length * 128) = [] := by rw [← e]; exact List.drop_eq_nil_of_le (by omega)
      refine ⟨pre ++ [x], rest, _, _, _, by simp [hx], by rw [e0], rfl, ?_, by rintro _ _ ⟨⟩; exact hb, hJ, hw⟩
      rw [e1]
      exact ⟨by simp, by omega, fun j y hy => by simp at hy⟩
    · obtain rfl : k = 128 := by omega
      have h2 := hl.tail 128 h
      rw [e] at h2
      exact ⟨pre ++ [x], rest, _, _, _, by simp [hx], by rw [e0], rfl, h2, by rintro _ _ ⟨⟩; exact hb, hJ, hw⟩
  · have e1 : T.drop ((pre ++ [x]).length * 128) = [] := by rw [← e]; exact List.drop_eq_nil_of_le (by omega)
    refine ⟨pre ++ [x], rest, _, _, _, by simp [hx], by rw [e0], rfl, ?_, h2, hJ, hw⟩
    rw [e1]
    exact ⟨by simp, by omega, fun j y hy => by simp at hy⟩

set_option maxRecDepth 100000 in
set_option maxHeartbeats 1000000 in
theorem blocks1 (S : Nat → Prop) (w : World) (bk bb : Nat) (k : Int) (a : Option Addr) (n c : Nat) (l T : List B) (hbk : w.heap[bk]? = some (.cells #[.int .i64 k] 3 (0, 0))) (hbb : w.heap[bb]? = some (.cells #[.slice a n c] 22 (0, 0)))
    (hT : Tabs w) (hl : SlB w a n c l) (hnc : a = none → c = 0) (hn : n ≤ 1000) (HT : Hid (chk k l = T)) (hS : ∀ k, w.heap.size ≤ k → ¬ S k) :
    SeqO Tryd.prog 25 #[.pointer (some ⟨bk, 0, none⟩), .pointer (some ⟨bb, 0, none⟩)] encB (KpX S) (bls T) w := by
  intro ly ny J Jx W hW hJ hJx hY h0
  have hwW : Keeps (fun _ => False) w W := ⟨hW.os, hW.tape, hW.output, hW.size, fun k hk _ => hW.block k hk⟩
  have g1 := hwW.row hbk (fun h => h)
  have g2 := hwW.row hbb (fun h => h)
  have cc1 : W.cell? ⟨bk, 0, none⟩ = some (.int .i64 k) := by simp [World.cell?, g1]
  have cc2 : W.cell? ⟨bb, 0, none⟩ = some (.slice a n c) := by simp [World.cell?, g2]
  have hTW := hT.keeps hwW (fun h => h) (fun h => h)
  have hlW := hl.keeps hwW (fun _ _ _ _ h => h)
  have hSW : ∀ k, W.heap.size ≤ k → ¬ S k := fun k hk => hS k (Nat.le_trans hW.size hk)
  have lT : T.length = n + 7 := by rw [← HT.out, chk_len, hl.len]
  have HlT : Hid (T.length = n + 7) := lT
  clear lT hwW g1 g2
  refine callsIn_of_wp Tryd.func25 rfl trivial ?_ rfl
  simp only [Tryd.ntmps25, List.size_toArray, List.length_cons, List.length_nil, Nat.reduceAdd, Nat.reduceSub, Array.replicate_succ, Array.replicate_zero, List.push_toArray, List.append_toArray, List.nil_append, List.cons_append]
  gi_wp2_with (refine ⟨trivial, (fun h => by cases h), ?_⟩; gi_at_call 26; refine (callsIn_wide.2 (checked26 W hTW k a n c l hlW hnc hn HT)).mono ?_; rintro e W1 ⟨a1, n1, c1, rfl, O1, k1⟩)
  obtain ⟨_, _, _, he, hs1, hb1, _⟩ := O1.slice
  cases he
  have hJ1 : J [] W1 := hJ [] W W1 none h0 (grown_of_keeps k1) (fun r e => by cases e)
  have hI : ItIn T J W (.slice a1 n1 c1) (.int .i64 0) W1 := ⟨[], bls T, a1, n1, c1, rfl, rfl, rfl, by simpa using hs1, hb1, hJ1, k1.size⟩
  clear hbk hbb hT hl hTW hlW cc1 cc2 hJ1 hs1 hb1 O1 k1 h0 hS hnc HT
  gi_loopw [4, 5] (fun x i wr => ItIn T J W x i wr) (fun x _ _ => lenOf x)
  case atStart => exact hI
  case round =>
    clear hI
    obtain ⟨pre, rest, a', n', c', hx, rfl, rfl, hl', hb', hj, hsz⟩ := hrel.out
    clear hrel
    have hlen := hl'.len
    rw [List.length_drop] at hlen
    have hil := bls_len T
    cases rest with
    | nil =>
      have hpl : pre.length = nbl T := by rw [← hil, hx]; simp
      obtain rfl : n' = 0 := by unfold nbl at hpl; omega
      have Hx : Hid (bls T = pre ++ []) := hx
      clear hx hil hpl hlen
      gi_wp2
      go_end0
      refine ⟨⟨_, rfl⟩, .inl ?_⟩
      rw [Hx.out, List.append_nil]
      exact hj
    | cons x rest =>
      obtain ⟨hx1, hlt⟩ := bls_split hx
      have hlt2 : pre.length * 128 < T.length := by unfold nbl at hlt; omega
      have hn0 : 0 < n' := by omega
      have hn0' : (0 : Int) < (n' : Int) := by omega
      have hn1 : n' ≤ 1007 := by have := HlT.out; omega
      have hpi : (pre.length : Int) ≤ 1007 := by have := HlT.out; omega
      obtain ⟨b, o, rfl, _⟩ := hl'.bytes n' hn0 (Nat.le_refl _)
      have hcap := hl'.cap
      have hcap' : (n' : Int) ≤ (c' : Int) := by omega
      have hbW := hb' b o rfl
      have Hf : Hid (first128 (T.drop (pre.length * 128)) = x.2) := by show _ = _; rw [hx1]; exact (blk_first T _ hlt2).symm
      have He : Hid (encB x = #[.int .i64 (pre.length : Int), .agg (brow x.2)]) := by show _ = _; rw [hx1]; rfl
      have lx : x.2.length = 128 := by rw [← Hf.out]; exact first128_len _
      have hix : (Tryd.prog.info? 40).map (·.size) = some (brow x.2).size := by rw [size_brow, lx]; exact size40
      have hY1 : Hid (∀ w1, J pre w1 → _) := fun w1 hj1 => hY pre x rest w1 hx hj1
      have Hx : Hid (bls T = pre ++ x :: rest) := hx
      have hz := zero40
      have HnS : Hid (¬ S b) := hSW b hbW
      clear hY hx hx1 hlen hil hlt hlt2 hb' lx
      rcases Nat.lt_or_ge n' 128 with hk | hk
      · have hk' : (n' : Int) < 128 := by omega
        gi_wp2_with (first | (refine wpListIn_load_row rfl 40 _ rfl wr.heap.size 0 rfl (brow x.2) (range_row g1) _ Tryd.underlying40 rfl hix ?_) | (refine wpListIn_copy_new rfl _ _ rfl wr.heap.size _ b o n' c' rfl rfl _ (hl'.keeps (keeps_alloc wr _) (fun _ _ _ _ h => h)) (heap_alloc_new wr _) n' (by omega) ?_; intro w1 g1 kk1 z1; rw [Hf.out] at g1; have k0 := keeps_new5 kk1; have hj1 : J pre w1 := hJ pre wr w1 none hj (grown_of_keeps k0) (fun r e => by cases e); obtain ⟨fn, tmps, assign, body, hy, hR⟩ := hY1.out w1 hj1; rw [He.out] at hy; have hl1 := hl'.keeps k0 (fun _ _ _ _ h => h); clear z1 kk1))
        all_goals
          refine ⟨fun h => by (cases h), hR.mono ?_⟩
          rintro e W3 ⟨hkf3, (⟨rfl, hJ3, hk3⟩ | ⟨rfl, hJx3⟩)⟩
          · have hl3 := hl1.kpx hk3 (by rintro _ _ _ ⟨⟩; exact HnS.out)
            have hs3 : W.heap.size ≤ W3.heap.size := by have := hk3.1; have := k0.size; omega
            gi_wp2
            go_roundw
            case rel => exact itIn_next Hx.out hl3 hbW hJ3 hs3 n' (by omega) _ (by first | exact .inl rfl | exact .inr ⟨_, _, _, rfl, by omega, by omega, by rintro _ _ ⟨⟩; exact hbW⟩)
            case measure => simp [lenOf]; omega
          · gi_wp2
            refine bodyPost_ret (results_none rfl _ _ _) rfl ?_
            exact ⟨⟨_, rfl⟩, .inr ⟨pre, x, rest, Hx.out, hJx3⟩⟩
      · have hk' : (128 : Int) ≤ (n' : Int) := by omega
        gi_wp2_with (first | (refine wpListIn_load_row rfl 40 _ rfl wr.heap.size 0 rfl (brow x.2) (range_row g1) _ Tryd.underlying40 rfl hix ?_) | (refine wpListIn_copy_new rfl _ _ rfl wr.heap.size _ b o n' c' rfl rfl _ (hl'.keeps (keeps_alloc wr _) (fun _ _ _ _ h => h)) (heap_alloc_new wr _) 128 (by omega) ?_; intro w1 g1 kk1 z1; rw [Hf.out] at g1; have k0 := keeps_new5 kk1; have hj1 : J pre w1 := hJ pre wr w1 none hj (grown_of_keeps k0) (fun r e => by cases e); obtain ⟨fn, tmps, assign, body, hy, hR⟩ := hY1.out w1 hj1; rw [He.out] at hy; have hl1 := hl'.keeps k0 (fun _ _ _ _ h => h); clear z1 kk1))
        all_goals
          refine ⟨fun h => by (cases h), hR.mono ?_⟩
          rintro e W3 ⟨hkf3, (⟨rfl, hJ3, hk3⟩ | ⟨rfl, hJx3⟩)⟩
          · have hl3 := hl1.kpx hk3 (by rintro _ _ _ ⟨⟩; exact HnS.out)
            have hs3 : W.heap.size ≤ W3.heap.size := by have := hk3.1; have := k0.size; omega
            gi_wp2
            go_roundw
            case rel => exact itIn_next Hx.out hl3 hbW hJ3 hs3 128 (by omega) _ (by first | exact .inl rfl | exact .inr ⟨_, _, _, rfl, by omega, by omega, by rintro _ _ ⟨⟩; exact hbW⟩)
            case measure => simp [lenOf]; omega
          · gi_wp2
            refine bodyPost_ret (results_none rfl _ _ _) rfl ?_
            exact ⟨⟨_, rfl⟩, .inr ⟨pre, x, rest, Hx.out, hJx3⟩⟩

end Go.Proofs.YtanmopbhglokmaaDoor
