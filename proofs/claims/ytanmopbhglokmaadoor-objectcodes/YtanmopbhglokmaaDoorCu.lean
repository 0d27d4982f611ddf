/-
  The reference: Cut, Frame.
-/
import Derived.Test.YtanmopbhglokmaaDoorBuk
set_option linter.all false
namespace Go.Proofs.YtanmopbhglokmaaDoor
open Go.RowKit Go.Sort

theorem wpList_copy_new {ops : Array Oper} {rest : List Oper} {o : Oper} {a : Act} {w : World} {Q : Exit → Act → World → Prop} (hgd : o.guard = none) (d s : Operand) (ho : o.op = .call { callee := .builtin .copy, args := #[d, s], argTypes := #[22, 22] })
    (g dCap b of n c : Nat) (hd : a.eval d = .slice (some ⟨g, 0, none⟩) 128 dCap) (hs : a.eval s = .slice (some ⟨b, of, none⟩) n c) (l : List B) (hl : SlB w (some ⟨b, of, none⟩) n c l) (hg : w.heap[g]? = some (.cells (brow (zb 128)) 40 (0, 0))) (k : Nat) (hk : k = min n 128)
    (h : ∀ w', w'.heap[g]? = some (.cells (brow (first128 l)) 40 (0, 0)) → Keeps (· = g) w w' → wpList Tryd.prog ops Q rest (a.put o.dst (.int .i64 (k : Int))) w') : wpList Tryd.prog ops Q (o :: rest) a w := by
  refine wpList_plain hgd fun K hK => ?_
  have hrun := run_copy_new w o.type g dCap b of n c l hl hg k hk
  unfold Oper.wp
  simp [execOp, ho, resolve, invoke, builtin, hd, hs, hrun, Result.andThen]
  exact hK _ _ (h _ (setRow_heap w g _ _ _ _ hg) ((Keeps.refl (· = g) w).setRow (.inl rfl) _))

theorem pad_snoc (l : List B) (i : Nat) : (padB l).take ((i + 1) * 128) = (padB l).take (i * 128) ++ blk (padB l) i := blk_snoc _ i

set_option maxRecDepth 100000 in
set_option maxHeartbeats 1000000 in
theorem cut20 (w : World) (a : Option Addr) (n c : Nat) (l : List B) (hl : SlB w a n c l) (hn : n ≤ 100000) :
    Calls Tryd.prog 20 #[.slice a n c] w fun e w' => ∃ v, e = .returned v ∧ OwnK w' w.heap.size v (nbl l) (padB l) ∧ Keeps (fun _ => False) w w' := by
  have hlen := hl.len
  have Hlen : Hid (l.length = n) := hlen
  have HN : Hid (nbl l = (n + 127) / 128) := by show _ = _; unfold nbl; rw [hlen]
  have hz := zero40
  have hn' : (n : Int) ≤ 100000 := by omega
  clear hlen
  go_enter Tryd.func20, Tryd.ntmps20
  go_wp2
  go_loopw [3, 4] (fun v t wr => ∃ i : Nat, i ≤ nbl l ∧ t = .int .i64 ((i : Int) * 128) ∧ OwnK wr w.heap.size v i ((padB l).take (i * 128)) ∧ Keeps (fun _ => False) w wr) (fun _ t _ => (n + 128) - (intOf t).toNat)
  case atStart => exact ⟨0, by omega, rfl, by simpa using OwnK.nil w w.heap.size, Keeps.refl _ _⟩
  case round =>
    obtain ⟨i, hi, rfl, O, hk⟩ := hrel
    have hi' := HN.out
    by_cases hlt : i < nbl l
    · obtain ⟨p, hp⟩ : ∃ p, i * 128 = p := ⟨_, rfl⟩
      have hp' : (i : Int) * 128 = (p : Int) := by omega
      have hlt' : (p : Int) < (n : Int) := by omega
      have hltn : p < n := by omega
      have hi0 : (0 : Int) ≤ (p : Int) := by omega
      have hi1 : (p : Int) ≤ (n : Int) := by omega
      obtain ⟨b, o, rfl, _⟩ := hl.bytes n (by omega) (Nat.le_refl _)
      have hcap := hl.cap
      have hcap' : (n : Int) ≤ (c : Int) := by omega
      have hne : ¬ c = p := by omega
      have ht := (hl.keeps hk (fun _ _ _ _ h => h)).tail p (by omega)
      have Hf : Hid (first128 (l.drop p) = blk (padB l) i) := by show _ = _; rw [← hp]; exact (blk_first l i (by rw [Hlen.out]; omega)).symm
      have HS : Hid ((padB l).take ((i + 1) * 128) = (padB l).take (i * 128) ++ blk (padB l) i) := pad_snoc l i
      obtain ⟨x, hx⟩ : ∃ x, blk (padB l) i = x := ⟨_, rfl⟩
      rw [hx] at Hf HS
      have lx : x.length = 128 := by rw [← Hf.out]; exact first128_len _
      have g0 : (wr.alloc (.cells (brow (zb 128)) 40)).heap[wr.heap.size]? = some (.cells (brow (zb 128)) 40 (0, 0)) := heap_alloc_new wr _
      have hka := keeps_alloc wr (.cells (brow (zb 128)) 40)
      have Hn : Hid (nbl l = (n + 127) / 128) := hi'
      have sx := size40_of lx
      have hks := hk.size
      obtain ⟨a3, c3, rfl, _⟩ := O.slice
      clear hx hi'
      go_wp2_with fail
      generalize wr.alloc (.cells (brow (zb 128)) 40) = W0 at *
      have d0 : Keeps (fun _ => False) wr W0.drew := hka.drew
      have g0d : W0.drew.heap[wr.heap.size]? = some (.cells (brow (zb 128)) 40 (0, 0)) := g0
      have htd := ht.keeps d0 (fun _ _ _ _ h => h)
      have O0 := O.keeps d0 (fun _ _ h => h.elim)
      clear g0 hka
      refine region_tail 4 (by kernel_rfl) (by kernel_rfl) ?_
      simp only [List.take_succ_cons, List.take_zero]
      iterate 4 (go_big_quiet_step (fail))
      refine wpQuiet_nil ?_
      simp only [List.drop_succ_cons, List.drop_zero]
      go_wp2_with (first
        | (refine wpList_copy_new rfl _ _ rfl wr.heap.size _ b (o + p) _ _ rfl rfl _ htd g0d (min (n - p) 128) rfl ?_; intro w2 g2 k2; rw [Hf.out] at g2; have K2 : Keeps (fun _ => False) wr w2 := d0.trans' k2 (fun i e => .inr (by omega)); have O2 := O0.same (fun g cur e hg => k2.row hg (by have := (O.owns.lt g e).2; omega)))
        | (refine wpList_load_mid rfl _ rfl wr.heap.size 0 rfl x (range_row g2) lx ?_)
        | (refine wpList_buildK rfl _ rfl x rfl lx ?_; intro w4 s4 k4; have K4 := K2.trans k4; have O4 := O2.keeps k4 (fun _ _ h => h.elim))
        | (refine wpList_appK rfl _ _ rfl w.heap.size _ i _ rfl O4 _ _ 1 1 x rfl s4 (by have := Hn.out; omega) (by have := K4.size; omega) ?_; intro v5 w5 O5 k5; rw [← HS.out] at O5))
      exact ⟨⟨i + 1, by omega, by go_num, O5, (hk.trans K4).trans' k5 (fun i e => .inr e)⟩, by simp [intOf]; omega⟩
    · obtain rfl : i = nbl l := by omega
      have hlt' : ¬ (nbl l : Int) * 128 < (n : Int) := by omega
      rw [List.take_of_length_le (by rw [padB_len]; exact Nat.le_refl _)] at O
      clear hi'
      go_wp2
      go_ret
      exact ⟨_, rfl, O, hk⟩

end Go.Proofs.YtanmopbhglokmaaDoor
