/-
  strings.SplitSeq: what it tells one by one.
-/
import Derived.Test.YtkcnnkakpkdhkaaDoorXa
import Derived.Test.YtkcnnkakpkdhkaaDoorXb
set_option linter.all false
set_option maxRecDepth 100000
namespace Go.Proofs.YtkcnnkakpkdhkaaDoor
open Go.RowKit Go.Sort Go.Shelf
attribute [local go_sem] Oper.semAt_some

def encW (x : List UInt8) : Array Value := #[.string (bs x)]
theorem bs_self (s : ByteArray) : bs s.data.toList = s := by
  cases s; rfl
theorem ce_alloc (w : World) (t : TypeId) (v : Value) : Ce (w.alloc (.cells #[v] t)) w.heap.size t v := ⟨heap_alloc_new w _⟩

/-- What the iterator has captured. -/
structure Spl (W : World) (bk bp bq : Nat) (E s : ByteArray) : Prop where
  s : Ce W bk 9 (.string s)
  p : Ce W bp 9 (.string E)
  q : Ce W bq 3 (.int .i64 0)
theorem Spl.keep {W W' : World} {bk bp bq : Nat} {E s : ByteArray} (h : Spl W bk bp bq E s) (k : Keeps (fun _ => False) W W') : Spl W' bk bp bq E s := ⟨h.s.keep k, h.p.keep k, h.q.keep k⟩
theorem Spl.kpx {S : Nat → Prop} {W W' : World} {bk bp bq : Nat} {E s : ByteArray} (h : Spl W bk bp bq E s) (k : KpX S W W') (h1 : ¬ S bk) (h2 : ¬ S bp) (h3 : ¬ S bq) : Spl W' bk bp bq E s := ⟨h.s.kpx k h1, h.p.kpx k h2, h.q.kpx k h3⟩
theorem Spl.set {W : World} {bk bp bq : Nat} {E s : ByteArray} (h : Spl W bk bp bq E s) (h1 : bk ≠ bp) (h2 : bk ≠ bq) (s' : ByteArray) : Spl (W.setCell ⟨bk, 0, none⟩ (.string s')) bk bp bq E s' := ⟨h.s.set _, h.p.set_other h1 _, h.q.set_other h2 _⟩

theorem split51 (w : World) (s E : ByteArray) : Calls Tryd.prog 51 #[.string s, .string E, .int .i64 0] w fun e w' =>
    e = .returned (.func (.func 57) #[] #[.pointer (some ⟨w.heap.size + 1, 0, none⟩), .pointer (some ⟨w.heap.size, 0, none⟩), .pointer (some ⟨w.heap.size + 2, 0, none⟩)]) ∧ Spl w' w.heap.size (w.heap.size + 1) (w.heap.size + 2) E s ∧ w'.heap.size = w.heap.size + 3 ∧ Keeps (fun _ => False) w w' := by
  go_enter Tryd.func51, Tryd.ntmps51
  go_wp2
  go_ret
  have k1 := keeps_alloc w (.cells #[.string s] 9)
  have s1 : (w.alloc (.cells #[.string s] 9)).heap.size = w.heap.size + 1 := by simp
  have k2 := keeps_alloc (w.alloc (.cells #[.string s] 9)) (.cells #[.string E] 9)
  have s2 : ((w.alloc (.cells #[.string s] 9)).alloc (.cells #[.string E] 9)).heap.size = w.heap.size + 2 := by simp
  have k3 := keeps_alloc ((w.alloc (.cells #[.string s] 9)).alloc (.cells #[.string E] 9)) (.cells #[.int .i64 0] 3)
  have c2 := ce_alloc (w.alloc (.cells #[.string s] 9)) 9 (.string E)
  have c3 := ce_alloc ((w.alloc (.cells #[.string s] 9)).alloc (.cells #[.string E] 9)) 3 (.int .i64 0)
  rw [s1] at c2
  rw [s2] at c3
  exact ⟨by simp, ⟨((ce_alloc w 9 _).keep k2).keep k3, c2.keep k3, c3⟩, by simp, (k1.trans k2).trans k3⟩

theorem split39 (w : World) (s E : ByteArray) : Calls Tryd.prog 39 #[.string s, .string E] w fun e w' =>
    e = .returned (.func (.func 57) #[] #[.pointer (some ⟨w.heap.size + 1, 0, none⟩), .pointer (some ⟨w.heap.size, 0, none⟩), .pointer (some ⟨w.heap.size + 2, 0, none⟩)]) ∧ Spl w' w.heap.size (w.heap.size + 1) (w.heap.size + 2) E s ∧ w'.heap.size = w.heap.size + 3 ∧ Keeps (fun _ => False) w w' := by
  go_enter Tryd.func39, Tryd.ntmps39
  go_wp2_with (go_at_call 51; refine (split51 w s E).mono ?_; rintro e w' ⟨rfl, h1, h2, h3⟩)
  go_ret
  exact ⟨rfl, h1, h2, h3⟩

structure SpIn (bk bp bq : Nat) (E : ByteArray) (J : List (List UInt8) → World → Prop) (pre : List (List UInt8)) (s : ByteArray) (wr : World) : Prop where
  j : J pre wr
  n : Spl wr bk bp bq E s

set_option maxHeartbeats 4000000 in
theorem split57 (S : Nat → Prop) (w : World) (bk bp bq : Nat) (s : ByteArray) (b : UInt8) (hs : s.size ≤ 9223372036854775807) (hn : Spl w bk bp bq ⟨#[b]⟩ s) (h1 : bk ≠ bp) (h2 : bk ≠ bq) (hS1 : ¬ S bk) (hS2 : ¬ S bp) (hS3 : ¬ S bq) :
    SeqM Tryd.prog 57 #[.pointer (some ⟨bp, 0, none⟩), .pointer (some ⟨bk, 0, none⟩), .pointer (some ⟨bq, 0, none⟩)] encW (KpX S) (cutL b s.data.toList) bk w := by
  intro ly ny J Jx W hW hJ hJx hJw hY h0
  have hwW : Keeps (fun _ => False) w W := ⟨hW.os, hW.tape, hW.output, hW.size, fun k hk _ => hW.block k hk⟩
  obtain ⟨E, hE⟩ : ∃ E : ByteArray, E = ⟨#[b]⟩ := ⟨_, rfl⟩
  rw [← hE] at hn
  have hI : SpIn bk bp bq E J [] s W := ⟨h0, hn.keep hwW⟩
  have hq := fun (W : World) (s : ByteArray) => Tryd.strings_Index_one s b W
  rw [← hE] at hq
  have HJw : Hid (∀ pre A v, J pre A → J pre (A.setCell ⟨bk, 0, none⟩ v)) := hJw
  obtain ⟨XS, hXS⟩ : ∃ XS, cutL b s.data.toList = XS := ⟨_, rfl⟩
  rw [hXS] at hY ⊢
  have hE1 : E.size = 1 := by rw [hE]; rfl
  have cp := hI.n.p.cell
  clear hn hwW h0 hJ hJx hJw hE
  refine callsIn_of_wp Tryd.func57 rfl trivial ?_ rfl
  simp only [Tryd.ntmps57, List.size_toArray, List.length_cons, List.length_nil, Nat.reduceAdd, Nat.reduceSub, Array.replicate_succ, Array.replicate_zero, List.push_toArray, List.append_toArray, List.nil_append, List.cons_append]
  gi_wp2
  gi_loopw [7, 8] (fun _ _ wr => ∃ (pre : List (List UInt8)) (s1 : ByteArray), s1.size ≤ 9223372036854775807 ∧ XS = pre ++ cutL b s1.data.toList ∧ SpIn bk bp bq E J pre s1 wr) (fun _ _ wr => strLen bk wr)
  case atStart => exact ⟨[], s, hs, hXS.symm, hI⟩
  case round =>
    clear hI hXS cp
    obtain ⟨pre, s1, hs1, hx, hR⟩ := hrel
    have hcn := hR.n.s.cell
    have hfn := hR.n.s.live
    have cp := hR.n.p.cell
    have cq := hR.n.q.cell
    have Hm : Hid (strLen bk wr = s1.size) := strLen_of hR.n.s
    obtain ⟨X, hX⟩ : ∃ X, Lib.indexByte s1.data.toList b = X := ⟨_, rfl⟩
    have hqr := hq wr s1
    rw [hX] at hqr
    by_cases hn : X < 0
    · rw [cut_neg (by rw [hX]; exact hn)] at hx
      have Hx := Hid.mk' hx
      have hY1 : Hid (∀ w1, J pre w1 → _) := fun w1 hj1 => hY pre s1.data.toList [] w1 hx hj1
      clear hY hx hX hq
      gi_wp2_with (refine ⟨trivial, (fun h => by cases h), ?_⟩; gi_at_call 58; refine (callsIn_wide.2 hqr).mono ?_; rintro e w3 ⟨rfl, rfl⟩; obtain ⟨fn, tmps, assign, body, hy, hRd⟩ := hY1.out _ hR.j; simp only [encW, bs_self] at hy)
      refine ⟨fun h => by (cases h), hRd.mono ?_⟩
      rintro ed W3 ⟨hkf3, (⟨rfl, hJ3, hk3⟩ | ⟨rfl, hJx3⟩)⟩
      · gi_wp2
        go_end0
        exact ⟨⟨_, rfl⟩, .inl (by rw [Hx.out]; exact hJ3)⟩
      · gi_wp2
        go_end0
        exact ⟨⟨_, rfl⟩, .inr ⟨pre, s1.data.toList, [], Hx.out, hJx3⟩⟩
    · obtain ⟨K, rfl⟩ : ∃ K : Nat, X = (K : Int) := ⟨X.toNat, by omega⟩
      obtain ⟨hK, hc⟩ := cut_pos hX
      rw [hc] at hx
      have Hx := Hid.mk' hx
      have hK1 : K < s1.size := by rw [← sz_len]; exact hK
      have hY1 : Hid (∀ w1, J pre w1 → _) := fun w1 hj1 => hY pre _ _ w1 hx hj1
      have e1 : bs (s1.data.toList.take K) = s1.extract 0 K := by
        rw [ext_mid s1 0 K (by omega) (by omega)]
        simp
      have HK : Hid (K < s1.size) := hK1
      clear hY hx hX hq hc hK hn
      gi_wp2_with (refine ⟨trivial, (fun h => by cases h), ?_⟩; gi_at_call 58; refine (callsIn_wide.2 hqr).mono ?_; rintro e w3 ⟨rfl, rfl⟩; obtain ⟨fn, tmps, assign, body, hy, hRd⟩ := hY1.out _ hR.j; simp only [encW, e1] at hy)
      refine ⟨fun h => by (cases h), hRd.mono ?_⟩
      rintro ed W3 ⟨hkf3, (⟨rfl, hJ3, hk3⟩ | ⟨rfl, hJx3⟩)⟩
      · have hN3 := hR.n.kpx hk3 hS1 hS2 hS3
        have hcn := hN3.s.cell
        have hfn := hN3.s.live
        have cp := hN3.p.cell
        gi_wp2
        have hN4 := hN3.set h1 h2 (s1.extract (K + 1) s1.size)
        refine ⟨⟨pre ++ [s1.data.toList.take K], s1.extract (K + 1) s1.size, ?_, ?_, ⟨HJw.out _ _ _ hJ3, hN4⟩⟩, ?_⟩
        · rw [ext_sz]; omega
        · rw [Hx.out, ext_drop]; simp
        · rw [strLen_of hN4.s, Hm.out, ext_sz]
          have := HK.out
          omega
      · gi_wp2
        refine bodyPost_ret (results_none rfl _ _ _) rfl ?_
        exact ⟨⟨_, rfl⟩, .inr ⟨pre, _, _, Hx.out, hJx3⟩⟩

end Go.Proofs.YtkcnnkakpkdhkaaDoor
