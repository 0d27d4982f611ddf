/-
  Search, and the finding of a key.
-/
import Derived.Test.YthngaegfppbdmaaDoorXc
set_option linter.all false
namespace Go.Proofs.YthngaegfppbdmaaDoor
open Go.RowKit Go.Sort Go.Shelf
attribute [local go_sem] Oper.semAt_some

theorem quiet_loadR {o : Oper} {a : Act} {C : World → Prop} {K : Act → Prop} (t : TypeId) (x : Operand) (ho : o.op = .load t x) (g : Nat) (hx : a.eval x = .pointer (some ⟨g, 0, none⟩)) (cs : Array Value) (hs : RowTy t cs.size) (hb : ∀ w, C w → RoAt w g t cs) (hk : K (a.put o.dst (.agg cs))) : o.quiet Tryd.prog a C K := by
  refine ⟨.agg cs, fun w hw => ?_, hk⟩
  unfold Oper.quietAt execOp
  simp only [ho, hx, Instr.loadAt, Instr.sureAddr, Sem.run_bind, Sem.run_pure, Result.andThen_ok, run_loadR (hb w hw) hs]
  exact ⟨rfl, rfl⟩

set_option maxHeartbeats 4000000 in
theorem below72 (w : World) (a : Option Addr) (n c : Nat) (l : List En) (hl : SlE w a n c l) (key : List B) (lk : key.length = 32) (g2 g3 : Nat) (B2 : RoAt w g2 95 #[.slice a n c, .func (.func 70) #[] #[], .func (.func 62) #[] #[]]) (B3 : RoAt w g3 52 (brow key)) (i : Nat) (hlt : i < n) :
    Calls Tryd.prog 72 #[.int .i64 (i : Int), .pointer (some ⟨g2, 0, none⟩), .pointer (some ⟨g3, 0, none⟩)] w fun e w' => e = .returned (.bool (!lessB (l.getD i default).key key)) ∧ Keeps (fun _ => False) w w' := by
  have hlt' : (i : Int) < (n : Int) := by omega
  have hi0 : (0 : Int) ≤ (i : Int) := by omega
  obtain ⟨b, o, rfl, E1⟩ := hl.ent hlt
  generalize l.getD i default = e1 at *
  have l1 := E1.len
  obtain ⟨v, hv⟩ : ∃ v, lessB e1.key key = v := ⟨_, rfl⟩
  have HL : Hid (lessB e1.key key = v) := hv
  clear hv
  have c0 : ∀ d os, (grow (redrawn w d) os).cell? ⟨g2, 0, none⟩ = some (.slice (some ⟨b, o, none⟩) n c) := fun d os => (B2.cls ⟨⟨d, os⟩, rfl⟩).cell 0
  have c1 : ∀ d os, (grow (redrawn w d) os).cell? ⟨g2, 1, none⟩ = some (.func (.func 70) #[] #[]) := fun d os => (B2.cls ⟨⟨d, os⟩, rfl⟩).cell 1
  have c2 : ∀ d os, (grow (redrawn w d) os).cell? ⟨g2, 2, none⟩ = some (.func (.func 62) #[] #[]) := fun d os => (B2.cls ⟨⟨d, os⟩, rfl⟩).cell 2
  rw [HL.out]
  go_enter Tryd.func72, Tryd.ntmps72
  go_wp2_with fail
  refine wp_region_quiet_below (by kernel_rfl) (by kernel_rfl) ?_
  repeat (first
    | go_big_quiet_step (fail)
    | (go_big_quiet_want; refine quiet_load46 _ rfl b (o + i * 35) rfl e1 (fun w' hp => E1.cls hp) ?_; simp only [Act.put, List.setIfInBounds_toArray, List.set_cons_zero, List.set_cons_succ]; go_big_quiet_on)
    | (go_big_quiet_want; refine quiet_loadR 52 _ rfl g3 rfl (brow key) (by rw [size_brow, lk]; exact rowTy52) (fun w' hp => B3.cls hp) ?_; simp only [Act.put, List.setIfInBounds_toArray, List.set_cons_zero, List.set_cons_succ]; go_big_quiet_on)
    | (go_big_quiet_want; go_big_quiet_op; apply Exists.intro; refine ⟨fun _ => call_cls (less_of HL _ l1 lk) ⟨_, rfl⟩, ?_⟩; go_big_quiet_on)
    | (go_big_quiet_want; go_big_quiet_op; apply Exists.intro; refine ⟨fun _ => call_cls (key70 _ e1 l1) ⟨_, rfl⟩, ?_⟩; go_big_quiet_on))
  refine wpQuiet_nil ?_
  intro w5 hw5
  go_wp2
  go_ret
  exact ⟨rfl, keeps_cls hw5⟩

theorem search71 (w : World) (n : Nat) (hn : n ≤ 4611686018427387903) (cb1 cb2 : Value) (p : Nat → Bool)
    (hf : ∀ wr, Keeps (fun _ => False) w wr → ∀ i, i < n → Calls Tryd.prog 72 #[.int .i64 (i : Int), cb1, cb2] wr fun e w' => e = .returned (.bool (p i)) ∧ Keeps (fun _ => False) wr w')
    (hm : ∀ i j, i ≤ j → j < n → p i = true → p j = true) :
    Calls Tryd.prog 71 #[.int .i64 (n : Int), .func (.func 72) #[] #[cb1, cb2]] w fun e w' => ∃ k : Nat, e = .returned (.int .i64 (k : Int)) ∧ k ≤ n ∧ (∀ t, t < k → p t = false) ∧ (∀ t, k ≤ t → t < n → p t = true) ∧ Keeps (fun _ => False) w w' := by
  have HF : Hid (∀ wr, Keeps (fun _ => False) w wr → ∀ i, i < n → Calls Tryd.prog 72 #[.int .i64 (i : Int), cb1, cb2] wr fun e w' => e = .returned (.bool (p i)) ∧ Keeps (fun _ => False) wr w') := hf
  have HM : Hid (∀ i j, i ≤ j → j < n → p i = true → p j = true) := hm
  clear hf hm
  go_enter Tryd.func71, Tryd.ntmps71
  go_wp2
  go_loopw [5, 6] (fun s t wr => ∃ lo hi : Nat, s = .int .i64 (lo : Int) ∧ t = .int .i64 (hi : Int) ∧ lo ≤ hi ∧ hi ≤ n ∧ Hid (∀ t, t < lo → p t = false) ∧ Hid (∀ t, hi ≤ t → t < n → p t = true) ∧ Keeps (fun _ => False) w wr) (fun s t _ => (intOf t).toNat - (intOf s).toNat)
  case atStart => exact ⟨0, n, rfl, rfl, by omega, by omega, (fun t ht => by omega), (fun t h1 h2 => by omega), Keeps.refl _ _⟩
  case round =>
    obtain ⟨lo, hi, rfl, rfl, hlh, hin, HA, HB, KW⟩ := hrel
    by_cases hlt : lo < hi
    · have hlt' : (lo : Int) < (hi : Int) := by omega
      have hc := HF.out _ KW ((lo + hi) / 2) (by omega)
      rw [show (((lo + hi) / 2 : Nat) : Int) = ((lo : Int) + (hi : Int)) / 2 by omega] at hc
      cases hp : p ((lo + hi) / 2) <;> rw [hp] at hc
      · have HP : Hid (p ((lo + hi) / 2) = false) := hp
        clear hp
        go_wp2_with (go_at_call 72; refine hc.mono ?_; rintro e w' ⟨rfl, k2⟩)
        exact ⟨⟨(lo + hi) / 2 + 1, hi, by go_num, rfl, by omega, hin, (fun t ht => by
          cases h : p t with
          | false => rfl
          | true => have := HM.out t ((lo + hi) / 2) (by omega) (by omega) h; rw [HP.out] at this; cases this), HB, KW.trans k2⟩, by simp [intOf]; omega⟩
      · have HP : Hid (p ((lo + hi) / 2) = true) := hp
        clear hp
        go_wp2_with (go_at_call 72; refine hc.mono ?_; rintro e w' ⟨rfl, k2⟩)
        exact ⟨⟨lo, (lo + hi) / 2, rfl, by go_num, by omega, by omega, HA, (fun t ht htn => HM.out _ _ ht htn HP.out), KW.trans k2⟩, by simp [intOf]; omega⟩
    · obtain rfl : hi = lo := by omega
      have hlt' : ¬ (hi : Int) < (hi : Int) := by omega
      go_wp2
      go_ret
      exact ⟨hi, rfl, hin, HA.out, HB.out, KW⟩

end Go.Proofs.YthngaegfppbdmaaDoor
