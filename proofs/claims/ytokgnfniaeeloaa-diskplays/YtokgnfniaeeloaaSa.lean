/-
  Steps in memory; Fair; Mod.
-/
import Derived.Test.YtokgnfniaeeloaaRr
import Derived.OpenShut
import Derived.Lib.SmallJoins
import Derived.Deep.Slices
set_option linter.all false
namespace Go.Proofs.Ytokgnfniaeeloaa
open Go.RowKit Go.Shelf

/-- One step, as it was handed in. -/
structure StepV where
  kind : Int
  i : Int
  v : Int
  ka : Option Addr
  kc : Nat
  ks : List Int

/-- A step's four cells lie in block b from o on. -/
structure StepAt (w : World) (b o : Nat) (x : StepV) : Prop where
  c0 : w.cell? ⟨b, o, none⟩ = some (.int .i64 x.kind)
  c1 : w.cell? ⟨b, o + 1, none⟩ = some (.int .i64 x.i)
  c2 : w.cell? ⟨b, o + 2, none⟩ = some (.int .u8 x.v)
  c3 : w.cell? ⟨b, o + 3, none⟩ = some (.slice x.ka x.ks.length x.kc)
  keep : KeepAt w x.ka x.ks
  hi : -9223372036854775808 ≤ x.i ∧ x.i ≤ 9223372036854775807
  hv : 0 ≤ x.v ∧ x.v ≤ 255

/-- The steps xs lie in the slice v. -/
def StepsAt (w : World) (v : Value) (xs : List StepV) : Prop :=
  ∃ a cap, v = .slice a xs.length cap ∧ ∀ j x, xs[j]? = some x → ∃ b o, a = some ⟨b, o, none⟩ ∧ StepAt w b (o + j * 4) x

theorem cell_keeps {S : Nat → Prop} {w w' : World} (hk : Keeps S w w') {a : Addr} {v : Value} (hc : w.cell? a = some v) (hS : ¬ S a.block) : w'.cell? a = some v :=
  (World.cell?_of_block (hk.block a.block (World.block_lt_of_cell? w a hc) hS)).trans hc

theorem KeepAt.keeps {w w' : World} {ka : Option Addr} {ks : List Int} (h : KeepAt w ka ks) (hk : Keeps (fun _ => False) w w') : KeepAt w' ka ks := fun j x hx => by
  obtain ⟨b, o, e, hc, h0, h1⟩ := h j x hx
  exact ⟨b, o, e, cell_keeps hk hc (fun h => h), h0, h1⟩

theorem StepAt.keeps {w w' : World} {b o : Nat} {x : StepV} (h : StepAt w b o x) (hk : Keeps (fun _ => False) w w') : StepAt w' b o x :=
  ⟨cell_keeps hk h.c0 (fun h => h), cell_keeps hk h.c1 (fun h => h), cell_keeps hk h.c2 (fun h => h), cell_keeps hk h.c3 (fun h => h), h.keep.keeps hk, h.hi, h.hv⟩

theorem StepsAt.keeps {w w' : World} {v : Value} {xs : List StepV} (h : StepsAt w v xs) (hk : Keeps (fun _ => False) w w') : StepsAt w' v xs := by
  obtain ⟨a, cap, e, hx⟩ := h
  exact ⟨a, cap, e, fun j x hj => by obtain ⟨b, o, ea, hs⟩ := hx j x hj; exact ⟨b, o, ea, hs.keeps hk⟩⟩

def fairB (xs : List StepV) : Bool := xs.all (fun x => decide (x.ks.length ≤ 300)) && decide (xs.length ≤ 200)

set_option maxHeartbeats 1000000 in
theorem fair_any (w : World) (v : Value) (xs : List StepV) (h : StepsAt w v xs) (hlen : xs.length ≤ 9223372036854775807) :
    Calls Try.prog 10 #[v] w fun e w' => e = .returned (.bool (fairB xs)) ∧ w' = w := by
  obtain ⟨a, cap, rfl, hx⟩ := h
  go_enter Try.func10, Try.ntmps10
  go_wp2
  go_loop [3] (fun i => ∃ k : Nat, k ≤ xs.length ∧ i = .int .i64 k ∧ (xs.take k).all (fun x => decide (x.ks.length ≤ 300)) = true) (fun i => xs.length - (intOf i).toNat)
  case atStart => exact ⟨0, Nat.zero_le _, rfl, by simp⟩
  case round =>
    obtain ⟨k, hk, rfl, hall⟩ := hrel
    by_cases hlt : k < xs.length
    · obtain ⟨b, o, rfl, hs⟩ := hx k xs[k] (by simp [hlt])
      have hlt' : (k : Int) < (xs.length : Int) := by omega
      have hk0 : (0 : Int) ≤ (k : Int) := by omega
      have c3 := hs.c3
      have hn : xs.take (k + 1) = xs.take k ++ [xs[k]] := by rw [List.take_succ_eq_append_getElem hlt]
      obtain ⟨x, hxk⟩ : ∃ x, xs[k] = x := ⟨_, rfl⟩
      rw [hxk] at c3 hn
      have Hn : Hid (xs.take (k + 1) = xs.take k ++ [x]) := hn
      have Hk : Hid (xs[k]? = some x) := show xs[k]? = some x by rw [List.getElem?_eq_getElem hlt, hxk]
      have Ha : Hid ((xs.take k).all (fun x => decide (x.ks.length ≤ 300)) = true) := hall
      clear hs hn hxk hall hx
      by_cases hl : x.ks.length ≤ 300
      · have hl' : ¬ (300 : Int) < (x.ks.length : Int) := by omega
        go_wp2
        go_round
        case rel =>
          refine ⟨k + 1, hlt, by go_num, ?_⟩
          rw [Hn.out, List.all_append, Ha.out]
          simp [hl]
        case measure => simp [intOf]; omega
      · have hl' : (300 : Int) < (x.ks.length : Int) := by omega
        go_wp2
        go_ret
        refine ⟨?_, rfl⟩
        have : fairB xs = false := by
          unfold fairB
          have hm : x ∈ xs := List.mem_of_getElem? Hk.out
          have : xs.all (fun x => decide (x.ks.length ≤ 300)) = false := by
            rw [List.all_eq_false]
            exact ⟨x, hm, by simpa using hl⟩
          rw [this]; rfl
        rw [this]
        rfl
    · obtain rfl : k = xs.length := by omega
      rw [List.take_length] at hall
      have Ha : Hid (xs.all (fun x => decide (x.ks.length ≤ 300)) = true) := hall
      clear hall hx
      go_wp2
      go_ret
      refine ⟨?_, rfl⟩
      unfold fairB
      rw [Ha.out]
      simp
      omega

theorem tmod_pos (k n : Int) (hn : 0 < n) : -n < k.tmod n ∧ k.tmod n < n ∧ (k.tmod n + n).tmod n = k % n := by
  rcases Int.le_total 0 k with h | h
  · rw [Int.tmod_eq_emod_of_nonneg h]
    have h1 := Int.emod_nonneg k (show n ≠ 0 by omega)
    have h2 := Int.emod_lt_of_pos k hn
    refine ⟨by omega, h2, ?_⟩
    rw [Int.tmod_eq_emod_of_nonneg (by omega), Int.add_emod_right, Int.emod_emod]
  · have e : k.tmod n = -((-k) % n) := by
      have : k.tmod n = -((-k).tmod n) := by rw [Int.neg_tmod, Int.neg_neg]
      rw [this, Int.tmod_eq_emod_of_nonneg (by omega)]
    have h1 := Int.emod_nonneg (-k) (show n ≠ 0 by omega)
    have h2 := Int.emod_lt_of_pos (-k) hn
    rw [e]
    refine ⟨by omega, by omega, ?_⟩
    rw [Int.tmod_eq_emod_of_nonneg (by omega)]
    have h3 := Int.emod_add_mul_ediv (-k) n
    have h4 : -((-k) % n) + n = k + n * ((-k) / n + 1) := by rw [Int.mul_add]; omega
    rw [h4, Int.add_mul_emod_self_left]

set_option maxHeartbeats 400000 in
theorem mod_any (w : World) (k n : Int) (hn : 0 < n) (hn2 : n < 1000000) (hk : -9223372036854775808 ≤ k) (hk2 : k ≤ 9223372036854775807) :
    Calls Try.prog 28 #[.int .i64 k, .int .i64 n] w fun e w' => e = .returned (.int .i64 (k % n)) ∧ w' = w := by
  obtain ⟨h1, h2, h3⟩ := tmod_pos k n hn
  have H3 : Hid (k.tmod n % n = k % n) := show _ = _ by rw [← h3, Int.tmod_eq_emod_of_nonneg (show 0 ≤ k.tmod n + n by omega), Int.add_emod_right]
  have hn1 : ¬ n < 1 := by omega
  have hn0 : n ≠ 0 := by omega
  clear h3
  go_enter Try.func28, Try.ntmps28
  go_wp2
  go_ret
  refine ⟨?_, rfl⟩
  rw [← H3.out]
  rfl

end Go.Proofs.Ytokgnfniaeeloaa
