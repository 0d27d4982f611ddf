/-
  isPlace and fits of the program's leaf; inOrder's making.
-/
import Derived.Test.YthngaegfppbdmaaDoorGG
import Derived.Test.YthngaegfppbdmaaDoorPn
set_option linter.all false
namespace Go.Proofs.YthngaegfppbdmaaDoor
open Go.RowKit Go.Sort

def isPl (p : Int) : Bool := decide (2 ≤ p ∧ p ≤ 127)
theorem isPl_yes {p : Int} (h : 2 ≤ p) (h2 : p ≤ 127) : isPl p = true := decide_eq_true ⟨h, h2⟩
theorem isPl_no {p : Int} (h : p < 2 ∨ 127 < p) : isPl p = false := decide_eq_false (by omega)
theorem place65 (w : World) (p : Int) : Calls Tryd.prog 65 #[.int .i64 p] w fun e w' => e = .returned (.bool (isPl p)) ∧ w' = w := by
  have cs : (¬ 2 ≤ p) ∨ (2 ≤ p ∧ ¬ p < 128) ∨ (2 ≤ p ∧ p < 128) := by omega
  rcases cs with h | ⟨h, h2⟩ | ⟨h, h2⟩
  · have H : Hid (isPl p = false) := isPl_no (by omega)
    go_enter Tryd.func65, Tryd.ntmps65
    go_wp2
    go_ret
    exact ⟨by rw [H.out]; rfl, rfl⟩
  · have H : Hid (isPl p = false) := isPl_no (by omega)
    go_enter Tryd.func65, Tryd.ntmps65
    go_wp2
    go_ret
    exact ⟨by rw [H.out]; rfl, rfl⟩
  · have H : Hid (isPl p = true) := isPl_yes (by omega) (by omega)
    go_enter Tryd.func65, Tryd.ntmps65
    go_wp2
    go_ret
    exact ⟨by rw [H.out]; rfl, rfl⟩
theorem place_at {p : Int} {v : Bool} (h : Hid (isPl p = v)) (w : World) : Calls Tryd.prog 65 #[.int .i64 p] w fun e w' => e = .returned (.bool v) ∧ w' = w := by
  rw [← h.out]; exact place65 w p

set_option maxHeartbeats 2000000 in
theorem fits50 (w : World) (e : En) (he : e.key.length = 32) :
    Calls Tryd.prog 50 #[.agg e.cells.toArray] w fun x w' => x = .returned (.bool (one e)) ∧ Keeps (fun _ => False) w w' := by
  obtain ⟨p, hp⟩ : ∃ p, e.place = p := ⟨_, rfl⟩
  obtain ⟨b, hb⟩ : ∃ b, e.blocks = b := ⟨_, rfl⟩
  obtain ⟨r, hr⟩ : ∃ r, e.refs = r := ⟨_, rfl⟩
  have H1 : Hid (one e = decide (2 ≤ p ∧ p ≤ 127 ∧ 1 ≤ b ∧ b ≤ 8 ∧ p + b ≤ 128 ∧ 0 ≤ r ∧ r ≤ 1000)) := by show _ = _; rw [← hp, ← hb, ← hr]; rfl
  have fin : ∀ v : Bool, (v = true ↔ (2 ≤ p ∧ p ≤ 127 ∧ 1 ≤ b ∧ b ≤ 8 ∧ p + b ≤ 128 ∧ 0 ≤ r ∧ r ≤ 1000)) → Ending.returned (.bool v) = Ending.returned (.bool (one e)) := fun v hv => by
    rw [H1.out]; congr 2
    cases v with
    | true => exact (decide_eq_true (hv.1 rfl)).symm
    | false => exact (decide_eq_false (fun h => by have := hv.2 h; cases this)).symm
  have Fin : Hid (∀ v : Bool, (v = true ↔ (2 ≤ p ∧ p ≤ 127 ∧ 1 ≤ b ∧ b ≤ 8 ∧ p + b ≤ 128 ∧ 0 ≤ r ∧ r ≤ 1000)) → Ending.returned (.bool v) = Ending.returned (.bool (one e))) := fin
  clear fin H1
  by_cases h2 : 2 ≤ p ∧ p ≤ 127
  · have HP : Hid (isPl p = true) := isPl_yes h2.1 h2.2
    obtain ⟨h21, h22⟩ := h2
    have h23 : 1 ≤ 128 - p := by omega
    have cs : (¬ 1 ≤ b) ∨ (1 ≤ b ∧ ¬ b ≤ 8) ∨ (1 ≤ b ∧ b ≤ 8 ∧ ¬ b ≤ 128 - p) ∨ (1 ≤ b ∧ b ≤ 8 ∧ b ≤ 128 - p ∧ ¬ 0 ≤ r) ∨ (1 ≤ b ∧ b ≤ 8 ∧ b ≤ 128 - p ∧ 0 ≤ r ∧ ¬ r ≤ 1000) ∨ (1 ≤ b ∧ b ≤ 8 ∧ b ≤ 128 - p ∧ 0 ≤ r ∧ r ≤ 1000) := by omega
    go_enter Tryd.func50, Tryd.ntmps50
    rcases cs with h3 | ⟨h3, h4⟩ | ⟨h3, h4, h5⟩ | ⟨h3, h4, h5, h6⟩ | ⟨h3, h4, h5, h6, h7⟩ | ⟨h3, h4, h5, h6, h7⟩
    all_goals
      go_wp2_with (first
        | (refine wpList_box46 rfl _ rfl e he rfl ?_; intro g w1 b1 z1 k1; have c1 := b1.place; have c2 := b1.blocks; have c3 := b1.refs; rw [hp] at c1; rw [hb] at c2; rw [hr] at c3; rw [Nat.zero_add] at c1 c2 c3)
        | (go_at_call 65; refine (place_at HP _).mono ?_; rintro e w2 ⟨rfl, rfl⟩))
      go_ret
      exact ⟨Fin.out _ (by simp; omega), k1⟩
  · have HP : Hid (isPl p = false) := isPl_no (by omega)
    have HN : Hid (¬ (2 ≤ p ∧ p ≤ 127)) := h2
    clear h2
    go_enter Tryd.func50, Tryd.ntmps50
    go_wp2_with (first
      | (refine wpList_box46 rfl _ rfl e he rfl ?_; intro g w1 b1 z1 k1; have c1 := b1.place; have c2 := b1.blocks; have c3 := b1.refs; rw [hp] at c1; rw [hb] at c2; rw [hr] at c3; rw [Nat.zero_add] at c1 c2 c3)
      | (go_at_call 65; refine (place_at HP _).mono ?_; rintro e w2 ⟨rfl, rfl⟩))
    go_ret
    exact ⟨Fin.out _ (by have := HN.out; simp; omega), k1⟩
theorem fits_at {e : En} {v : Bool} (h : Hid (one e = v)) (w : World) (he : e.key.length = 32) :
    Calls Tryd.prog 50 #[.agg e.cells.toArray] w fun x w' => x = .returned (.bool v) ∧ Keeps (fun _ => False) w w' := by
  rw [← h.out]; exact fits50 w e he

theorem inOrder45 (w : World) (a : Option Addr) (n c : Nat) :
    Calls Tryd.prog 45 #[.slice a n c] w fun e w' => ∃ g, e = .returned (.func (.func 61) #[] #[.pointer (some ⟨g, 0, none⟩)]) ∧ w'.heap[g]? = some (.cells #[.slice a n c] 22 (0, 0)) ∧ w.heap.size ≤ g ∧ Keeps (fun _ => False) w w' := by
  go_enter Tryd.func45, Tryd.ntmps45
  go_wp2
  go_ret
  exact ⟨_, rfl, heap_alloc_new w _, Nat.le_refl _, keeps_alloc w _⟩

end Go.Proofs.YthngaegfppbdmaaDoor
