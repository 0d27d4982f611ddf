/-
  DiskNone: the walk.
-/
import Derived.Test.YtokgnfniaeeloaaSa
set_option linter.all false
namespace Go.Proofs.Ytokgnfniaeeloaa
open Go.RowKit Go.Shelf
attribute [local go_sem ↓] Go.wp_at_zero Go.wp_at_succ wp_build37

theorem read_none (w : World) (i : Int) : Calls Try.prog 17 #[.pointer none, .int .i64 i] w fun e w' => e = .returned (.tuple #[.agg (fill 0), .int .i64 1]) ∧ Keeps (fun _ => False) w w' := by
  by_cases h : i < 0
  · exact read_neg w none i h
  · exact read_nil w i (by omega)

theorem write_none (w : World) (i : Int) (b : Array Value) : Calls Try.prog 14 #[.pointer none, .int .i64 i, .agg b] w fun e w' => e = .returned (.int .i64 1) ∧ Keeps (fun _ => False) w w' := by
  by_cases h : i < 0
  · exact write_neg w none i b h
  · exact write_nil w i b (by omega)

set_option maxRecDepth 100000 in
set_option maxHeartbeats 2000000 in
theorem none_any (w : World) (x : StepV) (hK : KeepAt w x.ka x.ks) (hi : -9223372036854775808 ≤ x.i ∧ x.i ≤ 9223372036854775807) (hv : 0 ≤ x.v ∧ x.v ≤ 255) :
    Calls Try.prog 6 #[.agg #[.int .i64 x.kind, .int .i64 x.i, .int .u8 x.v, .slice x.ka x.ks.length x.kc]] w fun e w' => e = .returned (.bool true) ∧ Keeps (fun _ => False) w w' := by
  go_enter Try.func6, Try.ntmps6
  go_wp2_with fail
  obtain ⟨w2, hw2⟩ : ∃ w2, (w.alloc (.cells #[.int .i64 x.kind, .int .i64 x.i, .int .u8 x.v, .slice x.ka x.ks.length x.kc] 34)).alloc (.cells #[.int .i64 x.kind, .int .i64 x.i, .int .u8 x.v, .slice x.ka x.ks.length x.kc] 34) = w2 := ⟨_, rfl⟩
  rw [hw2]
  have k2 : Keeps (fun _ => False) w w2 := by rw [← hw2]; exact ((Keeps.refl _ _).alloc _).alloc _
  have g0 : w2.heap[w.heap.size]? = some (.cells #[.int .i64 x.kind, .int .i64 x.i, .int .u8 x.v, .slice x.ka x.ks.length x.kc] 34 (0, 0)) := by rw [← hw2]; exact heap_alloc2_old w _ _
  have g1 : w2.heap[w.heap.size + 1]? = some (.cells #[.int .i64 x.kind, .int .i64 x.i, .int .u8 x.v, .slice x.ka x.ks.length x.kc] 34 (0, 0)) := by rw [← hw2]; exact heap_alloc2_new w _ _
  have hst : StepsAt w2 (.slice (some ⟨w.heap.size + 1, 0, none⟩) 1 1) [x] := by
    refine ⟨_, _, rfl, fun j y hj => ?_⟩
    match j, hj with
    | 0, hj =>
      cases hj
      refine ⟨_, _, rfl, ?_, ?_, ?_, ?_, hK.keeps k2, hi, hv⟩ <;> simp [World.cell?, g1]
  clear hw2 g1
  refine (fair_any w2 _ [x] hst (by simp)).mono ?_
  rintro e w' ⟨rfl, rfl⟩
  clear hst
  cases hf : fairB [x] with
  | false =>
    go_wp2_with (go_at_call 11; refine (wakes_any _).mono ?_; rintro e w3 ⟨rfl, k3⟩)
    go_ret
    exact ⟨rfl, k2.trans k3⟩
  | true =>
    have c1 : w'.cell? ⟨w.heap.size, 1, none⟩ = some (.int .i64 x.i) := by simp [World.cell?, g0]
    have c3 : w'.cell? ⟨w.heap.size, 3, none⟩ = some (.slice x.ka x.ks.length x.kc) := by simp [World.cell?, g0]
    have hz := zero37
    have hs0 : (Try.prog.info? 37).map (·.size) = some (fill 0).size := by rw [size_fill]; exact size37
    have ho0 := fill_one 0
    clear hf hK
    go_wp2_with (first | (go_at_call 23; refine (fuse_nil _ _).mono ?_; rintro e wf ⟨rfl, rfl⟩))
    refine (crash_nil wf _ _).mono ?_
    rintro e wc ⟨rfl, kc⟩
    replace g0 := (kc.block _ (Array.getElem?_eq_some_iff.1 g0).1 (fun h => h)).trans g0
    replace k2 := k2.trans kc
    clear c1 c3 kc
    have c1 : wc.cell? ⟨w.heap.size, 1, none⟩ = some (.int .i64 x.i) := by simp [World.cell?, g0]
    go_wp2_with (first | (go_at_call 17; refine (read_none _ _).mono ?_; rintro e wr ⟨rfl, kr⟩) | (refine wpList_store_row rfl 37 _ _ rfl wr.heap.size rfl (fill 0) rfl 37 (fill 0) (heap_alloc2_x wr _) hs0 rfl ho0 ?_; intro ws ns ks'))
    have k0 : Keeps (fun _ => False) wr ws := ((Keeps.refl _ _).alloc _).trans' ks' (fun k e => .inr (by omega))
    replace g0 := (k0.block _ (Array.getElem?_eq_some_iff.1 ((kr.block _ (Array.getElem?_eq_some_iff.1 g0).1 (fun h => h)).trans g0)).1 (fun h => h)).trans ((kr.block _ (Array.getElem?_eq_some_iff.1 g0).1 (fun h => h)).trans g0)
    replace k2 := (k2.trans kr).trans k0
    clear c1 kr ks' k0
    have HS : Hid (∀ w', Keeps (fun _ => False) ws w' → Keeps (fun _ => False) ws w' ∧ w'.rangeAt wr.heap.size 0 (fill 0).toList ∧ w'.cell? ⟨w.heap.size, 1, none⟩ = some (.int .i64 x.i) ∧ w'.cell? ⟨w.heap.size, 2, none⟩ = some (.int .u8 x.v)) := fun w' hk => by
      have g0' := (hk.block _ (Array.getElem?_eq_some_iff.1 g0).1 (fun h => h)).trans g0
      refine ⟨hk, fun j v hv => ?_, by simp [World.cell?, g0'], by simp [World.cell?, g0']⟩
      rw [cell_of_row w' _ _ _ _ _ ((hk.block _ (Array.getElem?_eq_some_iff.1 ns).1 (fun h => h)).trans ns), Nat.zero_add]
      simpa using hv
    clear g0 ns hz hs0 ho0
    have hu := Try.underlying37
    have hi37 : (Try.prog.info? 37).map (·.size) = some (fill 0).toList.length := by rw [(ok_fill 0).1]; exact size37
    have hl7 := (ok_fill 0).1
    have heq := eq_bytes (bytes_fill 0)
    have hz := zero37
    go_region_held3 (fun w' => Keeps (fun _ => False) ws w' ∧ w'.rangeAt wr.heap.size 0 (fill 0).toList ∧ w'.cell? ⟨w.heap.size, 1, none⟩ = some (.int .i64 x.i) ∧ w'.cell? ⟨w.heap.size, 2, none⟩ = some (.int .u8 x.v))
      (first | assumption | exact HS.out _ (Keeps.refl _ _) | exact HS.out _ ((Keeps.refl _ _).drew) | (exact HS.out _ (Keeps.drew (And.left (by assumption)))) | exact HS.out _ (Keeps.trans (And.left (by assumption)) (by assumption)))
      (first | (go_at_call 26; refine (down_nil _).mono ?_; rintro e w' ⟨rfl, rfl⟩) | (go_at_call 24; refine (loose_nil _).mono ?_; rintro e w' ⟨rfl, rfl⟩) | (go_at_call 25; refine (len_nil _).mono ?_; rintro e w' ⟨rfl, rfl⟩) | (go_at_call 27; refine (done_nil _).mono ?_; rintro e w' ⟨rfl, rfl⟩) | (go_at_call 15; refine (fill_any _ _).mono ?_; rintro e w' ⟨rfl, hkf⟩) | (go_at_call 14; refine (write_none _ _ _).mono ?_; rintro e w' ⟨rfl, hkf⟩) | (go_at_call 19; refine (sync_nil _).mono ?_; rintro e w' ⟨rfl, hkf⟩) | (go_at_call 11; refine (wakes_any _).mono ?_; rintro e w' ⟨rfl, hkf⟩))
    go_wp2
    go_ret
    exact ⟨rfl, k2.trans (And.left (by assumption))⟩

end Go.Proofs.Ytokgnfniaeeloaa
