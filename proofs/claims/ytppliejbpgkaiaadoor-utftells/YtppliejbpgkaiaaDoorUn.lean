/-
  The reference's letters, its text.
-/
import Derived.Test.YtppliejbpgkaiaaDoorUm
set_option linter.all false
namespace Go.Proofs.YtppliejbpgkaiaaDoor
open Go.RowKit Go.Sort Go.Shelf
attribute [local go_sem] Oper.semAt_some

theorem rlower15 (w : World) (v : Int) (hv : v ≤ 9223372036854775807) : Calls Tryd.prog 15 #[.int .i64 v] w fun e w' => e = .returned (.int .i64 (low v)) ∧ w' = w := by
  have cs : v < 65 ∨ (65 ≤ v ∧ v ≤ 90) ∨ (65 ≤ v ∧ 90 < v) := by omega
  rcases cs with h | ⟨h, h'⟩ | ⟨h, h'⟩
  · have hd : Hid (low v = v) := if_neg (by omega)
    have h1 : ¬ (65 : Int) ≤ v := by omega
    go_enter Tryd.func15, Tryd.ntmps15
    go_wp2
    go_ret
    exact ⟨by rw [hd.out]; rfl, rfl⟩
  · have hd : Hid (low v = v + 32) := if_pos ⟨h, h'⟩
    go_enter Tryd.func15, Tryd.ntmps15
    go_wp2
    go_ret
    exact ⟨by rw [hd.out]; rfl, rfl⟩
  · have hd : Hid (low v = v) := if_neg (by omega)
    have h1 : ¬ v ≤ (90 : Int) := by omega
    go_enter Tryd.func15, Tryd.ntmps15
    go_wp2
    go_ret
    exact ⟨by rw [hd.out]; rfl, rfl⟩

theorem low_isL (v : Int) : isL v = decide (97 ≤ low v ∧ low v ≤ 122) := by
  unfold isL low
  by_cases h : 65 ≤ v ∧ v ≤ 90
  · rw [if_pos h, decide_eq_true (.inl h), decide_eq_true (by omega)]
  · rw [if_neg h]
    simp only [h, false_or]

theorem rletter17 (w : World) (v : Int) (hv : v ≤ 9223372036854775807) : Calls Tryd.prog 17 #[.int .i64 v] w fun e w' => e = .returned (.bool (isL v)) ∧ w' = w := by
  have hc := fun W => rlower15 W v hv
  rw [low_isL]
  obtain ⟨u, hu⟩ : ∃ u, low v = u := ⟨_, rfl⟩
  rw [hu] at hc ⊢
  obtain ⟨R, hR⟩ : ∃ R, decide (97 ≤ u ∧ u ≤ 122) = R := ⟨_, rfl⟩
  rw [hR]
  have cs : u < 97 ∨ (97 ≤ u ∧ u ≤ 122) ∨ (97 ≤ u ∧ 122 < u) := by omega
  clear hu
  rcases cs with h | ⟨h, h'⟩ | ⟨h, h'⟩
  · have hd : Hid (R = false) := by show _ = _; rw [← hR]; exact decide_eq_false (by omega)
    have h1 : ¬ (97 : Int) ≤ u := by omega
    clear hR
    go_enter Tryd.func17, Tryd.ntmps17
    go_wp2_with (go_at_call 15; refine (hc _).mono ?_; rintro e w' ⟨rfl, rfl⟩)
    go_ret
    exact ⟨by rw [hd.out]; rfl, rfl⟩
  · have hd : Hid (R = true) := by show _ = _; rw [← hR]; exact decide_eq_true (by omega)
    clear hR
    go_enter Tryd.func17, Tryd.ntmps17
    go_wp2_with (go_at_call 15; refine (hc _).mono ?_; rintro e w' ⟨rfl, rfl⟩)
    go_ret
    exact ⟨by rw [hd.out]; rfl, rfl⟩
  · have hd : Hid (R = false) := by show _ = _; rw [← hR]; exact decide_eq_false (by omega)
    have h1 : ¬ u ≤ (122 : Int) := by omega
    clear hR
    go_enter Tryd.func17, Tryd.ntmps17
    go_wp2_with (go_at_call 15; refine (hc _).mono ?_; rintro e w' ⟨rfl, rfl⟩)
    go_ret
    refine ⟨?_, rfl⟩
    rw [hd.out]
    first | rfl | (simp; omega)

/-- What the reference's Text tells. -/
def rtx (l : List Int) : List UInt8 × Bool := if allS l then (encs l, true) else ([], false)
theorem encs_take {l : List Int} {i : Nat} (hi : i < l.length) : encs (l.take (i + 1)) = encs (l.take i) ++ Lib.encodeRune (l.getD i 0) := by
  rw [take_snoc hi, encs_app, encs_cons, encs_nil, List.append_nil]
theorem OwnU.from {w : World} {base g : Nat} {v : Value} {l : List UInt8} (h : OwnU w base v l) (e : v.ownBlock = some g) : base ≤ g ∧ g < w.heap.size := h.owns.lt g e

set_option maxRecDepth 100000 in
set_option maxHeartbeats 2000000 in
theorem rtext10 (w : World) (a : Option Addr) (n c : Nat) (l : List Int) (hl : SlI w a n c l) (hn : n ≤ 100000) :
    Calls Tryd.prog 10 #[.slice a n c] w fun e w' => e = .returned (.tuple #[.string (bs (rtx l).1), .bool (rtx l).2]) ∧ Keeps (fun _ => False) w w' := by
  have hlen := hl.len
  obtain ⟨X, V, hXV⟩ : ∃ X V, rtx l = (X, V) := ⟨_, _, rfl⟩
  have HX : Hid (rtx l = (X, V)) := hXV
  have HL : Hid (l.length = n) := hlen
  rw [hXV]
  clear hXV hlen
  go_enter Tryd.func10, Tryd.ntmps10
  go_wp2
  go_loopw [4, 5] (fun b t wr => ∃ i : Nat, i ≤ n ∧ t = .int .i64 (i : Int) ∧ allS (l.take i) ∧ OwnU wr w.heap.size b (encs (l.take i)) ∧ Keeps (fun _ => False) w wr) (fun _ t _ => n - (intOf t).toNat)
  case atStart => exact ⟨0, by omega, rfl, by simp [allS], by simpa [encs] using OwnU.nil w _, Keeps.refl _ _⟩
  case round =>
    obtain ⟨i, hi, rfl, hall, hb, hk⟩ := hrel
    have Hall : Hid (allS (l.take i)) := hall
    clear hall
    by_cases hlt : i < n
    · have hlt' : (i : Int) < (n : Int) := by omega
      have hi0 : (0 : Int) ≤ (i : Int) := by omega
      obtain ⟨b, o, rfl, _, hE⟩ := hl.ent (by omega)
      have hc := hE _ hk i hlt
      obtain ⟨v, hv⟩ : ∃ v, l.getD i 0 = v := ⟨_, rfl⟩
      rw [hv] at hc
      have HS : Hid (encs (l.take (i + 1)) = encs (l.take i) ++ Lib.encodeRune v) := by show _ = _; rw [← hv]; exact encs_take (by rw [HL.out]; exact hlt)
      have HT : Hid (l.take (i + 1) = l.take i ++ [v]) := by show _ = _; rw [← hv]; exact take_snoc (by rw [HL.out]; exact hlt)
      have HM : Hid (v ∈ l) := by show _ ∈ _; rw [← hv]; exact getD_mem (by rw [HL.out]; exact hlt)
      have hbl : (encs (l.take i)).length ≤ 400000 := by
        have := encs_len (l.take i)
        have : (l.take i).length ≤ i := by simp; omega
        omega
      clear hv hE
      by_cases hs : isS v
      · obtain ⟨E, hEe⟩ : ∃ E, Lib.encodeRune v = E := ⟨_, rfl⟩
        obtain ⟨m, hm⟩ : ∃ m, E.length = m := ⟨_, rfl⟩
        have hm1 : 1 ≤ m ∧ m ≤ 4 := by have := enc_len v; rw [hEe, hm] at this; exact this
        have hm0 : ((m : Int) == 0) = false := by simp; omega
        rw [hEe] at HS
        have HsS : Hid (isS v) := hs
        have hcall : ∀ W, Calls Tryd.prog 18 #[.int .i64 v] W fun e w' => (∃ g, e = .returned (.slice (some ⟨g, 0, none⟩) m m) ∧ SlU w' (some ⟨g, 0, none⟩) m m E) ∧ Keeps (fun _ => False) W w' := fun W => by
          refine (rbytes18 W v).mono ?_
          rintro e w' ⟨⟨⟨_, g, h1, h2⟩ | ⟨h1, _⟩⟩, k⟩
          · rw [hEe, hm] at h1 h2
            exact ⟨⟨g, h1, h2⟩, k⟩
          · exact absurd hs h1
        clear hs hEe hm
        go_wp2_with (first
          | (go_at_call 18; refine (hcall _).mono ?_; rintro e w2 ⟨⟨g, rfl, s2⟩, k2⟩; have b2 := hb.keeps k2 (fun _ _ h => h.elim); have K2 := hk.trans k2)
          | (refine wpList_appU rfl _ _ rfl w.heap.size _ _ rfl b2 (some ⟨g, 0, none⟩) m m E rfl s2 (by omega) (by omega) (by have := K2.size; omega) ?_; intro v3 w3 b3 k3))
        refine ⟨⟨i + 1, by omega, rfl, ?_, ?_, K2.trans' k3 (fun j e => .inr (OwnU.from b2 e).1)⟩, by simp [intOf]; omega⟩
        · rw [HT.out]
          intro y hy
          rcases List.mem_append.1 hy with hy | hy
          · exact Hall.out y hy
          · obtain rfl : y = v := by simpa using hy
            exact HsS.out
        · rw [HS.out]
          exact b3
      · have hcall : ∀ W, Calls Tryd.prog 18 #[.int .i64 v] W fun e w' => e = .returned (.slice none 0 0) ∧ Keeps (fun _ => False) W w' := fun W => by
          refine (rbytes18 W v).mono ?_
          rintro e w' ⟨⟨⟨h1, _⟩ | ⟨_, h1⟩⟩, k⟩
          · exact absurd h1 hs
          · exact ⟨h1, k⟩
        have hX : Hid (X = [] ∧ V = false) := by
          have h := HX.out
          unfold rtx at h
          rw [if_neg (fun h => hs (h v HM.out))] at h
          cases h
          exact ⟨rfl, rfl⟩
        clear hs
        go_wp2_with (go_at_call 18; refine (hcall _).mono ?_; rintro e w2 ⟨rfl, k2⟩)
        go_ret2
        refine ⟨?_, hk.trans k2⟩
        rw [hX.out.1, hX.out.2]
        rfl
    · obtain rfl : i = n := by omega
      have hlt' : ¬ (i : Int) < (i : Int) := by omega
      have hfull : l.take i = l := List.take_of_length_le (by rw [HL.out]; omega)
      have hX : Hid (X = encs l ∧ V = true) := by
        have h := HX.out
        unfold rtx at h
        have h2 := Hall.out
        rw [hfull] at h2
        rw [if_pos h2] at h
        cases h
        exact ⟨rfl, rfl⟩
      rw [hfull] at hb
      obtain ⟨aa, cc, rfl, sU, _⟩ := hb.slice
      have hconv := conv_su sU
      clear hfull
      go_wp2
      go_ret2
      refine ⟨?_, hk⟩
      rw [hX.out.1, hX.out.2]
      rfl

end Go.Proofs.YtppliejbpgkaiaaDoor
