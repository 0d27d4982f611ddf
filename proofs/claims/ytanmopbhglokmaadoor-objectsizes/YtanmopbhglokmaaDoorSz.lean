/-
  ObjectSizes: the walk.
-/
import Derived.Test.YtanmopbhglokmaaDoorKn
import Derived.Laws.MakeOwn
set_option linter.all false
namespace Go.Proofs.YtanmopbhglokmaaDoor
open Go.RowKit Go.Sort

theorem made_zb (k : Nat) : madeCells (Value.int .u8 0).cells (k * 1) = brow (zb k) := by
  have e : (Value.int .u8 0).cells = #[.int .u8 0] := rfl
  rw [e, Nat.mul_one]
  unfold madeCells
  apply Array.ext
  · simp [size_brow, zb_len]
  · intro i h1 h2
    have h3 : (brow (zb k))[i]? = some (.int .u8 0) := by
      rw [size_brow, zb_len] at h2
      rw [brow_get]; simp [zb, List.getElem?_replicate, h2, vb, nb]
    rw [Array.getElem?_eq_getElem h2] at h3
    rw [Option.some.inj h3]
    simp [Nat.mod_one]
theorem wpList_make_full {ops : Array Oper} {rest : List Oper} {o : Oper} {a : Act} {w : World} {Q : Exit → Act → World → Prop} (hgd : o.guard = none) (l c : Operand) (ho : o.op = .makeSlice 22 l c) (k : Nat) (hl : a.eval l = .int .i64 (k : Int)) (hc : a.eval c = .int .i64 (k : Int)) (hk : k ≤ 1000000)
    (h : ∀ w', w'.heap[w.heap.size]? = some (.cells (brow (zb k)) 5 (0, 0)) → Keeps (fun _ => False) w w' → wpList Tryd.prog ops Q rest (a.put o.dst (.slice (some ⟨w.heap.size, 0, none⟩) k k)) w') : wpList Tryd.prog ops Q (o :: rest) a w := by
  obtain ⟨i, hi, hz, hsz, hby⟩ := info5
  have hr := run_makeSlice (P := Tryd.prog) w 22 5 i (.int .u8 0) Tryd.underlying22 hi hz .i64 .i64 (k : Int) (k : Int) (by omega) (Int.le_refl _) (by rw [hsz]; simp; omega) (by rw [hby]; omega) (by omega)
  rw [hsz, Int.toNat_natCast, made_zb] at hr
  refine wpList_plain hgd fun K hK => ?_
  unfold Oper.wp execOp
  simp only [ho, hl, hc, hr, Sem.run_bind, Result.andThen_ok, Sem.run_pure]
  exact hK _ _ (h _ (heap_alloc_new w _) (keeps_alloc w _))

/-- The bytes v, v + 1, .. -/
def pat (v : Int) (k : Nat) : List B := (List.range k).map fun (i : Nat) => kb (v + (i : Int))
theorem pat_len (v : Int) (k : Nat) : (pat v k).length = k := by simp [pat]
theorem pat_succ (v : Int) (k : Nat) : pat v (k + 1) = pat v k ++ [kb (v + (k : Int))] := by simp [pat, List.range_succ]
theorem pat_set (v : Int) (k i : Nat) (hi : i < k) : (pat v i ++ zb (k - i)).set i (kb (v + (i : Int))) = pat v (i + 1) ++ zb (k - (i + 1)) := by
  obtain ⟨j, rfl⟩ : ∃ j, k = i + 1 + j := ⟨k - (i + 1), by omega⟩
  have e1 : i + 1 + j - i = j + 1 := by omega
  have e2 : i + 1 + j - (i + 1) = j := by omega
  rw [e1, e2, pat_succ, List.set_append_right _ _ (by rw [pat_len]; exact Nat.le_refl _), pat_len, Nat.sub_self]
  simp [zb, List.replicate_succ]

theorem fr_get_kind (k : Int) (l : List B) : (fr k l)[0]? = some (kb k) := by
  obtain ⟨r, e⟩ := fr_cons k l
  rw [e]; rfl
theorem fr_get_body (k : Int) (l : List B) (i : Nat) (h3 : 3 ≤ i) (hi : i < 3 + l.length) : (fr k l)[i]? = l[i - 3]? := by
  obtain ⟨r, e⟩ := fr_cons k l
  obtain ⟨j, rfl⟩ : ∃ j, i = j + 3 := ⟨i - 3, by omega⟩
  rw [e]
  simp only [List.getElem?_cons_succ, Nat.add_sub_cancel]
  rw [List.getElem?_append_left (by omega)]
theorem fr_get_zero (k : Int) (l : List B) (i : Nat) (h7 : l.length + 7 ≤ i) (hi : i < (fr k l).length) : (fr k l)[i]? = some 0 := by
  have hc := chk_len k l
  unfold fr padB at *
  rw [List.getElem?_append_right (by omega)]
  rw [List.length_append, zb_len] at hi
  simp only [zb]
  rw [List.getElem?_replicate, if_pos (by omega)]

set_option maxRecDepth 100000 in
set_option maxHeartbeats 4000000 in
theorem sizes6_ok (w : World) (hT : Tabs w) (N v : Int) (hN : 0 ≤ N ∧ N < 65536) (hv : 0 ≤ v ∧ v < 256) (k : Nat) (hk : N % 1002 = (k : Int)) (hk1 : k ≤ 1000) :
    Calls Tryd.prog 6 #[.int .u16 N, .int .u8 v] w fun e w' => e = .returned (.bool true) ∧ Keeps (fun _ => False) w w' := by
  obtain ⟨m, hm⟩ : ∃ m, (k + 134) / 128 = m := ⟨_, rfl⟩
  have Hm : Hid ((k + 134) / 128 = m) := hm
  have HN : Hid (nblk (k : Int) = (m : Int)) := by show _ = _; rw [nblk_of hk1, hm]
  have hm1 : 1 ≤ m := by omega
  have hm9 : m ≤ 9 := by omega
  have hmk : k + 7 ≤ m * 128 := by omega
  have hmk2 : (m - 1) * 128 < k + 7 := by omega
  have hcA : ¬ (m : Int) * 128 < (k : Int) + 7 := by omega
  have hcB : ¬ (k : Int) + 7 ≤ ((m : Int) - 1) * 128 := by omega
  obtain ⟨more, hmore⟩ : ∃ more, nblk ((k : Int) + 1) = more := ⟨_, rfl⟩
  have HM : Hid (nblk ((k : Int) + 1) = more) := hmore
  have hways : ¬ (k : Int) < 1000 ∨ ((k : Int) < 1000 ∧ more = (m : Int)) ∨ ((k : Int) < 1000 ∧ more = (m : Int) + 1) := by
    rcases Nat.lt_or_ge k 1000 with h | h
    · have e : nblk ((k : Int) + 1) = (((k + 1 + 134) / 128 : Nat) : Int) := by
        have := nblk_of (n := k + 1) (by omega)
        rwa [Int.natCast_add] at this
      rw [hmore] at e
      rcases (by omega : (k + 1 + 134) / 128 = m ∨ (k + 1 + 134) / 128 = m + 1) with h2 | h2
      · exact .inr (.inl ⟨by omega, by rw [e, h2]⟩)
      · exact .inr (.inr ⟨by omega, by rw [e, h2]; omega⟩)
    · exact .inl (by omega)
  obtain ⟨l, hl⟩ : ∃ l, pat v k = l := ⟨_, rfl⟩
  have ll : l.length = k := by rw [← hl]; exact pat_len v k
  obtain ⟨L, hL⟩ : ∃ L, fr 4 l = L := ⟨_, rfl⟩
  have HL : Hid (fr 4 l = L) := hL
  have lL : L.length = m * 128 := by rw [← hL, fr_len, ll, hm]
  have Hl : Hid (pat v k = l) := hl
  clear hmore hm hl hL
  go_enter Tryd.func6, Tryd.ntmps6
  rcases hways with h | ⟨h, rfl⟩ | ⟨h, rfl⟩
  all_goals
    go_wp2_with (first
      | (go_at_call 15; have hmark := H1; refine (nblk_at HM _).mono ?_; rintro e wn ⟨rfl, rfl⟩)
      | (go_at_call 15; refine (nblk_at HN _).mono ?_; rintro e wn ⟨rfl, rfl⟩; have H1 : Hid True := trivial)
      | (refine wpList_make_full rfl _ _ rfl k rfl rfl (by omega) ?_; intro w1 g1 k1))
    clear h hcA hcB hk hN HM HN
    go_loopw [9] (fun t wr => ∃ i : Nat, i ≤ k ∧ t = .int .i64 i ∧ wr.heap[w.heap.size]? = some (.cells (brow (pat v i ++ zb (k - i))) 5 (0, 0)) ∧ Keeps (fun _ => False) w wr) (fun t _ => k - (intOf t).toNat)
    case atStart => exact ⟨0, by omega, rfl, by simpa [pat] using g1, k1⟩
    case round =>
      clear g1 k1
      obtain ⟨i, hi, rfl, gr, hk⟩ := hrel
      by_cases hlt : i < k
      · have hlt' : (i : Int) < (k : Int) := by omega
        have hi0 : (0 : Int) ≤ (i : Int) := by omega
        have c0 : wr.cell? ⟨w.heap.size, i, none⟩ = some (.int .u8 (nb 0)) := cell_row gr i 0 (by rw [List.getElem?_append_right (by rw [pat_len]; exact Nat.le_refl _), pat_len, Nat.sub_self, zb, List.getElem?_replicate, if_pos (by omega)])
        have f0 := frozen_of_row wr w.heap.size i _ _ gr
        have HG : Hid (∀ X : Int, X = (v + (i : Int)) % 256 → (wr.setCell ⟨w.heap.size, i, none⟩ (.int .u8 X)).heap[w.heap.size]? = some (.cells (brow (pat v (i + 1) ++ zb (k - (i + 1)))) 5 (0, 0)) ∧ Keeps (fun _ => False) w (wr.setCell ⟨w.heap.size, i, none⟩ (.int .u8 X))) := fun X hX => by
          have e : X = nb (kb (v + (i : Int))) := by rw [nb_kb]; exact hX
          subst e
          refine ⟨?_, hk.setCell (p := ⟨w.heap.size, i, none⟩) (.inr (Nat.le_refl _)) _⟩
          rw [heap_setCell_same _ _ _ _ _ _ gr]
          rw [brow_set, pat_set v k i hlt]
        clear gr
        go_wp2
        go_roundw
        case rel =>
          refine ⟨i + 1, by omega, by go_num, (HG.out _ ?_).1, (HG.out _ ?_).2⟩
          all_goals omega
        case measure => simp [intOf]; omega
      · obtain rfl : i = k := by omega
        rw [Nat.sub_self, show zb 0 = [] from rfl, List.append_nil, Hl.out] at gr
        have sl : SlB wr (some ⟨w.heap.size, 0, none⟩) i i l := by have := slb_box gr; rwa [ll] at this
        have HF : Hid (Calls Tryd.prog 9 #[.int .i64 4, .slice (some ⟨w.heap.size, 0, none⟩) i i] wr fun e w'' => ∃ a' c', e = .returned (.tuple #[.slice a' m c', .int .i64 0]) ∧ SlB w'' a' (m * 128) (c' * 128) L ∧ Keeps (fun _ => False) wr w'') := by
          have := frame_ok wr (hT.keeps hk (fun h => h) (fun h => h)) (some ⟨w.heap.size, 0, none⟩) i i (k := 4) (by omega) hk1 sl (fun e => by cases e) HL
          rwa [Hm.out] at this
        go_wp2_with (go_at_call 9; refine HF.out.mono ?_; rintro e w2 ⟨a2, c2, rfl, s2, k2⟩; have gr2 := k2.row gr (fun h => h); have K2 := hk.trans k2; obtain ⟨b2, o2, rfl, _⟩ := s2.bytes (m * 128) (by omega) (Nat.le_refl _))
        have HG : Hid (∀ j z, L[j]? = some z → ∀ w', Keeps (fun _ => False) w2 w' → w'.cell? ⟨b2, o2 + j, none⟩ = some (.int .u8 (nb z))) := fun j z hz w' hk' => cell_keeps hk' (s2.cell rfl j z hz) (fun h => h)
        have HB : Hid (∀ j z, l[j]? = some z → ∀ w', Keeps (fun _ => False) w2 w' → w'.cell? ⟨w.heap.size, j, none⟩ = some (.int .u8 (nb z))) := fun j z hz w' hk' => cell_row (hk'.row gr2 (fun h => h)) j z hz
        have HlL : Hid (L.length = m * 128) := lL
        have Hll : Hid (l.length = i) := ll
        have HmB : Hid (i + 7 ≤ m * 128) := hmk
        clear gr gr2 s2 hmk hmk2 HF sl hk k2 lL ll hk1 hlt hi
        go_loopw [12] (fun t wr2 => ∃ j : Nat, j ≤ m * 128 ∧ t = .int .i64 j ∧ Keeps (fun _ => False) w2 wr2) (fun t _ => m * 128 - (intOf t).toNat)
        case atStart => exact ⟨0, by omega, rfl, Keeps.refl _ _⟩
        case round =>
          obtain ⟨j, hj, rfl, hk2⟩ := hrel
          by_cases hlt : j < m * 128
          · have hlt' : (j : Int) < (m : Int) * 128 := by omega
            obtain ⟨z, hz⟩ : ∃ z, L[j]? = some z := ⟨_, List.getElem?_eq_getElem (by rw [HlL.out]; exact hlt)⟩
            obtain ⟨q, hq⟩ : ∃ q, j / 128 = q := ⟨_, rfl⟩
            obtain ⟨r, hr⟩ : ∃ r, j % 128 = r := ⟨_, rfl⟩
            have hq' : (j : Int) / 128 = (q : Int) := by omega
            have hr' : (j : Int) % 128 = (r : Int) := by omega
            have hq0 : (0 : Int) ≤ (q : Int) := by omega
            have hq1 : (q : Int) < (m : Int) := by omega
            have hr0 : (0 : Int) ≤ (r : Int) := by omega
            have hr1 : (r : Int) < 128 := by omega
            have hjqr : q * 128 + r = j := by omega
            have hc := HG.out j z hz wr hk2
            rw [← hjqr, ← Nat.add_assoc] at hc
            have Hz : Hid (L[j]? = some z) := hz
            have bz := nb_lt z
            have HG' := HG
            clear hz hq hr hjqr
            rcases (by omega : j = 0 ∨ (0 < j ∧ j < 3) ∨ (3 ≤ j ∧ j < 3 + i) ∨ (3 + i ≤ j ∧ 3 ≤ j ∧ j < i + 7) ∨ (i + 7 ≤ j)) with h | h | h | h | h
            · have hz4 : nb z = 4 := by
                have h1 := Hz.out
                rw [h, ← HL.out, fr_get_kind] at h1
                cases h1; rw [nb_kb]; rfl
              obtain rfl : q = 0 := by omega
              obtain rfl : r = 0 := by omega
              subst h
              simp only [Nat.zero_mul, Nat.add_zero] at hc
              rw [hz4] at hc
              have hi7 : ¬ (i : Int) + 7 ≤ 0 := by omega
              clear hq' hr' hq0 hr0 hr1 hlt'
              have hm0 : (0 : Int) < (m : Int) * 128 := by omega
              go_wp2
              go_roundw
              case rel => exact ⟨0 + 1, by omega, by go_num, hk2⟩
              case measure => simp [intOf]; omega
            · have hj3 : ¬ 3 ≤ (j : Int) := by omega
              have hj7 : ¬ (i : Int) + 7 ≤ (j : Int) := by omega
              have hj0 : ¬ (j : Int) = 0 := by omega
              clear h
              go_wp2
              go_roundw
              case rel => exact ⟨j + 1, by omega, by go_num, hk2⟩
              case measure => simp [intOf]; omega
            · obtain ⟨c, hcj⟩ : ∃ c, j = c + 3 := ⟨j - 3, by omega⟩
              have hj3 : 3 ≤ (j : Int) := by omega
              have hj3i : (j : Int) < 3 + (i : Int) := by omega
              have hj7 : ¬ (i : Int) + 7 ≤ (j : Int) := by omega
              have hj0 : ¬ (j : Int) = 0 := by omega
              have hjc : (j : Int) - 3 = (c : Int) := by omega
              have hc0 : (0 : Int) ≤ (c : Int) := by omega
              have hc1 : (c : Int) < (i : Int) := by omega
              have hlz : l[c]? = some z := by
                have h1 := Hz.out
                rw [← HL.out, fr_get_body 4 l j h.1 (by rw [Hll.out]; exact h.2), hcj, Nat.add_sub_cancel] at h1
                exact h1
              have hcb := HB.out c z hlz wr hk2
              clear h hcj hlz
              go_wp2
              go_roundw
              case rel => exact ⟨j + 1, by omega, by go_num, hk2⟩
              case measure => simp [intOf]; omega
            · have hj3 : 3 ≤ (j : Int) := by omega
              have hj3i : ¬ (j : Int) < 3 + (i : Int) := by omega
              have hj7 : ¬ (i : Int) + 7 ≤ (j : Int) := by omega
              have hj0 : ¬ (j : Int) = 0 := by omega
              clear h
              go_wp2
              go_roundw
              case rel => exact ⟨j + 1, by omega, by go_num, hk2⟩
              case measure => simp [intOf]; omega
            · have hj3 : 3 ≤ (j : Int) := by omega
              have hj3i : ¬ (j : Int) < 3 + (i : Int) := by omega
              have hj7 : (i : Int) + 7 ≤ (j : Int) := by omega
              have hj0 : ¬ (j : Int) = 0 := by omega
              have hz0 : nb z = 0 := by
                have h1 := Hz.out
                rw [← HL.out, fr_get_zero 4 l j (by rw [Hll.out]; exact h) (by rw [HL.out, HlL.out]; exact hlt)] at h1
                cases h1; rfl
              clear h
              go_wp2
              go_roundw
              case rel => exact ⟨j + 1, by omega, by go_num, hk2⟩
              case measure => simp [intOf]; omega
          · have hlt' : ¬ (j : Int) < (m : Int) * 128 := by omega
            go_wp2_with (go_at_call 8; refine (wakes8 _ (hT.keeps (K2.trans hk2) (fun h => h) (fun h => h))).mono ?_; rintro e w4 ⟨rfl, k4⟩)
            go_ret
            exact ⟨rfl, (K2.trans hk2).trans k4⟩

theorem u16_bounds {n : Int} (h : (Lit.int .u16 n).wf = true) : 0 ≤ n ∧ n < 65536 := by
  have : 0 ≤ n ∧ n ≤ 65535 := by simpa [Lit.wf, IntKind.min, IntKind.max, IntKind.signed, IntKind.bits] using h
  omega

theorem sizes6 (w : World) (hT : Tabs w) (N : Int) (hN : 0 ≤ N ∧ N < 65536) (v : Int) (hv : 0 ≤ v ∧ v < 256) :
    Calls Tryd.prog 6 #[.int .u16 N, .int .u8 v] w fun e w' => e = .returned (.bool true) ∧ Keeps (fun _ => False) w w' := by
  obtain ⟨k, hk⟩ : ∃ k : Nat, N % 1002 = (k : Int) := ⟨(N % 1002).toNat, by omega⟩
  by_cases hk1 : k ≤ 1000
  · exact sizes6_ok w hT N v hN hv k hk hk1
  · have hk2 : (1000 : Int) < (k : Int) := by omega
    have HN : Hid (nblk (k : Int) = 0) := if_neg (by omega)
    go_enter Tryd.func6, Tryd.ntmps6
    go_wp2_with (first | (go_at_call 15; refine (nblk_at HN _).mono ?_; rintro e wn ⟨rfl, rfl⟩) | (go_at_call 8; refine (wakes8 _ hT).mono ?_; rintro e w4 ⟨rfl, k4⟩))
    go_ret
    exact ⟨rfl, k4⟩

end Go.Proofs.YtanmopbhglokmaaDoor
