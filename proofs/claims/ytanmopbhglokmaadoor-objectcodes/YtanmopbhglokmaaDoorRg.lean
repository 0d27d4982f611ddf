/-
  The reference: Frame.
-/
import Derived.Test.YtanmopbhglokmaaDoorCu
set_option linter.all false
namespace Go.Proofs.YtanmopbhglokmaaDoor
open Go.RowKit Go.Sort

theorem OwnK.weaken {w : World} {base b' n : Nat} {v : Value} {L : List B} (h : OwnK w base v n L) (hb : b' ≤ base) : OwnK w b' v n L := by
  obtain ⟨h1, h2⟩ := h.owns
  refine ⟨h1, ?_⟩
  rcases h2 with h2 | ⟨g, cap, cur, rfl, hbg, rest⟩
  · exact .inl h2
  · exact .inr ⟨g, cap, cur, rfl, Nat.le_trans hb hbg, rest⟩
theorem own_head (w : World) (k : Int) (n : Nat) (hn : n ≤ 1000) (hk : 1 ≤ k ∧ k ≤ 6) : OwnB (w.alloc (.cells #[.int .u8 k, .int .u8 ((n : Int) / 256), .int .u8 ((n : Int) % 256)] 5)) w.heap.size (.slice (some ⟨w.heap.size, 0, none⟩) 3 3) [kb k, kb ((n / 256 : Nat) : Int), kb (n : Int)] := by
  have e : #[Value.int .u8 k, .int .u8 ((n : Int) / 256), .int .u8 ((n : Int) % 256)] = brow [kb k, kb ((n / 256 : Nat) : Int), kb (n : Int)] := by
    simp [brow, vb, nb_kb]; omega
  rw [e]
  exact OwnB.row (t := 5) (l := [kb k, kb ((n / 256 : Nat) : Int), kb (n : Int)]) (heap_alloc_new w _) (Nat.le_refl _) (by simp)

theorem frame10_err (w : World) (k : Int) (a : Option Addr) (n c : Nat) (h : ¬ (1 ≤ k ∧ k ≤ 6) ∨ 1000 < n) : Calls Tryd.prog 10 #[.int .i64 k, .slice a n c] w fun e w' => e = .returned (.tuple #[.slice none 0 0, .int .i64 1]) ∧ w' = w := by
  by_cases h1 : k < 1
  · clear h
    go_enter Tryd.func10, Tryd.ntmps10
    go_wp2
    go_ret2
    exact ⟨rfl, rfl⟩
  · by_cases h6 : 6 < k
    · clear h
      go_enter Tryd.func10, Tryd.ntmps10
      go_wp2
      go_ret2
      exact ⟨rfl, rfl⟩
    · have hn : (1000 : Int) < (n : Int) := by omega
      clear h
      go_enter Tryd.func10, Tryd.ntmps10
      go_wp2
      go_ret2
      exact ⟨rfl, rfl⟩

set_option maxRecDepth 100000 in
set_option maxHeartbeats 1000000 in
theorem frame10_ok (w : World) (k : Int) (a : Option Addr) (n c : Nat) (l : List B) (hk : 1 ≤ k ∧ k ≤ 6) (hn : n ≤ 1000) (hl : SlB w a n c l) (hnc : a = none → c = 0) {L : List B} (HL : Hid (fr k l = L)) :
    Calls Tryd.prog 10 #[.int .i64 k, .slice a n c] w fun e w' => ∃ v, e = .returned (.tuple #[v, .int .i64 0]) ∧ OwnK w' w.heap.size v ((n + 134) / 128) L ∧ Keeps (fun _ => False) w w' := by
  have hlen := hl.len
  have hn' : (n : Int) ≤ 1000 := by omega
  have hk1 : ¬ k < 1 := by omega
  have hk6 : ¬ 6 < k := by omega
  obtain ⟨X, hX⟩ : ∃ X, sha (txt k l) = X := ⟨_, rfl⟩
  have HX : Hid (sha (txt k l) = X) := hX
  have lX : X.length = 32 := by rw [← hX]; exact sha_len _
  obtain ⟨C, hC⟩ : ∃ C, X.take 4 = C := ⟨_, rfl⟩
  have HC : Hid (X.take 4 = C) := hC
  have lC : C.length = 4 := by rw [← hC, List.length_take, lX]; rfl
  have H2 : Hid ([kb k, kb ((n / 256 : Nat) : Int), kb (n : Int)] ++ l = txt k l) := by show _ = _; unfold txt; rw [hlen]; rfl
  have H3 : Hid (txt k l ++ C = chk k l) := by show _ = _; rw [chk, hX, hC]
  have HLt : Hid ((txt k l).length = n + 3) := by show _ = _; rw [txt_len, hlen]
  have HLc : Hid ((chk k l).length = n + 7) := by show _ = _; rw [chk_len, hlen]
  have HP : Hid (padB (chk k l) = L) := HL
  have HNb : Hid (nbl (chk k l) = (n + 134) / 128) := by show _ = _; unfold nbl; rw [chk_len, hlen]
  obtain ⟨cc, hcc⟩ : ∃ cc, chk k l = cc := ⟨_, rfl⟩
  obtain ⟨tt, htt⟩ : ∃ tt, txt k l = tt := ⟨_, rfl⟩
  rw [hcc] at H3 HLc HP HNb
  rw [htt] at H2 H3 HLt HX
  clear hX hC hcc htt
  go_enter Tryd.func10, Tryd.ntmps10
  go_wp2_with (first
    | (go_at_call 20; refine (cut20 w4 _ _ _ cc s4 (by omega)).mono ?_; rintro e w5 ⟨v5, rfl, O5, k5⟩; rw [HP.out, HNb.out] at O5)
    | (refine wpList_app rfl _ _ rfl w.heap.size _ tt rfl O3 _ 4 c3 C rfl s3 (fun e => by cases e) (by rw [HLt.out]; omega) (by have := K3.size; omega) ?_; intro v4 w4 O4 k4; rw [H3.out] at O4; have K4 : Keeps (fun _ => False) w w4 := K3.trans' k4 (fun i e => .inr e); obtain ⟨a4, n4, c4, rfl, s4, _, _⟩ := O4.slice; obtain rfl : n4 = n + 7 := (by rw [← s4.len]; exact HLc.out))
    | (go_at_call 21; refine (check13 w2 _ _ _ tt s2 hnc2 (by omega) HX HC).mono ?_; rintro e w3 ⟨a3, n3, c3, rfl, s3, k3⟩; have K3 := K2.trans k3; have O3 := O2.keeps k3 (fun _ _ h => h.elim); obtain rfl : n3 = 4 := (by rw [← s3.len]; exact lC); obtain ⟨b3, o3, rfl, _⟩ := s3.bytes 4 (by omega) (Nat.le_refl _))
    | (refine wpList_buildSlice3 rfl _ _ _ rfl _ _ _ rfl rfl rfl ?_)
    | (refine wpList_app rfl _ _ rfl w.heap.size _ _ rfl (own_head w k n hn hk) a n c l rfl (hl.keeps (keeps_alloc w _) (fun _ _ _ _ h => h)) hnc (by simp; omega) (by simp) ?_; intro v2 w2 O2 k2; rw [H2.out] at O2; have K2 : Keeps (fun _ => False) w w2 := (keeps_alloc w _).trans' k2 (fun i e => .inr e); obtain ⟨a2, n2, c2, rfl, s2, _, hnc2⟩ := O2.slice; obtain rfl : n2 = n + 3 := (by rw [← s2.len]; exact HLt.out)))
  go_ret2
  exact ⟨v5, rfl, O5.weaken (by have := K4.size; omega), K4.trans k5⟩

end Go.Proofs.YtanmopbhglokmaaDoor
