
/-
  add, where some bytes are held already.
-/
import Derived.Test.YtanmopbhglokmaaDoorAb
set_option linter.all false
namespace Go.Proofs.YtanmopbhglokmaaDoor
open Go.RowKit

theorem cells_at {w : World} {a : Option Addr} {n c : Nat} {l : List B} (h : SlB w a n c l) (m : List B) (k : Nat) (hm : m = l.take k) : 0 < (m.map vb).length → ∃ ad, a = some ad ∧ ∀ j v, (m.map vb)[j]? = some v → w.cell? (ad.add j) = some v := fun h0 => by
  subst hm
  have hlen := h.len
  obtain ⟨b, o, e, _⟩ := h.at_ 0 _ (List.getElem?_eq_getElem (by simp at h0; omega))
  refine ⟨_, e, fun j v hv => ?_⟩
  rw [List.getElem?_map] at hv
  cases hq : (l.take k)[j]? with
  | none => rw [hq] at hv; cases hv
  | some x =>
    rw [hq] at hv
    rw [List.getElem?_take] at hq
    split at hq
    · obtain ⟨b', o', e', hc⟩ := h.at_ j x hq
      rw [e] at e'; cases e'
      rw [Addr_add]
      cases hv
      exact hc
    · cases hq
theorem one_bytes (m : List B) : ∀ v ∈ m.map vb, v.oneCell' = true := by intro v hv; obtain ⟨x, _, rfl⟩ := List.mem_map.1 hv; rfl

theorem ov_take (rest l : List B) (k : Nat) (hk : k ≤ rest.length) : (ov rest k l).take (k + l.length) = rest.take k ++ l := by
  unfold ov
  rw [← List.append_assoc]
  have : (rest.take k ++ l).length = k + l.length := by simp; omega
  rw [← this, List.take_left]

theorem has_part {w : World} {p : Nat} {bs l rest : List B} {T n H : Nat} (hT : bs.length = T) (hn : l.length = n) (hH : T % 64 = H) (hlt : H + n < 64) (hr : rest.length = 64) (hre : rest.take H = bs.drop (64 * (T / 64)))
    (hS : StAt w p (hashN (bs ++ l) (T / 64)).toL (ov rest H l) ((T : Int) + (n : Int))) : Has w p (bs ++ l) := by
  have e1 : (bs ++ l).length = T + n := by simp [hT, hn]
  have e2 : (T + n) / 64 = T / 64 := by omega
  have e3 : (T + n) % 64 = H + n := by omega
  refine ⟨ov rest H l, ?_, ?_⟩
  · rw [e1, e2, Int.natCast_add]; exact hS
  · rw [e1, e2, e3, ← hn, ov_take _ _ _ (by omega), hre, List.drop_append_of_le_length (by omega)]

theorem copied {w : World} {p H : Nat} {h : List W} {rest m : List B} {t : Int} (g : Hid (w.heap[p]? = some (.cells (splice (stRow h rest t).toList (8 + H) (m.map vb)).toArray 69 (0, 0)))) (h8 : h.length = 8) (hr : rest.length = 64) (hm : H + m.length ≤ 64) :
    StAt w p h (ov rest H m) t := by
  have g4 := g.out
  rw [stRow_splice _ _ _ h8 hr H _ hm] at g4
  exact ⟨g4, h8, by rw [ov_len _ _ _ (by rw [hr]; omega), hr]⟩

set_option maxRecDepth 100000 in
set_option maxHeartbeats 4000000 in
theorem add_part (w : World) (p : Nat) (a : Option Addr) (n c : Nat) (bs l : List B) (hH : Has w p bs) (hl : SlB w a n c l) (ha : 0 < n → ∀ b o, a = some ⟨b, o, none⟩ → b ≠ p)
    (hb : bs.length < 1000000) (hn : n < 1000000) (h0 : 0 < bs.length % 64) (hlt : bs.length % 64 + n < 64) :
    Calls Tryd.prog 28 #[.pointer (some ⟨p, 0, none⟩), .slice a n c] w fun e w' => e = .returned (.tuple #[]) ∧ Has w' p (bs ++ l) ∧ Keeps (· = p) w w' := by
  obtain ⟨rest, hS, hr⟩ := hH.out
  have ht := hS.total
  have hf := hS.free 72
  have hS1 := hS.setTotal ((bs.length : Int) + (n : Int))
  rw [← hashN_append bs l _ (by omega)] at hS1
  have hr64 := hS.r64
  have hk1 : Keeps (· = p) w (w.setCell ⟨p, 72, none⟩ (.int .u64 ((bs.length : Int) + (n : Int)))) := (Keeps.refl (· = p) w).setCell (p := ⟨p, 72, none⟩) (.inl rfl) _
  have hlen := hl.len
  generalize hbl : bs.length = T at *
  have Hbl : Hid (bs.length = T) := hbl
  have Hln : Hid (l.length = n) := hlen
  obtain ⟨H, hHe⟩ : ∃ H, T % 64 = H := ⟨_, rfl⟩
  have HH : Hid (T % 64 = H) := hHe
  rw [hHe] at h0 hlt hr
  have hTH : (T : Int) % 64 = (H : Int) := by omega
  have hl1 := hl.keeps hk1 ha
  have hcl : (l.map vb).length = Nat.min n (64 - H) := by rw [List.length_map, hlen]; exact (Nat.min_eq_left (by omega)).symm
  have hc0 := cells_at hl1 l n (by rw [List.take_of_length_le (by omega)])
  have hpos : 0 < (l.map vb).length → some (⟨p, 8 + H, none⟩ : Addr) = some ⟨p, 8 + H, none⟩ ∧ ∃ ad, a = some ad ∧ ∀ j v, (l.map vb)[j]? = some v → (w.setCell ⟨p, 72, none⟩ (.int .u64 ((T : Int) + (n : Int)))).cell? (ad.add j) = some v := fun h => ⟨rfl, hc0 h⟩
  have hrow : (w.setCell ⟨p, 72, none⟩ (.int .u64 ((T : Int) + (n : Int)))).heap[p]? = some (.cells (stRow (hashN (bs ++ l) (T / 64)).toL rest ((T : Int) + (n : Int))).toList.toArray 69 (0, 0)) := by rw [Array.toArray_toList]; exact hS1.row
  have hfit : 8 + H + (l.map vb).length ≤ (stRow (hashN (bs ++ l) (T / 64)).toL rest ((T : Int) + (n : Int))).toList.length := by
    have e73 : (stRow (hashN (bs ++ l) (T / 64)).toL rest ((T : Int) + (n : Int))).toList.length = 73 := by rw [Array.length_toList]; exact size_stRow (toL_len _) hr64
    rw [e73, List.length_map, hlen]; omega
  have hone := one_bytes l
  have h0' : (0 : Int) < (H : Int) := by omega
  have hH64 : (H : Int) ≤ 64 := by omega
  have hlt' : (H : Int) + (n : Int) < 64 := by omega
  have Hcl : Hid ((l.map vb).length = n) := by show _ = _; rw [List.length_map, hlen]
  have Hre : Hid (rest.take H = bs.drop (64 * (T / 64))) := hr
  clear hbl hlen hr hS hH hHe hc0
  go_enter Tryd.func28, Tryd.ntmps28
  go_wp2_with (refine wpList_copy_over rfl _ _ 22 22 rfl 5 Tryd.underlying22 size5 _ _ _ _ _ _ rfl rfl p (8 + H) _ 69 hrow _ hcl hpos hfit hone ?_; rw [Hcl.out]; intro w3 g3 hk3 hz3)
  refine bodyPost_ret (results_none rfl _ _ _) rfl ?_
  have g4 := g3.out
  rw [stRow_splice _ _ _ (toL_len _) hr64 H _ (by rw [Hln.out]; omega)] at g4
  have hS3 : StAt w3 p (hashN (bs ++ l) (T / 64)).toL (ov rest H l) ((T : Int) + (n : Int)) := ⟨g4, toL_len _, by rw [ov_len _ _ _ (by rw [Hln.out, hr64]; omega), hr64]⟩
  exact ⟨rfl, has_part Hbl.out Hln.out HH.out (by omega) hr64 Hre.out hS3, hk1.trans hk3⟩

theorem addIn_first {w4 : World} {p T n H k b o c : Nat} {bs l rest : List B} (hT : bs.length = T) (hH : T % 64 = H) (hHk : H + k = 64) (hkn : k ≤ n) (hl : SlB w4 (some ⟨b, o, none⟩) n c l) (hb : b ≠ p)
    (hfull : rest = ((bs ++ l).drop (64 * (T / 64))).take 64) (hS : StAt w4 p ((hashN (bs ++ l) (T / 64)).comp rest).toL rest ((T : Int) + (n : Int))) (x : Value)
    (hx : x = .slice (some ⟨b, o + k, none⟩) (n - k) (c - k) ∨ ∃ a'' c'', x = .slice a'' (n - k) c'' ∧ n = k ∧ (∀ b o, a'' = some ⟨b, o, none⟩ → b ≠ p)) : AddIn w4 p bs l rest T n x w4 := by
  have hl2 := hl.tail k hkn
  have hS3 : StAt w4 p (hashN (bs ++ l) ((T + k) / 64)).toL rest ((T : Int) + (n : Int)) := by
    rw [show (T + k) / 64 = T / 64 + 1 by omega]
    simp only [hashN]
    rw [← hfull]
    exact hS
  rcases hx with rfl | ⟨a'', c'', rfl, h1, h2⟩
  · exact ⟨k, _, _, _, hkn, rfl, by omega, rfl, hl2, by rintro _ _ _ ⟨⟩; exact hb, hS3, Keeps.refl _ _⟩
  · refine ⟨k, _, _, _, hkn, rfl, by omega, rfl, ⟨hl2.len, by omega, fun j y hy => ?_⟩, fun _ => h2, hS3, Keeps.refl _ _⟩
    have := (List.getElem?_eq_some_iff.1 hy).1
    have := hl2.len
    omega

set_option maxRecDepth 100000 in
set_option maxHeartbeats 4000000 in
theorem add_full (w : World) (p : Nat) (a : Option Addr) (n c : Nat) (bs l : List B) (hH : Has w p bs) (hT : Tabs w) (hp : 1 < p) (hl : SlB w a n c l) (ha : 0 < n → ∀ b o, a = some ⟨b, o, none⟩ → b ≠ p)
    (hb : bs.length < 1000000) (hn : n < 1000000) (h0 : 0 < bs.length % 64) (hge : 64 ≤ bs.length % 64 + n) :
    Calls Tryd.prog 28 #[.pointer (some ⟨p, 0, none⟩), .slice a n c] w fun e w' => e = .returned (.tuple #[]) ∧ Has w' p (bs ++ l) ∧ Keeps (· = p) w w' := by
  obtain ⟨rest, hS, hr⟩ := hH.out
  have ht := hS.total
  have hf := hS.free 72
  have hS1 := hS.setTotal ((bs.length : Int) + (n : Int))
  rw [← hashN_append bs l _ (by omega)] at hS1
  have hr64 := hS.r64
  have hk1 : Keeps (· = p) w (w.setCell ⟨p, 72, none⟩ (.int .u64 ((bs.length : Int) + (n : Int)))) := (Keeps.refl (· = p) w).setCell (p := ⟨p, 72, none⟩) (.inl rfl) _
  have hlen := hl.len
  generalize hbl : bs.length = T at *
  have Hbl : Hid (bs.length = T) := hbl
  have Hln : Hid (l.length = n) := hlen
  obtain ⟨H, hHe⟩ : ∃ H, T % 64 = H := ⟨_, rfl⟩
  have HH : Hid (T % 64 = H) := hHe
  rw [hHe] at h0 hge hr
  have hTH : (T : Int) % 64 = (H : Int) := by omega
  have hH64' : H < 64 := by omega
  have hl1 := hl.keeps hk1 ha
  have hT1 := hT.keeps hk1 (by omega) (by omega)
  obtain ⟨k, hke⟩ : ∃ k, 64 - H = k := ⟨_, rfl⟩
  have hHk : H + k = 64 := by omega
  have htl : (l.take k).length = k := by simp; omega
  have hcl : ((l.take k).map vb).length = Nat.min n (64 - H) := by rw [List.length_map, htl, hke]; exact (Nat.min_eq_right (by omega)).symm
  have hc0 := cells_at hl1 (l.take k) k rfl
  have hpos : 0 < ((l.take k).map vb).length → some (⟨p, 8 + H, none⟩ : Addr) = some ⟨p, 8 + H, none⟩ ∧ ∃ ad, a = some ad ∧ ∀ j v, ((l.take k).map vb)[j]? = some v → (w.setCell ⟨p, 72, none⟩ (.int .u64 ((T : Int) + (n : Int)))).cell? (ad.add j) = some v := fun h => ⟨rfl, hc0 h⟩
  have hrow : (w.setCell ⟨p, 72, none⟩ (.int .u64 ((T : Int) + (n : Int)))).heap[p]? = some (.cells (stRow (hashN (bs ++ l) (T / 64)).toL rest ((T : Int) + (n : Int))).toList.toArray 69 (0, 0)) := by rw [Array.toArray_toList]; exact hS1.row
  have hfit : 8 + H + ((l.take k).map vb).length ≤ (stRow (hashN (bs ++ l) (T / 64)).toL rest ((T : Int) + (n : Int))).toList.length := by
    have e73 : (stRow (hashN (bs ++ l) (T / 64)).toL rest ((T : Int) + (n : Int))).toList.length = 73 := by rw [Array.length_toList]; exact size_stRow (toL_len _) hr64
    rw [e73, List.length_map, htl]; omega
  have hone := one_bytes (l.take k)
  have h0' : (0 : Int) < (H : Int) := by omega
  have hH64 : (H : Int) ≤ 64 := by omega
  have hHk' : (H : Int) + (k : Int) = 64 := by omega
  have Hcl : Hid (((l.take k).map vb).length = k) := by show _ = _; rw [List.length_map, htl]
  have Hfull : Hid ((ov rest H (l.take k)).length = 64 ∧ ov rest H (l.take k) = ((bs ++ l).drop (64 * (T / 64))).take 64) := by
    have e1 : (ov rest H (l.take k)).length = 64 := by rw [ov_len _ _ _ (by rw [htl, hr64]; omega), hr64]
    refine ⟨e1, ?_⟩
    have e2 := ov_take rest (l.take k) H (by omega)
    rw [htl, hHk, List.take_of_length_le (by omega), hr] at e2
    have e3 : (bs.drop (64 * (T / 64))).length = H := by rw [List.length_drop]; omega
    rw [e2, List.drop_append_of_le_length (by omega), List.take_append, e3, show (bs.drop (64 * (T / 64))).take 64 = bs.drop (64 * (T / 64)) from List.take_of_length_le (by omega), show 64 - H = k by omega]
  have hkn : (k : Int) ≤ (n : Int) := by omega
  have hkn' : k ≤ n := by omega
  have hcap := hl.cap
  have hcap' : (n : Int) ≤ (c : Int) := by omega
  have hlk := hl.bytes k (by omega) hkn'
  obtain ⟨b, o, rfl, _, _⟩ := hlk
  have hbp : b ≠ p := ha (by omega) b o rfl
  have Hke : Hid (64 - H = k) := hke
  clear hbl hlen hr hS hH hHe hc0 hke
  go_enter Tryd.func28, Tryd.ntmps28
  go_wp2_with (first | (go_at_call 31; refine (stir20 _ p p 8 _ _ _ _ _ hS3 hT3 hp Hfull.out.1 (by omega) hS3.rest).mono ?_; rintro e w4 ⟨rfl, hS4, hk4⟩) | (refine wpList_copy_over rfl _ _ 22 22 rfl 5 Tryd.underlying22 size5 _ _ _ _ _ _ rfl rfl p (8 + H) _ 69 hrow _ hcl hpos hfit hone ?_; rw [Hcl.out]; intro w3 g3 hk3 hz3; have hS3 := copied g3 (toL_len _) hr64 (by omega); have hT3 := hT1.keeps hk3 (by omega) (by omega)))
  all_goals
    have hk34 := hk3.trans hk4
    have hk14 := hk1.trans hk34
    have hT4 := hT3.keeps hk4 (by omega) (by omega)
    have hl4 := hl1.keeps hk34 (by rintro _ _ _ ⟨⟩; exact hbp)
    have hA := addIn_first Hbl.out HH.out hHk hkn' hl4 hbp Hfull.out.2 hS4
    have hr64' := Hfull.out.1
    clear hk34 hl4 hS4 hk4 hS3 hT3 hk3 hz3 g3 hl1 hT1 hrow hfit hpos hone hcl Hfull Hcl hl hT hS1 hk1 ht hf ha
    generalize ov rest H (l.take k) = rest' at *
    go_loopw [1] (fun x wr => AddIn w4 p bs l rest' T n x wr) (fun x _ => lenOf x)
    case atStart => exact hA _ (by first | exact .inl rfl | exact .inr ⟨_, _, rfl, by omega, by rintro _ _ ⟨⟩; exact hbp⟩)
    case round =>
      clear hA
      obtain ⟨d, a', n', c', hd, Hn', h64, rfl, hl', ha', hS', hk'⟩ := hrel.out
      have hn' : Hid (n' = n - d) := Hn'
      clear Hn' hrel
      by_cases hlt : 64 ≤ n'
      · have hlt' : (64 : Int) ≤ (n' : Int) := by omega
        obtain ⟨b, o, rfl, hby, hbl⟩ := hl'.bytes 64 (by omega) hlt
        have hcap := hl'.cap
        have hcap' : (n' : Int) ≤ (c' : Int) := by omega
        have hbp : b ≠ p := ha' (by omega) b o rfl
        have hT' := hT4.keeps hk' (by omega) (by omega)
        rcases Nat.lt_or_ge 64 c' with hc64 | hc64
        · have hc65 : ¬ c' = 64 := by omega
          go_wp2_with (go_at_call 31; refine (stir20 _ p b o _ _ rest' _ _ hS' hT' hp hbl (by omega) hby).mono ?_; rintro e w2 ⟨rfl, hS2, hk2⟩)
          all_goals
            go_roundw
            case rel => exact addIn_next Hbl.out hd hn'.out h64 hlt hl' hbp hS2 hk' hk2 _ (by first | exact .inl rfl | exact .inr ⟨_, _, rfl, by omega, by rintro _ _ ⟨⟩; exact hbp⟩)
            case measure => simp [lenOf]; omega
        · obtain rfl : c' = 64 := by omega
          go_wp2_with (go_at_call 31; refine (stir20 _ p b o _ _ rest' _ _ hS' hT' hp hbl (by omega) hby).mono ?_; rintro e w2 ⟨rfl, hS2, hk2⟩)
          all_goals
            go_roundw
            case rel => exact addIn_next Hbl.out hd hn'.out h64 hlt hl' hbp hS2 hk' hk2 _ (by first | exact .inl rfl | exact .inr ⟨some ⟨b, o, none⟩, 0, (by rw [show n' - 64 = 0 by omega]), by omega, by rintro _ _ ⟨⟩; exact hbp⟩)
            case measure => simp [lenOf]; omega
      · have hlt' : ¬ (64 : Int) ≤ (n' : Int) := by omega
        have hcl : ((l.drop d).map vb).length = Nat.min n' 64 := by have := hl'.len; simp at this ⊢; rw [show Nat.min n' 64 = n' from Nat.min_eq_left (by omega)]; omega
        have hpos : 0 < ((l.drop d).map vb).length → some (⟨p, 8, none⟩ : Addr) = some ⟨p, 8, none⟩ ∧ ∃ ad, a' = some ad ∧ ∀ j v, ((l.drop d).map vb)[j]? = some v → wr.cell? (ad.add j) = some v := fun h => by
          refine ⟨rfl, ?_⟩
          have hlen := hl'.len
          obtain ⟨b, o, e, _⟩ := hl'.at_ 0 _ (List.getElem?_eq_getElem (by simpa using h))
          refine ⟨_, e, fun j v hv => ?_⟩
          rw [List.getElem?_map] at hv
          cases hq : (l.drop d)[j]? with
          | none => rw [hq] at hv; cases hv
          | some x =>
            rw [hq] at hv
            obtain ⟨b', o', e', hc⟩ := hl'.at_ j x hq
            rw [e] at e'; cases e'
            rw [Addr_add]
            cases hv
            exact hc
        have hone : ∀ v ∈ (l.drop d).map vb, v.oneCell' = true := by intro v hv; obtain ⟨x, _, rfl⟩ := List.mem_map.1 hv; rfl
        have hrow : wr.heap[p]? = some (.cells (stRow (hashN (bs ++ l) ((T + d) / 64)).toL rest' ((T : Int) + (n : Int))).toList.toArray 69 (0, 0)) := by rw [Array.toArray_toList]; exact hS'.row
        have hfit : 8 + ((l.drop d).map vb).length ≤ (stRow (hashN (bs ++ l) ((T + d) / 64)).toL rest' ((T : Int) + (n : Int))).toList.length := by
          have e73 : (stRow (hashN (bs ++ l) ((T + d) / 64)).toL rest' ((T : Int) + (n : Int))).toList.length = 73 := by rw [Array.length_toList]; exact size_stRow (toL_len _) hr64'
          have := Nat.min_le_right n' 64
          rw [e73, hcl]; show 8 + min n' 64 ≤ 73; omega
        go_wp2_with (refine wpList_copy_over rfl _ _ 22 22 rfl 5 Tryd.underlying22 size5 _ _ _ _ _ _ rfl rfl p 8 _ 69 hrow _ hcl hpos hfit hone ?_; intro w3 g3 hk3 hz3)
        go_end0
        have g4 := g3.out
        have hlen := hl'.len
        rw [show (8 : Nat) = 8 + 0 from rfl, stRow_splice _ _ _ (toL_len _) hr64' 0 _ (by rw [hlen]; omega)] at g4
        have hS3 : StAt w3 p (hashN (bs ++ l) ((T + d) / 64)).toL (ov rest' 0 (l.drop d)) ((T : Int) + (n : Int)) := ⟨g4, toL_len _, by rw [ov_len _ _ _ (by rw [hlen, hr64']; omega), hr64']⟩
        exact ⟨rfl, has_end Hbl.out Hln.out hd h64 (by have := hn'.out; omega) hr64' hS3, (hk14.trans hk').trans hk3⟩

end Go.Proofs.YtanmopbhglokmaaDoor
