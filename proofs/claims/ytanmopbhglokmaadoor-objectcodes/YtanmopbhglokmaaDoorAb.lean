
/-
  add: bytes that come in.
-/
import Derived.Test.YtanmopbhglokmaaDoorAa
set_option linter.all false
namespace Go.Proofs.YtanmopbhglokmaaDoor
open Go.RowKit

def lenOf : Value → Nat
  | .slice _ n _ => n
  | _ => 0

theorem has_end {w : World} {p : Nat} {bs l rest : List B} {T n d : Nat} (hT : bs.length = T) (hn : l.length = n) (hd : d ≤ n) (h64 : (T + d) % 64 = 0) (hlt : n - d < 64) (hr : rest.length = 64)
    (hS : StAt w p (hashN (bs ++ l) ((T + d) / 64)).toL (ov rest 0 (l.drop d)) ((T : Int) + (n : Int))) : Has w p (bs ++ l) := by
  have e1 : (bs ++ l).length = T + n := by simp [hT, hn]
  have e2 : (T + n) / 64 = (T + d) / 64 := by omega
  have e3 : (T + n) % 64 = n - d := by omega
  have e4 : 64 * ((T + d) / 64) = T + d := by omega
  refine ⟨ov rest 0 (l.drop d), ?_, ?_⟩
  · rw [e1, e2]
    rw [Int.natCast_add]
    exact hS
  · have e5 : (bs ++ l).drop (T + d) = l.drop d := by
      rw [List.drop_append, show bs.drop (T + d) = [] from List.drop_eq_nil_of_le (by omega), hT, show T + d - T = d by omega]; rfl
    rw [e1, e2, e3, e4, e5]
    have : n - d = (l.drop d).length := by simp [hn]
    rw [this]
    simp [ov]

theorem SlB.bytes {w : World} {a : Option Addr} {n c : Nat} {l : List B} (h : SlB w a n c l) (k : Nat) (h0 : 0 < k) (hk : k ≤ n) : ∃ b o, a = some ⟨b, o, none⟩ ∧ BytesAt w b o (l.take k) ∧ (l.take k).length = k := by
  have hl := h.len
  obtain ⟨b, o, e, _⟩ := h.at_ 0 _ (List.getElem?_eq_getElem (by omega))
  refine ⟨b, o, e, fun j x hx => ?_, by simp; omega⟩
  rw [List.getElem?_take] at hx
  split at hx
  · obtain ⟨b', o', e', hc⟩ := h.at_ j x hx
    rw [e] at e'; cases e'; exact hc
  · cases hx
theorem SlB.tail {w : World} {b o n c : Nat} {l : List B} (h : SlB w (some ⟨b, o, none⟩) n c l) (k : Nat) (hk : k ≤ n) : SlB w (some ⟨b, o + k, none⟩) (n - k) (c - k) (l.drop k) := by
  have hl := h.len
  refine ⟨by simp; omega, by have := h.cap; omega, fun j x hx => ?_⟩
  rw [List.getElem?_drop] at hx
  obtain ⟨b', o', e', hc⟩ := h.at_ _ x hx
  cases e'
  exact ⟨b, o + k, rfl, by rw [Nat.add_assoc]; exact hc⟩

/-- While whole blocks are stirred in: d bytes of l are in, the others lie in the slice x. -/
structure AddIn (w1 : World) (p : Nat) (bs l rest : List B) (T n : Nat) (x : Value) (wr : World) : Prop where
  out : ∃ (d : Nat) (a' : Option Addr) (n' c' : Nat), d ≤ n ∧ n' = n - d ∧ (T + d) % 64 = 0 ∧ x = .slice a' n' c' ∧ SlB wr a' n' c' (l.drop d) ∧ (0 < n' → ∀ b o, a' = some ⟨b, o, none⟩ → b ≠ p) ∧
      StAt wr p (hashN (bs ++ l) ((T + d) / 64)).toL rest ((T : Int) + (n : Int)) ∧ Keeps (· = p) w1 wr

theorem addIn_next {w1 wr w2 : World} {p T n d b o n' c' : Nat} {bs l rest : List B} (hT : bs.length = T) (hd : d ≤ n) (hn' : n' = n - d) (h64 : (T + d) % 64 = 0) (hlt : 64 ≤ n') (hl' : SlB wr (some ⟨b, o, none⟩) n' c' (l.drop d)) (hb : b ≠ p)
    (hS2 : StAt w2 p ((hashN (bs ++ l) ((T + d) / 64)).comp ((l.drop d).take 64)).toL rest ((T : Int) + (n : Int))) (hk' : Keeps (· = p) w1 wr) (hk2 : Keeps (· = p) wr w2) (x : Value)
    (hx : x = .slice (some ⟨b, o + 64, none⟩) (n' - 64) (c' - 64) ∨ ∃ a'' c'', x = .slice a'' (n' - 64) c'' ∧ n' = 64 ∧ (∀ b o, a'' = some ⟨b, o, none⟩ → b ≠ p)) : AddIn w1 p bs l rest T n x w2 := by
  have hl2 := (hl'.keeps hk2 (by rintro _ _ _ ⟨⟩; exact hb)).tail 64 hlt
  have e1 : (l.drop d).drop 64 = l.drop (d + 64) := by rw [List.drop_drop]
  have e2 : (T + (d + 64)) / 64 = (T + d) / 64 + 1 := by omega
  have hS3 : StAt w2 p (hashN (bs ++ l) ((T + (d + 64)) / 64)).toL rest ((T : Int) + (n : Int)) := by
    rw [e2]
    have e3 : (bs ++ l).drop (64 * ((T + d) / 64)) = l.drop d := by
      rw [show 64 * ((T + d) / 64) = T + d by omega, List.drop_append, show bs.drop (T + d) = [] from List.drop_eq_nil_of_le (by omega), hT, show T + d - T = d by omega]; rfl
    simp only [hashN]
    rw [e3]
    exact hS2
  rw [e1] at hl2
  rcases hx with rfl | ⟨a'', c'', rfl, h1, h2⟩
  · exact ⟨d + 64, _, _, _, by omega, by omega, by omega, rfl, hl2, by rintro _ _ _ ⟨⟩; exact hb, hS3, hk'.trans hk2⟩
  · refine ⟨d + 64, _, _, _, by omega, by omega, by omega, rfl, ⟨hl2.len, by omega, fun j y hy => ?_⟩, fun _ => h2, hS3, hk'.trans hk2⟩
    have := (List.getElem?_eq_some_iff.1 hy).1
    have := hl2.len
    omega

set_option maxRecDepth 100000 in
set_option maxHeartbeats 4000000 in
theorem add_zero (w : World) (p : Nat) (a : Option Addr) (n c : Nat) (bs l : List B) (hH : Has w p bs) (hT : Tabs w) (hp : 1 < p) (hl : SlB w a n c l) (ha : 0 < n → ∀ b o, a = some ⟨b, o, none⟩ → b ≠ p)
    (hb : bs.length < 1000000) (hn : n < 1000000) (h0 : bs.length % 64 = 0) :
    Calls Tryd.prog 28 #[.pointer (some ⟨p, 0, none⟩), .slice a n c] w fun e w' => e = .returned (.tuple #[]) ∧ Has w' p (bs ++ l) ∧ Keeps (· = p) w w' := by
  obtain ⟨rest, hS, hr⟩ := hH.out
  have ht := hS.total
  have hf := hS.free 72
  have h0' : (bs.length : Int) % 64 = 0 := by omega
  have hS1 := hS.setTotal ((bs.length : Int) + (n : Int))
  rw [← hashN_append bs l _ (by omega)] at hS1
  have hr64 := hS.r64
  have hk1 : Keeps (· = p) w (w.setCell ⟨p, 72, none⟩ (.int .u64 ((bs.length : Int) + (n : Int)))) := (Keeps.refl (· = p) w).setCell (p := ⟨p, 72, none⟩) (.inl rfl) _
  have hlen := hl.len
  generalize hbl : bs.length = T at *
  have Hbl : Hid (bs.length = T) := hbl
  have Hln : Hid (l.length = n) := hlen
  clear hbl hlen hr hS hH
  go_enter Tryd.func28, Tryd.ntmps28
  go_wp2
  clear ht hf
  generalize w.setCell ⟨p, 72, none⟩ (.int .u64 ((T : Int) + (n : Int))) = w1 at *
  have hT1 := hT.keeps hk1 (by omega) (by omega)
  have hl1 := hl.keeps hk1 ha
  have hA := AddIn.mk (w1 := w1) (p := p) (bs := bs) (l := l) (rest := rest) (T := T) (n := n) (x := .slice a n c) (wr := w1) ⟨0, a, n, c, by omega, rfl, by omega, rfl, by simpa using hl1, ha, hS1, Keeps.refl _ _⟩
  clear hS1 hl1 hl ha hT
  go_loopw [1] (fun x wr => AddIn w1 p bs l rest T n x wr) (fun x _ => lenOf x)
  case atStart => exact hA
  case round =>
    clear hA
    obtain ⟨d, a', n', c', hd, Hn', h64, rfl, hl', ha', hS', hk'⟩ := hrel.out
    have hn' : Hid (n' = n - d) := Hn'
    clear Hn' hrel
    by_cases hlt : 64 ≤ n'
    · have hlt' : (64 : Int) ≤ (n' : Int) := by omega
      obtain ⟨b, o, rfl, hby, hbl⟩ := hl'.bytes 64 (by omega) hlt
      have hcap := hl'.cap
      have hcap' : (n' : Int) ≤ (c' : Int) := by omega
      have hbp : b ≠ p := ha' (by omega) b o rfl
      have hT' := hT1.keeps hk' (by omega) (by omega)
      go_wp2_with (go_at_call 31; refine (stir20 _ p b o _ _ rest _ _ hS' hT' hp hbl (by omega) hby).mono ?_; rintro e w2 ⟨rfl, hS2, hk2⟩)
      all_goals
        go_roundw
        case rel => exact addIn_next Hbl.out hd hn'.out h64 hlt hl' hbp hS2 hk' hk2 _ (by first | exact .inl rfl | exact .inr ⟨_, _, rfl, by omega, by rintro _ _ ⟨⟩; exact hbp⟩)
        case measure => simp [lenOf]; omega
    · have hlt' : ¬ (64 : Int) ≤ (n' : Int) := by omega
      have hcl : ((l.drop d).map vb).length = Nat.min n' 64 := by have := hl'.len; simp at this ⊢; rw [show Nat.min n' 64 = n' from Nat.min_eq_left (by omega)]; omega
      have hpos : 0 < ((l.drop d).map vb).length → some (⟨p, 8, none⟩ : Addr) = some ⟨p, 8, none⟩ ∧ ∃ ad, a' = some ad ∧ ∀ j v, ((l.drop d).map vb)[j]? = some v → wr.cell? (ad.add j) = some v := fun h => by
        refine ⟨rfl, ?_⟩
        have hlen := hl'.len
        obtain ⟨b, o, e, _⟩ := hl'.at_ 0 _ (List.getElem?_eq_getElem (by simpa using h))
        refine ⟨_, e, fun j v hv => ?_⟩
        rw [List.getElem?_map] at hv
        cases hq : (l.drop d)[j]? with
        | none => rw [hq] at hv; cases hv
        | some x =>
          rw [hq] at hv
          obtain ⟨b', o', e', hc⟩ := hl'.at_ j x hq
          rw [e] at e'; cases e'
          rw [Addr_add]
          cases hv
          exact hc
      have hone : ∀ v ∈ (l.drop d).map vb, v.oneCell' = true := by intro v hv; obtain ⟨x, _, rfl⟩ := List.mem_map.1 hv; rfl
      have hrow : wr.heap[p]? = some (.cells (stRow (hashN (bs ++ l) ((T + d) / 64)).toL rest ((T : Int) + (n : Int))).toList.toArray 69 (0, 0)) := by rw [Array.toArray_toList]; exact hS'.row
      have hfit : 8 + ((l.drop d).map vb).length ≤ (stRow (hashN (bs ++ l) ((T + d) / 64)).toL rest ((T : Int) + (n : Int))).toList.length := by
        have e73 : (stRow (hashN (bs ++ l) ((T + d) / 64)).toL rest ((T : Int) + (n : Int))).toList.length = 73 := by rw [Array.length_toList]; exact size_stRow (toL_len _) hr64
        have := Nat.min_le_right n' 64
        rw [e73, hcl]; show 8 + min n' 64 ≤ 73; omega
      go_wp2_with (refine wpList_copy_over rfl _ _ 22 22 rfl 5 Tryd.underlying22 size5 _ _ _ _ _ _ rfl rfl p 8 _ 69 hrow _ hcl hpos hfit hone ?_; intro w3 g3 hk3 hz3)
      go_end0
      have g4 := g3.out
      have hlen := hl'.len
      rw [show (8 : Nat) = 8 + 0 from rfl, stRow_splice _ _ _ (toL_len _) hr64 0 _ (by rw [hlen]; omega)] at g4
      have hS3 : StAt w3 p (hashN (bs ++ l) ((T + d) / 64)).toL (ov rest 0 (l.drop d)) ((T : Int) + (n : Int)) := ⟨g4, toL_len _, by rw [ov_len _ _ _ (by rw [hlen, hr64]; omega), hr64]⟩
      exact ⟨rfl, has_end Hbl.out Hln.out hd h64 (by have := hn'.out; omega) hr64 hS3, (hk1.trans hk').trans hk3⟩

end Go.Proofs.YtanmopbhglokmaaDoor
