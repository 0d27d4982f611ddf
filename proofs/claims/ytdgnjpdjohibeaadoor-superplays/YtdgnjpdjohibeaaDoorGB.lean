
/-
  Packed texts: Pu, Aa, Ab, Ac, Ea, Eb, Su, Of.
-/
import Derived.Test.YtdgnjpdjohibeaaDoorGA
import Derived.Laws.CopyOwn
set_option linter.all false
set_option maxRecDepth 100000
namespace Go.Proofs.YtdgnjpdjohibeaaDoor

/-! Pu: put: a word's bytes laid over bytes, the highest first. -/
section
open Go.RowKit

/-- The n lowest bytes of x, the highest first. -/
def beN (n x : Nat) : List B := (List.range n).map fun i => BitVec.ofNat 8 (x / 256 ^ (n - 1 - i))
theorem beN_len (n x : Nat) : (beN n x).length = n := by simp [beN]
theorem beN_drop (n x j : Nat) (hj : j < n) : (beN n x).drop j = BitVec.ofNat 8 (x / 256 ^ (n - 1 - j)) :: (beN n x).drop (j + 1) := by
  rw [List.drop_eq_getElem_cons (by rw [beN_len]; exact hj)]
  simp [beN]
theorem nb_ofNat (m : Nat) : nb (BitVec.ofNat 8 m) = (m : Int) % 256 := by simp [nb, BitVec.toNat_ofNat]

/-- bs laid over l from o on. -/
def ov (l : List B) (o : Nat) (bs : List B) : List B := l.take o ++ (bs ++ l.drop (o + bs.length))
theorem ov_len (l : List B) (o : Nat) (bs : List B) (h : o + bs.length ≤ l.length) : (ov l o bs).length = l.length := by simp [ov]; omega
/-- The last bytes, from j on, are laid. -/
def ovj (l : List B) (o n x j : Nat) : List B := l.take (o + j) ++ ((beN n x).drop j ++ l.drop (o + n))
theorem ovj_all (l : List B) (o n x : Nat) : ovj l o n x 0 = ov l o (beN n x) := by simp [ovj, ov, beN_len]
theorem ovj_none (l : List B) (o n x : Nat) : ovj l o n x n = l := by unfold ovj; rw [List.drop_eq_nil_of_le (by rw [beN_len]; omega)]; simp
theorem ovj_len (l : List B) (o n x j : Nat) (hj : j ≤ n) (h : o + n ≤ l.length) : (ovj l o n x j).length = l.length := by simp [ovj, beN_len]; omega
theorem ovj_set (l : List B) (o n x j : Nat) (hj : j < n) (h : o + n ≤ l.length) : (ovj l o n x (j + 1)).set (o + j) (BitVec.ofNat 8 (x / 256 ^ (n - (j + 1)))) = ovj l o n x j := by
  have e : l.take (o + (j + 1)) = l.take (o + j) ++ [l[o + j]'(by omega)] := by rw [← Nat.add_assoc, List.take_succ_eq_append_getElem (by omega)]
  have hl : (l.take (o + j)).length = o + j := by simp; omega
  unfold ovj
  rw [e, List.append_assoc, List.set_append_right _ _ (by omega), hl, Nat.sub_self, beN_drop n x j hj, show n - 1 - j = n - (j + 1) by omega]
  rfl
theorem div_next (x n j : Nat) (hj : j < n) : x / 256 ^ (n - (j + 1)) / 256 = x / 256 ^ (n - j) := by
  rw [Nat.div_div_eq_div_mul, ← Nat.pow_succ, show (n - (j + 1)).succ = n - j by omega]

set_option maxHeartbeats 1000000 in
theorem put22 (w : World) (g o n c x : Nat) (l : List B) (ty : TypeId) (hg : w.heap[g]? = some (.cells (brow l) ty (0, 0))) (hn : o + n ≤ l.length) (hm : n ≤ 64) (hx : x < 4294967296) :
    Calls Tryd.prog 65 #[.slice (some ⟨g, o, none⟩) n c, .int .u32 x] w fun e w' => e = .returned (.tuple #[]) ∧ w'.heap[g]? = some (.cells (brow (ov l o (beN n x))) ty (0, 0)) ∧ Keeps (· = g) w w' := by
  go_enter Tryd.func65, Tryd.ntmps65
  go_wp2
  go_loopw [1, 4] (fun t i wr => ∃ j : Nat, j ≤ n ∧ i = .int .i64 ((j : Int) - 1) ∧ t = .int .u32 ((x / 256 ^ (n - j) : Nat) : Int) ∧ wr.heap[g]? = some (.cells (brow (ovj l o n x j)) ty (0, 0)) ∧ Keeps (· = g) w wr) (fun _ i _ => (intOf i + 1).toNat)
  case atStart => exact ⟨n, by omega, by first | rfl | go_num, by simp, by rw [ovj_none]; exact hg, Keeps.refl _ _⟩
  case round =>
    obtain ⟨j, hj, rfl, rfl, gj, hk⟩ := hrel
    have hy : x / 256 ^ (n - j) < 4294967296 := Nat.lt_of_le_of_lt (Nat.div_le_self _ _) hx
    cases j with
    | succ j =>
      have e1 : ((j + 1 : Nat) : Int) - 1 = (j : Int) := by omega
      rw [e1]
      have Hs : Hid ((ovj l o n x (j + 1)).set (o + j) (BitVec.ofNat 8 (x / 256 ^ (n - (j + 1)))) = ovj l o n x j) := ovj_set l o n x j (by omega) hn
      have Hd : Hid (x / 256 ^ (n - (j + 1)) / 256 = x / 256 ^ (n - j)) := div_next x n j (by omega)
      generalize x / 256 ^ (n - (j + 1)) = y at *
      have hf := frozen_of_row wr g (o + j) _ _ gj
      have hc : ∃ v, wr.cell? ⟨g, o + j, none⟩ = some v := by
        have : o + j < (ovj l o n x (j + 1)).length := by rw [ovj_len l o n x _ hj hn]; omega
        rw [cell_of_row wr g (o + j) _ _ _ gj, brow_get]; simp [this]
      obtain ⟨v0, hc⟩ := hc
      have h1 : (j : Int) < (n : Int) := by omega
      clear e1
      go_wp2
      go_roundw
      case rel =>
        refine ⟨j, by omega, rfl, by rw [← Hd.out, Int.natCast_ediv]; rfl, ?_, hk.setCell (p := ⟨g, o + j, none⟩) (.inl rfl) _⟩
        rw [heap_setCell_same wr _ (o + j) _ _ _ gj, ← nb_ofNat, brow_set, Hs.out]
      case measure => simp [intOf]
    | zero =>
      go_wp2
      go_end0
      rw [ovj_all] at gj
      exact ⟨rfl, gj, hk⟩

set_option maxHeartbeats 1000000 in
theorem put21 (w : World) (g o n c x : Nat) (l : List B) (ty : TypeId) (hg : w.heap[g]? = some (.cells (brow l) ty (0, 0))) (hn : o + n ≤ l.length) (hm : n ≤ 64) (hx : x < 18446744073709551616) :
    Calls Tryd.prog 64 #[.slice (some ⟨g, o, none⟩) n c, .int .u64 x] w fun e w' => e = .returned (.tuple #[]) ∧ w'.heap[g]? = some (.cells (brow (ov l o (beN n x))) ty (0, 0)) ∧ Keeps (· = g) w w' := by
  go_enter Tryd.func64, Tryd.ntmps64
  go_wp2
  go_loopw [1, 4] (fun t i wr => ∃ j : Nat, j ≤ n ∧ i = .int .i64 ((j : Int) - 1) ∧ t = .int .u64 ((x / 256 ^ (n - j) : Nat) : Int) ∧ wr.heap[g]? = some (.cells (brow (ovj l o n x j)) ty (0, 0)) ∧ Keeps (· = g) w wr) (fun _ i _ => (intOf i + 1).toNat)
  case atStart => exact ⟨n, by omega, by first | rfl | go_num, by simp, by rw [ovj_none]; exact hg, Keeps.refl _ _⟩
  case round =>
    obtain ⟨j, hj, rfl, rfl, gj, hk⟩ := hrel
    have hy : x / 256 ^ (n - j) < 18446744073709551616 := Nat.lt_of_le_of_lt (Nat.div_le_self _ _) hx
    cases j with
    | succ j =>
      have e1 : ((j + 1 : Nat) : Int) - 1 = (j : Int) := by omega
      rw [e1]
      have Hs : Hid ((ovj l o n x (j + 1)).set (o + j) (BitVec.ofNat 8 (x / 256 ^ (n - (j + 1)))) = ovj l o n x j) := ovj_set l o n x j (by omega) hn
      have Hd : Hid (x / 256 ^ (n - (j + 1)) / 256 = x / 256 ^ (n - j)) := div_next x n j (by omega)
      generalize x / 256 ^ (n - (j + 1)) = y at *
      have hf := frozen_of_row wr g (o + j) _ _ gj
      have hc : ∃ v, wr.cell? ⟨g, o + j, none⟩ = some v := by
        have : o + j < (ovj l o n x (j + 1)).length := by rw [ovj_len l o n x _ hj hn]; omega
        rw [cell_of_row wr g (o + j) _ _ _ gj, brow_get]; simp [this]
      obtain ⟨v0, hc⟩ := hc
      have h1 : (j : Int) < (n : Int) := by omega
      clear e1
      go_wp2
      go_roundw
      case rel =>
        refine ⟨j, by omega, rfl, by rw [← Hd.out, Int.natCast_ediv]; rfl, ?_, hk.setCell (p := ⟨g, o + j, none⟩) (.inl rfl) _⟩
        rw [heap_setCell_same wr _ (o + j) _ _ _ gj, ← nb_ofNat, brow_set, Hs.out]
      case measure => simp [intOf]
    | zero =>
      go_wp2
      go_end0
      rw [ovj_all] at gj
      exact ⟨rfl, gj, hk⟩
end

/-! Aa: What a state holds; bytes that are copied into it. -/
section
open Go.RowKit

/-- The state behind the first i blocks of l. -/
def hashN (l : List B) : Nat → St
  | 0 => h0
  | i + 1 => (hashN l i).comp ((l.drop (64 * i)).take 64)
theorem hashN_append (l m : List B) (i : Nat) (h : 64 * i ≤ l.length) : hashN (l ++ m) i = hashN l i := by
  induction i with
  | zero => rfl
  | succ i ih =>
    have e : ((l ++ m).drop (64 * i)).take 64 = (l.drop (64 * i)).take 64 := by
      rw [List.drop_append_of_le_length (by omega), List.take_append_of_le_length (by simp; omega)]
    simp only [hashN]
    rw [ih (by omega), e]

/-- The bytes l lie in the slice a, n, c. -/
structure SlB (w : World) (a : Option Addr) (n c : Nat) (l : List B) : Prop where
  len : l.length = n
  cap : n ≤ c
  at_ : ∀ j x, l[j]? = some x → ∃ b o, a = some ⟨b, o, none⟩ ∧ w.cell? ⟨b, o + j, none⟩ = some (.int .u8 (nb x))
theorem SlB.keeps {S : Nat → Prop} {w w' : World} {a : Option Addr} {n c : Nat} {l : List B} (h : SlB w a n c l) (hk : Keeps S w w') (hs : 0 < n → ∀ b o, a = some ⟨b, o, none⟩ → ¬ S b) : SlB w' a n c l :=
  ⟨h.len, h.cap, fun j x hx => by obtain ⟨b, o, e, hc⟩ := h.at_ j x hx; exact ⟨b, o, e, cell_keeps hk hc (hs (by have := (List.getElem?_eq_some_iff.1 hx).1; have := h.len; omega) b o e)⟩⟩
theorem SlB.nil (w : World) : SlB w none 0 0 [] := ⟨rfl, Nat.le_refl _, fun j x hx => by simp at hx⟩

/-- The state in block p has taken in the bytes bs. -/
structure Has (w : World) (p : Nat) (bs : List B) : Prop where
  out : ∃ rest, StAt w p (hashN bs (bs.length / 64)).toL rest (bs.length : Int) ∧ rest.take (bs.length % 64) = bs.drop (64 * (bs.length / 64))
theorem Has.keeps {S : Nat → Prop} {w w' : World} {p : Nat} {bs : List B} (h : Has w p bs) (hk : Keeps S w w') (hs : ¬ S p) : Has w' p bs := by
  obtain ⟨rest, h1, h2⟩ := h.out
  exact ⟨rest, h1.keeps hk hs, h2⟩

theorem wpList_copy_over {ops : Array Oper} {rest : List Oper} {o : Oper} {a : Act} {w : World} {Q : Exit → Act → World → Prop} (hgd : o.guard = none) (d s : Operand) (dT sT : TypeId)
    (ho : o.op = .call { callee := .builtin .copy, args := #[d, s], argTypes := #[dT, sT] }) (elem : TypeId) (hu : Tryd.prog.underlying dT = some (.slice elem)) (hsz : (Tryd.prog.info? elem).map (·.size) = some 1)
    (dp sp : Option Addr) (dLen dCap sLen sCap : Nat) (hd : a.eval d = .slice dp dLen dCap) (hs : a.eval s = .slice sp sLen sCap)
    (g off : Nat) (cur : List Value) (t : TypeId) (hg : w.heap[g]? = some (.cells cur.toArray t (0, 0))) (cs : List Value) (hn : cs.length = Nat.min sLen dLen)
    (hpos : 0 < cs.length → dp = some ⟨g, off, none⟩ ∧ ∃ ad, sp = some ad ∧ ∀ j v, cs[j]? = some v → w.cell? (ad.add j) = some v)
    (hfit : off + cs.length ≤ cur.length) (h1 : ∀ v ∈ cs, v.oneCell' = true)
    (h : ∀ w', Hid (w'.heap[g]? = some (.cells (splice cur off cs).toArray t (0, 0))) → Keeps (· = g) w w' → w'.heap.size = w.heap.size → wpList Tryd.prog ops Q rest (a.put o.dst (goInt cs.length)) w') :
    wpList Tryd.prog ops Q (o :: rest) a w := by
  by_cases h0 : cs.length = 0
  · obtain rfl : cs = [] := List.eq_nil_of_length_eq_zero h0
    refine wpList_copy_nothing hgd d s dT sT ho elem hu hsz dp sp dLen dCap sLen sCap hd hs (by simpa using hn.symm) ?_
    exact h w (show _ = _ by simpa [splice] using hg) (Keeps.refl _ _) rfl
  · obtain ⟨rfl, ad, rfl, hsrc⟩ := hpos (by omega)
    refine wpList_copy_own hgd d s dT sT ho elem hu hsz g off dLen dCap ad sLen sCap hd hs cur.toArray t hg cs hn hsrc (by simpa using hfit) h1 ?_
    exact h _ (show _ = _ by simpa [splice] using setRow_heap w g _ _ t _ hg) ((Keeps.refl (· = g) w).setRow (.inl rfl) _) (by simp)

theorem stRow_splice (h : List W) (rest : List B) (t : Int) (hh : h.length = 8) (hr : rest.length = 64) (o : Nat) (bs : List B) (ho : o + bs.length ≤ 64) :
    (splice (stRow h rest t).toList (8 + o) (bs.map vb)).toArray = stRow h (ov rest o bs) t := by
  unfold splice stRow ov
  congr 1
  simp only [List.map_append, List.map_take, List.map_drop, List.length_map]
  rw [List.take_append, List.drop_append]
  simp [hh, hr, show 8 + o - 8 = o by omega, List.take_append, List.drop_append, show 8 + o + bs.length - 8 = o + bs.length by omega, show o - 64 = 0 by omega, show o + bs.length - 64 = 0 by omega]
  rw [List.take_of_length_le (by simp [hh]), show List.drop (8 + o + bs.length) (List.map vw h) = [] from List.drop_eq_nil_of_le (by simp [hh]; omega)]; rfl

theorem size5 : (Tryd.prog.info? 5).map (·.size) = some 1 := by kernel_rfl

theorem Addr_add (b o j : Nat) : (⟨b, o, none⟩ : Addr).add j = ⟨b, o + j, none⟩ := by unfold Addr.add; split <;> simp_all
end

/-! Ab: add: bytes that come in. -/
section
open Go.RowKit

def lenOf : Value → Nat
  | .slice _ n _ => n
  | _ => 0

theorem has_end {w : World} {p : Nat} {bs l rest : List B} {T n d : Nat} (hT : bs.length = T) (hn : l.length = n) (hd : d ≤ n) (h64 : (T + d) % 64 = 0) (hlt : n - d < 64) (hr : rest.length = 64)
    (hS : StAt w p (hashN (bs ++ l) ((T + d) / 64)).toL (ov rest 0 (l.drop d)) ((T : Int) + (n : Int))) : Has w p (bs ++ l) := by
  have e1 : (bs ++ l).length = T + n := by simp [hT, hn]
  have e2 : (T + n) / 64 = (T + d) / 64 := by omega
  have e3 : (T + n) % 64 = n - d := by omega
  have e4 : 64 * ((T + d) / 64) = T + d := by omega
  refine ⟨ov rest 0 (l.drop d), ?_, ?_⟩
  · rw [e1, e2]
    rw [Int.natCast_add]
    exact hS
  · have e5 : (bs ++ l).drop (T + d) = l.drop d := by
      rw [List.drop_append, show bs.drop (T + d) = [] from List.drop_eq_nil_of_le (by omega), hT, show T + d - T = d by omega]; rfl
    rw [e1, e2, e3, e4, e5]
    have : n - d = (l.drop d).length := by simp [hn]
    rw [this]
    simp [ov]

theorem SlB.bytes {w : World} {a : Option Addr} {n c : Nat} {l : List B} (h : SlB w a n c l) (k : Nat) (h0 : 0 < k) (hk : k ≤ n) : ∃ b o, a = some ⟨b, o, none⟩ ∧ BytesAt w b o (l.take k) ∧ (l.take k).length = k := by
  have hl := h.len
  obtain ⟨b, o, e, _⟩ := h.at_ 0 _ (List.getElem?_eq_getElem (by omega))
  refine ⟨b, o, e, fun j x hx => ?_, by simp; omega⟩
  rw [List.getElem?_take] at hx
  split at hx
  · obtain ⟨b', o', e', hc⟩ := h.at_ j x hx
    rw [e] at e'; cases e'; exact hc
  · cases hx
theorem SlB.tail {w : World} {b o n c : Nat} {l : List B} (h : SlB w (some ⟨b, o, none⟩) n c l) (k : Nat) (hk : k ≤ n) : SlB w (some ⟨b, o + k, none⟩) (n - k) (c - k) (l.drop k) := by
  have hl := h.len
  refine ⟨by simp; omega, by have := h.cap; omega, fun j x hx => ?_⟩
  rw [List.getElem?_drop] at hx
  obtain ⟨b', o', e', hc⟩ := h.at_ _ x hx
  cases e'
  exact ⟨b, o + k, rfl, by rw [Nat.add_assoc]; exact hc⟩

/-- While whole blocks are stirred in: d bytes of l are in, the others lie in the slice x. -/
structure AddIn (w1 : World) (p : Nat) (bs l rest : List B) (T n : Nat) (x : Value) (wr : World) : Prop where
  out : ∃ (d : Nat) (a' : Option Addr) (n' c' : Nat), d ≤ n ∧ n' = n - d ∧ (T + d) % 64 = 0 ∧ x = .slice a' n' c' ∧ SlB wr a' n' c' (l.drop d) ∧ (0 < n' → ∀ b o, a' = some ⟨b, o, none⟩ → b ≠ p) ∧
      StAt wr p (hashN (bs ++ l) ((T + d) / 64)).toL rest ((T : Int) + (n : Int)) ∧ Keeps (· = p) w1 wr

theorem addIn_next {w1 wr w2 : World} {p T n d b o n' c' : Nat} {bs l rest : List B} (hT : bs.length = T) (hd : d ≤ n) (hn' : n' = n - d) (h64 : (T + d) % 64 = 0) (hlt : 64 ≤ n') (hl' : SlB wr (some ⟨b, o, none⟩) n' c' (l.drop d)) (hb : b ≠ p)
    (hS2 : StAt w2 p ((hashN (bs ++ l) ((T + d) / 64)).comp ((l.drop d).take 64)).toL rest ((T : Int) + (n : Int))) (hk' : Keeps (· = p) w1 wr) (hk2 : Keeps (· = p) wr w2) (x : Value)
    (hx : x = .slice (some ⟨b, o + 64, none⟩) (n' - 64) (c' - 64) ∨ ∃ a'' c'', x = .slice a'' (n' - 64) c'' ∧ n' = 64 ∧ (∀ b o, a'' = some ⟨b, o, none⟩ → b ≠ p)) : AddIn w1 p bs l rest T n x w2 := by
  have hl2 := (hl'.keeps hk2 (by rintro _ _ _ ⟨⟩; exact hb)).tail 64 hlt
  have e1 : (l.drop d).drop 64 = l.drop (d + 64) := by rw [List.drop_drop]
  have e2 : (T + (d + 64)) / 64 = (T + d) / 64 + 1 := by omega
  have hS3 : StAt w2 p (hashN (bs ++ l) ((T + (d + 64)) / 64)).toL rest ((T : Int) + (n : Int)) := by
    rw [e2]
    have e3 : (bs ++ l).drop (64 * ((T + d) / 64)) = l.drop d := by
      rw [show 64 * ((T + d) / 64) = T + d by omega, List.drop_append, show bs.drop (T + d) = [] from List.drop_eq_nil_of_le (by omega), hT, show T + d - T = d by omega]; rfl
    simp only [hashN]
    rw [e3]
    exact hS2
  rw [e1] at hl2
  rcases hx with rfl | ⟨a'', c'', rfl, h1, h2⟩
  · exact ⟨d + 64, _, _, _, by omega, by omega, by omega, rfl, hl2, by rintro _ _ _ ⟨⟩; exact hb, hS3, hk'.trans hk2⟩
  · refine ⟨d + 64, _, _, _, by omega, by omega, by omega, rfl, ⟨hl2.len, by omega, fun j y hy => ?_⟩, fun _ => h2, hS3, hk'.trans hk2⟩
    have := (List.getElem?_eq_some_iff.1 hy).1
    have := hl2.len
    omega

set_option maxRecDepth 100000 in
set_option maxHeartbeats 4000000 in
theorem add_zero (w : World) (p : Nat) (a : Option Addr) (n c : Nat) (bs l : List B) (hH : Has w p bs) (hT : Tabs w) (hp : 1 < p) (hl : SlB w a n c l) (ha : 0 < n → ∀ b o, a = some ⟨b, o, none⟩ → b ≠ p)
    (hb : bs.length < 1000000) (hn : n < 1000000) (h0 : bs.length % 64 = 0) :
    Calls Tryd.prog 57 #[.pointer (some ⟨p, 0, none⟩), .slice a n c] w fun e w' => e = .returned (.tuple #[]) ∧ Has w' p (bs ++ l) ∧ Keeps (· = p) w w' := by
  obtain ⟨rest, hS, hr⟩ := hH.out
  have ht := hS.total
  have hf := hS.free 72
  have h0' : (bs.length : Int) % 64 = 0 := by omega
  have hS1 := hS.setTotal ((bs.length : Int) + (n : Int))
  rw [← hashN_append bs l _ (by omega)] at hS1
  have hr64 := hS.r64
  have hk1 : Keeps (· = p) w (w.setCell ⟨p, 72, none⟩ (.int .u64 ((bs.length : Int) + (n : Int)))) := (Keeps.refl (· = p) w).setCell (p := ⟨p, 72, none⟩) (.inl rfl) _
  have hlen := hl.len
  generalize hbl : bs.length = T at *
  have Hbl : Hid (bs.length = T) := hbl
  have Hln : Hid (l.length = n) := hlen
  clear hbl hlen hr hS hH
  go_enter Tryd.func57, Tryd.ntmps57
  go_wp2
  clear ht hf
  generalize w.setCell ⟨p, 72, none⟩ (.int .u64 ((T : Int) + (n : Int))) = w1 at *
  have hT1 := hT.keeps hk1 (by omega) (by omega)
  have hl1 := hl.keeps hk1 ha
  have hA := AddIn.mk (w1 := w1) (p := p) (bs := bs) (l := l) (rest := rest) (T := T) (n := n) (x := .slice a n c) (wr := w1) ⟨0, a, n, c, by omega, rfl, by omega, rfl, by simpa using hl1, ha, hS1, Keeps.refl _ _⟩
  clear hS1 hl1 hl ha hT
  go_loopw [1] (fun x wr => AddIn w1 p bs l rest T n x wr) (fun x _ => lenOf x)
  case atStart => exact hA
  case round =>
    clear hA
    obtain ⟨d, a', n', c', hd, Hn', h64, rfl, hl', ha', hS', hk'⟩ := hrel.out
    have hn' : Hid (n' = n - d) := Hn'
    clear Hn' hrel
    by_cases hlt : 64 ≤ n'
    · have hlt' : (64 : Int) ≤ (n' : Int) := by omega
      obtain ⟨b, o, rfl, hby, hbl⟩ := hl'.bytes 64 (by omega) hlt
      have hcap := hl'.cap
      have hcap' : (n' : Int) ≤ (c' : Int) := by omega
      have hbp : b ≠ p := ha' (by omega) b o rfl
      have hT' := hT1.keeps hk' (by omega) (by omega)
      go_wp2_with (go_at_call 63; refine (stir20 _ p b o _ _ rest _ _ hS' hT' hp hbl (by omega) hby).mono ?_; rintro e w2 ⟨rfl, hS2, hk2⟩)
      all_goals
        go_roundw
        case rel => exact addIn_next Hbl.out hd hn'.out h64 hlt hl' hbp hS2 hk' hk2 _ (by first | exact .inl rfl | exact .inr ⟨_, _, rfl, by omega, by rintro _ _ ⟨⟩; exact hbp⟩)
        case measure => simp [lenOf]; omega
    · have hlt' : ¬ (64 : Int) ≤ (n' : Int) := by omega
      have hcl : ((l.drop d).map vb).length = Nat.min n' 64 := by have := hl'.len; simp at this ⊢; rw [show Nat.min n' 64 = n' from Nat.min_eq_left (by omega)]; omega
      have hpos : 0 < ((l.drop d).map vb).length → some (⟨p, 8, none⟩ : Addr) = some ⟨p, 8, none⟩ ∧ ∃ ad, a' = some ad ∧ ∀ j v, ((l.drop d).map vb)[j]? = some v → wr.cell? (ad.add j) = some v := fun h => by
        refine ⟨rfl, ?_⟩
        have hlen := hl'.len
        obtain ⟨b, o, e, _⟩ := hl'.at_ 0 _ (List.getElem?_eq_getElem (by simpa using h))
        refine ⟨_, e, fun j v hv => ?_⟩
        rw [List.getElem?_map] at hv
        cases hq : (l.drop d)[j]? with
        | none => rw [hq] at hv; cases hv
        | some x =>
          rw [hq] at hv
          obtain ⟨b', o', e', hc⟩ := hl'.at_ j x hq
          rw [e] at e'; cases e'
          rw [Addr_add]
          cases hv
          exact hc
      have hone : ∀ v ∈ (l.drop d).map vb, v.oneCell' = true := by intro v hv; obtain ⟨x, _, rfl⟩ := List.mem_map.1 hv; rfl
      have hrow : wr.heap[p]? = some (.cells (stRow (hashN (bs ++ l) ((T + d) / 64)).toL rest ((T : Int) + (n : Int))).toList.toArray 113 (0, 0)) := by rw [Array.toArray_toList]; exact hS'.row
      have hfit : 8 + ((l.drop d).map vb).length ≤ (stRow (hashN (bs ++ l) ((T + d) / 64)).toL rest ((T : Int) + (n : Int))).toList.length := by
        have e73 : (stRow (hashN (bs ++ l) ((T + d) / 64)).toL rest ((T : Int) + (n : Int))).toList.length = 73 := by rw [Array.length_toList]; exact size_stRow (toL_len _) hr64
        have := Nat.min_le_right n' 64
        rw [e73, hcl]; show 8 + min n' 64 ≤ 73; omega
      go_wp2_with (refine wpList_copy_over rfl _ _ 51 51 rfl 5 Tryd.underlying51 size5 _ _ _ _ _ _ rfl rfl p 8 _ 113 hrow _ hcl hpos hfit hone ?_; intro w3 g3 hk3 hz3)
      go_end0
      have g4 := g3.out
      have hlen := hl'.len
      rw [show (8 : Nat) = 8 + 0 from rfl, stRow_splice _ _ _ (toL_len _) hr64 0 _ (by rw [hlen]; omega)] at g4
      have hS3 : StAt w3 p (hashN (bs ++ l) ((T + d) / 64)).toL (ov rest 0 (l.drop d)) ((T : Int) + (n : Int)) := ⟨g4, toL_len _, by rw [ov_len _ _ _ (by rw [hlen, hr64]; omega), hr64]⟩
      exact ⟨rfl, has_end Hbl.out Hln.out hd h64 (by have := hn'.out; omega) hr64 hS3, (hk1.trans hk').trans hk3⟩
end

/-! Ac: add, where some bytes are held already. -/
section
open Go.RowKit

theorem cells_at {w : World} {a : Option Addr} {n c : Nat} {l : List B} (h : SlB w a n c l) (m : List B) (k : Nat) (hm : m = l.take k) : 0 < (m.map vb).length → ∃ ad, a = some ad ∧ ∀ j v, (m.map vb)[j]? = some v → w.cell? (ad.add j) = some v := fun h0 => by
  subst hm
  have hlen := h.len
  obtain ⟨b, o, e, _⟩ := h.at_ 0 _ (List.getElem?_eq_getElem (by simp at h0; omega))
  refine ⟨_, e, fun j v hv => ?_⟩
  rw [List.getElem?_map] at hv
  cases hq : (l.take k)[j]? with
  | none => rw [hq] at hv; cases hv
  | some x =>
    rw [hq] at hv
    rw [List.getElem?_take] at hq
    split at hq
    · obtain ⟨b', o', e', hc⟩ := h.at_ j x hq
      rw [e] at e'; cases e'
      rw [Addr_add]
      cases hv
      exact hc
    · cases hq
theorem one_bytes (m : List B) : ∀ v ∈ m.map vb, v.oneCell' = true := by intro v hv; obtain ⟨x, _, rfl⟩ := List.mem_map.1 hv; rfl

theorem ov_take (rest l : List B) (k : Nat) (hk : k ≤ rest.length) : (ov rest k l).take (k + l.length) = rest.take k ++ l := by
  unfold ov
  rw [← List.append_assoc]
  have : (rest.take k ++ l).length = k + l.length := by simp; omega
  rw [← this, List.take_left]

theorem has_part {w : World} {p : Nat} {bs l rest : List B} {T n H : Nat} (hT : bs.length = T) (hn : l.length = n) (hH : T % 64 = H) (hlt : H + n < 64) (hr : rest.length = 64) (hre : rest.take H = bs.drop (64 * (T / 64)))
    (hS : StAt w p (hashN (bs ++ l) (T / 64)).toL (ov rest H l) ((T : Int) + (n : Int))) : Has w p (bs ++ l) := by
  have e1 : (bs ++ l).length = T + n := by simp [hT, hn]
  have e2 : (T + n) / 64 = T / 64 := by omega
  have e3 : (T + n) % 64 = H + n := by omega
  refine ⟨ov rest H l, ?_, ?_⟩
  · rw [e1, e2, Int.natCast_add]; exact hS
  · rw [e1, e2, e3, ← hn, ov_take _ _ _ (by omega), hre, List.drop_append_of_le_length (by omega)]

theorem copied {w : World} {p H : Nat} {h : List W} {rest m : List B} {t : Int} (g : Hid (w.heap[p]? = some (.cells (splice (stRow h rest t).toList (8 + H) (m.map vb)).toArray 113 (0, 0)))) (h8 : h.length = 8) (hr : rest.length = 64) (hm : H + m.length ≤ 64) :
    StAt w p h (ov rest H m) t := by
  have g4 := g.out
  rw [stRow_splice _ _ _ h8 hr H _ hm] at g4
  exact ⟨g4, h8, by rw [ov_len _ _ _ (by rw [hr]; omega), hr]⟩

set_option maxRecDepth 100000 in
set_option maxHeartbeats 4000000 in
theorem add_part (w : World) (p : Nat) (a : Option Addr) (n c : Nat) (bs l : List B) (hH : Has w p bs) (hl : SlB w a n c l) (ha : 0 < n → ∀ b o, a = some ⟨b, o, none⟩ → b ≠ p)
    (hb : bs.length < 1000000) (hn : n < 1000000) (h0 : 0 < bs.length % 64) (hlt : bs.length % 64 + n < 64) :
    Calls Tryd.prog 57 #[.pointer (some ⟨p, 0, none⟩), .slice a n c] w fun e w' => e = .returned (.tuple #[]) ∧ Has w' p (bs ++ l) ∧ Keeps (· = p) w w' := by
  obtain ⟨rest, hS, hr⟩ := hH.out
  have ht := hS.total
  have hf := hS.free 72
  have hS1 := hS.setTotal ((bs.length : Int) + (n : Int))
  rw [← hashN_append bs l _ (by omega)] at hS1
  have hr64 := hS.r64
  have hk1 : Keeps (· = p) w (w.setCell ⟨p, 72, none⟩ (.int .u64 ((bs.length : Int) + (n : Int)))) := (Keeps.refl (· = p) w).setCell (p := ⟨p, 72, none⟩) (.inl rfl) _
  have hlen := hl.len
  generalize hbl : bs.length = T at *
  have Hbl : Hid (bs.length = T) := hbl
  have Hln : Hid (l.length = n) := hlen
  obtain ⟨H, hHe⟩ : ∃ H, T % 64 = H := ⟨_, rfl⟩
  have HH : Hid (T % 64 = H) := hHe
  rw [hHe] at h0 hlt hr
  have hTH : (T : Int) % 64 = (H : Int) := by omega
  have hl1 := hl.keeps hk1 ha
  have hcl : (l.map vb).length = Nat.min n (64 - H) := by rw [List.length_map, hlen]; exact (Nat.min_eq_left (by omega)).symm
  have hc0 := cells_at hl1 l n (by rw [List.take_of_length_le (by omega)])
  have hpos : 0 < (l.map vb).length → some (⟨p, 8 + H, none⟩ : Addr) = some ⟨p, 8 + H, none⟩ ∧ ∃ ad, a = some ad ∧ ∀ j v, (l.map vb)[j]? = some v → (w.setCell ⟨p, 72, none⟩ (.int .u64 ((T : Int) + (n : Int)))).cell? (ad.add j) = some v := fun h => ⟨rfl, hc0 h⟩
  have hrow : (w.setCell ⟨p, 72, none⟩ (.int .u64 ((T : Int) + (n : Int)))).heap[p]? = some (.cells (stRow (hashN (bs ++ l) (T / 64)).toL rest ((T : Int) + (n : Int))).toList.toArray 113 (0, 0)) := by rw [Array.toArray_toList]; exact hS1.row
  have hfit : 8 + H + (l.map vb).length ≤ (stRow (hashN (bs ++ l) (T / 64)).toL rest ((T : Int) + (n : Int))).toList.length := by
    have e73 : (stRow (hashN (bs ++ l) (T / 64)).toL rest ((T : Int) + (n : Int))).toList.length = 73 := by rw [Array.length_toList]; exact size_stRow (toL_len _) hr64
    rw [e73, List.length_map, hlen]; omega
  have hone := one_bytes l
  have h0' : (0 : Int) < (H : Int) := by omega
  have hH64 : (H : Int) ≤ 64 := by omega
  have hlt' : (H : Int) + (n : Int) < 64 := by omega
  have Hcl : Hid ((l.map vb).length = n) := by show _ = _; rw [List.length_map, hlen]
  have Hre : Hid (rest.take H = bs.drop (64 * (T / 64))) := hr
  clear hbl hlen hr hS hH hHe hc0
  go_enter Tryd.func57, Tryd.ntmps57
  go_wp2_with (refine wpList_copy_over rfl _ _ 51 51 rfl 5 Tryd.underlying51 size5 _ _ _ _ _ _ rfl rfl p (8 + H) _ 113 hrow _ hcl hpos hfit hone ?_; rw [Hcl.out]; intro w3 g3 hk3 hz3)
  refine bodyPost_ret (results_none rfl _ _ _) rfl ?_
  have g4 := g3.out
  rw [stRow_splice _ _ _ (toL_len _) hr64 H _ (by rw [Hln.out]; omega)] at g4
  have hS3 : StAt w3 p (hashN (bs ++ l) (T / 64)).toL (ov rest H l) ((T : Int) + (n : Int)) := ⟨g4, toL_len _, by rw [ov_len _ _ _ (by rw [Hln.out, hr64]; omega), hr64]⟩
  exact ⟨rfl, has_part Hbl.out Hln.out HH.out (by omega) hr64 Hre.out hS3, hk1.trans hk3⟩

theorem addIn_first {w4 : World} {p T n H k b o c : Nat} {bs l rest : List B} (hT : bs.length = T) (hH : T % 64 = H) (hHk : H + k = 64) (hkn : k ≤ n) (hl : SlB w4 (some ⟨b, o, none⟩) n c l) (hb : b ≠ p)
    (hfull : rest = ((bs ++ l).drop (64 * (T / 64))).take 64) (hS : StAt w4 p ((hashN (bs ++ l) (T / 64)).comp rest).toL rest ((T : Int) + (n : Int))) (x : Value)
    (hx : x = .slice (some ⟨b, o + k, none⟩) (n - k) (c - k) ∨ ∃ a'' c'', x = .slice a'' (n - k) c'' ∧ n = k ∧ (∀ b o, a'' = some ⟨b, o, none⟩ → b ≠ p)) : AddIn w4 p bs l rest T n x w4 := by
  have hl2 := hl.tail k hkn
  have hS3 : StAt w4 p (hashN (bs ++ l) ((T + k) / 64)).toL rest ((T : Int) + (n : Int)) := by
    rw [show (T + k) / 64 = T / 64 + 1 by omega]
    simp only [hashN]
    rw [← hfull]
    exact hS
  rcases hx with rfl | ⟨a'', c'', rfl, h1, h2⟩
  · exact ⟨k, _, _, _, hkn, rfl, by omega, rfl, hl2, by rintro _ _ _ ⟨⟩; exact hb, hS3, Keeps.refl _ _⟩
  · refine ⟨k, _, _, _, hkn, rfl, by omega, rfl, ⟨hl2.len, by omega, fun j y hy => ?_⟩, fun _ => h2, hS3, Keeps.refl _ _⟩
    have := (List.getElem?_eq_some_iff.1 hy).1
    have := hl2.len
    omega

set_option maxRecDepth 100000 in
set_option maxHeartbeats 4000000 in
theorem add_full (w : World) (p : Nat) (a : Option Addr) (n c : Nat) (bs l : List B) (hH : Has w p bs) (hT : Tabs w) (hp : 1 < p) (hl : SlB w a n c l) (ha : 0 < n → ∀ b o, a = some ⟨b, o, none⟩ → b ≠ p)
    (hb : bs.length < 1000000) (hn : n < 1000000) (h0 : 0 < bs.length % 64) (hge : 64 ≤ bs.length % 64 + n) :
    Calls Tryd.prog 57 #[.pointer (some ⟨p, 0, none⟩), .slice a n c] w fun e w' => e = .returned (.tuple #[]) ∧ Has w' p (bs ++ l) ∧ Keeps (· = p) w w' := by
  obtain ⟨rest, hS, hr⟩ := hH.out
  have ht := hS.total
  have hf := hS.free 72
  have hS1 := hS.setTotal ((bs.length : Int) + (n : Int))
  rw [← hashN_append bs l _ (by omega)] at hS1
  have hr64 := hS.r64
  have hk1 : Keeps (· = p) w (w.setCell ⟨p, 72, none⟩ (.int .u64 ((bs.length : Int) + (n : Int)))) := (Keeps.refl (· = p) w).setCell (p := ⟨p, 72, none⟩) (.inl rfl) _
  have hlen := hl.len
  generalize hbl : bs.length = T at *
  have Hbl : Hid (bs.length = T) := hbl
  have Hln : Hid (l.length = n) := hlen
  obtain ⟨H, hHe⟩ : ∃ H, T % 64 = H := ⟨_, rfl⟩
  have HH : Hid (T % 64 = H) := hHe
  rw [hHe] at h0 hge hr
  have hTH : (T : Int) % 64 = (H : Int) := by omega
  have hH64' : H < 64 := by omega
  have hl1 := hl.keeps hk1 ha
  have hT1 := hT.keeps hk1 (by omega) (by omega)
  obtain ⟨k, hke⟩ : ∃ k, 64 - H = k := ⟨_, rfl⟩
  have hHk : H + k = 64 := by omega
  have htl : (l.take k).length = k := by simp; omega
  have hcl : ((l.take k).map vb).length = Nat.min n (64 - H) := by rw [List.length_map, htl, hke]; exact (Nat.min_eq_right (by omega)).symm
  have hc0 := cells_at hl1 (l.take k) k rfl
  have hpos : 0 < ((l.take k).map vb).length → some (⟨p, 8 + H, none⟩ : Addr) = some ⟨p, 8 + H, none⟩ ∧ ∃ ad, a = some ad ∧ ∀ j v, ((l.take k).map vb)[j]? = some v → (w.setCell ⟨p, 72, none⟩ (.int .u64 ((T : Int) + (n : Int)))).cell? (ad.add j) = some v := fun h => ⟨rfl, hc0 h⟩
  have hrow : (w.setCell ⟨p, 72, none⟩ (.int .u64 ((T : Int) + (n : Int)))).heap[p]? = some (.cells (stRow (hashN (bs ++ l) (T / 64)).toL rest ((T : Int) + (n : Int))).toList.toArray 113 (0, 0)) := by rw [Array.toArray_toList]; exact hS1.row
  have hfit : 8 + H + ((l.take k).map vb).length ≤ (stRow (hashN (bs ++ l) (T / 64)).toL rest ((T : Int) + (n : Int))).toList.length := by
    have e73 : (stRow (hashN (bs ++ l) (T / 64)).toL rest ((T : Int) + (n : Int))).toList.length = 73 := by rw [Array.length_toList]; exact size_stRow (toL_len _) hr64
    rw [e73, List.length_map, htl]; omega
  have hone := one_bytes (l.take k)
  have h0' : (0 : Int) < (H : Int) := by omega
  have hH64 : (H : Int) ≤ 64 := by omega
  have hHk' : (H : Int) + (k : Int) = 64 := by omega
  have Hcl : Hid (((l.take k).map vb).length = k) := by show _ = _; rw [List.length_map, htl]
  have Hfull : Hid ((ov rest H (l.take k)).length = 64 ∧ ov rest H (l.take k) = ((bs ++ l).drop (64 * (T / 64))).take 64) := by
    have e1 : (ov rest H (l.take k)).length = 64 := by rw [ov_len _ _ _ (by rw [htl, hr64]; omega), hr64]
    refine ⟨e1, ?_⟩
    have e2 := ov_take rest (l.take k) H (by omega)
    rw [htl, hHk, List.take_of_length_le (by omega), hr] at e2
    have e3 : (bs.drop (64 * (T / 64))).length = H := by rw [List.length_drop]; omega
    rw [e2, List.drop_append_of_le_length (by omega), List.take_append, e3, show (bs.drop (64 * (T / 64))).take 64 = bs.drop (64 * (T / 64)) from List.take_of_length_le (by omega), show 64 - H = k by omega]
  have hkn : (k : Int) ≤ (n : Int) := by omega
  have hkn' : k ≤ n := by omega
  have hcap := hl.cap
  have hcap' : (n : Int) ≤ (c : Int) := by omega
  have hlk := hl.bytes k (by omega) hkn'
  obtain ⟨b, o, rfl, _, _⟩ := hlk
  have hbp : b ≠ p := ha (by omega) b o rfl
  have Hke : Hid (64 - H = k) := hke
  clear hbl hlen hr hS hH hHe hc0 hke
  go_enter Tryd.func57, Tryd.ntmps57
  go_wp2_with (first | (go_at_call 63; refine (stir20 _ p p 8 _ _ _ _ _ hS3 hT3 hp Hfull.out.1 (by omega) hS3.rest).mono ?_; rintro e w4 ⟨rfl, hS4, hk4⟩) | (refine wpList_copy_over rfl _ _ 51 51 rfl 5 Tryd.underlying51 size5 _ _ _ _ _ _ rfl rfl p (8 + H) _ 113 hrow _ hcl hpos hfit hone ?_; rw [Hcl.out]; intro w3 g3 hk3 hz3; have hS3 := copied g3 (toL_len _) hr64 (by omega); have hT3 := hT1.keeps hk3 (by omega) (by omega)))
  all_goals
    have hk34 := hk3.trans hk4
    have hk14 := hk1.trans hk34
    have hT4 := hT3.keeps hk4 (by omega) (by omega)
    have hl4 := hl1.keeps hk34 (by rintro _ _ _ ⟨⟩; exact hbp)
    have hA := addIn_first Hbl.out HH.out hHk hkn' hl4 hbp Hfull.out.2 hS4
    have hr64' := Hfull.out.1
    clear hk34 hl4 hS4 hk4 hS3 hT3 hk3 hz3 g3 hl1 hT1 hrow hfit hpos hone hcl Hfull Hcl hl hT hS1 hk1 ht hf ha
    generalize ov rest H (l.take k) = rest' at *
    go_loopw [1] (fun x wr => AddIn w4 p bs l rest' T n x wr) (fun x _ => lenOf x)
    case atStart => exact hA _ (by first | exact .inl rfl | exact .inr ⟨_, _, rfl, by omega, by rintro _ _ ⟨⟩; exact hbp⟩)
    case round =>
      clear hA
      obtain ⟨d, a', n', c', hd, Hn', h64, rfl, hl', ha', hS', hk'⟩ := hrel.out
      have hn' : Hid (n' = n - d) := Hn'
      clear Hn' hrel
      by_cases hlt : 64 ≤ n'
      · have hlt' : (64 : Int) ≤ (n' : Int) := by omega
        obtain ⟨b, o, rfl, hby, hbl⟩ := hl'.bytes 64 (by omega) hlt
        have hcap := hl'.cap
        have hcap' : (n' : Int) ≤ (c' : Int) := by omega
        have hbp : b ≠ p := ha' (by omega) b o rfl
        have hT' := hT4.keeps hk' (by omega) (by omega)
        rcases Nat.lt_or_ge 64 c' with hc64 | hc64
        · have hc65 : ¬ c' = 64 := by omega
          go_wp2_with (go_at_call 63; refine (stir20 _ p b o _ _ rest' _ _ hS' hT' hp hbl (by omega) hby).mono ?_; rintro e w2 ⟨rfl, hS2, hk2⟩)
          all_goals
            go_roundw
            case rel => exact addIn_next Hbl.out hd hn'.out h64 hlt hl' hbp hS2 hk' hk2 _ (by first | exact .inl rfl | exact .inr ⟨_, _, rfl, by omega, by rintro _ _ ⟨⟩; exact hbp⟩)
            case measure => simp [lenOf]; omega
        · obtain rfl : c' = 64 := by omega
          go_wp2_with (go_at_call 63; refine (stir20 _ p b o _ _ rest' _ _ hS' hT' hp hbl (by omega) hby).mono ?_; rintro e w2 ⟨rfl, hS2, hk2⟩)
          all_goals
            go_roundw
            case rel => exact addIn_next Hbl.out hd hn'.out h64 hlt hl' hbp hS2 hk' hk2 _ (by first | exact .inl rfl | exact .inr ⟨some ⟨b, o, none⟩, 0, (by rw [show n' - 64 = 0 by omega]), by omega, by rintro _ _ ⟨⟩; exact hbp⟩)
            case measure => simp [lenOf]; omega
      · have hlt' : ¬ (64 : Int) ≤ (n' : Int) := by omega
        have hcl : ((l.drop d).map vb).length = Nat.min n' 64 := by have := hl'.len; simp at this ⊢; rw [show Nat.min n' 64 = n' from Nat.min_eq_left (by omega)]; omega
        have hpos : 0 < ((l.drop d).map vb).length → some (⟨p, 8, none⟩ : Addr) = some ⟨p, 8, none⟩ ∧ ∃ ad, a' = some ad ∧ ∀ j v, ((l.drop d).map vb)[j]? = some v → wr.cell? (ad.add j) = some v := fun h => by
          refine ⟨rfl, ?_⟩
          have hlen := hl'.len
          obtain ⟨b, o, e, _⟩ := hl'.at_ 0 _ (List.getElem?_eq_getElem (by simpa using h))
          refine ⟨_, e, fun j v hv => ?_⟩
          rw [List.getElem?_map] at hv
          cases hq : (l.drop d)[j]? with
          | none => rw [hq] at hv; cases hv
          | some x =>
            rw [hq] at hv
            obtain ⟨b', o', e', hc⟩ := hl'.at_ j x hq
            rw [e] at e'; cases e'
            rw [Addr_add]
            cases hv
            exact hc
        have hone : ∀ v ∈ (l.drop d).map vb, v.oneCell' = true := by intro v hv; obtain ⟨x, _, rfl⟩ := List.mem_map.1 hv; rfl
        have hrow : wr.heap[p]? = some (.cells (stRow (hashN (bs ++ l) ((T + d) / 64)).toL rest' ((T : Int) + (n : Int))).toList.toArray 113 (0, 0)) := by rw [Array.toArray_toList]; exact hS'.row
        have hfit : 8 + ((l.drop d).map vb).length ≤ (stRow (hashN (bs ++ l) ((T + d) / 64)).toL rest' ((T : Int) + (n : Int))).toList.length := by
          have e73 : (stRow (hashN (bs ++ l) ((T + d) / 64)).toL rest' ((T : Int) + (n : Int))).toList.length = 73 := by rw [Array.length_toList]; exact size_stRow (toL_len _) hr64'
          have := Nat.min_le_right n' 64
          rw [e73, hcl]; show 8 + min n' 64 ≤ 73; omega
        go_wp2_with (refine wpList_copy_over rfl _ _ 51 51 rfl 5 Tryd.underlying51 size5 _ _ _ _ _ _ rfl rfl p 8 _ 113 hrow _ hcl hpos hfit hone ?_; intro w3 g3 hk3 hz3)
        go_end0
        have g4 := g3.out
        have hlen := hl'.len
        rw [show (8 : Nat) = 8 + 0 from rfl, stRow_splice _ _ _ (toL_len _) hr64' 0 _ (by rw [hlen]; omega)] at g4
        have hS3 : StAt w3 p (hashN (bs ++ l) ((T + d) / 64)).toL (ov rest' 0 (l.drop d)) ((T : Int) + (n : Int)) := ⟨g4, toL_len _, by rw [ov_len _ _ _ (by rw [hlen, hr64']; omega), hr64']⟩
        exact ⟨rfl, has_end Hbl.out Hln.out hd h64 (by have := hn'.out; omega) hr64' hS3, (hk14.trans hk').trans hk3⟩
end

/-! Ea: end: the last block, and the hash's bytes. -/
section
open Go.RowKit

theorem add16 (w : World) (p : Nat) (a : Option Addr) (n c : Nat) (bs l : List B) (hH : Has w p bs) (hT : Tabs w) (hp : 1 < p) (hl : SlB w a n c l) (ha : 0 < n → ∀ b o, a = some ⟨b, o, none⟩ → b ≠ p)
    (hb : bs.length < 1000000) (hn : n < 1000000) :
    Calls Tryd.prog 57 #[.pointer (some ⟨p, 0, none⟩), .slice a n c] w fun e w' => e = .returned (.tuple #[]) ∧ Has w' p (bs ++ l) ∧ Keeps (· = p) w w' := by
  by_cases h0 : bs.length % 64 = 0
  · exact add_zero w p a n c bs l hH hT hp hl ha hb hn h0
  · by_cases h1 : bs.length % 64 + n < 64
    · exact add_part w p a n c bs l hH hl ha hb hn (by omega) h1
    · exact add_full w p a n c bs l hH hT hp hl ha hb hn (by omega) (by omega)

/-- How many bytes the bit and the zeros take, behind T bytes. -/
def plen (T : Nat) : Nat := 1 + (119 - T % 64) % 64
/-- What is added behind T bytes: a bit, zeros, the length in bits. -/
def padd (T : Nat) : List B := (128 :: List.replicate (plen T - 1) 0) ++ beN 8 (T * 8)
theorem padd_len (T : Nat) : (padd T).length = plen T + 8 := by simp [padd, beN_len, plen]; omega
theorem plen_le (T : Nat) : plen T ≤ 64 := by unfold plen; omega
theorem plen_pos (T : Nat) : 0 < plen T := by unfold plen; omega
theorem plen_mod (T : Nat) : (T + plen T + 8) % 64 = 0 := by unfold plen; omega
/-- The words' bytes. -/
def St.dig (s : St) : List B := s.toL.flatMap fun x => beN 4 x.toNat
/-- The SHA-256 of the bytes. -/
def sha (bs : List B) : List B := (hashN (bs ++ padd bs.length) ((bs.length + plen bs.length + 8) / 64)).dig
theorem dig_len (s : St) : s.dig.length = 32 := rfl
theorem sha_len (bs : List B) : (sha bs).length = 32 := rfl

theorem sha_abc : (sha [97, 98, 99]).map (·.toNat) = [0xba, 0x78, 0x16, 0xbf, 0x8f, 0x01, 0xcf, 0xea, 0x41, 0x41, 0x40, 0xde, 0x5d, 0xae, 0x22, 0x23, 0xb0, 0x03, 0x61, 0xa3, 0x96, 0x17, 0x7a, 0x9c, 0xb4, 0x10, 0xff, 0x61, 0xf2, 0x00, 0x15, 0xad] := by
  decide +kernel
end

/-! Eb: end: the walk. -/
section
open Go.RowKit

def zb (n : Nat) : List B := List.replicate n 0
theorem zb_len (n : Nat) : (zb n).length = n := by simp [zb]
theorem info54 : (Tryd.prog.info? 118).map (fun i => (i.zero, i.size)) = some (some (.agg (brow (zb 72))), 72) := by kernel_rfl
theorem zero54 (w : World) : (zeroValue 118).run Tryd.prog w = .ok (.agg (brow (zb 72))) w := (zero_of_info info54).1 w
theorem info24 : (Tryd.prog.info? 24).map (fun i => (i.zero, i.size)) = some (some (.agg (brow (zb 32))), 32) := by kernel_rfl
theorem zero24 (w : World) : (zeroValue 24).run Tryd.prog w = .ok (.agg (brow (zb 32))) w := (zero_of_info info24).1 w
theorem size24 : (Tryd.prog.info? 24).map (·.size) = some 32 := (zero_of_info info24).2

theorem put21' (w : World) (g o n c x : Nat) (l : List B) (ty : TypeId) (X : Int) (hX : X = (x : Int)) (hg : w.heap[g]? = some (.cells (brow l) ty (0, 0))) (hn : o + n ≤ l.length) (hm : n ≤ 64) (hx : x < 18446744073709551616) :
    Calls Tryd.prog 64 #[.slice (some ⟨g, o, none⟩) n c, .int .u64 X] w fun e w' => e = .returned (.tuple #[]) ∧ w'.heap[g]? = some (.cells (brow (ov l o (beN n x))) ty (0, 0)) ∧ Keeps (· = g) w w' := by
  subst hX; exact put21 w g o n c x l ty hg hn hm hx

theorem SlB.ofRow {w : World} {g : Nat} {l : List B} {ty : TypeId} {fr : Nat × Nat} (hg : w.heap[g]? = some (.cells (brow l) ty fr)) (o k c : Nat) (hk : o + k ≤ l.length) (hc : k ≤ c) : SlB w (some ⟨g, o, none⟩) k c ((l.drop o).take k) := by
  refine ⟨by simp; omega, hc, fun j x hx => ⟨g, o, rfl, ?_⟩⟩
  rw [List.getElem?_take] at hx
  split at hx
  · rw [List.getElem?_drop] at hx
    rw [cell_of_row w g (o + j) _ _ _ hg, brow_get, hx]; rfl
  · cases hx

theorem tail_row : (brow (zb 72)).setIfInBounds 0 (.int .u8 128) = brow (128 :: zb 71) := by
  have := brow_set (zb 72) 0 128
  exact this
theorem tail_take (T N : Nat) (hN : plen T = N) : (ov (128 :: zb 71) N (beN 8 (T * 8))).take (N + 8) = padd T := by
  have h1 := plen_pos T
  have h2 := plen_le T
  have := ov_take (128 :: zb 71) (beN 8 (T * 8)) N (by simp [zb_len]; omega)
  rw [beN_len] at this
  rw [this]
  unfold padd
  rw [hN]
  obtain ⟨M, rfl⟩ : ∃ M, N = M + 1 := ⟨N - 1, by omega⟩
  simp only [List.take_succ_cons, zb, List.take_replicate, Nat.add_sub_cancel]
  rw [Nat.min_eq_left (by omega)]

/-- The state behind the padding. -/
def fin (bs : List B) : St := hashN (bs ++ padd bs.length) ((bs.length + plen bs.length + 8) / 64)
theorem sha_fin (bs : List B) : sha bs = (fin bs).dig := rfl
theorem has_fin {w : World} {p : Nat} {bs : List B} (h : Has w p (bs ++ padd bs.length)) : ∃ rest t, StAt w p (fin bs).toL rest t := by
  obtain ⟨rest, hS, _⟩ := h.out
  have e : (bs ++ padd bs.length).length = bs.length + plen bs.length + 8 := by simp [padd_len]; omega
  rw [e] at hS
  exact ⟨rest, _, hS⟩

/-- 32 bytes: those of the first i words, then zeros. -/
def digP (s : St) (i : Nat) : List B := (s.toL.take i).flatMap (fun x => beN 4 x.toNat) ++ zb (32 - 4 * i)
theorem digP_all (s : St) : digP s 8 = s.dig := by simp [digP, St.dig, zb]; rw [List.take_of_length_le (by rw [toL_len]; omega)]
theorem flat_len (l : List W) : (l.flatMap fun x => beN 4 x.toNat).length = 4 * l.length := by
  induction l with
  | nil => rfl
  | cons x l ih => simp [ih, beN_len]; omega
theorem digP_len (s : St) (i : Nat) (hi : i ≤ 8) : (digP s i).length = 32 := by
  simp only [digP, List.length_append, flat_len, zb_len, List.length_take, toL_len]; omega
theorem digP_ov (s : St) (i : Nat) (hi : i < 8) : ov (digP s i) (4 * i) (beN 4 (s.toL.getD i 0).toNat) = digP s (i + 1) := by
  have hl : ((s.toL.take i).flatMap fun x => beN 4 x.toNat).length = 4 * i := by rw [flat_len]; simp [toL_len]; omega
  unfold ov
  rw [beN_len]
  have e1 : (digP s i).take (4 * i) = (s.toL.take i).flatMap fun x => beN 4 x.toNat := by
    unfold digP; rw [← hl, List.take_left]
  have e2 : (digP s i).drop (4 * i + 4) = zb (32 - 4 * (i + 1)) := by
    unfold digP
    rw [List.drop_append, hl, List.drop_eq_nil_of_le (by omega)]
    simp [zb]; omega
  have e3 : s.toL.take (i + 1) = s.toL.take i ++ [s.toL.getD i 0] := by
    rw [List.take_succ_eq_append_getElem (by rw [toL_len]; exact hi), List.getD_eq_getElem?_getD, List.getElem?_eq_getElem (by rw [toL_len]; exact hi)]; rfl
  rw [e1, e2]
  unfold digP
  rw [e3]
  simp

theorem words8 {w : World} {p : Nat} {v : St} {rest : List B} {t : Int} (h : StAt w p v.toL rest t) :
    w.cell? ⟨p, 0, none⟩ = some (.int .u32 (nw v.a)) ∧ w.cell? ⟨p, 1, none⟩ = some (.int .u32 (nw v.b)) ∧ w.cell? ⟨p, 2, none⟩ = some (.int .u32 (nw v.c)) ∧ w.cell? ⟨p, 3, none⟩ = some (.int .u32 (nw v.d)) ∧
    w.cell? ⟨p, 4, none⟩ = some (.int .u32 (nw v.e)) ∧ w.cell? ⟨p, 5, none⟩ = some (.int .u32 (nw v.f)) ∧ w.cell? ⟨p, 6, none⟩ = some (.int .u32 (nw v.g)) ∧ w.cell? ⟨p, 7, none⟩ = some (.int .u32 (nw v.h)) :=
  ⟨h.word 0 (by omega), h.word 1 (by omega), h.word 2 (by omega), h.word 3 (by omega), h.word 4 (by omega), h.word 5 (by omega), h.word 6 (by omega), h.word 7 (by omega)⟩
theorem fin_at {w : World} {p T N : Nat} {bs : List B} {v : St} (hT : bs.length = T) (hN : plen T = N) (hv : fin bs = v) (h : Has w p (bs ++ ((ov (128 :: zb 71) N (beN 8 (T * 8))).drop 0).take (N + 8))) : ∃ rest t, StAt w p v.toL rest t := by
  rw [List.drop_zero, tail_take T N hN, ← hT] at h
  rw [← hv]
  exact has_fin h

theorem slice24 (q k : Nat) (hk : k < 8) (w : World) : (Instr.sliceAt 24 (.pointer (some ⟨q, 0, none⟩)) (some (.int .i64 (4 * (k : Int)))) (some (.int .i64 (4 * ((k : Int) + 1)))) none).run Tryd.prog w = .ok (.slice (some ⟨q, 4 * k, none⟩) 4 (32 - 4 * k)) w := by
  have h1 := run_sliceAt_array_lh (P := Tryd.prog) w 24 ⟨q, 0, none⟩ Tryd.underlying24 .i64 .i64 (4 * (k : Int)) (4 * ((k : Int) + 1)) (by omega) (by omega) (by rw [show Tryd.prog.arrayLen 24 = 32 by kernel_rfl]; omega)
  rw [h1]
  have e1 : (4 * (k : Int)).toNat = 4 * k := by omega
  have e2 : (4 * ((k : Int) + 1)).toNat = 4 * k + 4 := by omega
  have e3 : Tryd.prog.arrayLen 24 = 32 := by kernel_rfl
  have e4 : (sizeOf (Tryd.prog.elem 24)).run Tryd.prog w = .ok 1 w := by kernel_rfl
  rw [e1, e2, e3, e4]
  simp only [Result.andThen_ok, slicedAt]
  rw [if_neg (by omega), Addr_add]
  simp

set_option maxRecDepth 100000 in
set_option maxHeartbeats 4000000 in
theorem end17 (w : World) (p : Nat) (bs : List B) (hH : Has w p bs) (hT : Tabs w) (hp : 1 < p) (hb : bs.length < 900000) :
    Calls Tryd.prog 58 #[.pointer (some ⟨p, 0, none⟩)] w fun e w' => e = .returned (.agg (brow (sha bs))) ∧ Keeps (· = p) w w' := by
  have hz := zero54
  have hz2 := zero24
  obtain ⟨rest, hS, hr⟩ := hH.out
  have ht := hS.total
  have hpl := lt_of_row hS.row
  obtain ⟨T, hbl⟩ : ∃ T, bs.length = T := ⟨_, rfl⟩
  rw [hbl] at ht hb
  have Hbl : Hid (bs.length = T) := hbl
  obtain ⟨H, hHe⟩ : ∃ H, T % 64 = H := ⟨_, rfl⟩
  have HH : Hid (T % 64 = H) := hHe
  have hTH : (T : Int) % 64 = (H : Int) := by omega
  have hH64 : H < 64 := by omega
  obtain ⟨N, hNe⟩ : ∃ N, plen T = N := ⟨_, rfl⟩
  have HN : Hid (plen T = N) := hNe
  have hN1 : 0 < N := by rw [← hNe]; exact plen_pos T
  have hN2 : N ≤ 64 := by rw [← hNe]; exact plen_le T
  have hNN : (1 : Int) + (119 - (H : Int)) % 64 = (N : Int) := by unfold plen at hNe; omega
  have h72 : (N : Int) + 8 ≤ 72 := by omega
  have h73 : (N : Int) ≤ (N : Int) + 8 := by omega
  have h74 : (0 : Int) ≤ (N : Int) + 8 := by omega
  obtain ⟨v, hve⟩ : ∃ v, fin bs = v := ⟨_, rfl⟩
  have Hv : Hid (fin bs = v) := hve
  clear hbl hHe hNe hr hS hve
  go_enter Tryd.func58, Tryd.ntmps58
  go_wp2_with (first | (go_at_call 64; refine (put21' _ (w.heap.size + 1) N 8 _ (T * 8) (128 :: zb 71) 118 _ (by rw [Int.natCast_mul]; rfl) (by rw [← tail_row]; exact heap_alloc2_new w _ _) (by simp [zb_len]; omega) (by omega) (by omega)).mono ?_; rintro e w1 ⟨rfl, g1, hk1⟩; have hk01 : Keeps (· = p) w w1 := ((((Keeps.refl _ _).alloc _).alloc _).trans' hk1 (fun i e => .inr (by omega))); have hsl := SlB.ofRow g1 0 (N + 8) 72 (by rw [ov_len _ _ _ (by simp [beN_len, zb_len]; omega)]; simp [zb_len]; omega) (by omega); have hHas := hH.keeps ((((Keeps.refl (fun _ => False) _).alloc _).alloc _).trans' hk1 (fun i e => .inr (by omega))) (fun h => h)) | (go_at_call 57; refine (add16 _ p _ _ _ bs _ hHas (hT.keeps hk01 (by omega) (by omega)) hp hsl (by rintro _ _ _ ⟨⟩; omega) (by rw [Hbl.out]; omega) (by omega)).mono ?_; rintro e w2 ⟨rfl, hH2, hk2⟩; obtain ⟨rest2, t2, hS2⟩ := fin_at Hbl.out HN.out Hv.out hH2; obtain ⟨a0, a1, a2, a3, a4, a5, a6, a7⟩ := words8 (hS2.keeps ((Keeps.refl (fun _ => False) w2).alloc (.cells (brow (zb 32)) 24)) (fun h => h))))
  have hK2 : Keeps (· = p) w (w2.alloc (.cells (brow (zb 32)) 24)) := (hk01.trans hk2).alloc _
  have hq0 : w.heap.size < w2.heap.size := by have h1 := hk1.size; have h2 := hk2.size; simp at h1; omega
  have g0 : (w2.alloc (.cells (brow (zb 32)) 24)).heap[w.heap.size]? = some (.cells (brow (zb 32)) 24 (0, 0)) := by
    rw [Below.heap_alloc w2 _ _ hq0, hk2.block _ (by have := hk1.size; simp at this; omega) (by omega), hk1.block _ (by simp; omega) (by omega)]
    exact heap_alloc2_old w _ _
  have g6 : (w2.alloc (.cells (brow (zb 32)) 24)).heap[w2.heap.size]? = some (.cells (brow (digP v 0)) 24 (0, 0)) := heap_alloc_new _ _
  generalize w2.alloc (.cells (brow (zb 32)) 24) = w3 at *
  generalize hq6 : w2.heap.size = q6 at *
  have hix := index40 v
  clear a0 a1 a2 a3 a4 a5 a6 a7 hk2 hk1 hk01 hsl hHas hH2 hS2 g1 hz hz2 ht hT hH h72 h73 h74 hNN hTH
  go_loopw [38] (fun i wr => ∃ k : Nat, k ≤ 8 ∧ i = .int .i64 k ∧ wr.heap[w.heap.size]? = some (.cells (brow (zb 32)) 24 (0, 0)) ∧ wr.heap[q6]? = some (.cells (brow (digP v k)) 24 (0, 0)) ∧ Keeps (· = p) w wr) (fun i _ => 8 - (intOf i).toNat)
  case atStart => exact ⟨0, by omega, rfl, g0, g6, hK2⟩
  case round =>
    clear g0 g6 hK2
    obtain ⟨k, hk, rfl, g0, g6, hK⟩ := hrel
    by_cases hlt : k < 8
    · have hlt' : (k : Int) < 8 := by omega
      have hi := fun w => hix k hlt w
      have hov := digP_ov v k hlt
      have hdl := digP_len v k hk
      generalize v.toL.getD k 0 = x at *
      have Hov : Hid (ov (digP v k) (4 * k) (beN 4 x.toNat) = digP v (k + 1)) := hov
      have hsl := slice24 q6 k hlt
      clear hix hov
      go_wp2_with (go_at_call 65; refine (put22 _ q6 (4 * k) 4 _ x.toNat (digP v k) 24 g6 (by rw [hdl]; omega) (by omega) x.isLt).mono ?_; rintro e w4 ⟨rfl, g4, hk4⟩)
      go_roundw
      case rel => 
        rw [Hov.out] at g4
        exact ⟨k + 1, by omega, by go_num, (hk4.block _ (lt_of_row g0) (by omega)).trans g0, g4, hK.trans' hk4 (fun i e => .inr (by omega))⟩
      case measure => simp [intOf]; omega
    · obtain rfl : k = 8 := by omega
      rw [digP_all, ← Hv.out, ← sha_fin] at g6
      have hs1 : (Tryd.prog.info? 24).map (·.size) = some (brow (sha bs)).size := by rw [size_brow, sha_len]; exact size24
      have hs2 : (brow (zb 32)).size = (brow (sha bs)).size := by rw [size_brow, size_brow, sha_len, zb_len]
      have hone := brow_one (sha bs)
      go_wp2_with (first | (refine wpList_load_row rfl 24 _ rfl q6 rfl 24 (brow (sha bs)) (0, 0) _ g6 Tryd.underlying24 rfl hs1 ?_) | (refine wpList_store_all rfl 24 _ _ rfl w.heap.size rfl (brow (sha bs)) rfl 24 (brow (zb 32)) g0 hs1 hs2 hone ?_))
      refine bodyPost_ret (v := .agg (brow (sha bs))) ?_ rfl ⟨rfl, hK.setRow (.inr (Nat.le_refl _)) _⟩
      exact results_cell_row rfl _ _ w.heap.size 24 (brow (sha bs)) (0, 0) _ rfl (setRow_heap wr _ _ _ _ _ g0) Tryd.underlying24 rfl hs1
end

/-! Su: Sum, Of, Check. -/
section
open Go.RowKit

theorem info44 : (Tryd.prog.info? 113).map (fun i => (i.zero, i.size)) = some (some (.agg (stRow [0, 0, 0, 0, 0, 0, 0, 0] (zb 64) 0)), 73) := by kernel_rfl
theorem zero44 (w : World) : (zeroValue 113).run Tryd.prog w = .ok (.agg (stRow [0, 0, 0, 0, 0, 0, 0, 0] (zb 64) 0)) w := (zero_of_info info44).1 w
theorem size44 : (Tryd.prog.info? 113).map (·.size) = some 73 := (zero_of_info info44).2

def h0row : Array Value := #[.int .u32 (nw h0.a), .int .u32 (nw h0.b), .int .u32 (nw h0.c), .int .u32 (nw h0.d), .int .u32 (nw h0.e), .int .u32 (nw h0.f), .int .u32 (nw h0.g), .int .u32 (nw h0.h)]
theorem build44 (w : World) : (Instr.build 113 #[(0, .agg h0row)]).run Tryd.prog w = .ok (.agg (stRow h0.toL (zb 64) 0)) w := by kernel_rfl

theorem wpList_build44 {ops : Array Oper} {rest : List Oper} {o : Oper} {a : Act} {w : World} {Q : Exit → Act → World → Prop} (hgd : o.guard = none) (x : Operand) (ho : o.op = .build 113 #[(0, x)]) (hx : a.eval x = .agg h0row)
    (h : wpList Tryd.prog ops Q rest (a.put o.dst (.agg (stRow h0.toL (zb 64) 0))) w) : wpList Tryd.prog ops Q (o :: rest) a w := by
  refine wpList_plain hgd fun K hK => ?_
  unfold Oper.wp execOp
  simp only [ho, hx, List.map_toArray, List.map_cons, List.map_nil, build44, Sem.run_bind, Result.andThen_ok, Sem.run_pure]
  exact hK _ _ h

theorem stRow_one (h : List W) (rest : List B) (t : Int) : (stRow h rest t).all (·.oneCell') = true := by
  rw [Array.all_eq_true_iff_forall_mem]
  intro x hx
  simp [stRow] at hx
  rcases hx with ⟨a, _, rfl⟩ | ⟨a, _, rfl⟩ | rfl <;> rfl

theorem first8 {w : World} (hT : Tabs w) : w.cell? ⟨0, 0, none⟩ = some (.int .u32 (nw h0.a)) ∧ w.cell? ⟨0, 1, none⟩ = some (.int .u32 (nw h0.b)) ∧ w.cell? ⟨0, 2, none⟩ = some (.int .u32 (nw h0.c)) ∧ w.cell? ⟨0, 3, none⟩ = some (.int .u32 (nw h0.d)) ∧
    w.cell? ⟨0, 4, none⟩ = some (.int .u32 (nw h0.e)) ∧ w.cell? ⟨0, 5, none⟩ = some (.int .u32 (nw h0.f)) ∧ w.cell? ⟨0, 6, none⟩ = some (.int .u32 (nw h0.g)) ∧ w.cell? ⟨0, 7, none⟩ = some (.int .u32 (nw h0.h)) :=
  ⟨hT.first 0 _ rfl, hT.first 1 _ rfl, hT.first 2 _ rfl, hT.first 3 _ rfl, hT.first 4 _ rfl, hT.first 5 _ rfl, hT.first 6 _ rfl, hT.first 7 _ rfl⟩

theorem has_new {w : World} {p : Nat} (g : w.heap[p]? = some (.cells (stRow h0.toL (zb 64) 0) 113 (0, 0))) : Has w p [] :=
  ⟨zb 64, ⟨g, rfl, zb_len _⟩, rfl⟩

set_option maxRecDepth 100000 in
set_option maxHeartbeats 4000000 in
theorem sum8 (w : World) (a : Option Addr) (n c : Nat) (l : List B) (hT : Tabs w) (hl : SlB w a n c l) (hn : n < 900000) :
    Calls Tryd.prog 50 #[.slice a n c] w fun e w' => e = .returned (.agg (brow (sha l))) ∧ Keeps (fun _ => False) w w' := by
  have hz := zero24
  have hz4 := zero44
  have hal : Keeps (fun _ => False) w (w.alloc (.cells (brow (zb 32)) 24)) := (Keeps.refl _ _).alloc _
  have hT1 := hT.keeps hal (fun h => h) (fun h => h)
  have hsz := hT.size
  obtain ⟨c0, c1, c2, c3, c4, c5, c6, c7⟩ := first8 hT1
  have hs1 : (Tryd.prog.info? 113).map (·.size) = some (stRow h0.toL (zb 64) 0).size := by rw [size_stRow rfl (zb_len _)]; exact size44
  have hs2 : (stRow [0, 0, 0, 0, 0, 0, 0, 0] (zb 64) 0).size = (stRow h0.toL (zb 64) 0).size := rfl
  have hone := stRow_one h0.toL (zb 64) 0
  have hs3 : (Tryd.prog.info? 24).map (·.size) = some (brow (sha l)).size := by rw [size_brow, sha_len]; exact size24
  have hs4 : (brow (zb 32)).size = (brow (sha l)).size := by rw [size_brow, size_brow, sha_len, zb_len]
  have hone2 := brow_one (sha l)
  have hne : 0 < n → ∀ b o, a = some ⟨b, o, none⟩ → b ≠ w.heap.size + 1 := fun h0 b o e => by
    obtain ⟨b', o', e', hc⟩ := hl.at_ 0 _ (List.getElem?_eq_getElem (by have := hl.len; omega))
    rw [e] at e'; cases e'
    have := World.block_lt_of_cell? w _ hc
    dsimp only at this
    omega
  go_enter Tryd.func50, Tryd.ntmps50
  go_wp2_with (first | (refine wpList_build44 rfl _ rfl rfl ?_) | (refine wpList_store_row rfl rfl 113 _ _ rfl (w.heap.size + 1) rfl _ rfl 113 _ (heap_alloc2_new w _ _) hs1 hs2 hone ?_; intro w1 g1 hk1 hz1; have hk01 := (hal.alloc _).trans' hk1 (fun i e => .inr (by omega)); have hT2 := hT.keeps hk01 (fun h => h) (fun h => h); have hl2 := hl.keeps hk01 (fun _ _ _ _ h => h); have hsz2 : w.heap.size + 2 = w1.heap.size := (by rw [hz1]; simp)) | (go_at_call 57; refine (add16 _ (w.heap.size + 1) a n c [] l (has_new g1) hT2 (by omega) hl2 hne (by simp) (by omega)).mono ?_; rintro e w2 ⟨rfl, hH2, hk2⟩; rw [List.nil_append] at hH2; have hT3 := hT2.keeps hk2 (by omega) (by omega)) | (go_at_call 58; refine (end17 _ (w.heap.size + 1) l hH2 hT3 (by omega) (by rw [hl.len]; omega)).mono ?_; rintro e w3 ⟨rfl, hk3⟩; have g0 := ((hk3.block w.heap.size (by have := hk2.size; omega) (by omega)).trans (hk2.block w.heap.size (by omega) (by omega))).trans ((hk1.block w.heap.size (by simp; omega) (by omega)).trans (heap_alloc2_old w _ _))) | (refine wpList_store_all rfl 24 _ _ rfl w.heap.size rfl (brow (sha l)) rfl 24 (brow (zb 32)) g0 hs3 hs4 hone2 ?_))
  refine bodyPost_ret (v := .agg (brow (sha l))) ?_ rfl ⟨rfl, ((hk01.trans' hk2 (fun i e => .inr (by omega))).trans' hk3 (fun i e => .inr (by omega))).setRow (.inr (Nat.le_refl _)) _⟩
  exact results_cell_row rfl _ _ w.heap.size 24 (brow (sha l)) (0, 0) _ rfl (setRow_heap w3 _ _ _ _ _ g0) Tryd.underlying24 rfl hs3
end

/-! Of: Of, Check. -/
section
open Go.RowKit

/-- A kind's byte. -/
def kb (k : Int) : B := BitVec.ofInt 8 k
theorem nb_kb (k : Int) : nb (kb k) = k % 256 := by
  unfold nb kb
  rw [BitVec.toNat_ofInt]
  have : (0 : Int) ≤ k % 256 := Int.emod_nonneg _ (by decide)
  omega
theorem slb_one {w : World} {q : Nat} (x : B) (c : Nat) (hc : 1 ≤ c) (h : w.cell? ⟨q, 0, none⟩ = some (.int .u8 (nb x))) : SlB w (some ⟨q, 0, none⟩) 1 c [x] :=
  ⟨rfl, hc, fun j y hy => by
    cases j with
    | zero => simp at hy; subst hy; exact ⟨q, 0, rfl, h⟩
    | succ j => simp at hy⟩

theorem buildSlice1 (x : Int) (w : World) : (Instr.buildSlice 51 1 #[(0, .int .u8 x)]).run Tryd.prog w = .ok (.slice (some ⟨w.heap.size, 0, none⟩) 1 1) (w.alloc (.cells #[.int .u8 x] 5)) := by kernel_rfl
theorem buildSlice0 (w : World) : (Instr.buildSlice 51 0 #[]).run Tryd.prog w = .ok (.slice (some ⟨w.heap.size, 0, none⟩) 0 0) (w.alloc (.cells #[] 5)) := by kernel_rfl

theorem wpList_buildSlice1 {ops : Array Oper} {rest : List Oper} {o : Oper} {a : Act} {w : World} {Q : Exit → Act → World → Prop} (hgd : o.guard = none) (x : Operand) (ho : o.op = .buildSlice 51 1 #[(0, x)]) (y : Int) (hx : a.eval x = .int .u8 y)
    (h : wpList Tryd.prog ops Q rest (a.put o.dst (.slice (some ⟨w.heap.size, 0, none⟩) 1 1)) (w.alloc (.cells #[.int .u8 y] 5))) : wpList Tryd.prog ops Q (o :: rest) a w := by
  refine wpList_plain hgd fun K hK => ?_
  unfold Oper.wp execOp
  simp only [ho, hx, List.map_toArray, List.map_cons, List.map_nil, buildSlice1, Sem.run_bind, Result.andThen_ok, Sem.run_pure]
  exact hK _ _ h

theorem cell_new1 (w : World) (v : Value) (t : TypeId) : (w.alloc (.cells #[v] t)).cell? ⟨w.heap.size, 0, none⟩ = some v := by
  rw [cell_of_row _ _ 0 _ _ _ (heap_alloc_new _ _)]; rfl
theorem keeps_alloc (w : World) (o : Obj) : Keeps (fun _ => False) w (w.alloc o) := (Keeps.refl _ _).alloc _
end

end Go.Proofs.YtdgnjpdjohibeaaDoor
