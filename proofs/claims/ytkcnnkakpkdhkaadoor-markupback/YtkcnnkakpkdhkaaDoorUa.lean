
/-
  Signs and texts, in plain mathematics.
-/
import Derived.Test.YtkcnnkakpkdhkaaDoorRows
import Derived.Lib.DecodeN
import Derived.Lib.RuneBytes
set_option linter.all false
namespace Go.Proofs.YtkcnnkakpkdhkaaDoor
open Go.Lib

/-- A code point. -/
def isS (v : Int) : Prop := 0 ≤ v ∧ v ≤ 1114111 ∧ ¬ (55296 ≤ v ∧ v ≤ 57343)
instance (v : Int) : Decidable (isS v) := by unfold isS; infer_instance
def allS (L : List Int) : Prop := ∀ v ∈ L, isS v
/-- The bytes of code points. -/
def encs (L : List Int) : List UInt8 := L.flatMap encodeRune
theorem encs_nil : encs [] = [] := rfl
theorem encs_cons (v : Int) (L : List Int) : encs (v :: L) = encodeRune v ++ encs L := by simp [encs]
theorem encs_app (L M : List Int) : encs (L ++ M) = encs L ++ encs M := by simp [encs]

/-- What the decoder reads at the head. -/
def dN (l : List UInt8) : Nat × Nat := decodeN l.length (l.getD 0 0).toNat (l.getD 1 0).toNat (l.getD 2 0).toNat (l.getD 3 0).toNat
def bad (l : List UInt8) : Prop := (dN l).1 = 65533 ∧ (dN l).2 = 1
instance (l : List UInt8) : Decidable (bad l) := by unfold bad; infer_instance

theorem u8e {x : Int} {b : UInt8} (h : x = (b.toNat : Int)) : x.toNat.toUInt8 = b := by
  subst h; simp

theorem decN_cases (n b0 b1 b2 b3 : Nat) (h0 : b0 < 256) (h1 : b1 < 256) (h2 : b2 < 256) (h3 : b3 < 256) :
    decodeN n b0 b1 b2 b3 = (65533, 1) ∨ (b0 < 128 ∧ decodeN n b0 b1 b2 b3 = (b0, 1)) ∨
    (∃ V, decodeN n b0 b1 b2 b3 = (V, 2) ∧ 1 < n ∧ 128 ≤ V ∧ V ≤ 2047 ∧ b0 = 192 + V / 64 ∧ b1 = 128 + V % 64) ∨
    (∃ V, decodeN n b0 b1 b2 b3 = (V, 3) ∧ 2 < n ∧ (2048 ≤ V ∧ V < 55296 ∨ 57343 < V ∧ V ≤ 65535) ∧ b0 = 224 + V / 4096 ∧ b1 = 128 + V / 64 % 64 ∧ b2 = 128 + V % 64) ∨
    (∃ V, decodeN n b0 b1 b2 b3 = (V, 4) ∧ 3 < n ∧ 65536 ≤ V ∧ V ≤ 1114111 ∧ b0 = 240 + V / 262144 ∧ b1 = 128 + V / 4096 % 64 ∧ b2 = 128 + V / 64 % 64 ∧ b3 = 128 + V % 64) := by
  unfold decodeN
  by_cases c1 : b0 < 128
  · rw [if_pos c1]; exact .inr (.inl ⟨c1, rfl⟩)
  rw [if_neg c1]
  by_cases c2 : b0 / 32 = 6 ∧ (1 < n ∧ b1 / 64 = 2)
  · rw [if_pos c2]
    obtain ⟨d1, d2, d3⟩ := c2
    generalize hV : b0 % 32 * 64 + b1 % 64 = V
    by_cases c3 : V ≥ 128
    · rw [if_pos c3]; exact .inr (.inr (.inl ⟨V, rfl, d2, by omega, by omega, by omega, by omega⟩))
    · rw [if_neg c3]; exact .inl rfl
  rw [if_neg c2]
  clear c2
  by_cases c2 : b0 / 16 = 14 ∧ (1 < n ∧ b1 / 64 = 2) ∧ (2 < n ∧ b2 / 64 = 2)
  · rw [if_pos c2]
    obtain ⟨d1, ⟨d2, d3⟩, d4, d5⟩ := c2
    generalize hV : b0 % 16 * 4096 + b1 % 64 * 64 + b2 % 64 = V
    by_cases c3 : V ≥ 2048 ∧ (V < 55296 ∨ (57344 ≤ V ∧ V ≤ 1114111))
    · rw [if_pos c3]; exact .inr (.inr (.inr (.inl ⟨V, rfl, d4, by omega, by omega, by omega, by omega⟩)))
    · rw [if_neg c3]; exact .inl rfl
  rw [if_neg c2]
  clear c2
  by_cases c2 : b0 / 8 = 30 ∧ (1 < n ∧ b1 / 64 = 2) ∧ (2 < n ∧ b2 / 64 = 2) ∧ (3 < n ∧ b3 / 64 = 2)
  · rw [if_pos c2]
    obtain ⟨d1, ⟨d2, d3⟩, ⟨d4, d5⟩, d6, d7⟩ := c2
    generalize hV : b0 % 8 * 262144 + b1 % 64 * 4096 + b2 % 64 * 64 + b3 % 64 = V
    by_cases c3 : V ≥ 65536 ∧ (V < 55296 ∨ (57344 ≤ V ∧ V ≤ 1114111))
    · rw [if_pos c3]; exact .inr (.inr (.inr (.inr ⟨V, rfl, d6, by omega, by omega, by omega, by omega, by omega, by omega⟩)))
    · rw [if_neg c3]; exact .inl rfl
  rw [if_neg c2]
  exact .inl rfl

theorem take_two {l : List UInt8} (h : 1 < l.length) : l.take 2 = [l.getD 0 0, l.getD 1 0] := by
  match l, h with
  | [], h => simp at h
  | [_], h => simp at h
  | a :: b :: r, _ => simp
theorem take_three {l : List UInt8} (h : 2 < l.length) : l.take 3 = [l.getD 0 0, l.getD 1 0, l.getD 2 0] := by
  match l, h with
  | [], h => simp at h
  | [_], h => simp at h
  | [_, _], h => simp at h
  | a :: b :: c :: r, _ => simp
theorem take_four {l : List UInt8} (h : 3 < l.length) : l.take 4 = [l.getD 0 0, l.getD 1 0, l.getD 2 0, l.getD 3 0] := by
  match l, h with
  | [], h => simp at h
  | [_], h => simp at h
  | [_, _], h => simp at h
  | [_, _, _], h => simp at h
  | a :: b :: c :: d :: r, _ => simp

/-- What is read well is a code point's. -/
theorem dN_good {l : List UInt8} (h0 : l ≠ []) (h : ¬ bad l) : isS ((dN l).1 : Int) ∧ encodeRune ((dN l).1 : Int) = l.take (dN l).2 ∧ 1 ≤ (dN l).2 ∧ (dN l).2 ≤ l.length := by
  have hl : 0 < l.length := List.length_pos_iff.2 h0
  unfold bad at h
  unfold dN at h ⊢
  rcases decN_cases l.length (l.getD 0 0).toNat (l.getD 1 0).toNat (l.getD 2 0).toNat (l.getD 3 0).toNat (UInt8.toNat_lt _) (UInt8.toNat_lt _) (UInt8.toNat_lt _) (UInt8.toNat_lt _) with e | ⟨c, e⟩ | ⟨V, e, c, d1, d2, e0, e1⟩ | ⟨V, e, c, d, e0, e1, e2⟩ | ⟨V, e, c, d1, d2, e0, e1, e2, e3⟩
  · rw [e] at h; exact absurd ⟨rfl, rfl⟩ h
  · rw [e]
    refine ⟨⟨by simp only; omega, by simp only; omega, by simp only; omega⟩, ?_, by simp only; omega, hl⟩
    simp only [encodeRune, encodeRuneZ_one (r := ((l.getD 0 0).toNat : Int)) (by omega) (by omega), List.map_cons, List.map_nil]
    rw [u8e rfl]
    cases l with
    | nil => exact absurd rfl h0
    | cons b r => simp
  · rw [e]
    refine ⟨⟨by simp only; omega, by simp only; omega, by simp only; omega⟩, ?_, by simp only; omega, c⟩
    simp only [encodeRune, encodeRuneZ_two (r := (V : Int)) (by omega) (by omega), List.map_cons, List.map_nil]
    rw [take_two c, u8e (b := l.getD 0 0) (by omega), u8e (b := l.getD 1 0) (by omega)]
  · rw [e]
    refine ⟨⟨by simp only; omega, by simp only; omega, by simp only; omega⟩, ?_, by simp only; omega, c⟩
    simp only [encodeRune, encodeRuneZ_three (r := (V : Int)) (by omega), List.map_cons, List.map_nil]
    rw [take_three c, u8e (b := l.getD 0 0) (by omega), u8e (b := l.getD 1 0) (by omega), u8e (b := l.getD 2 0) (by omega)]
  · rw [e]
    refine ⟨⟨by simp only; omega, by simp only; omega, by simp only; omega⟩, ?_, by simp only; omega, c⟩
    simp only [encodeRune, encodeRuneZ_four (r := (V : Int)) (by omega) (by omega), List.map_cons, List.map_nil]
    rw [take_four c, u8e (b := l.getD 0 0) (by omega), u8e (b := l.getD 1 0) (by omega), u8e (b := l.getD 2 0) (by omega), u8e (b := l.getD 3 0) (by omega)]

theorem u8n {x : Int} (h0 : 0 ≤ x) (h1 : x < 256) : (x.toNat.toUInt8).toNat = x.toNat := by
  simp; omega

set_option maxRecDepth 100000 in
set_option maxHeartbeats 4000000 in
/-- A code point's bytes are read as it. -/
theorem dN_enc {v : Int} (h : isS v) (r : List UInt8) : dN (encodeRune v ++ r) = (v.toNat, (encodeRune v).length) := by
  obtain ⟨h0, h1, h2⟩ := h
  have cs : v ≤ 127 ∨ (128 ≤ v ∧ v ≤ 2047) ∨ ((2048 ≤ v ∧ v < 55296) ∨ (57343 < v ∧ v ≤ 65535)) ∨ 65536 ≤ v := by omega
  rcases cs with c | ⟨c, c'⟩ | c | c
  · simp only [encodeRune, encodeRuneZ_one h0 c, List.map_cons, List.map_nil, List.cons_append, List.nil_append, dN, List.getD_cons_zero, List.length_cons, List.length_nil]
    rw [u8n (by omega) (by omega)]
    unfold decodeN
    rw [if_pos (by omega)]
  · simp only [encodeRune, encodeRuneZ_two c c', List.map_cons, List.map_nil, List.cons_append, List.nil_append, dN, List.getD_cons_zero, List.getD_cons_succ, List.length_cons, List.length_nil]
    rw [u8n (x := 192 + v / 64) (by omega) (by omega), u8n (x := 128 + v % 64) (by omega) (by omega)]
    unfold decodeN
    rw [if_neg (by omega), if_pos (by omega), if_pos (by omega)]
    apply Prod.ext <;> simp only <;> omega
  · simp only [encodeRune, encodeRuneZ_three c, List.map_cons, List.map_nil, List.cons_append, List.nil_append, dN, List.getD_cons_zero, List.getD_cons_succ, List.length_cons, List.length_nil]
    rw [u8n (x := 224 + v / 4096) (by omega) (by omega), u8n (x := 128 + v / 64 % 64) (by omega) (by omega), u8n (x := 128 + v % 64) (by omega) (by omega)]
    unfold decodeN
    rw [if_neg (by omega), if_neg (by omega), if_pos (by omega), if_pos (by omega)]
    apply Prod.ext <;> simp only <;> omega
  · simp only [encodeRune, encodeRuneZ_four c h1, List.map_cons, List.map_nil, List.cons_append, List.nil_append, dN, List.getD_cons_zero, List.getD_cons_succ, List.length_cons, List.length_nil]
    rw [u8n (x := 240 + v / 262144) (by omega) (by omega), u8n (x := 128 + v / 4096 % 64) (by omega) (by omega), u8n (x := 128 + v / 64 % 64) (by omega) (by omega), u8n (x := 128 + v % 64) (by omega) (by omega)]
    unfold decodeN
    rw [if_neg (by omega), if_neg (by omega), if_neg (by omega), if_pos (by omega), if_pos (by omega)]
    apply Prod.ext <;> simp only <;> omega

theorem enc_len (v : Int) : 1 ≤ (encodeRune v).length ∧ (encodeRune v).length ≤ 4 := by
  have := encodeRuneZ_length v; simpa [encodeRune] using this
theorem enc_ne (v : Int) : encodeRune v ≠ [] := fun h => by have := enc_len v; rw [h] at this; simp at this
theorem enc_good {v : Int} (h : isS v) (r : List UInt8) : ¬ bad (encodeRune v ++ r) := by
  unfold bad
  rw [dN_enc h]
  rintro ⟨h1, h2⟩
  simp only at h1 h2
  have hv : v = 65533 := by have := h.1; omega
  rw [hv] at h2
  simp [encodeRune, encodeRuneZ] at h2

/-- What the iterator tells of a text: fuel for its rounds. -/
def sgF : Nat → List UInt8 → List (Int × Bool)
  | 0, _ => []
  | n + 1, l => if l = [] then [] else if bad l then [(0, false)] else (((dN l).1 : Int), true) :: sgF n (l.drop (dN l).2)
def sgn (l : List UInt8) : List (Int × Bool) := sgF l.length l
theorem sgF_le : ∀ (n m : Nat) (l : List UInt8), l.length ≤ n → l.length ≤ m → sgF n l = sgF m l
  | 0, m, l, h, _ => by
    obtain rfl : l = [] := List.eq_nil_of_length_eq_zero (by omega)
    cases m <;> simp [sgF]
  | n + 1, 0, l, _, h => by
    obtain rfl : l = [] := List.eq_nil_of_length_eq_zero (by omega)
    simp [sgF]
  | n + 1, m + 1, l, h1, h2 => by
    unfold sgF
    by_cases h0 : l = []
    · simp [h0]
    · by_cases hb : bad l
      · simp [h0, hb]
      · have := (dN_good h0 hb).2.2
        rw [if_neg h0, if_neg h0, if_neg hb, if_neg hb, sgF_le n m _ (by rw [List.length_drop]; omega) (by rw [List.length_drop]; omega)]
theorem sgn_nil : sgn [] = [] := rfl
theorem sgn_bad {l : List UInt8} (h0 : l ≠ []) (h : bad l) : sgn l = [(0, false)] := by
  have : 0 < l.length := List.length_pos_iff.2 h0
  unfold sgn
  obtain ⟨n, hn⟩ : ∃ n, l.length = n + 1 := ⟨l.length - 1, by omega⟩
  rw [hn, sgF, if_neg h0, if_pos h]
theorem sgn_good {l : List UInt8} (h0 : l ≠ []) (h : ¬ bad l) : sgn l = (((dN l).1 : Int), true) :: sgn (l.drop (dN l).2) := by
  have : 0 < l.length := List.length_pos_iff.2 h0
  have hg := (dN_good h0 h).2.2
  unfold sgn
  obtain ⟨n, hn⟩ : ∃ n, l.length = n + 1 := ⟨l.length - 1, by omega⟩
  rw [hn, sgF, if_neg h0, if_neg h, sgF_le n _ _ (by rw [List.length_drop]; omega) (Nat.le_refl _)]
theorem sgn_enc {v : Int} (h : isS v) (r : List UInt8) : sgn (encodeRune v ++ r) = (v, true) :: sgn r := by
  rw [sgn_good (by simp [enc_ne]) (enc_good h r), dN_enc h]
  simp only [List.drop_left]
  congr 2
  have := h.1
  omega
theorem sgn_encs {L : List Int} (h : allS L) (r : List UInt8) : sgn (encs L ++ r) = L.map (·, true) ++ sgn r := by
  induction L with
  | nil => simp [encs]
  | cons v L ih =>
    rw [encs_cons, List.append_assoc, sgn_enc (h v (by simp)), ih (fun x hx => h x (by simp [hx]))]
    simp

/-- Is it valid; its signs. -/
def vd (l : List UInt8) : Bool := (sgn l).all (·.2)
def sg (l : List UInt8) : List Int := if vd l then (sgn l).map (·.1) else []
/-- Every text is the bytes of code points, and then nothing, or what begins none. -/
theorem split_at (l : List UInt8) : ∃ L r, l = encs L ++ r ∧ allS L ∧ (r = [] ∨ (r ≠ [] ∧ bad r)) := by
  generalize hn : l.length = n
  induction n using Nat.strongRecOn generalizing l with
  | _ n ih =>
    by_cases h0 : l = []
    · exact ⟨[], [], by simp [h0, encs], (fun v h => by cases h), .inl rfl⟩
    · by_cases hb : bad l
      · exact ⟨[], l, by simp [encs], (fun v h => by cases h), .inr ⟨h0, hb⟩⟩
      · obtain ⟨g1, g2, g3, g4⟩ := dN_good h0 hb
        obtain ⟨L, r, e, hL, hr⟩ := ih (l.drop (dN l).2).length (by rw [List.length_drop]; omega) _ rfl
        refine ⟨((dN l).1 : Int) :: L, r, ?_, ?_, hr⟩
        · rw [encs_cons, List.append_assoc, ← e, g2, List.take_append_drop]
        · intro v hv
          rcases List.mem_cons.1 hv with rfl | hv
          · exact g1
          · exact hL v hv
theorem vd_encs {L : List Int} (h : allS L) (r : List UInt8) : vd (encs L ++ r) = vd r := by
  unfold vd
  rw [sgn_encs h, List.all_append]
  simp
theorem sg_encs {L : List Int} (h : allS L) : vd (encs L) = true ∧ sg (encs L) = L := by
  have h1 := vd_encs h []
  rw [List.append_nil] at h1
  have h2 : vd (encs L) = true := by rw [h1]; rfl
  have h3 := sgn_encs h []
  rw [List.append_nil, sgn_nil, List.append_nil] at h3
  refine ⟨h2, ?_⟩
  unfold sg
  rw [if_pos h2, h3, List.map_map]
  have : ((fun x : Int × Bool => x.1) ∘ fun x : Int => (x, true)) = id := rfl
  rw [this, List.map_id]
/-- A valid text is the bytes of its signs. -/
theorem vd_split {l : List UInt8} (h : vd l = true) : l = encs (sg l) ∧ allS (sg l) := by
  obtain ⟨L, r, e, hL, hr⟩ := split_at l
  rcases hr with rfl | ⟨h0, hb⟩
  · rw [List.append_nil] at e
    subst e
    rw [(sg_encs hL).2]
    exact ⟨rfl, hL⟩
  · rw [e, vd_encs hL] at h
    unfold vd at h
    rw [sgn_bad h0 hb] at h
    cases h
theorem sg_no {l : List UInt8} (h : vd l = false) : sg l = [] := by unfold sg; rw [h]; rfl
theorem sg_app {l m : List UInt8} (h : vd l = true) : vd (l ++ m) = vd m := by
  have h1 := vd_split h
  conv => lhs; rw [h1.1]
  exact vd_encs h1.2 m
theorem sg_app2 {l m : List UInt8} (h : vd l = true) (h2 : vd m = true) : sg (l ++ m) = sg l ++ sg m := by
  have h1 := vd_split h
  have h3 := vd_split h2
  conv => lhs; rw [h1.1, h3.1, ← encs_app]
  exact (sg_encs (fun v hv => by rcases List.mem_append.1 hv with hv | hv; exact h1.2 v hv; exact h3.2 v hv)).2
theorem sg_len (l : List UInt8) : (sg l).length ≤ l.length := by
  cases h : vd l with
  | false => rw [sg_no h]; simp
  | true =>
    have h1 := (vd_split h).1
    generalize sg l = L at h1
    subst h1
    clear h
    induction L with
    | nil => simp
    | cons v L ih => rw [encs_cons, List.length_append, List.length_cons]; have := enc_len v; omega
theorem encs_len (L : List Int) : (encs L).length ≤ 4 * L.length := by
  induction L with
  | nil => simp [encs]
  | cons v L ih => rw [encs_cons, List.length_append, List.length_cons]; have := enc_len v; omega
theorem sgn_len (l : List UInt8) : (sgn l).length ≤ l.length := by
  generalize hn : l.length = n
  induction n using Nat.strongRecOn generalizing l with
  | _ n ih =>
    by_cases h0 : l = []
    · subst h0; simp [sgn_nil]
    · have : 0 < l.length := List.length_pos_iff.2 h0
      by_cases hb : bad l
      · rw [sgn_bad h0 hb]; simp; omega
      · obtain ⟨g1, g2, g3, g4⟩ := dN_good h0 hb
        rw [sgn_good h0 hb, List.length_cons]
        have := ih _ (by rw [List.length_drop]; omega) (l.drop (dN l).2) rfl
        rw [List.length_drop] at this
        omega
end Go.Proofs.YtkcnnkakpkdhkaaDoor
