
/-
  Packed texts: Le, Ch, Eq, Pl, Pq, Wh, Ap, Oh.
-/
import Derived.Test.YtdgnjpdjohibeaaDoorGB
import Derived.Laws.BytesArg
import Derived.Lib.Bytealg
import Derived.Lib.ConvBytes
import Derived.Test.YtdgnjpdjohibeaaDoorGA
import Derived.OrdersHeld
import Derived.Deep.RegionHeld3
import Derived.Lib.QuietBelow
import Derived.Deep.DrawnRows
import Derived.Laws.AppendOwn
import Derived.Laws.AppendOwnNone
set_option linter.all false
set_option maxRecDepth 100000
namespace Go.Proofs.YtdgnjpdjohibeaaDoor

/-! Le: Bytes as texts; which of two digests stands ahead. -/
section
open Go.RowKit

/-- The text of bytes. -/
def sb (l : List B) : ByteArray := strOfNums (l.map nb)
def ub (l : List B) : List UInt8 := l.map fun x => UInt8.ofBitVec x
theorem sb_data (l : List B) : (sb l).data.toList = ub l := by
  unfold sb ub
  rw [strOfNums_data, List.map_map]
  apply List.map_congr_left
  intro x _
  simp only [Function.comp, nb, Int.toNat_natCast]
  apply UInt8.toBitVec_inj.1
  simp [UInt8.ofNat]
theorem ub_inj {x y : List B} (h : ub x = ub y) : x = y := by
  unfold ub at h
  exact (List.map_inj_right (fun a b e => by simpa using congrArg UInt8.toBitVec e)).1 h

theorem conv_sl {w : World} {a : Option Addr} {n c : Nat} {l : List B} (h : SlB w a n c l) : (convert 51 9 (.slice a n c)).run Tryd.prog w = .ok (.string (sb l)) w := by
  have hlen := h.len
  rcases Nat.eq_zero_or_pos n with h0 | h0
  · subst h0
    obtain rfl : l = [] := List.eq_nil_of_length_eq_zero hlen
    rw [run_convert_bytes_string w 51 9 5 a 0 c Tryd.underlying51 Tryd.underlying5 Tryd.underlying9]
    cases a with
    | none => rfl
    | some a => exact (run_bytesToString w a 0 c [] (by simp [loadCells, loadCellsFrom]))
  · obtain ⟨b, o, rfl, hby, _⟩ := h.bytes n h0 (Nat.le_refl _)
    rw [List.take_of_length_le (by omega)] at hby
    refine run_convert_bytes_arg w 51 5 Tryd.underlying51 Tryd.underlying5 b o n c (l.map nb) (by simp [hlen]) (fun i hi => ?_) 9 Tryd.underlying9
    rw [hby i l[i] (by simp)]
    simp [List.getD, hlen, hi]

theorem bytes12 (w : World) (a1 a2 : Option Addr) (n1 c1 n2 c2 : Nat) (x y : List B) (h1 : SlB w a1 n1 c1 x) (h2 : SlB w a2 n2 c2 y) :
    Calls Tryd.prog 31 #[.slice a1 n1 c1, .slice a2 n2 c2] w fun e w' => e = .returned (.bool (decide (x = y))) ∧ w' = w := by
  have e1 := conv_sl h1
  have e2 := conv_sl h2
  have e3 : ((sb x).toList == (sb y).toList) = decide (x = y) := by
    rw [ByteArray.toList_eq, ByteArray.toList_eq, sb_data, sb_data]
    by_cases h : x = y
    · subst h; simp
    · have : ub x ≠ ub y := fun e => h (ub_inj e)
      simp [h, this]
  go_enter Tryd.func31, Tryd.ntmps31
  go_wp2
  go_ret
  exact ⟨rfl, rfl⟩

theorem load_bytes {w : World} : ∀ (l : List B) (b o : Nat) (acc : ByteArray), BytesAt w b o l → (Extern.Bytes.loadBytes ⟨b, o, none⟩ l.length acc).run Tryd.prog w = .ok ⟨acc.data ++ (ub l).toArray⟩ w
  | [], b, o, acc, _ => by simp [Extern.Bytes.loadBytes, ub, Sem.run_pure]
  | x :: l, b, o, acc, h => by
    have hc := h 0 x rfl
    have ih := load_bytes l b (o + 1) (acc.push (nb x).toNat.toUInt8) (fun j y hy => by have := h (j + 1) y (by simpa using hy); rwa [show o + (j + 1) = o + 1 + j by omega] at this)
    have hld : (load ⟨b, o, none⟩).run Tryd.prog w = .ok (.int .u8 (nb x)) w := by
      have := hc
      rw [Nat.add_zero] at this
      simp [this]
    simp only [List.length_cons, Extern.Bytes.loadBytes, Sem.run_bind, hld, Result.andThen_ok, Addr_add, ih]
    congr 1
    have e : (nb x).toNat.toUInt8 = UInt8.ofBitVec x := by
      apply UInt8.toBitVec_inj.1
      simp [nb, UInt8.ofNat]
    simp [ub, ByteArray.push, e]

theorem bytes_of {w : World} {a : Option Addr} {n c : Nat} {l : List B} (h : SlB w a n c l) : (Extern.Bytes.bytesOf (.slice a n c)).run Tryd.prog w = .ok (sb l) w := by
  have hlen := h.len
  have es : ∀ l : List B, (⟨(ub l).toArray⟩ : ByteArray) = sb l := fun l => by
    have := sb_data l
    cases hs : sb l with
    | mk d => rw [hs] at this; dsimp only at this; rw [← this]
  rcases Nat.eq_zero_or_pos n with h0 | h0
  · subst h0
    obtain rfl : l = [] := List.eq_nil_of_length_eq_zero hlen
    cases a with
    | none => rfl
    | some a => rfl
  · obtain ⟨b, o, rfl, hby, _⟩ := h.bytes n h0 (Nat.le_refl _)
    rw [List.take_of_length_le (by omega)] at hby
    have := load_bytes l b o .empty hby
    rw [hlen] at this
    unfold Extern.Bytes.bytesOf
    rw [this]
    rw [← es l]
    congr 2
    show (#[] ++ (ub l).toArray : Array UInt8) = _
    simp

/-- The bytes of a block, as it lies. -/
theorem slb_box {w : World} {g : Nat} {x : List B} {ty : TypeId} {fr : Nat × Nat} (hg : w.heap[g]? = some (.cells (brow x) ty fr)) : SlB w (some ⟨g, 0, none⟩) x.length x.length x := by
  have := SlB.ofRow hg 0 x.length x.length (by omega) (Nat.le_refl _)
  rwa [List.drop_zero, List.take_of_length_le (Nat.le_refl _)] at this

theorem slb_drewN {w : World} {a : Option Addr} {n c : Nat} {l : List B} (h : SlB w a n c l) (k : Nat) : SlB (w.drewN k) a n c l := h.keeps (S := fun _ => False) ((Keeps.refl _ _).drewN k) (fun _ _ _ _ h => h)

/-- Two boxed digests. -/
theorem box2 (w : World) (x y : List B) (hx : x.length = 32) (hy : y.length = 32) :
    ∃ W, (w.alloc (.cells (brow x) 24)).alloc (.cells (brow y) 24) = W ∧ SlB W (some ⟨w.heap.size, 0, none⟩) 32 32 x ∧ SlB W (some ⟨w.heap.size + 1, 0, none⟩) 32 32 y ∧ Keeps (fun _ => False) w W := by
  refine ⟨_, rfl, ?_, ?_, ((Keeps.refl _ _).alloc _).alloc _⟩
  · have := slb_box (heap_alloc2_old w (.cells (brow x) 24) (.cells (brow y) 24)); rwa [hx] at this
  · have := slb_box (heap_alloc2_new w (.cells (brow x) 24) (.cells (brow y) 24)); rwa [hy] at this
end

/-! Ch: Check. -/
section
open Go.RowKit

theorem four (l : List B) (h : 4 ≤ l.length) : ∃ a b c d t, l = a :: b :: c :: d :: t := by
  match l, h with
  | a :: b :: c :: d :: t, _ => exact ⟨a, b, c, d, t, rfl⟩

theorem arrayAt27 (g : Nat) (w : World) : (Instr.arrayAt 76 (.slice (some ⟨g, 0, none⟩) 4 32)).run Tryd.prog w = .ok (.pointer (some ⟨g, 0, none⟩)) w := by kernel_rfl

set_option maxRecDepth 100000 in
set_option maxHeartbeats 1000000 in
theorem check7 (w : World) (a : Option Addr) (n c : Nat) (l : List B) (hT : Tabs w) (hl : SlB w a n c l) (hn : n < 900000) :
    Calls Tryd.prog 32 #[.slice a n c] w fun e w' => e = .returned (.agg (brow ((sha l).take 4))) ∧ Keeps (fun _ => False) w w' := by
  have hz := zero24
  have har := arrayAt27
  obtain ⟨d0, d1, d2, d3, t, hD⟩ := four (sha l) (by rw [sha_len]; omega)
  have hs3 : (Tryd.prog.info? 24).map (·.size) = some (brow (sha l)).size := by rw [size_brow, sha_len]; exact size24
  have hs4 : (brow (zb 32)).size = (brow (sha l)).size := by rw [size_brow, size_brow, sha_len, zb_len]
  have hone2 := brow_one (sha l)
  have HD : Hid (sha l = d0 :: d1 :: d2 :: d3 :: t) := hD
  clear hD
  go_enter Tryd.func32, Tryd.ntmps32
  go_wp2_with (first | (go_at_call 50; have hka := keeps_alloc w (.cells #[.int .u8 0, .int .u8 0, .int .u8 0, .int .u8 0] 76); refine (sum8 _ a n c l (hT.keeps hka (fun h => h) (fun h => h)) (hl.keeps hka (fun _ _ _ _ h => h)) hn).mono ?_; rintro e w1 ⟨rfl, hk1⟩; have g0 := hk1.row (heap_alloc_new w _) (fun h => h); have hlt := lt_of_row g0; have hk01 := hka.none hk1) | (refine wpList_store_row rfl rfl 24 _ _ rfl w1.heap.size rfl (brow (sha l)) rfl 24 (brow (zb 32)) (heap_alloc_new w1 _) hs3 hs4 hone2 ?_; intro w2 g2 hk2 hz2; clear hz2; have g02 := hk2.row ((keeps_alloc w1 (.cells (brow (zb 32)) 24)).row g0 (fun h => h)) (by omega); rw [HD.out] at g2; have k0 : w2.cell? ⟨w1.heap.size, 0, none⟩ = some (.int .u8 (nb d0)) := (cell_of_row w2 _ 0 _ _ _ g2); have k1 : w2.cell? ⟨w1.heap.size, 1, none⟩ = some (.int .u8 (nb d1)) := (cell_of_row w2 _ 1 _ _ _ g2); have k2 : w2.cell? ⟨w1.heap.size, 2, none⟩ = some (.int .u8 (nb d2)) := (cell_of_row w2 _ 2 _ _ _ g2); have k3 : w2.cell? ⟨w1.heap.size, 3, none⟩ = some (.int .u8 (nb d3)) := (cell_of_row w2 _ 3 _ _ _ g2)) | (refine wpList_store_all rfl 76 _ _ rfl w.heap.size rfl (brow [d0, d1, d2, d3]) rfl 76 _ g02 (by kernel_rfl) rfl (brow_one _) ?_))
  refine bodyPost_ret (v := .agg (brow ((sha l).take 4))) ?_ rfl ⟨rfl, (((hk01.alloc _).trans' hk2 (fun i e => .inr (by omega)))).setRow (.inr (Nat.le_refl _)) _⟩
  have e4 : (sha l).take 4 = [d0, d1, d2, d3] := by rw [HD.out]; rfl
  rw [e4]
  exact results_cell_row rfl _ _ w.heap.size 76 (brow [d0, d1, d2, d3]) (0, 0) _ rfl (setRow_heap w2 _ _ _ _ _ g02) Tryd.underlying76 rfl (by kernel_rfl)
end

/-! Eq: Digests that are held against each other. -/
section
open Go.RowKit

theorem run_equalIn_byte (d : Nat) (x y : B) (w : World) : (Op.equalIn (d + 1) 5 (.int .u8 (nb x)) (.int .u8 (nb y))).run Tryd.prog w = .ok (decide (x = y)) w := by
  have e : (nb x == nb y) = decide (x = y) := by
    by_cases h : x = y
    · subst h; simp
    · have : nb x ≠ nb y := fun e => h (nb_inj e)
      simp [h, this]
  simp [Op.equalIn, Sem.run_bind, run_underlying Tryd.underlying5, e]

theorem run_part5 (l : List B) (i : Nat) (hi : i < l.length) (w : World) : (Go.part 5 (brow l) i).run Tryd.prog w = .ok (.int .u8 (nb l[i])) w := by
  have hagg : (isAgg 5).run Tryd.prog w = .ok false w := by
    unfold isAgg
    rw [Sem.run_bind, run_underlying Tryd.underlying5 w]
    rfl
  unfold Go.part
  rw [Sem.run_bind, hagg]
  have : (brow l)[i]? = some (.int .u8 (nb l[i])) := by rw [brow_get]; simp [vb, hi]
  simp [this]

/-- From place k on they are the same. -/
theorem loop24 (d : Nat) (x y : List B) (n : Nat) (hx : x.length = n) (hy : y.length = n) (w : World) : ∀ (l : List Nat), (∀ i ∈ l, i < n) →
    Sem.run Tryd.prog (forIn l ((none, ()) : Option Bool × Unit) fun i _ => do
      let u ← Go.part 5 (brow x) (i * 1)
      let v ← Go.part 5 (brow y) (i * 1)
      let e ← Op.equalIn (d + 1) 5 u v
      if (!e) = true then pure (ForInStep.done (some false, ())) else pure (ForInStep.yield (none, ()))) w = .ok (if ∀ i ∈ l, x[i]? = y[i]? then none else some false, ()) w
  | [], _ => by simp
  | i :: l, hl => by
    have hi : i < n := hl i (by simp)
    have hp := run_part5 x (i * 1) (by omega) w
    have hq := run_part5 y (i * 1) (by omega) w
    rw [List.forIn_cons]
    simp only [Sem.run_bind, hp, hq, Result.andThen_ok, run_equalIn_byte]
    have e : (x[i * 1]'(by omega) = y[i * 1]'(by omega)) ↔ x[i]? = y[i]? := by
      simp only [Nat.mul_one]
      rw [List.getElem?_eq_getElem (by omega), List.getElem?_eq_getElem (by omega)]
      simp
    by_cases h : x[i]? = y[i]?
    · have h' := e.2 h
      simp only [h', decide_true, Bool.not_true, Bool.false_eq_true, if_false, Sem.run_pure, Result.andThen_ok]
      rw [loop24 d x y n hx hy w l (fun j hj => hl j (by simp [hj]))]
      simp [h]
    · have h' : ¬ (x[i * 1]'(by omega) = y[i * 1]'(by omega)) := fun e' => h (e.1 e')
      simp only [decide_eq_false h', Bool.not_false, if_true, Sem.run_pure, Result.andThen_ok]
      simp [h]

theorem run_equalIn_row (d : Nat) (ty n : Nat) (hu : Tryd.prog.underlying ty = some (.array n 5)) (x y : List B) (hx : x.length = n) (hy : y.length = n) (w : World) :
    (Op.equalIn (d + 1 + 1) ty (.agg (brow x)) (.agg (brow y))).run Tryd.prog w = .ok (decide (x = y)) w := by
  have hs : (sizeOf 5).run Tryd.prog w = .ok 1 w := by simp [go_sem]
  rw [Op.equalIn]
  simp only [Sem.run_bind, run_underlying hu, Result.andThen_ok, hs]
  rw [Std.Legacy.Range.forIn_eq_forIn_range']
  have hall : (∀ i ∈ List.range' 0 n 1, x[i]? = y[i]?) ↔ x = y := by
    constructor
    · intro h
      apply List.ext_getElem?
      intro i
      rcases Nat.lt_or_ge i n with hi | hi
      · exact h i (by simp [hi])
      · rw [List.getElem?_eq_none (by omega), List.getElem?_eq_none (by omega)]
    · rintro rfl _ _; rfl
  have := loop24 d x y n hx hy w (List.range' 0 n 1) (fun i hi => by simpa using hi)
  have e : List.range' (0 : Nat) (Std.Legacy.Range.size [:n]) 1 = List.range' 0 n 1 := by simp [Std.Legacy.Range.size]
  simp only [e] at *
  rw [this]
  by_cases h : x = y
  · rw [if_pos (hall.2 h)]; simp [h]
  · rw [if_neg (fun h' => h (hall.1 h'))]; simp [h]

theorem eq24 (x y : List B) (hx : x.length = 32) (hy : y.length = 32) (w : World) : (Op.equalIn 10000 24 (.agg (brow x)) (.agg (brow y))).run Tryd.prog w = .ok (decide (x = y)) w :=
  run_equalIn_row 9998 24 32 Tryd.underlying24 x y hx hy w
end

/-! Pl: A region that draws its order: a plan names an order in which it is walked once; what only reads is taken first, what writes stands alone when it comes up. -/
section
open Go.RowKit

section
variable {P : Program} {ops : Array Oper} {Q : Exit → Act → World → Prop} {md : Region.Mode} {S : World → Prop}

/-- S and K at a normal end, else Q. -/
def Held (S : World → Prop) (Q : Exit → Act → World → Prop) (K : Act → World → Prop) : Exit → Act → World → Prop
  | .normal, a, w => S w ∧ K a w
  | e, a, w => Q e a w

theorem held_out {K : Act → World → Prop} (h : LetsOut (Held S Q K)) : LetsOut Q := h

theorem wp_of_held {o : Oper} {a : Act} {w : World} {K K' : Act → World → Prop} (hh : o.wp P a w K (Held S Q K')) : o.wp P a w K Q := by
  unfold Oper.wp at *
  generalize (execOp a.eval o).run P w = r at *
  cases r with
  | ok n w' =>
    cases n <;> simp only [Oper.upon] at hh ⊢ <;>
      first
        | exact hh
        | exact Calls.mono hh (fun e w'' he => by cases e <;> exact he)
  | halt x w' => cases x <;> simp only [Oper.upon] at hh ⊢ <;> exact hh

/-- Operations that hand back a value and enter nothing. -/
def plainOp : Op → Bool
  | .move _ | .assign _ | .pick .. | .build .. | .load .. | .binOp .. | .unOp .. | .indexAddr .. | .index .. | .fieldAddr .. | .field .. | .slice .. | .convert .. => true
  | _ => false

theorem run_v {s : Sem Value} {w : World} {n : Next} {w' : World} (h : (do pure (Next.value (← s)) : Sem Next).run P w = .ok n w') : ∃ v, n = .value v := by
  rw [Sem.run_bind] at h
  cases hs : s.run P w with
  | ok v w1 => rw [hs] at h; simp only [Result.andThen_ok, Sem.run_pure] at h; cases h; exact ⟨v, rfl⟩
  | halt x w1 => rw [hs] at h; simp only [Result.andThen] at h; cases h

theorem plain_value {o : Oper} {ρ : Operand → Value} {w : World} {n : Next} {w' : World} (hp : plainOp o.op = true) (h : (execOp ρ o).run P w = .ok n w') : ∃ v, n = .value v := by
  unfold execOp at h
  cases ho : o.op <;> rw [ho] at h hp <;> first | (cases hp; done) | (exact run_v h) | (simp only [Sem.run_pure] at h; cases h; exact ⟨_, rfl⟩) | skip
  all_goals
    simp only [Sem.run_bind] at h
    generalize (asBool _).run P w = r at h
    cases r with
    | ok v w1 => simp only [Result.andThen_ok, Sem.run_pure] at h; cases h; exact ⟨_, rfl⟩
    | halt x w1 => simp only [Result.andThen] at h; cases h

theorem plain_yields {o : Oper} {a : Act} {v : Value} (hp : plainOp o.op = true) (h : ∀ w, S w → o.quietAt P a S w v) (w : World) (hS : S w) : (execOp a.eval o).run P w = .ok (.value v) w := by
  have h1 := h w hS
  unfold Oper.quietAt at h1
  cases hr : (execOp a.eval o).run P w with
  | ok n w' =>
    obtain ⟨u, rfl⟩ := plain_value hp hr
    rw [hr] at h1
    obtain ⟨rfl, rfl⟩ := h1
    rfl
  | halt x w' => rw [hr] at h1; exact h1.elim

def pick : List Oper → Nat → List Oper → List Oper
  | [], _, r => r
  | x :: _, 0, r => x :: r
  | _ :: l, n + 1, r => pick l n r
theorem pick_some {o : Oper} {r : List Oper} : ∀ (l : List Oper) (i : Nat), l[i]? = some o → pick l i r = o :: r
  | [], i, h => by simp at h
  | x :: l, 0, h => by simp at h; rw [h]; rfl
  | x :: l, i + 1, h => pick_some l i (by simpa using h)
/-- The operations of these numbers. -/
def opsAt (l : List Oper) : List Nat → List Oper
  | [] => []
  | i :: q => pick l i (opsAt l q)

/-- What may be taken first, one behind the other. -/
def takeB (md : Region.Mode) (ops : Array Oper) : List Nat → Array Bool → Bool
  | [], _ => true
  | i :: q, listed => (Region.ready md ops listed).contains i && Region.free md ops listed i && ((ops[i]?).map (fun o => plainOp o.op)).getD false && takeB md ops q (listed.setIfInBounds i true)
def listAll (listed : Array Bool) (q : List Nat) : Array Bool := q.foldl (fun l i => l.setIfInBounds i true) listed

theorem any_of_take {l : List Oper} (hs : Region.noSelect l.toArray = true) (hQ : ∀ c a d v w, Q (.panic c) (Act.put a d v) w → Q (.panic c) a w) {w : World} (hS : S w) {K : Act → Prop} :
    ∀ (q : List Nat) (f : Nat) (listed : Array Bool) (a : Act), takeB md l.toArray q listed = true → wpQuiet P l.toArray S K (opsAt l q) a → (∀ a', K a' → wpAnyH P md l.toArray Q S f (listAll listed q) a' w) →
      wpAnyH P md l.toArray Q S (f + q.length) listed a w
  | [], f, listed, a, _, h, hk => hk a h
  | i :: q, f, listed, a, hB, h, hk => by
    simp only [takeB, Bool.and_eq_true] at hB
    obtain ⟨⟨⟨hr, hf⟩, hp⟩, hB⟩ := hB
    cases ho : l[i]? with
    | none => rw [List.getElem?_toArray, ho] at hp; simp at hp
    | some o =>
      have ho' : l.toArray[i]? = some o := by rw [List.getElem?_toArray, ho]
      have hp' : plainOp o.op = true := by rw [ho'] at hp; simpa using hp
      have e : opsAt l (i :: q) = o :: opsAt l q := pick_some l i ho
      rw [e] at h
      unfold wpQuiet at h
      rw [List.length_cons, ← Nat.add_assoc]
      split at h
      · rename_i hw
        obtain ⟨v, h1, h2⟩ := h
        exact wpAnyH_take ho' hs hf hr (fun c a w => hQ c a _ _ w) (.inl ⟨hw, plain_yields hp' h1⟩) hS (any_of_take hs hQ hS q f _ _ hB h2 hk)
      · rename_i hw
        exact wpAnyH_take ho' hs hf hr (fun c a w => hQ c a _ _ w) (.inr ⟨by simpa using hw, rfl⟩) hS (any_of_take hs hQ hS q f _ _ hB h hk)

theorem any_of_one {l : List Oper} {i : Nat} {o : Oper} {f : Nat} {listed : Array Bool} {a : Act} {w : World} {K : Act → World → Prop} (ho : l[i]? = some o) (hr : Region.ready md l.toArray listed = [i]) (h : wpList P l.toArray (Held S Q K) [o] a w)
    (hk : ∀ a' w', S w' → K a' w' → wpAnyH P md l.toArray Q S f (listed.setIfInBounds i true) a' w') : wpAnyH P md l.toArray Q S (f + 1) listed a w := by
  refine wpAnyH_all hr (by simp) fun j hj => ?_
  obtain rfl : j = i := by simpa using hj
  have ho' : l.toArray[j]? = some o := by rw [List.getElem?_toArray, ho]
  unfold wpOp
  simp only [ho']
  unfold wpList at h
  split
  · rename_i hw
    rw [if_pos hw] at h
    exact h.imp (fun h => Oper.wp_mono (fun a w (h : S w ∧ K a w) => ⟨h.1, hk _ _ h.1 h.2⟩) (wp_of_held h)) (fun h => ⟨h.1, held_out h.2⟩)
  · rename_i hw
    rw [if_neg hw] at h
    have h' : S w ∧ K (a.put o.dst undef) w := h
    exact ⟨h'.1, hk _ _ h'.1 h'.2⟩

/-- The walk by a plan. -/
def wpPlan (P : Program) (l : List Oper) (Q : Exit → Act → World → Prop) (S : World → Prop) : List (List Nat × Nat) → List Nat → Act → World → Prop
  | [], last, a, w => wpQuiet P l.toArray S (fun a' => Q .normal a' w) (opsAt l last) a
  | (q, i) :: pl, last, a, w => wpQuiet P l.toArray S (fun a' => wpList P l.toArray (Held S Q (wpPlan P l Q S pl last)) (opsAt l [i]) a' w) (opsAt l q) a
def planB (md : Region.Mode) (ops : Array Oper) : List (List Nat × Nat) → List Nat → Array Bool → Bool
  | [], last, listed => takeB md ops last listed && (Region.ready md ops (listAll listed last)).isEmpty
  | (q, i) :: pl, last, listed => takeB md ops q listed && decide (Region.ready md ops (listAll listed q) = [i]) && (ops[i]?).isSome && planB md ops pl last ((listAll listed q).setIfInBounds i true)
def planLen : List (List Nat × Nat) → List Nat → Nat
  | [], last => last.length
  | (q, _) :: pl, last => planLen pl last + 1 + q.length

theorem any_of_plan {l : List Oper} (hs : Region.noSelect l.toArray = true) (hQ : ∀ c a d v w, Q (.panic c) (Act.put a d v) w → Q (.panic c) a w) :
    ∀ (pl : List (List Nat × Nat)) (last : List Nat) (listed : Array Bool) (a : Act) (w : World), S w → planB md l.toArray pl last listed = true → wpPlan P l Q S pl last a w → wpAnyH P md l.toArray Q S (planLen pl last) listed a w
  | [], last, listed, a, w, hS, hB, h => by
    simp only [planB, Bool.and_eq_true, List.isEmpty_iff] at hB
    have := any_of_take (md := md) hs hQ hS last 0 listed a hB.1 h (fun a' h' => wpAnyH_done hB.2 h' 0)
    rwa [Nat.zero_add] at this
  | (q, i) :: pl, last, listed, a, w, hS, hB, h => by
    simp only [planB, Bool.and_eq_true, decide_eq_true_eq] at hB
    obtain ⟨⟨⟨h1, h2⟩, h3⟩, h4⟩ := hB
    refine any_of_take hs hQ hS q _ listed a h1 h fun a' h' => ?_
    cases ho : l[i]? with
    | none => rw [List.getElem?_toArray, ho] at h3; simp at h3
    | some o =>
      have e : opsAt l [i] = [o] := pick_some l i ho
      rw [e] at h'
      exact any_of_one ho h2 h' fun a2 w2 hS2 hp => any_of_plan hs hQ pl last _ a2 w2 hS2 h4 hp

/-- A region that draws its order, walked by a plan. -/
theorem region_plan {id : Nat} {l : List Oper} {a : Act} {w : World} (pl : List (List Nat × Nat)) (last : List Nat) (hm : P.follows .mixedOrders = true) (hs : Region.noSelect l.toArray = true) (hn : planLen pl last = l.length)
    (hB : planB .any l.toArray pl last (Array.replicate l.length false) = true) (hS : S w.drew) (h : wpPlan P l (NoPanic Q) S pl last a w.drew) : (Code.region id l.toArray true).wp P Q a w := by
  refine wp_region_noPanic (wp_region_held (S := S) hm ?_)
  have := any_of_plan hs (fun _ _ _ _ _ h => h) pl last _ a _ hS hB h
  rw [hn] at this
  simpa using this

/-- A region that stands in its order, whose operations and calls stay in a class of worlds, walked as one that only reads. -/
theorem list_of_quiet {C : World → Prop} : ∀ (l : List Oper) (a : Act) (w : World), C w → wpQuiet P ops C (fun a' => ∀ w', C w' → Q .normal a' w') l a → wpList P ops Q l a w
  | [], a, w, hC, h => h w hC
  | o :: l, a, w, hC, h => by
    unfold wpQuiet at h
    unfold wpList
    split at h
    · rename_i hw
      rw [if_pos hw]
      left
      obtain ⟨v, h1, h2⟩ := h
      have h3 := h1 w hC
      unfold Oper.quietAt at h3
      unfold Oper.wp
      generalize (execOp a.eval o).run P w = r at *
      cases r with
      | ok n w' =>
        cases n <;> simp only [Oper.quietUpon] at h3 <;> simp only [Oper.upon]
        case value u => obtain ⟨rfl, rfl⟩ := h3; exact list_of_quiet l _ _ hC h2
        case skip => obtain ⟨rfl, rfl⟩ := h3; exact list_of_quiet l _ _ hC h2
        case enter f args =>
          obtain ⟨rfl, h4⟩ := h3
          exact h4.mono fun e w'' ⟨he, hC'⟩ => by subst he; exact list_of_quiet l _ _ hC' h2
      | halt x w' => simp only [Oper.quietUpon] at h3
    · rename_i hw
      rw [if_neg hw]
      exact list_of_quiet l _ _ hC h
theorem plain_quiet {id : Nat} {l : List Oper} {a : Act} {w : World} {C : World → Prop} (hC : C w) (h : wpQuiet P l.toArray C (fun a' => ∀ w', C w' → Q .normal a' w') l a) : (Code.region id l.toArray false).wp P Q a w :=
  wp_region_lit (list_of_quiet l a w hC h)
end
end

/-! Pq: A plan with forks: where two operations may come up, both ways are walked. -/
section
open Go.RowKit

inductive Plan where
  | last (q : List Nat)
  | one (q : List Nat) (i : Nat) (p : Plan)
  | two (q : List Nat) (i : Nat) (p : Plan) (j : Nat) (r : Plan)

section
variable {P : Program} {Q : Exit → Act → World → Prop} {md : Region.Mode} {S : World → Prop}

def wpTree (P : Program) (l : List Oper) (Q : Exit → Act → World → Prop) (S : World → Prop) : Plan → Act → World → Prop
  | .last q, a, w => wpQuiet P l.toArray S (fun a' => Q .normal a' w) (opsAt l q) a
  | .one q i p, a, w => wpQuiet P l.toArray S (fun a' => wpList P l.toArray (Held S Q (wpTree P l Q S p)) (opsAt l [i]) a' w) (opsAt l q) a
  | .two q i p j r, a, w => wpQuiet P l.toArray S (fun a' => wpList P l.toArray (Held S Q (wpTree P l Q S p)) (opsAt l [i]) a' w ∧ wpList P l.toArray (Held S Q (wpTree P l Q S r)) (opsAt l [j]) a' w) (opsAt l q) a
def treeB (md : Region.Mode) (ops : Array Oper) : Plan → Array Bool → Bool
  | .last q, listed => takeB md ops q listed && (Region.ready md ops (listAll listed q)).isEmpty
  | .one q i p, listed => takeB md ops q listed && decide (Region.ready md ops (listAll listed q) = [i]) && (ops[i]?).isSome && treeB md ops p ((listAll listed q).setIfInBounds i true)
  | .two q i p j r, listed => takeB md ops q listed && decide (Region.ready md ops (listAll listed q) = [i, j]) && (ops[i]?).isSome && (ops[j]?).isSome && treeB md ops p ((listAll listed q).setIfInBounds i true) && treeB md ops r ((listAll listed q).setIfInBounds j true)
/-- How many operations; both ways have as many. -/
def treeLen : Plan → Option Nat
  | .last q => some q.length
  | .one q _ p => (treeLen p).map (· + 1 + q.length)
  | .two q _ p _ r => match treeLen p, treeLen r with
    | some m, some n => if m = n then some (m + 1 + q.length) else none
    | _, _ => none

theorem op_of_one {l : List Oper} {i : Nat} {o : Oper} {a : Act} {w : World} {f : Nat} {listed : Array Bool} {K : Act → World → Prop} (ho : l[i]? = some o) (h : wpList P l.toArray (Held S Q K) [o] a w)
    (hk : ∀ a' w', S w' → K a' w' → wpAnyH P md l.toArray Q S f (listed.setIfInBounds i true) a' w') : wpOp P l.toArray Q i (fun a' w' => S w' ∧ wpAnyH P md l.toArray Q S f (listed.setIfInBounds i true) a' w') a w := by
  have ho' : l.toArray[i]? = some o := by rw [List.getElem?_toArray, ho]
  unfold wpOp
  simp only [ho']
  unfold wpList at h
  split
  · rename_i hw
    rw [if_pos hw] at h
    exact h.imp (fun h => Oper.wp_mono (fun a w (h : S w ∧ K a w) => ⟨h.1, hk _ _ h.1 h.2⟩) (wp_of_held h)) (fun h => ⟨h.1, held_out h.2⟩)
  · rename_i hw
    rw [if_neg hw] at h
    have h' : S w ∧ K (a.put o.dst undef) w := h
    exact ⟨h'.1, hk _ _ h'.1 h'.2⟩

theorem any_of_tree {l : List Oper} (hs : Region.noSelect l.toArray = true) (hQ : ∀ c a d v w, Q (.panic c) (Act.put a d v) w → Q (.panic c) a w) :
    ∀ (pl : Plan) (n : Nat) (listed : Array Bool) (a : Act) (w : World), treeLen pl = some n → S w → treeB md l.toArray pl listed = true → wpTree P l Q S pl a w → wpAnyH P md l.toArray Q S n listed a w
  | .last q, n, listed, a, w, hn, hS, hB, h => by
    simp only [treeB, Bool.and_eq_true, List.isEmpty_iff] at hB
    simp only [treeLen, Option.some.injEq] at hn
    have := any_of_take (md := md) hs hQ hS q 0 listed a hB.1 h (fun a' h' => wpAnyH_done hB.2 h' 0)
    rwa [Nat.zero_add, hn] at this
  | .one q i p, n, listed, a, w, hn, hS, hB, h => by
    simp only [treeB, Bool.and_eq_true, decide_eq_true_eq] at hB
    simp only [treeLen, Option.map_eq_some_iff] at hn
    obtain ⟨m, hm, rfl⟩ := hn
    obtain ⟨⟨⟨h1, h2⟩, h3⟩, h4⟩ := hB
    refine any_of_take hs hQ hS q _ listed a h1 h fun a' h' => ?_
    cases ho : l[i]? with
    | none => rw [List.getElem?_toArray, ho] at h3; simp at h3
    | some o =>
      rw [show opsAt l [i] = [o] from pick_some l i ho] at h'
      exact any_of_one ho h2 h' fun a2 w2 hS2 hp => any_of_tree hs hQ p m _ a2 w2 hm hS2 h4 hp
  | .two q i p j r, n, listed, a, w, hn, hS, hB, h => by
    simp only [treeB, Bool.and_eq_true, decide_eq_true_eq] at hB
    obtain ⟨⟨⟨⟨⟨h1, h2⟩, h3⟩, h5⟩, h4⟩, h6⟩ := hB
    unfold treeLen at hn
    cases hp : treeLen p with
    | none => rw [hp] at hn; cases hn
    | some m =>
      cases hr : treeLen r with
      | none => rw [hp, hr] at hn; cases hn
      | some m' =>
        rw [hp, hr] at hn
        dsimp only at hn
        split at hn
        · rename_i e
          subst e
          cases hn
          refine any_of_take hs hQ hS q _ listed a h1 h fun a' h' => ?_
          cases ho : l[i]? with
          | none => rw [List.getElem?_toArray, ho] at h3; simp at h3
          | some o =>
            cases ho2 : l[j]? with
            | none => rw [List.getElem?_toArray, ho2] at h5; simp at h5
            | some o2 =>
              rw [show opsAt l [i] = [o] from pick_some l i ho, show opsAt l [j] = [o2] from pick_some l j ho2] at h'
              refine wpAnyH_all h2 (by simp) fun x hx => ?_
              rcases (by simpa using hx : x = i ∨ x = j) with rfl | rfl
              · exact op_of_one ho h'.1 fun a2 w2 hS2 hq => any_of_tree hs hQ p m _ a2 w2 hp hS2 h4 hq
              · exact op_of_one ho2 h'.2 fun a2 w2 hS2 hq => any_of_tree hs hQ r m _ a2 w2 hr hS2 h6 hq
        · cases hn

/-- A region that draws its order, walked by a plan with forks. -/
theorem region_tree {id : Nat} {l : List Oper} {a : Act} {w : World} (pl : Plan) (hm : P.follows .mixedOrders = true) (hs : Region.noSelect l.toArray = true) (hn : treeLen pl = some l.length)
    (hB : treeB .any l.toArray pl (Array.replicate l.length false) = true) (hS : S w.drew) (h : wpTree P l (NoPanic Q) S pl a w.drew) : (Code.region id l.toArray true).wp P Q a w := by
  refine wp_region_noPanic (wp_region_held (S := S) hm ?_)
  have := any_of_tree hs (fun _ _ _ _ _ h => h) pl _ _ a _ hn hS hB h
  simpa using this
end
end

/-! Wh: Rows that are read whole, worlds that only grow, texts' bytes. -/
section
open Go.RowKit Go.Sort

theorem run_conv22 (w : World) (q n c : Nat) (cs : Array Value) (fr : Nat × Nat) (hg : w.heap[q]? = some (.cells cs 5 fr)) :
    (convert 51 51 (.slice (some ⟨q, 0, none⟩) n c)).run Tryd.prog w = .ok (.slice (some ⟨q, 0, none⟩) n c) (w.freeze ⟨q, cs.size, none⟩ 1) := by
  have hsh : w.shape? q = some (5, cs.size) := by simp [World.shape?, hg]
  simp [convert, run_underlying Tryd.underlying51, run_underlying Tryd.underlying5, markStringish, hsh, Result.andThen]
theorem freeze_keeps (w : World) (q m : Nat) : Keeps (· = q) w (w.freeze ⟨q, m, none⟩ 1) ∧ (w.freeze ⟨q, m, none⟩ 1).heap.size = w.heap.size := by
  refine ⟨⟨rfl, rfl, rfl, by simp [World.freeze], fun k hk hs => ?_⟩, by simp [World.freeze]⟩
  simp [World.freeze, Array.getElem?_modify, Ne.symm hs]
theorem freeze_row (w : World) (q m : Nat) (cs : Array Value) (t : TypeId) (hg : w.heap[q]? = some (.cells cs t (0, 0))) : ∃ fr, (w.freeze ⟨q, m, none⟩ 1).heap[q]? = some (.cells cs t fr) := by
  simp [World.freeze, Array.getElem?_modify, hg]

theorem wpList_conv22 {ops : Array Oper} {rest : List Oper} {o : Oper} {a : Act} {w : World} {Q : Exit → Act → World → Prop} (hgd : o.guard = none) (x : Operand) (ho : o.op = .convert 51 51 x) (q n c : Nat) (hx : a.eval x = .slice (some ⟨q, 0, none⟩) n c)
    (cs : Array Value) (hg : w.heap[q]? = some (.cells cs 5 (0, 0)))
    (h : ∀ w', (∃ fr, w'.heap[q]? = some (.cells cs 5 fr)) → Keeps (· = q) w w' → wpList Tryd.prog ops Q rest (a.put o.dst (.slice (some ⟨q, 0, none⟩) n c)) w') : wpList Tryd.prog ops Q (o :: rest) a w := by
  refine wpList_plain hgd fun K hK => ?_
  unfold Oper.wp execOp
  simp only [ho, hx, run_conv22 w q n c cs _ hg, Sem.run_bind, Result.andThen_ok, Sem.run_pure]
  exact hK _ _ (h _ (freeze_row w q _ cs 5 hg) (freeze_keeps w q _).1)

theorem keeps_new5 {w w1 : World} {o : Obj} (h : Keeps (· = w.heap.size) (w.alloc o) w1) : Keeps (fun _ => False) w w1 := ((Keeps.refl _ _).alloc _).trans' h (fun i e => .inr (by omega))
theorem Keeps.trans2 {S T : Nat → Prop} {a b c : World} (h : Keeps S a b) (k : Keeps T b c) : Keeps (fun i => S i ∨ T i) a c :=
  (h.mono (fun _ _ e => .inl e)).trans (k.mono (fun _ _ e => .inr e))

theorem size27 : (Tryd.prog.info? 76).map (·.size) = some 4 := by kernel_rfl

theorem range_row {w : World} {g : Nat} {l : List B} {t : TypeId} {fr : Nat × Nat} (h : w.heap[g]? = some (.cells (brow l) t fr)) : w.rangeAt g 0 (l.map vb) := fun j v hv => by
  rw [cell_of_row w _ _ _ _ _ h, Nat.zero_add]
  simpa [brow] using hv
theorem cell_row {w : World} {g : Nat} {l : List B} {t : TypeId} {fr : Nat × Nat} (h : w.heap[g]? = some (.cells (brow l) t fr)) (j : Nat) (x : B) (hx : l[j]? = some x) : w.cell? ⟨g, j, none⟩ = some (.int .u8 (nb x)) := by
  rw [cell_of_row w _ _ _ _ _ h, brow_get, hx]; rfl

theorem keeps_cls {w w' : World} (h : ∃ p : Regrown, w' = grow (redrawn w p.d) p.os) : Keeps (fun _ => False) w w' := by
  obtain ⟨p, rfl⟩ := h
  have b := below_regrown w p.d p.os
  exact ⟨b.os, b.tape, b.output, b.size, fun k hk _ => b.block k hk⟩
theorem cls_keeps {w w' : World} (h : Keeps (fun _ => False) w w') : ∃ p : Regrown, w' = grow (redrawn w p.d) p.os := regrown_of_below (h.below (Nat.le_refl _) (fun _ _ h => h))
theorem range4 {w : World} {g : Nat} {a b c d : Value} (h0 : w.cell? ⟨g, 0, none⟩ = some a) (h1 : w.cell? ⟨g, 1, none⟩ = some b) (h2 : w.cell? ⟨g, 2, none⟩ = some c) (h3 : w.cell? ⟨g, 3, none⟩ = some d) : w.rangeAt g 0 [a, b, c, d] := fun j v hv => by
  match j, hv with
  | 0, hv => simp at hv; rw [← hv]; exact h0
  | 1, hv => simp at hv; rw [← hv]; exact h1
  | 2, hv => simp at hv; rw [← hv]; exact h2
  | 3, hv => simp at hv; rw [← hv]; exact h3
  | j + 4, hv => simp at hv
/-- A whole row is read in a region that only reads. -/
theorem quiet_rows {o : Oper} {a : Act} {C : World → Prop} {K : Act → Prop} (ty : TypeId) (x : Operand) (ho : o.op = .load ty x) (g : Nat) (hx : a.eval x = .pointer (some ⟨g, 0, none⟩)) (cs : List Value) (hc : ∀ w, C w → w.rangeAt g 0 cs) {u : TypeDesc} (hu : Tryd.prog.underlying ty = some u) (hd : u.isRow = true)
    (hi : (Tryd.prog.info? ty).map (·.size) = some cs.length) (hk : K (a.put o.dst (.agg cs.toArray))) : o.quiet Tryd.prog a C K := by
  refine ⟨.agg cs.toArray, fun w hw => ?_, hk⟩
  have hr := run_loadVar_mid (P := Tryd.prog) w g 0 ty cs _ (hc w hw) hu hd hi
  unfold Oper.quietAt execOp
  simp only [ho, hx, Instr.loadAt, Instr.sureAddr, Sem.run_bind, Sem.run_pure, Result.andThen_ok, hr]
  exact ⟨rfl, rfl⟩
end

/-! Ap: append of bytes to a row of one's own; which of two digests stands ahead, in plain mathematics; calls in the midst of a region that draws. -/
section
open Go.RowKit Go.Sort

/-- The slice v, in a block of one's own from base on, has the bytes l. -/
structure OwnB (w : World) (base : Nat) (v : Value) (l : List B) : Prop where
  owns : w.ownsRow base 5 1 v l.length (l.map vb)
theorem OwnB.slice {w : World} {base : Nat} {v : Value} {l : List B} (h : OwnB w base v l) : ∃ a n c, v = .slice a n c ∧ SlB w a n c l ∧ (∀ b o, a = some ⟨b, o, none⟩ → base ≤ b) ∧ (a = none → c = 0) := by
  obtain ⟨hl, ⟨rfl, h0⟩ | ⟨g, cap, cur, rfl, hb, hg, hn, hc, hs, ht⟩⟩ := h.owns
  · obtain rfl : l = [] := List.eq_nil_of_length_eq_zero h0
    exact ⟨none, 0, 0, rfl, SlB.nil w, (fun b o e => by cases e), fun _ => rfl⟩
  · refine ⟨_, _, _, rfl, ⟨rfl, hn, fun j x hx => ⟨g, 0, rfl, ?_⟩⟩, (fun b o e => by cases e; exact hb), fun e => by cases e⟩
    have hj : j < l.length := (List.getElem?_eq_some_iff.1 hx).1
    have h1 : (cur.toList.take (l.length * 1))[j]? = some (vb x) := by rw [ht, List.getElem?_map, hx]; rfl
    rw [List.getElem?_take, if_pos (by omega)] at h1
    rw [Nat.zero_add, cell_of_row w g j _ _ _ hg]
    simp at h1
    exact h1
theorem OwnB.row {w : World} {base g : Nat} {l : List B} {t : TypeId} (hg : w.heap[g]? = some (.cells (brow l) 5 (0, 0))) (hb : base ≤ g) (hl : l.length ≤ 1000000) : OwnB w base (.slice (some ⟨g, 0, none⟩) l.length l.length) l :=
  ⟨by simp, .inr ⟨g, l.length, brow l, rfl, hb, hg, Nat.le_refl _, by unfold maxLen; omega, by simp [size_brow], by simp [brow]; rw [List.take_of_length_le (by simp)]⟩⟩

theorem info5 : ∃ i, Tryd.prog.info? 5 = some i ∧ i.zero = some (.int .u8 0) ∧ i.size = 1 ∧ i.bytes = 1 := by
  cases h : Tryd.prog.info? 5 with
  | none => have : (Tryd.prog.info? 5).isSome = true := by kernel_rfl
            rw [h] at this; cases this
  | some i =>
    have h1 : (Tryd.prog.info? 5).map (fun i => (i.zero, i.size, i.bytes)) = some (some (.int .u8 0), 1, 1) := by kernel_rfl
    rw [h] at h1
    simp at h1
    exact ⟨i, rfl, h1.1, h1.2.1, h1.2.2⟩

theorem wpList_app {ops : Array Oper} {rest : List Oper} {o : Oper} {a : Act} {w : World} {Q : Exit → Act → World → Prop} (hgd : o.guard = none) (s x : Operand) (ho : o.op = .call { callee := .builtin .append, args := #[s, x], argTypes := #[51, 51] })
    (base : Nat) (v : Value) (l0 : List B) (hs : a.eval s = v) (hown : OwnB w base v l0) (ad : Option Addr) (m c : Nat) (l1 : List B) (hx : a.eval x = .slice ad m c) (hl : SlB w ad m c l1) (hnc : ad = none → c = 0) (hlen : l0.length + m ≤ 1000000) (hbase : base ≤ w.heap.size)
    (h : ∀ v' w', OwnB w' base v' (l0 ++ l1) → Keeps (fun k => base ≤ k) w w' → wpList Tryd.prog ops Q rest (a.put o.dst v') w') : wpList Tryd.prog ops Q (o :: rest) a w := by
  obtain ⟨i, hi, hz, hsz, hby⟩ := info5
  have hl1 := hl.len
  cases ad with
  | none =>
    obtain rfl : c = 0 := hnc rfl
    have hm : m = 0 := by
      rcases Nat.eq_zero_or_pos m with h0 | h0
      · exact h0
      · obtain ⟨b, o, e, _⟩ := hl.bytes m h0 (Nat.le_refl _); cases e
    subst hm
    obtain rfl : l1 = [] := List.eq_nil_of_length_eq_zero hl1
    refine wpList_append_own_none hgd s x 51 ho base 5 i 1 Tryd.underlying51 hi v l0.length _ hs hown.owns hx ?_
    exact h v w (by rw [List.append_nil]; exact hown) (Keeps.refl _ _)
  | some ad =>
    refine wpList_append_own _ hgd s x 51 ho base 5 i (.int .u8 0) 1 1 Tryd.underlying51 hi hz hsz hby rfl (by omega) v l0.length _ hs hown.owns ad m c (l1.map vb) hx (by simp [hl1]) (fun j u hu => ?_) (one_bytes l1) (by unfold maxLen; omega) (by omega) hbase ?_
    · rw [List.getElem?_map] at hu
      cases hq : l1[j]? with
      | none => rw [hq] at hu; cases hu
      | some y =>
        rw [hq] at hu
        obtain ⟨b, o, e, hc⟩ := hl.at_ j y hq
        cases e
        rw [Addr_add]
        cases hu
        exact hc
    · intro v' w' ho' hg _
      refine h v' w' ⟨by rw [List.length_append, hl1, List.map_append]; exact ho'⟩ ⟨hg.os, hg.tape, hg.output, hg.size, fun k hk hb => hg.block k hk fun e => hb ?_⟩
      obtain ⟨a', n', c', rfl, _, hbb, _⟩ := hown.slice
      cases a' with
      | none => cases e
      | some a' =>
        simp only [Value.ownBlock, Option.some.injEq] at e
        rcases hown.owns.2 with ⟨e2, _⟩ | ⟨g, cap, cur, e2, hb2, _⟩
        · cases e2
        · cases e2; subst e; exact hb2

/-! Which of two digests stands ahead. -/
def lessB (x y : List B) : Bool := decide (Lib.compareBytes (ub x) (ub y) < 0)
theorem cmp_self : ∀ x : List UInt8, Lib.compareBytes x x = 0
  | [] => rfl
  | a :: x => by simp [Lib.compareBytes, UInt8.lt_irrefl, cmp_self x]
theorem u8_tri (a b : UInt8) : a < b ∨ a = b ∨ b < a := by
  rcases Nat.lt_trichotomy a.toNat b.toNat with h | h | h
  · exact .inl (UInt8.lt_iff_toNat_lt.2 h)
  · exact .inr (.inl (UInt8.toNat_inj.1 h))
  · exact .inr (.inr (UInt8.lt_iff_toNat_lt.2 h))
theorem u8_asymm {a b : UInt8} (h : a < b) : ¬ b < a := by rw [UInt8.lt_iff_toNat_lt] at *; omega
theorem u8_trans {a b c : UInt8} (h : a < b) (k : b < c) : a < c := by rw [UInt8.lt_iff_toNat_lt] at *; omega
theorem cmp_cases : ∀ x y : List UInt8, (Lib.compareBytes x y < 0 ∧ 0 < Lib.compareBytes y x ∧ x ≠ y) ∨ (Lib.compareBytes x y = 0 ∧ Lib.compareBytes y x = 0 ∧ x = y) ∨ (0 < Lib.compareBytes x y ∧ Lib.compareBytes y x < 0 ∧ x ≠ y)
  | [], [] => .inr (.inl ⟨rfl, rfl, rfl⟩)
  | [], b :: y => .inl ⟨by simp [Lib.compareBytes], by simp [Lib.compareBytes], by simp⟩
  | a :: x, [] => .inr (.inr ⟨by simp [Lib.compareBytes], by simp [Lib.compareBytes], by simp⟩)
  | a :: x, b :: y => by
    unfold Lib.compareBytes
    rcases u8_tri a b with h | rfl | h
    · exact .inl ⟨by simp [h], by simp [h, u8_asymm h], by rintro ⟨⟩; exact absurd h (UInt8.lt_irrefl _)⟩
    · simp only [UInt8.lt_irrefl, if_false]
      rcases cmp_cases x y with ⟨h1, h2, h3⟩ | ⟨h1, h2, rfl⟩ | ⟨h1, h2, h3⟩
      · exact .inl ⟨h1, h2, by simpa using h3⟩
      · exact .inr (.inl ⟨h1, h2, rfl⟩)
      · exact .inr (.inr ⟨h1, h2, by simpa using h3⟩)
    · exact .inr (.inr ⟨by simp [h, u8_asymm h], by simp [h], by rintro ⟨⟩; exact absurd h (UInt8.lt_irrefl _)⟩)
theorem cmp_trans : ∀ x y z : List UInt8, Lib.compareBytes x y < 0 → Lib.compareBytes y z < 0 → Lib.compareBytes x z < 0
  | [], [], _, h, _ => by simp [Lib.compareBytes] at h
  | _, b :: y, [], _, k => by simp [Lib.compareBytes] at k
  | [], b :: y, c :: z, _, _ => by simp [Lib.compareBytes]
  | a :: x, [], _, h, _ => by simp [Lib.compareBytes] at h
  | a :: x, b :: y, c :: z, h, k => by
    unfold Lib.compareBytes at h k ⊢
    rcases u8_tri a b with h1 | rfl | h1
    · rcases u8_tri b c with k1 | rfl | k1
      · simp [u8_trans h1 k1]
      · simp [h1]
      · simp [k1, u8_asymm k1] at k
    · simp only [UInt8.lt_irrefl, if_false] at h
      rcases u8_tri a c with k1 | rfl | k1
      · simp [k1]
      · simp only [UInt8.lt_irrefl, if_false] at k ⊢
        exact cmp_trans x y z h k
      · simp [k1, u8_asymm k1] at k
    · simp [h1, u8_asymm h1] at h
theorem bytesLess_cmp : ∀ x y : List UInt8, Op.bytesLess x y = decide (Lib.compareBytes x y < 0)
  | [], [] => rfl
  | [], b :: y => by simp [Op.bytesLess, Lib.compareBytes]
  | a :: x, [] => by simp [Op.bytesLess, Lib.compareBytes]
  | a :: x, b :: y => by
    unfold Op.bytesLess Lib.compareBytes
    rcases u8_tri a b with h | rfl | h
    · simp [h]
    · simp [UInt8.lt_irrefl, bytesLess_cmp x y]
    · have : a ≠ b := by rintro rfl; exact absurd h (UInt8.lt_irrefl _)
      simp [h, u8_asymm h, this]
theorem less_self (x : List B) : lessB x x = false := by unfold lessB; rw [cmp_self]; rfl
/-- The four ways of three digests. -/
theorem less_ways (x y z : List B) : (lessB x y = false ∧ lessB y x = false ∧ decide (x = y) = true) ∨ (lessB x y = false ∧ lessB y x = true ∧ decide (x = y) = false) ∨
    (lessB x y = true ∧ lessB y x = false ∧ decide (x = y) = false ∧ lessB y z = false) ∨ (lessB x y = true ∧ lessB y x = false ∧ decide (x = y) = false ∧ lessB y z = true ∧ lessB x z = true) := by
  have hne : ub x ≠ ub y → decide (x = y) = false := fun h => decide_eq_false fun e => h (by rw [e])
  unfold lessB
  rcases cmp_cases (ub x) (ub y) with ⟨h1, h2, h3⟩ | ⟨h1, h2, h3⟩ | ⟨h1, h2, h3⟩
  · right; right
    by_cases h4 : Lib.compareBytes (ub y) (ub z) < 0
    · exact .inr ⟨decide_eq_true h1, decide_eq_false (by omega), hne h3, decide_eq_true h4, decide_eq_true (cmp_trans _ _ _ h1 h4)⟩
    · exact .inl ⟨decide_eq_true h1, decide_eq_false (by omega), hne h3, decide_eq_false h4⟩
  · exact .inl ⟨decide_eq_false (by omega), decide_eq_false (by omega), decide_eq_true (ub_inj h3)⟩
  · exact .inr (.inl ⟨decide_eq_false (by omega), decide_eq_true h2, hne h3⟩)
end

/-! Oh: Rows that are read, calls in the midst of a region. -/
section
open Go.RowKit Go.Sort

/-- A whole row is read in a region that only reads. -/
theorem quiet_row_at {o : Oper} {a : Act} {C : World → Prop} {K : Act → Prop} (ty : TypeId) (x : Operand) (ho : o.op = .load ty x) (g off : Nat) (hx : a.eval x = .pointer (some ⟨g, off, none⟩)) (cs : Array Value) (hc : ∀ w, C w → w.rangeAt g off cs.toList) {u : TypeDesc} (hu : Tryd.prog.underlying ty = some u) (hd : u.isRow = true)
    (hi : (Tryd.prog.info? ty).map (·.size) = some cs.size) (hk : K (a.put o.dst (.agg cs))) : o.quiet Tryd.prog a C K := by
  refine ⟨.agg cs, fun w hw => ?_, hk⟩
  have hr := run_loadVar_mid (P := Tryd.prog) w g off ty cs.toList _ (hc w hw) hu hd (by rw [Array.length_toList]; exact hi)
  rw [Array.toArray_toList] at hr
  unfold Oper.quietAt execOp
  simp only [ho, hx, Instr.loadAt, Instr.sureAddr, Sem.run_bind, Sem.run_pure, Result.andThen_ok, hr]
  exact ⟨rfl, rfl⟩
/-- .. in a region that stands in its order, guarded or not. -/
theorem wpList_load_want {ops : Array Oper} {rest : List Oper} {o : Oper} {a : Act} {w : World} {Q : Exit → Act → World → Prop} (hw : Region.wanted o (yielded ops a.tmps) = true) (ty : TypeId) (x : Operand) (ho : o.op = .load ty x) (g off : Nat) (hx : a.eval x = .pointer (some ⟨g, off, none⟩)) (cs : Array Value) (hc : w.rangeAt g off cs.toList) {u : TypeDesc} (hu : Tryd.prog.underlying ty = some u) (hd : u.isRow = true)
    (hi : (Tryd.prog.info? ty).map (·.size) = some cs.size) (h : wpList Tryd.prog ops Q rest (a.put o.dst (.agg cs)) w) : wpList Tryd.prog ops Q (o :: rest) a w := by
  have hr := run_loadVar_mid (P := Tryd.prog) w g off ty cs.toList _ hc hu hd (by rw [Array.length_toList]; exact hi)
  rw [Array.toArray_toList] at hr
  unfold wpList
  rw [if_pos hw]
  left
  unfold Oper.wp execOp
  simp only [ho, hx, Instr.loadAt, Instr.sureAddr, Sem.run_bind, Sem.run_pure, Result.andThen_ok, hr]
  exact h

theorem range_mid {w : World} {g : Nat} {l : List B} {t : TypeId} {fr : Nat × Nat} (h : w.heap[g]? = some (.cells (brow l) t fr)) (o n : Nat) : w.rangeAt g o (brow ((l.drop o).take n)).toList := fun j v hv => by
  rw [cell_of_row w _ _ _ _ _ h, brow_get]
  simp [brow, List.getElem?_take, List.getElem?_drop] at hv
  obtain ⟨_, b, hb, rfl⟩ := hv
  rw [hb]; rfl

theorem bytes_cls {w0 w1 : World} {a1 a2 : Option Addr} {n1 c1 n2 c2 : Nat} {x : List B} (h1 : SlB w0 a1 n1 c1 x) (h2 : SlB w0 a2 n2 c2 x) (hw : ∃ p : Regrown, w1 = grow (redrawn w0 p.d) p.os) :
    Calls Tryd.prog 31 #[.slice a1 n1 c1, .slice a2 n2 c2] w1 fun e w'' => e = .returned (.bool true) ∧ ∃ p : Regrown, w'' = grow (redrawn w0 p.d) p.os := by
  have hk1 := keeps_cls hw
  refine (bytes12 w1 a1 a2 n1 c1 n2 c2 x x (h1.keeps hk1 (fun _ _ _ _ h => h)) (h2.keeps hk1 (fun _ _ _ _ h => h))).mono fun e w'' ⟨he, hw2⟩ => ⟨?_, hw2 ▸ hw⟩
  rw [he, decide_eq_true rfl]
theorem sum_at {L X : List B} (hX : Hid (sha L = X)) (w : World) (hT : Tabs w) (a : Option Addr) (n c : Nat) (hl : SlB w a n c L) (hn : n < 900000) :
    Calls Tryd.prog 50 #[.slice a n c] w fun e w' => e = .returned (.agg (brow X)) ∧ Keeps (fun _ => False) w w' := by
  rw [← hX.out]; exact sum8 w a n c L hT hl hn
theorem check_at {L X C : List B} (hX : Hid (sha L = X)) (hC : Hid (X.take 4 = C)) (w : World) (hT : Tabs w) (a : Option Addr) (n c : Nat) (hl : SlB w a n c L) (hn : n < 900000) :
    Calls Tryd.prog 32 #[.slice a n c] w fun e w' => e = .returned (.agg (brow C)) ∧ Keeps (fun _ => False) w w' := by
  rw [← hC.out, ← hX.out]; exact check7 w a n c L hT hl hn
theorem kb_add (k : Int) : kb (k + 256) = kb k := nb_inj (by rw [nb_kb, nb_kb]; omega)
theorem row_kb (k : Int) (hk : 0 ≤ k ∧ k < 256) : #[Value.int .u8 k] = brow [kb k] := by
  have : nb (kb k) = k := by rw [nb_kb]; omega
  simp [brow, vb, this]
theorem own_kb (w : World) (k : Int) (hk : 0 ≤ k ∧ k < 256) : OwnB (w.alloc (.cells #[.int .u8 k] 5)) w.heap.size (.slice (some ⟨w.heap.size, 0, none⟩) 1 1) [kb k] :=
  OwnB.row (t := 5) (l := [kb k]) (by rw [← row_kb k hk]; exact heap_alloc_new w _) (Nat.le_refl _) (by simp)
end

end Go.Proofs.YtdgnjpdjohibeaaDoor
