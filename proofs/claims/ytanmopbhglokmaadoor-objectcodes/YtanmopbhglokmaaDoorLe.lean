
/-
  Bytes as texts; which of two digests stands ahead.
-/
import Derived.Test.YtanmopbhglokmaaDoorOf
import Derived.Laws.BytesArg
import Derived.Lib.Bytealg
import Derived.Lib.ConvBytes
set_option linter.all false
namespace Go.Proofs.YtanmopbhglokmaaDoor
open Go.RowKit

/-- The text of bytes. -/
def sb (l : List B) : ByteArray := strOfNums (l.map nb)
def ub (l : List B) : List UInt8 := l.map fun x => UInt8.ofBitVec x
theorem sb_data (l : List B) : (sb l).data.toList = ub l := by
  unfold sb ub
  rw [strOfNums_data, List.map_map]
  apply List.map_congr_left
  intro x _
  simp only [Function.comp, nb, Int.toNat_natCast]
  apply UInt8.toBitVec_inj.1
  simp [UInt8.ofNat]
theorem ub_inj {x y : List B} (h : ub x = ub y) : x = y := by
  unfold ub at h
  exact (List.map_inj_right (fun a b e => by simpa using congrArg UInt8.toBitVec e)).1 h

theorem conv_sl {w : World} {a : Option Addr} {n c : Nat} {l : List B} (h : SlB w a n c l) : (convert 22 9 (.slice a n c)).run Tryd.prog w = .ok (.string (sb l)) w := by
  have hlen := h.len
  rcases Nat.eq_zero_or_pos n with h0 | h0
  · subst h0
    obtain rfl : l = [] := List.eq_nil_of_length_eq_zero hlen
    rw [run_convert_bytes_string w 22 9 5 a 0 c Tryd.underlying22 Tryd.underlying5 Tryd.underlying9]
    cases a with
    | none => rfl
    | some a => exact (run_bytesToString w a 0 c [] (by simp [loadCells, loadCellsFrom]))
  · obtain ⟨b, o, rfl, hby, _⟩ := h.bytes n h0 (Nat.le_refl _)
    rw [List.take_of_length_le (by omega)] at hby
    refine run_convert_bytes_arg w 22 5 Tryd.underlying22 Tryd.underlying5 b o n c (l.map nb) (by simp [hlen]) (fun i hi => ?_) 9 Tryd.underlying9
    rw [hby i l[i] (by simp)]
    simp [List.getD, hlen, hi]

theorem bytes12 (w : World) (a1 a2 : Option Addr) (n1 c1 n2 c2 : Nat) (x y : List B) (h1 : SlB w a1 n1 c1 x) (h2 : SlB w a2 n2 c2 y) :
    Calls Tryd.prog 14 #[.slice a1 n1 c1, .slice a2 n2 c2] w fun e w' => e = .returned (.bool (decide (x = y))) ∧ w' = w := by
  have e1 := conv_sl h1
  have e2 := conv_sl h2
  have e3 : ((sb x).toList == (sb y).toList) = decide (x = y) := by
    rw [ByteArray.toList_eq, ByteArray.toList_eq, sb_data, sb_data]
    by_cases h : x = y
    · subst h; simp
    · have : ub x ≠ ub y := fun e => h (ub_inj e)
      simp [h, this]
  go_enter Tryd.func14, Tryd.ntmps14
  go_wp2
  go_ret
  exact ⟨rfl, rfl⟩

theorem load_bytes {w : World} : ∀ (l : List B) (b o : Nat) (acc : ByteArray), BytesAt w b o l → (Extern.Bytes.loadBytes ⟨b, o, none⟩ l.length acc).run Tryd.prog w = .ok ⟨acc.data ++ (ub l).toArray⟩ w
  | [], b, o, acc, _ => by simp [Extern.Bytes.loadBytes, ub, Sem.run_pure]
  | x :: l, b, o, acc, h => by
    have hc := h 0 x rfl
    have ih := load_bytes l b (o + 1) (acc.push (nb x).toNat.toUInt8) (fun j y hy => by have := h (j + 1) y (by simpa using hy); rwa [show o + (j + 1) = o + 1 + j by omega] at this)
    have hld : (load ⟨b, o, none⟩).run Tryd.prog w = .ok (.int .u8 (nb x)) w := by
      have := hc
      rw [Nat.add_zero] at this
      simp [this]
    simp only [List.length_cons, Extern.Bytes.loadBytes, Sem.run_bind, hld, Result.andThen_ok, Addr_add, ih]
    congr 1
    have e : (nb x).toNat.toUInt8 = UInt8.ofBitVec x := by
      apply UInt8.toBitVec_inj.1
      simp [nb, UInt8.ofNat]
    simp [ub, ByteArray.push, e]

theorem bytes_of {w : World} {a : Option Addr} {n c : Nat} {l : List B} (h : SlB w a n c l) : (Extern.Bytes.bytesOf (.slice a n c)).run Tryd.prog w = .ok (sb l) w := by
  have hlen := h.len
  have es : ∀ l : List B, (⟨(ub l).toArray⟩ : ByteArray) = sb l := fun l => by
    have := sb_data l
    cases hs : sb l with
    | mk d => rw [hs] at this; dsimp only at this; rw [← this]
  rcases Nat.eq_zero_or_pos n with h0 | h0
  · subst h0
    obtain rfl : l = [] := List.eq_nil_of_length_eq_zero hlen
    cases a with
    | none => rfl
    | some a => rfl
  · obtain ⟨b, o, rfl, hby, _⟩ := h.bytes n h0 (Nat.le_refl _)
    rw [List.take_of_length_le (by omega)] at hby
    have := load_bytes l b o .empty hby
    rw [hlen] at this
    unfold Extern.Bytes.bytesOf
    rw [this]
    rw [← es l]
    congr 2
    show (#[] ++ (ub l).toArray : Array UInt8) = _
    simp

/-- The bytes of a block, as it lies. -/
theorem slb_box {w : World} {g : Nat} {x : List B} {ty : TypeId} {fr : Nat × Nat} (hg : w.heap[g]? = some (.cells (brow x) ty fr)) : SlB w (some ⟨g, 0, none⟩) x.length x.length x := by
  have := SlB.ofRow hg 0 x.length x.length (by omega) (Nat.le_refl _)
  rwa [List.drop_zero, List.take_of_length_le (Nat.le_refl _)] at this

theorem slb_drewN {w : World} {a : Option Addr} {n c : Nat} {l : List B} (h : SlB w a n c l) (k : Nat) : SlB (w.drewN k) a n c l := h.keeps (S := fun _ => False) ((Keeps.refl _ _).drewN k) (fun _ _ _ _ h => h)

/-- Two boxed digests. -/
theorem box2 (w : World) (x y : List B) (hx : x.length = 32) (hy : y.length = 32) :
    ∃ W, (w.alloc (.cells (brow x) 60)).alloc (.cells (brow y) 60) = W ∧ SlB W (some ⟨w.heap.size, 0, none⟩) 32 32 x ∧ SlB W (some ⟨w.heap.size + 1, 0, none⟩) 32 32 y ∧ Keeps (fun _ => False) w W := by
  refine ⟨_, rfl, ?_, ?_, ((Keeps.refl _ _).alloc _).alloc _⟩
  · have := slb_box (heap_alloc2_old w (.cells (brow x) 60) (.cells (brow y) 60)); rwa [hx] at this
  · have := slb_box (heap_alloc2_new w (.cells (brow x) 60) (.cells (brow y) 60)); rwa [hy] at this

end Go.Proofs.YtanmopbhglokmaaDoor
