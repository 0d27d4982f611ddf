
/-
  stir: one block worked into the hash.
-/
import Derived.Test.YtanmopbhglokmaaDoorSp
set_option linter.all false
namespace Go.Proofs.YtanmopbhglokmaaDoor
open Go.RowKit

def kk : List W := [1116352408, 1899447441, 3049323471, 3921009573, 961987163, 1508970993, 2453635748, 2870763221, 3624381080, 310598401, 607225278, 1426881987, 1925078388, 2162078206, 2614888103, 3248222580, 3835390401, 4022224774, 264347078, 604807628, 770255983, 1249150122, 1555081692, 1996064986, 2554220882, 2821834349, 2952996808, 3210313671, 3336571891, 3584528711, 113926993, 338241895, 666307205, 773529912, 1294757372, 1396182291, 1695183700, 1986661051, 2177026350, 2456956037, 2730485921, 2820302411, 3259730800, 3345764771, 3516065817, 3600352804, 4094571909, 275423344, 430227734, 506948616, 659060556, 883997877, 958139571, 1322822218, 1537002063, 1747873779, 1955562222, 2024104815, 2227730452, 2361852424, 2428436474, 2756734187, 3204031479, 3329325298]
def h0 : St := ⟨1779033703, 3144134277, 1013904242, 2773480762, 1359893119, 2600822924, 528734635, 1541459225⟩
def St.toL (s : St) : List W := [s.a, s.b, s.c, s.d, s.e, s.f, s.g, s.h]
theorem toL_len (s : St) : s.toL.length = 8 := rfl
def St.plus (s v : St) : St := ⟨s.a + v.a, s.b + v.b, s.c + v.c, s.d + v.d, s.e + v.e, s.f + v.f, s.g + v.g, s.h + v.h⟩
/-- The state behind i rounds. -/
def rd (ws : List W) (s : St) (i : Nat) : St := ((kk.zip ws).take i).foldl (fun s p => s.step p.1 p.2) s
/-- The state behind a block. -/
def St.comp (s : St) (blk : List B) : St := s.plus (rd (sw blk 64) s 64)

theorem rd_succ (ws : List W) (s : St) (i : Nat) (hw : ws.length = 64) (hi : i < 64) : rd ws s (i + 1) = (rd ws s i).step (kk.getD i 0) (ws.getD i 0) := by
  have hk : kk.length = 64 := rfl
  have hz : i < (kk.zip ws).length := by simp [hk, hw, hi]
  unfold rd
  rw [List.take_succ_eq_append_getElem hz, List.foldl_append]
  simp [hk, hw, hi]

/-- The package's two tables lie as its text lays them. -/
structure Tabs (w : World) : Prop where
  first : ∀ j x, h0.toL[j]? = some x → w.cell? ⟨0, j, none⟩ = some (.int .u32 (nw x))
  roots : ∀ j x, kk[j]? = some x → w.cell? ⟨1, j, none⟩ = some (.int .u32 (nw x))
theorem Tabs.keeps {S : Nat → Prop} {w w' : World} (h : Tabs w) (hk : Keeps S w w') (h0 : ¬ S 0) (h1 : ¬ S 1) : Tabs w' :=
  ⟨fun j x hx => cell_keeps hk (h.first j x hx) h0, fun j x hx => cell_keeps hk (h.roots j x hx) h1⟩
theorem Tabs.size {w : World} (h : Tabs w) : 2 ≤ w.heap.size := by
  have := World.block_lt_of_cell? w ⟨1, 0, none⟩ (h.roots 0 _ rfl)
  exact this

/-- The state's cells: the hash's words, the rest's bytes, how many bytes came in. -/
def stRow (h : List W) (rest : List B) (t : Int) : Array Value := (h.map vw ++ (rest.map vb ++ [Value.int .u64 t])).toArray
theorem size_stRow {h : List W} {rest : List B} {t : Int} (hh : h.length = 8) (hr : rest.length = 64) : (stRow h rest t).size = 73 := by simp [stRow, hh, hr]
structure StAt (w : World) (p : Nat) (h : List W) (rest : List B) (t : Int) : Prop where
  row : w.heap[p]? = some (.cells (stRow h rest t) 69 (0, 0))
  h8 : h.length = 8
  r64 : rest.length = 64
theorem StAt.keeps {S : Nat → Prop} {w w' : World} {p : Nat} {h : List W} {rest : List B} {t : Int} (a : StAt w p h rest t) (hk : Keeps S w w') (hs : ¬ S p) : StAt w' p h rest t :=
  ⟨hk.row a.row hs, a.h8, a.r64⟩
theorem StAt.free {w : World} {p : Nat} {h : List W} {rest : List B} {t : Int} (a : StAt w p h rest t) (j : Nat) : w.frozen? ⟨p, j, none⟩ = false := frozen_of_row w p j _ _ a.row
theorem StAt.word {w : World} {p : Nat} {h : List W} {rest : List B} {t : Int} (a : StAt w p h rest t) (j : Nat) (hj : j < 8) : w.cell? ⟨p, j, none⟩ = some (.int .u32 (nw (h.getD j 0))) := by
  have := a.h8
  rw [cell_of_row w p j _ _ _ a.row]
  simp [stRow, List.getElem?_append, a.h8, hj, vw]
theorem StAt.rest {w : World} {p : Nat} {h : List W} {rest : List B} {t : Int} (a : StAt w p h rest t) : BytesAt w p 8 rest := fun j x hx => by
  have h8 := a.h8
  have hj : j < rest.length := (List.getElem?_eq_some_iff.1 hx).1
  rw [cell_of_row w p (8 + j) _ _ _ a.row]
  simp [stRow, List.getElem?_append, a.h8, hj, vb]
  exact congrArg nb (List.getElem?_eq_some_iff.1 hx).2
theorem StAt.total {w : World} {p : Nat} {h : List W} {rest : List B} {t : Int} (a : StAt w p h rest t) : w.cell? ⟨p, 72, none⟩ = some (.int .u64 t) := by
  rw [cell_of_row w p 72 _ _ _ a.row]
  simp [stRow, List.getElem?_append, a.h8, a.r64]
theorem StAt.setWord {w : World} {p : Nat} {h : List W} {rest : List B} {t : Int} (a : StAt w p h rest t) (j : Nat) (hj : j < 8) (x : W) : StAt (w.setCell ⟨p, j, none⟩ (.int .u32 (nw x))) p (h.set j x) rest t := by
  refine ⟨?_, by simp [a.h8], a.r64⟩
  rw [heap_setCell_same w _ j _ _ _ a.row]
  have h8 := a.h8
  simp only [stRow, List.setIfInBounds_toArray]
  rw [List.set_append_left _ _ (by simp [a.h8]; omega), List.map_set]
  rfl
theorem StAt.setTotal {w : World} {p : Nat} {h : List W} {rest : List B} {t : Int} (a : StAt w p h rest t) (t' : Int) : StAt (w.setCell ⟨p, 72, none⟩ (.int .u64 t')) p h rest t' := by
  refine ⟨?_, a.h8, a.r64⟩
  rw [heap_setCell_same w _ 72 _ _ _ a.row]
  simp only [stRow, List.setIfInBounds_toArray]
  rw [List.set_append_right _ _ (by simp [a.h8]), List.set_append_right _ _ (by simp [a.h8, a.r64])]
  simp [a.h8, a.r64]

theorem index40 (v : St) (k : Nat) (hk : k < 8) (w : World) : (Instr.index 65 (.agg #[.int .u32 (nw v.a), .int .u32 (nw v.b), .int .u32 (nw v.c), .int .u32 (nw v.d), .int .u32 (nw v.e), .int .u32 (nw v.f), .int .u32 (nw v.g), .int .u32 (nw v.h)]) (.int .i64 (k : Int))).run Tryd.prog w = .ok (.int .u32 (nw (v.toL.getD k 0))) w := by
  obtain rfl | rfl | rfl | rfl | rfl | rfl | rfl | rfl : k = 0 ∨ k = 1 ∨ k = 2 ∨ k = 3 ∨ k = 4 ∨ k = 5 ∨ k = 6 ∨ k = 7 := by omega
  all_goals kernel_rfl

/-- The first k words are added, the others not yet. -/
def mixd (S V : List W) (k : Nat) : List W := (List.zipWith (· + ·) S V).take k ++ S.drop k
theorem mixd_zero (S V : List W) : mixd S V 0 = S := by simp [mixd]
theorem mixd_all (s v : St) : mixd s.toL v.toL 8 = (s.plus v).toL := rfl
theorem mixd_len (s v : St) (k : Nat) (hk : k ≤ 8) : (mixd s.toL v.toL k).length = 8 := by simp [mixd, toL_len]; omega
theorem mixd_get (s v : St) (k : Nat) (hk : k < 8) : (mixd s.toL v.toL k).getD k 0 = s.toL.getD k 0 := by
  match k, hk with
  | 0, _ | 1, _ | 2, _ | 3, _ | 4, _ | 5, _ | 6, _ | 7, _ => rfl
theorem mixd_set (s v : St) (k : Nat) (hk : k < 8) : (mixd s.toL v.toL k).set k (s.toL.getD k 0 + v.toL.getD k 0) = mixd s.toL v.toL (k + 1) := by
  match k, hk with
  | 0, _ | 1, _ | 2, _ | 3, _ | 4, _ | 5, _ | 6, _ | 7, _ => rfl

end Go.Proofs.YtanmopbhglokmaaDoor
