
/-
  The reference's reading of one code point, in plain mathematics; what it tells, in a block.
-/
import Derived.Test.YtkcnnkakpkdhkaaDoorUn
set_option linter.all false
namespace Go.Proofs.YtkcnnkakpkdhkaaDoor
open Go.RowKit Go.Sort Go.Shelf

/-- How many bytes; the first one's part; all parts. -/
def cls (b : Nat) : Nat := if 240 ≤ b then 4 else if 224 ≤ b then 3 else if 192 ≤ b then 2 else 1
def c0 (b : Nat) : Nat := if 240 ≤ b then b - 240 else if 224 ≤ b then b - 224 else if 192 ≤ b then b - 192 else b
def acc (r : List UInt8) (c : Nat) : Nat → Nat
  | 0 => c
  | k + 1 => acc r c k * 64 + (r.getD (k + 1) 0).toNat % 64
theorem acc_lt (r : List UInt8) (c : Nat) (hc : c < 256) : acc r c 0 < 256 ∧ acc r c 1 < 16384 ∧ acc r c 2 < 1048576 ∧ acc r c 3 < 67108864 := by
  simp only [acc]
  have h1 : (r.getD (0 + 1) 0).toNat % 64 < 64 := Nat.mod_lt _ (by omega)
  have h2 : (r.getD (1 + 1) 0).toNat % 64 < 64 := Nat.mod_lt _ (by omega)
  have h3 : (r.getD (2 + 1) 0).toNat % 64 < 64 := Nat.mod_lt _ (by omega)
  omega

theorem rd_short {r : List UInt8} (h0 : r ≠ []) (h : r.length < cls (r.getD 0 0).toNat) : bad r := by
  have hl : 0 < r.length := List.length_pos_iff.2 h0
  unfold cls at h
  unfold bad dN
  rcases decN_cases r.length (r.getD 0 0).toNat (r.getD 1 0).toNat (r.getD 2 0).toNat (r.getD 3 0).toNat (UInt8.toNat_lt _) (UInt8.toNat_lt _) (UInt8.toNat_lt _) (UInt8.toNat_lt _) with e | ⟨c, e⟩ | ⟨V, e, c, d1, d2, e0, e1⟩ | ⟨V, e, c, d, e0, e1, e2⟩ | ⟨V, e, c, d1, d2, e0, e1, e2, e3⟩
  · rw [e]; exact ⟨rfl, rfl⟩
  · exfalso; repeat' split at h
    all_goals omega
  · exfalso; repeat' split at h
    all_goals omega
  · exfalso; repeat' split at h
    all_goals omega
  · exfalso; repeat' split at h
    all_goals omega
theorem rd_eq {r : List UInt8} (h0 : r ≠ []) (h : ¬ bad r) : dN r = (acc r (c0 (r.getD 0 0).toNat) (cls (r.getD 0 0).toNat - 1), cls (r.getD 0 0).toNat) := by
  unfold bad at h
  unfold dN at h ⊢
  rcases decN_cases r.length (r.getD 0 0).toNat (r.getD 1 0).toNat (r.getD 2 0).toNat (r.getD 3 0).toNat (UInt8.toNat_lt _) (UInt8.toNat_lt _) (UInt8.toNat_lt _) (UInt8.toNat_lt _) with e | ⟨c, e⟩ | ⟨V, e, c, d1, d2, e0, e1⟩ | ⟨V, e, c, d, e0, e1, e2⟩ | ⟨V, e, c, d1, d2, e0, e1, e2, e3⟩
  · rw [e] at h; exact absurd ⟨rfl, rfl⟩ h
  · rw [e]
    have hc : cls (r.getD 0 0).toNat = 1 := by unfold cls; rw [if_neg (by omega), if_neg (by omega), if_neg (by omega)]
    have hd : c0 (r.getD 0 0).toNat = (r.getD 0 0).toNat := by unfold c0; rw [if_neg (by omega), if_neg (by omega), if_neg (by omega)]
    rw [hc, hd]
    rfl
  · rw [e]
    have hc : cls (r.getD 0 0).toNat = 2 := by unfold cls; rw [if_neg (by omega), if_neg (by omega), if_pos (by omega)]
    have hd : c0 (r.getD 0 0).toNat = (r.getD 0 0).toNat - 192 := by unfold c0; rw [if_neg (by omega), if_neg (by omega), if_pos (by omega)]
    rw [hc, hd]
    simp only [acc, Nat.zero_add, Nat.reduceAdd, Nat.reduceSub]
    congr 1
    omega
  · rw [e]
    have hc : cls (r.getD 0 0).toNat = 3 := by unfold cls; rw [if_neg (by omega), if_pos (by omega)]
    have hd : c0 (r.getD 0 0).toNat = (r.getD 0 0).toNat - 224 := by unfold c0; rw [if_neg (by omega), if_pos (by omega)]
    rw [hc, hd]
    simp only [acc, Nat.zero_add, Nat.reduceAdd, Nat.reduceSub]
    congr 1
    omega
  · rw [e]
    have hc : cls (r.getD 0 0).toNat = 4 := by unfold cls; rw [if_pos (by omega)]
    have hd : c0 (r.getD 0 0).toNat = (r.getD 0 0).toNat - 240 := by unfold c0; rw [if_pos (by omega)]
    rw [hc, hd]
    simp only [acc, Nat.zero_add, Nat.reduceAdd, Nat.reduceSub]
    congr 1
    omega
/-- The reference's question, and its answer. -/
theorem rd_iff {r : List UInt8} (h0 : r ≠ []) {n V : Nat} (hn : cls (r.getD 0 0).toNat = n) (hV : acc r (c0 (r.getD 0 0).toNat) (n - 1) = V) :
    (isS (V : Int) ∧ Lib.encodeRune (V : Int) = r.take n) ↔ ¬ bad r := by
  constructor
  · rintro ⟨h1, h2⟩
    have e : r = Lib.encodeRune (V : Int) ++ r.drop n := by rw [h2, List.take_append_drop]
    rw [e]
    exact enc_good h1 _
  · intro hb
    have h := rd_eq h0 hb
    rw [hn, hV] at h
    have g := dN_good h0 hb
    rw [h] at g
    exact ⟨g.1, g.2.1⟩

/-- What the reference's Signs tells, in block g. -/
structure RdAt (w : World) (g : Nat) (v : Value) (b : Bool) : Prop where
  row : w.heap[g]? = some (.cells #[v, .bool b] 77 (0, 0))
theorem RdAt.lt {w : World} {g : Nat} {v : Value} {b : Bool} (h : RdAt w g v b) : g < w.heap.size := lt_of_row h.row
theorem RdAt.keeps {S : Nat → Prop} {a w : World} {g : Nat} {v : Value} {b : Bool} (h : RdAt a g v b) (hk : Keeps S a w) (hs : ¬ S g) : RdAt w g v b := ⟨hk.row h.row hs⟩
theorem RdAt.keep {a w : World} {g : Nat} {v : Value} {b : Bool} (h : RdAt a g v b) (hk : Keeps (fun _ => False) a w) : RdAt w g v b := h.keeps hk (fun h => h)
theorem size25 : (Tryd.prog.info? 77).map (·.size) = some 2 := by kernel_rfl
theorem zero25 : ∀ w, (zeroValue 77).run Tryd.prog w = .ok (.agg #[.slice none 0 0, .bool false]) w := fun _ => by kernel_rfl
theorem build25z (w : World) : (Instr.build 77 #[]).run Tryd.prog w = .ok (.agg #[.slice none 0 0, .bool false]) w := by kernel_rfl
theorem build25 (a : Option Addr) (n c : Nat) (b : Bool) (w : World) : (Instr.build 77 #[(0, .slice a n c), (1, .bool b)]).run Tryd.prog w = .ok (.agg #[.slice a n c, .bool b]) w := by kernel_rfl
theorem one2 (ad : Option Addr) (n c : Nat) (b : Bool) : (#[Value.slice ad n c, .bool b]).all (·.oneCell') = true := by
  rw [Array.all_eq_true_iff_forall_mem]; intro x hx; simp at hx; rcases hx with rfl | rfl <;> rfl
section
variable {ops : Array Oper} {rest : List Oper} {o : Oper} {a : Act} {w : World} {Q : Exit → Act → World → Prop}
theorem wpList_alloc25 (hgd : o.guard = none) (ho : o.op = .alloc 77)
    (h : ∀ g w', RdAt w' g (.slice none 0 0) false → w.heap.size ≤ g → Keeps (fun _ => False) w w' → wpList Tryd.prog ops Q rest (a.put o.dst (.pointer (some ⟨g, 0, none⟩))) w') : wpList Tryd.prog ops Q (o :: rest) a w := by
  refine wpList_plain hgd fun K hK => ?_
  unfold Oper.wp execOp
  simp only [ho, Instr.alloc, zero25, newVar, newRow, Sem.run_bind, Result.andThen_ok, Sem.run_pure]
  exact hK _ _ (h w.heap.size _ ⟨heap_alloc_new w _⟩ (Nat.le_refl _) (keeps_alloc w _))
theorem wpList_build25z (hgd : o.guard = none) (ho : o.op = .build 77 #[])
    (h : wpList Tryd.prog ops Q rest (a.put o.dst (.agg #[.slice none 0 0, .bool false])) w) : wpList Tryd.prog ops Q (o :: rest) a w := by
  refine wpList_plain hgd fun K hK => ?_
  unfold Oper.wp execOp
  simp only [ho, List.map_toArray, List.map_nil, build25z, Sem.run_bind, Result.andThen_ok, Sem.run_pure]
  exact hK _ _ h
theorem wpList_build25 (hgd : o.guard = none) (x y : Operand) (ho : o.op = .build 77 #[(0, x), (1, y)]) (ad : Option Addr) (n c : Nat) (b : Bool) (hx : a.eval x = .slice ad n c) (hy : a.eval y = .bool b)
    (h : wpList Tryd.prog ops Q rest (a.put o.dst (.agg #[.slice ad n c, .bool b])) w) : wpList Tryd.prog ops Q (o :: rest) a w := by
  refine wpList_plain hgd fun K hK => ?_
  unfold Oper.wp execOp
  simp only [ho, hx, hy, List.map_toArray, List.map_cons, List.map_nil, build25, Sem.run_bind, Result.andThen_ok, Sem.run_pure]
  exact hK _ _ h
theorem wpList_store25 (hgd : o.guard = none) (x y : Operand) (ho : o.op = .store 77 x y) (g : Nat) (hx : a.eval x = .pointer (some ⟨g, 0, none⟩)) (ad : Option Addr) (n c : Nat) (b : Bool) (hy : a.eval y = .agg #[.slice ad n c, .bool b]) (v0 : Value) (b0 : Bool) (hb : RdAt w g v0 b0)
    (h : ∀ w', RdAt w' g (.slice ad n c) b → Keeps (· = g) w w' → wpList Tryd.prog ops Q rest (a.put o.dst undef) w') : wpList Tryd.prog ops Q (o :: rest) a w := by
  refine wpList_plain hgd fun K hK => ?_
  unfold Oper.wp execOp
  simp only [ho, hx, hy, Instr.storeAt, Instr.sureAddr, Sem.run_bind, Sem.run_pure, Result.andThen_ok, run_storeVar_row w g 77 77 #[v0, .bool b0] #[.slice ad n c, .bool b] hb.row size25 rfl (one2 ad n c b)]
  exact hK _ _ (h _ ⟨setRow_heap w g _ _ _ _ hb.row⟩ ((Keeps.refl (· = g) w).setRow (.inl rfl) _))
end
theorem results_rd {fn : Func} {p : Tmp} (h : fn.results = #[.cell p 77]) (tmps : Array Value) (w : World) (g : Nat) (v : Value) (b : Bool) (hp : tmps.getD p undef = .pointer (some ⟨g, 0, none⟩)) (hg : RdAt w g v b) :
    (results fn tmps).run Tryd.prog w = .ok (.agg #[v, .bool b]) w := by
  exact results_cell_row h tmps w g 77 #[v, .bool b] (0, 0) _ hp hg.row Tryd.underlying77 rfl size25

end Go.Proofs.YtkcnnkakpkdhkaaDoor
