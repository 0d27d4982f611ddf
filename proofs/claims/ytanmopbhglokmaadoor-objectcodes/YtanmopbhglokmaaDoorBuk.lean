/-
  A slice of one block, laid down.
-/
import Derived.Test.YtanmopbhglokmaaDoorTk
set_option linter.all false
namespace Go.Proofs.YtanmopbhglokmaaDoor
open Go.RowKit Go.Sort

theorem wpList_buildK {ops : Array Oper} {rest : List Oper} {o : Oper} {a : Act} {w : World} {Q : Exit → Act → World → Prop} (hgd : o.guard = none) (x : Operand) (ho : o.op = .buildSlice 23 1 #[(0, x)]) (l : List B) (hx : a.eval x = .agg (brow l)) (hl : l.length = 128)
    (h : ∀ w', SlB w' (some ⟨w.heap.size, 0, none⟩) (1 * 128) (1 * 128) l → Keeps (fun _ => False) w w' → wpList Tryd.prog ops Q rest (a.put o.dst (.slice (some ⟨w.heap.size, 0, none⟩) 1 1)) w') : wpList Tryd.prog ops Q (o :: rest) a w :=
  wpList_buildB hgd x ho l hx hl (h _ (by have := slb_box (heap_alloc_new w (.cells (brow l) 40)); rwa [hl] at this) (keeps_alloc w _))

end Go.Proofs.YtanmopbhglokmaaDoor
