/-
  SuperTorn: the law.
-/
import Derived.Test.YtdgnjpdjohibeaaDoorTc
set_option linter.all false
set_option maxRecDepth 100000
namespace Go.Proofs.YtdgnjpdjohibeaaDoor
open Go.RowKit Go.Sort Go.Shelf

theorem tornL (w : World) (hT : Tabs w) (a : Option Addr) (n c : Nat) (hS : SupsAt w a n) (hn : n ≤ 9223372036854775807) (v : Value) (xs : List StepV) (hX : StepsAt w v xs) (hl : xs.length ≤ 9223372036854775807) :
    Calls Tryd.prog 5 #[.slice a n c, v] w fun e w' => e = .returned (.bool true) ∧ Keeps (fun _ => False) w w' := by
  obtain ⟨xa, xc, rfl, hx⟩ := hX
  have hX : StepsAt w (.slice xa xs.length xc) xs := ⟨xa, xc, rfl, hx⟩
  by_cases h20 : 20 < n
  · exact torn_many w hT a n c hn xa xc xs hX hl h20
  · by_cases h2 : xs.length < n
    · exact torn_few w hT a n c hn xa xc xs hX hl (by omega) h2
    · by_cases hf : fairB xs = true
      · exact torn_yes w hT a n c hS xa xc xs.length xs hX rfl hl (by omega) (by omega) hf
      · exact torn_unfair w hT a n c xa xc xs.length xs hX hl (by omega) (by omega) (by simpa using hf)
end Go.Proofs.YtdgnjpdjohibeaaDoor
