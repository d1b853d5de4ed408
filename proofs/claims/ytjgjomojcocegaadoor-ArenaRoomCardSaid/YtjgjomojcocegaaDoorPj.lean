/- In of the program's plans. -/
import Derived.Test.YtjgjomojcocegaaDoorPi
import Derived.Lib.MinMax
namespace Go.Proofs.YtjgjomojcocegaaDoor
open Go.ChangeShapes Go.WideShapes Go.ChangeAt Go.RowKit Go.Deep Go.Shelf

/-- a part's cells, and that all lies as it lay -/
theorem keep7 {w W : World} {B : Nat} {x0 x1 x2 x3 x4 x5 x6 : Value} {t : TypeId} (hB : w.heap[B]? = some (.cells #[x0, x1, x2, x3, x4, x5, x6] t (0, 0))) (g : Bel w W) :
    Bel w W ∧ (W.cell? ⟨B, 0, none⟩ = some x0 ∧ W.cell? ⟨B, 1, none⟩ = some x1 ∧ W.cell? ⟨B, 2, none⟩ = some x2 ∧ W.cell? ⟨B, 3, none⟩ = some x3 ∧ W.cell? ⟨B, 4, none⟩ = some x4 ∧ W.cell? ⟨B, 5, none⟩ = some x5 ∧ W.cell? ⟨B, 6, none⟩ = some x6) :=
  ⟨g, (box7 (heap_bel g hB)).1⟩

end Go.Proofs.YtjgjomojcocegaaDoor
