/- Has, At, Of of the document's plans; the size that a statement looks at. -/
import Derived.Test.YtjgjomojcocegaaDoorRq
import Derived.Test.YtjgjomojcocegaaDoorReg
namespace Go.Proofs.YtjgjomojcocegaaDoor
open Go.ChangeShapes Go.WideShapes Go.ChangeAt Go.RowKit Go.Deep
set_option linter.unusedVariables false

theorem agg5_at {w W : World} {a b c d e : Value} {t : TypeId} (h : Bel (w.alloc (.cells #[a, b, c, d, e] t)) W) :
    W.cell? ⟨w.heap.size, 0, none⟩ = some a ∧ W.cell? ⟨w.heap.size, 1, none⟩ = some b ∧ W.cell? ⟨w.heap.size, 2, none⟩ = some c ∧ W.cell? ⟨w.heap.size, 3, none⟩ = some d ∧ W.cell? ⟨w.heap.size, 4, none⟩ = some e :=
  ⟨agg_at h 0, agg_at h 1, agg_at h 2, agg_at h 3, agg_at h 4⟩

/-- what At answers -/
def AtR (P : Pl) (a : Int) (r e : Int) : Prop := (∃ i : Nat, i < P.S ∧ (P.ad i : Int) = a ∧ r = i ∧ e = 0) ∨ ((∀ i : Nat, i < P.S → (P.ad i : Int) ≠ a) ∧ r = 0 ∧ e = 7)

/-- how many of the first slots are of a class, and the first of them -/
def manyTo (f s i : Nat) : Nat := min (i - f) s
def firstTo (f s i : Nat) : Nat := if manyTo f s i = 0 then 0 else f

end Go.Proofs.YtjgjomojcocegaaDoor
