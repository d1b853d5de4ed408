/- Sums of two words that the call itself laid out. -/
import Derived.Test.YtagempkaophnaaaFacts
import Derived.Test.YtagempkaophnaaaEnds
namespace Go.Proofs.Ytagempkaophnaaa
open Go.ChangeShapes Go.WideShapes Go.ChangeAt Go.RowKit

theorem sum_two (a b : Nat) (w : World) (ha : a < 18446744073709551616) (hb : b < 18446744073709551616) :
    Calls Try.prog 24 #[.slice (some ⟨w.heap.size, 0, none⟩) 2 2] (w.alloc (.cells #[.int .u64 (a : Int), .int .u64 (b : Int)] 22)) fun e w' => e = .returned (.int .u64 (canonN (addN a b) : Nat)) ∧ Grown w w' := by
  have h := sum_any (.slice (some ⟨w.heap.size, 0, none⟩) 2 2) 2 (fun j => ([a, b] : List Nat).getD j 0) (w.alloc (.cells #[.int .u64 (a : Int), .int .u64 (b : Int)] 22))
    (Or.inr ⟨w.heap.size, 0, 2, rfl, by omega, by omega, by omega, fun j hj => made_cell w _ j hj rfl⟩) (small_cells _ (by
      intro x hx
      rcases List.mem_cons.1 hx with rfl | hx
      · exact ha
      · rcases List.mem_cons.1 hx with rfl | hx
        · exact hb
        · cases hx))
  exact h.mono fun e w' ⟨p, q⟩ => ⟨p, grown_trans (Grown.alloc (Grown.refl w) _ _) q.2⟩

end Go.Proofs.Ytagempkaophnaaa
