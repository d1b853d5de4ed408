/- What is asked, among the parameters, opened. -/
import Derived.Test.YtnnbeecjjbnpbaaOpc
import Derived.Test.YtnnbeecjjbnpbaaPq
namespace Go.Proofs.Ytnnbeecjjbnpbaa
open Go.ChangeShapes Go.WideShapes Go.ChangeAt Go.RowKit Go.Joins Go.Deep

theorem cells_asked : Try.prog.cellsOf 27 = 4 := by kernel_rfl
theorem get_asked {H : Type} {enc : TypeId × Value → H} {W : World} {r : Reach} {b0 : Nat} {v : Value} {d : DataW H} {p : List MemPlace} (hv : Value.okWide Try.prog W r b0 27 v) (h : DataW.Trod enc Try.prog W 0 (fun _ => true) true 27 v d p) :
    ∃ q t c a : Int, v = .agg #[.int .i64 q, .int .i64 t, .int .i64 c, .int .i64 a] ∧ i64b' q ∧ i64b' t ∧ i64b' c ∧ i64b' a := by
  obtain ⟨v0, v1, v2, v3, y0, y1, y2, y3, k, rfl, _, _, g0, g1, g2, g3⟩ := open_agg4 Try.underlying27 (by kernel_rfl) cells_asked hv h
  obtain ⟨q, rfl, h0⟩ := cell_i64 Try.underlying3 g0
  obtain ⟨t, rfl, h1⟩ := cell_i64 Try.underlying3 g1
  obtain ⟨c, rfl, h2⟩ := cell_i64 Try.underlying3 g2
  obtain ⟨a, rfl, h3⟩ := cell_i64 Try.underlying3 g3
  exact ⟨q, t, c, a, rfl, h0, h1, h2, h3⟩

end Go.Proofs.Ytnnbeecjjbnpbaa
