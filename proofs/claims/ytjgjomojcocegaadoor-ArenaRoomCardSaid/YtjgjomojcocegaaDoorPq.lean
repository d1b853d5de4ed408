/- The contracts of the program's plans, as the statements' texts take them. -/
import Derived.Test.YtjgjomojcocegaaDoorPo
namespace Go.Proofs.YtjgjomojcocegaaDoor
open Go.ChangeShapes Go.WideShapes Go.ChangeAt Go.RowKit Go.Deep
set_option linter.unusedVariables false

section
variable (v : Value) (P : Pl) (w : World) (h : IsPlan w v P) (ok : PlOk P)
include h ok
theorem pslots : Calls Tryd.prog 47 #[v] w fun e w' => e = .returned (.int .i64 (P.S : Nat)) ∧ Bel w w' := by
  obtain ⟨b, g, off, cap, rfl, h⟩ := h
  exact pslots_at w h ok.1.one ok.2.2.2.2.1 fun k hk => (ok.2.2.2.2.2 k hk).1
theorem pof (k : Int) (hk : i64b' k) : Calls Tryd.prog 39 #[v, .int .i64 k] w fun e w' => e = .returned (.tuple #[.int .i64 (P.ofF k), .int .i64 (P.ofM k), .int .i64 (P.ofE k)]) ∧ Bel w w' := by
  obtain ⟨b, g, off, cap, rfl, h⟩ := h
  exact pof_at w h ok k
theorem psize (i : Int) (hi : i64b' i) : Calls Tryd.prog 67 #[v, .int .i64 i] w fun e w' => e = .returned (.tuple #[.int .i64 (P.slR P.sz i), .int .i64 (P.slE i)]) ∧ Bel w w' := by
  obtain ⟨b, g, off, cap, rfl, h⟩ := h
  exact psize_at w h ok i
end

/-! Plans that are none: nil; a plan of zeros. -/
theorem pnil_slots (w : World) : Calls Tryd.prog 47 #[.pointer none] w fun e w' => e = .returned (.int .i64 0) ∧ Bel w w' := slots_none none w (noPlan_nil w)
theorem pzero_of (w : World) (b : Nat) (i : Int) (h : ZeroAt w b) : Calls Tryd.prog 39 #[.pointer (some ⟨b, 0, none⟩), .int .i64 i] w fun e w' => e = .returned (.tuple #[.int .i64 0, .int .i64 0, .int .i64 1]) ∧ Bel w w' := pof_none _ i w (noPlan_zero h)

end Go.Proofs.YtjgjomojcocegaaDoor
