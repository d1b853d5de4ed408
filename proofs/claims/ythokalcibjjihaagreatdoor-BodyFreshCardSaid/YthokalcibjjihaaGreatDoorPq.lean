/- The contracts of the program's plans, as the statements' texts take them. -/
import Derived.Test.YthokalcibjjihaaGreatDoorPm
namespace Go.Proofs.YthokalcibjjihaaGreatDoor
open Go.ChangeShapes Go.WideShapes Go.ChangeAt Go.RowKit Go.Deep
set_option linter.unusedVariables false

section
variable (v : Value) (P : Pl) (w : World) (h : IsPlan w v P) (ok : PlOk P)
include h ok
theorem pslots : Calls Tryz.prog 73 #[v] w fun e w' => e = .returned (.int .i64 (P.S : Nat)) ∧ Bel w w' := by
  obtain ⟨b, g, off, cap, rfl, h⟩ := h
  exact pslots_at w h ok.1.one ok.2.2.2.2.1 fun k hk => (ok.2.2.2.2.2 k hk).1
theorem ppages : Calls Tryz.prog 112 #[v] w fun e w' => e = .returned (.int .i64 (P.T : Nat)) ∧ Bel w w' := by
  obtain ⟨b, g, off, cap, rfl, h⟩ := h
  exact ppages_at w h ok.1.one ok.2.2.2.2.1 fun k hk => (ok.2.2.2.2.2 k hk).2.2.1
theorem pwords : Calls Tryz.prog 74 #[v] w fun e w' => e = .returned (.int .i64 (P.W : Nat)) ∧ Bel w w' := by
  obtain ⟨b, g, off, cap, rfl, h⟩ := h
  exact pwords_at w h ok
theorem pclass (i : Int) (hi : i64b' i) : Calls Tryz.prog 95 #[v, .int .i64 i] w fun e w' => e = .returned (.tuple #[.int .i64 (P.slR P.cls i), .int .i64 (P.slE i)]) ∧ Bel w w' := by
  obtain ⟨b, g, off, cap, rfl, h⟩ := h
  exact pclass_at w h ok i
theorem psize (i : Int) (hi : i64b' i) : Calls Tryz.prog 54 #[v, .int .i64 i] w fun e w' => e = .returned (.tuple #[.int .i64 (P.slR P.sz i), .int .i64 (P.slE i)]) ∧ Bel w w' := by
  obtain ⟨b, g, off, cap, rfl, h⟩ := h
  exact psize_at w h ok i
theorem paddr (i : Int) (hi : i64b' i) : Calls Tryz.prog 92 #[v, .int .i64 i] w fun e w' => e = .returned (.tuple #[.int .i64 (P.slR P.ad i), .int .i64 (P.slE i)]) ∧ Bel w w' := by
  obtain ⟨b, g, off, cap, rfl, h⟩ := h
  exact paddr_at w h ok i
end

/-! Plans that are none: nil; a plan of zeros. -/
theorem pnil_slots (w : World) : Calls Tryz.prog 73 #[.pointer none] w fun e w' => e = .returned (.int .i64 0) ∧ Bel w w' := slots_none none w (noPlan_nil w)
theorem pnil_words (w : World) : Calls Tryz.prog 74 #[.pointer none] w fun e w' => e = .returned (.int .i64 0) ∧ Bel w w' := pwords_none none w (noPlan_nil w)
theorem pnil_addr (w : World) (i : Int) : Calls Tryz.prog 92 #[.pointer none, .int .i64 i] w fun e w' => e = .returned (.tuple #[.int .i64 0, .int .i64 1]) ∧ Bel w w' := paddr_none none i w (noPlan_nil w)
theorem pzero_pages (w : World) (b : Nat) (h : ZeroAt w b) : Calls Tryz.prog 112 #[.pointer (some ⟨b, 0, none⟩)] w fun e w' => e = .returned (.int .i64 0) ∧ Bel w w' := pages_none _ w (noPlan_zero h)
end Go.Proofs.YthokalcibjjihaaGreatDoor
