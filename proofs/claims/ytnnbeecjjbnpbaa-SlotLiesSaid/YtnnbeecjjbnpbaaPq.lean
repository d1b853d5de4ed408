/- The contracts of the program's plans, as the statements' texts take them. -/
import Derived.Test.YtnnbeecjjbnpbaaPo
namespace Go.Proofs.Ytnnbeecjjbnpbaa
open Go.ChangeShapes Go.WideShapes Go.ChangeAt Go.RowKit Go.Deep
set_option linter.unusedVariables false

section
variable (v : Value) (P : Pl) (w : World) (h : IsPlan w v P) (ok : PlOk P)
include h ok
theorem pslots : Calls Try.prog 15 #[v] w fun e w' => e = .returned (.int .i64 (P.S : Nat)) ∧ Bel w w' := by
  obtain ⟨b, g, off, cap, rfl, h⟩ := h
  exact pslots_at w h ok.1.one ok.2.2.2.2.1 fun k hk => (ok.2.2.2.2.2 k hk).1
theorem ppages : Calls Try.prog 16 #[v] w fun e w' => e = .returned (.int .i64 (P.T : Nat)) ∧ Bel w w' := by
  obtain ⟨b, g, off, cap, rfl, h⟩ := h
  exact ppages_at w h ok.1.one ok.2.2.2.2.1 fun k hk => (ok.2.2.2.2.2 k hk).2.2.1
theorem pwords : Calls Try.prog 17 #[v] w fun e w' => e = .returned (.int .i64 (P.W : Nat)) ∧ Bel w w' := by
  obtain ⟨b, g, off, cap, rfl, h⟩ := h
  exact pwords_at w h ok
theorem pof (k : Int) (hk : i64b' k) : Calls Try.prog 13 #[v, .int .i64 k] w fun e w' => e = .returned (.tuple #[.int .i64 (P.ofF k), .int .i64 (P.ofM k), .int .i64 (P.ofE k)]) ∧ Bel w w' := by
  obtain ⟨b, g, off, cap, rfl, h⟩ := h
  exact pof_at w h ok k
theorem pclass (i : Int) (hi : i64b' i) : Calls Try.prog 25 #[v, .int .i64 i] w fun e w' => e = .returned (.tuple #[.int .i64 (P.slR P.cls i), .int .i64 (P.slE i)]) ∧ Bel w w' := by
  obtain ⟨b, g, off, cap, rfl, h⟩ := h
  exact pclass_at w h ok i
theorem psize (i : Int) (hi : i64b' i) : Calls Try.prog 22 #[v, .int .i64 i] w fun e w' => e = .returned (.tuple #[.int .i64 (P.slR P.sz i), .int .i64 (P.slE i)]) ∧ Bel w w' := by
  obtain ⟨b, g, off, cap, rfl, h⟩ := h
  exact psize_at w h ok i
theorem paddr (i : Int) (hi : i64b' i) : Calls Try.prog 21 #[v, .int .i64 i] w fun e w' => e = .returned (.tuple #[.int .i64 (P.slR P.ad i), .int .i64 (P.slE i)]) ∧ Bel w w' := by
  obtain ⟨b, g, off, cap, rfl, h⟩ := h
  exact paddr_at w h ok i
theorem ppage (i : Int) (hi : i64b' i) : Calls Try.prog 23 #[v, .int .i64 i] w fun e w' => e = .returned (.tuple #[.int .i64 (P.slR P.pg i), .int .i64 (P.slE i)]) ∧ Bel w w' := by
  obtain ⟨b, g, off, cap, rfl, h⟩ := h
  exact ppage_at w h ok i
theorem pin (q : Int) (hq : i64b' q) : Calls Try.prog 24 #[v, .int .i64 q] w fun e w' => e = .returned (.tuple #[.int .i64 (P.inF q), .int .i64 (P.inM q), .int .i64 (P.inE q)]) ∧ Bel w w' := by
  obtain ⟨b, g, off, cap, rfl, h⟩ := h
  exact pin_at w h ok q
theorem pat (a : Int) (r e : Int) (ha : i64b' a) (hA : AtR P a r e) : Calls Try.prog 11 #[v, .int .i64 a] w fun x w' => x = .returned (.tuple #[.int .i64 r, .int .i64 e]) ∧ Bel w w' := by
  obtain ⟨b, g, off, cap, rfl, h⟩ := h
  exact pat_at w h ok a r e ha hA
end

/-! Plans that are none: nil; a plan of zeros. -/
theorem pnil_slots (w : World) : Calls Try.prog 15 #[.pointer none] w fun e w' => e = .returned (.int .i64 0) ∧ Bel w w' := slots_none none w (noPlan_nil w)
theorem pnil_words (w : World) : Calls Try.prog 17 #[.pointer none] w fun e w' => e = .returned (.int .i64 0) ∧ Bel w w' := pwords_none none w (noPlan_nil w)
theorem pnil_addr (w : World) (i : Int) : Calls Try.prog 21 #[.pointer none, .int .i64 i] w fun e w' => e = .returned (.tuple #[.int .i64 0, .int .i64 1]) ∧ Bel w w' := paddr_none none i w (noPlan_nil w)
theorem pnil_in (w : World) (i : Int) : Calls Try.prog 24 #[.pointer none, .int .i64 i] w fun e w' => e = .returned (.tuple #[.int .i64 0, .int .i64 0, .int .i64 1]) ∧ Bel w w' := pin_none none i w (noPlan_nil w)
theorem pzero_pages (w : World) (b : Nat) (h : ZeroAt w b) : Calls Try.prog 16 #[.pointer (some ⟨b, 0, none⟩)] w fun e w' => e = .returned (.int .i64 0) ∧ Bel w w' := pages_none _ w (noPlan_zero h)
theorem pzero_at (w : World) (b : Nat) (i : Int) (h : ZeroAt w b) : Calls Try.prog 11 #[.pointer (some ⟨b, 0, none⟩), .int .i64 i] w fun e w' => e = .returned (.tuple #[.int .i64 0, .int .i64 1]) ∧ Bel w w' := pat_none _ i w (noPlan_zero h)
theorem pzero_of (w : World) (b : Nat) (i : Int) (h : ZeroAt w b) : Calls Try.prog 13 #[.pointer (some ⟨b, 0, none⟩), .int .i64 i] w fun e w' => e = .returned (.tuple #[.int .i64 0, .int .i64 0, .int .i64 1]) ∧ Bel w w' := pof_none _ i w (noPlan_zero h)

end Go.Proofs.Ytnnbeecjjbnpbaa
