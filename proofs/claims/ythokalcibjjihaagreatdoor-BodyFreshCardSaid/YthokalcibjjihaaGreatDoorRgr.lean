/- New of the document's plans where there is none; the size that a statement looks at; what is answered of a plan, as numbers. -/
import Derived.Test.YthokalcibjjihaaGreatDoorRnp
import Derived.Test.YthokalcibjjihaaGreatDoorRqa
namespace Go.Proofs.YthokalcibjjihaaGreatDoor
open Go.ChangeShapes Go.WideShapes Go.ChangeAt Go.RowKit Go.Deep
set_option linter.unusedVariables false

/-- the plan that is none -/
abbrev noPlan : Value := .agg #[.slice none 0 0, .slice none 0 0, .slice none 0 0, .int .i64 0, .slice none 0 0]

set_option maxHeartbeats 1000000 in
theorem rnewp_no (v : Value) (c : Cf) (t : Int) (w : World) (h : IsCf w v c) (hno : ¬ c.has t 0) :
    Calls Tryz.prog 34 #[v, .int .i64 t] w fun e w' => e = .returned (.tuple #[.agg #[.slice none 0 0, .slice none 0 0, .slice none 0 0, .int .i64 0, .slice none 0 0], .int .i64 2]) ∧ Bel w w' := by
  have hI := h
  obtain ⟨vc, vt, rfl, hN, hT⟩ := h
  obtain ⟨p1, c1, rfl, _⟩ := nums_slice hN
  obtain ⟨p2, c2, rfl, _⟩ := tens_slice hT
  clear hN hT
  have hb := (Bel.refl w).alloc (.cells #[.slice p1 c.n c1, .int .i64 c.page, .slice p2 c.m c2, .int .i64 c.wk, .int .i64 c.gr, .int .i64 c.gn] 25)
  have hb2 := (Bel.refl (w.alloc (.cells #[.slice p1 c.n c1, .int .i64 c.page, .slice p2 c.m c2, .int .i64 c.wk, .int .i64 c.gr, .int .i64 c.gn] 25))).alloc (.cells #[.slice none 0 0, .slice none 0 0, .slice none 0 0, .int .i64 0, .slice none 0 0] 34)
  have hz := heap_alloc_new (w.alloc (.cells #[.slice p1 c.n c1, .int .i64 c.page, .slice p2 c.m c2, .int .i64 c.wk, .int .i64 c.gr, .int .i64 c.gn] 25)) (.cells #[.slice none 0 0, .slice none 0 0, .slice none 0 0, .int .i64 0, .slice none 0 0] 34)
  rw [size_alloc1] at hz
  have rg := rreg_any _ c t _ (hI.bel (hb.trans hb2))
  rw [Cf.regR_no hno, Cf.hasE_no hno] at rg
  clear hI hno
  go_enter Tryz.func34, Tryz.ntmps34
  go_wp2_with (go_at_call 77; refine rg.mono ?_; rintro e w2 ⟨rfl, hg⟩; have hx := heap_bel hg hz; obtain ⟨⟨z0, z1, z2, z3, z4⟩, f0, f1, f2, f3, f4⟩ := box5 hx)
  (try simp only [Exit.inBlock, Exit.then])
  refine bodyPost_ret (results_cell_row2 rfl _ _ _ 34 _ (0, 0) _ rfl (five_row hx _ _ _ _ _) Tryz.underlying34 rfl info_q) rfl ?_
  have hB := hb.trans (hb2.trans hg)
  exact ⟨rfl, (((((show Below w.heap.size w w2 from hB).setCell (Nat.le_succ _) _).setCell (Nat.le_succ _) _).setCell (Nat.le_succ _) _).setCell (Nat.le_succ _) _).setCell (Nat.le_succ _) _⟩

def Cf.great9 (c : Cf) : Prop := ¬ (c.n ≤ 50 ∧ c.m ≤ 50) ∨ 6000 < c.totR
instance (c : Cf) : Decidable c.great9 := by unfold Cf.great9; infer_instance

/-! What is answered of a plan. -/
namespace Pl
def hasS (P : Pl) (i : Int) : Prop := 0 ≤ i ∧ i < P.S
instance (P : Pl) (i : Int) : Decidable (P.hasS i) := by unfold hasS; infer_instance
def hasK (P : Pl) (k : Int) : Prop := 0 ≤ k ∧ k < P.n
instance (P : Pl) (k : Int) : Decidable (P.hasK k) := by unfold hasK; infer_instance
def hasQ (P : Pl) (q : Int) : Prop := 0 ≤ q ∧ q < P.T
instance (P : Pl) (q : Int) : Decidable (P.hasQ q) := by unfold hasQ; infer_instance
/-- a number of a slot, a class, a page that there is; else 0 -/
def slR (P : Pl) (f : Nat → Nat) (i : Int) : Int := if P.hasS i then (f i.toNat : Nat) else 0
def slE (P : Pl) (i : Int) : Int := if P.hasS i then 0 else 2
def ofF (P : Pl) (k : Int) : Int := if P.hasK k then (P.fo k.toNat : Nat) else 0
def ofM (P : Pl) (k : Int) : Int := if P.hasK k then (P.s k.toNat : Nat) else 0
def ofE (P : Pl) (k : Int) : Int := if P.hasK k then 0 else 2
def inF (P : Pl) (q : Int) : Int := if P.hasQ q then (P.fi q.toNat : Nat) else 0
def inM (P : Pl) (q : Int) : Int := if P.hasQ q then (P.mn q.toNat : Nat) else 0
def inE (P : Pl) (q : Int) : Int := if P.hasQ q then 0 else 2
variable {P : Pl}
theorem slR_ok {f : Nat → Nat} {i : Nat} (h : i < P.S) : P.slR f i = (f i : Nat) := by unfold slR; rw [if_pos ⟨by omega, by omega⟩, Int.toNat_natCast]
theorem slE_ok {i : Nat} (h : i < P.S) : P.slE i = 0 := by unfold slE; rw [if_pos ⟨by omega, by omega⟩]
theorem slR_no {f : Nat → Nat} {i : Int} (h : ¬ P.hasS i) : P.slR f i = 0 := if_neg h
theorem slE_no {i : Int} (h : ¬ P.hasS i) : P.slE i = 2 := if_neg h
theorem of_ok {k : Nat} (h : k < P.n) : P.ofF k = (P.fo k : Nat) ∧ P.ofM k = (P.s k : Nat) ∧ P.ofE k = 0 := by
  unfold ofF ofM ofE; rw [if_pos ⟨by omega, by omega⟩, if_pos ⟨by omega, by omega⟩, if_pos ⟨by omega, by omega⟩, Int.toNat_natCast]; exact ⟨rfl, rfl, rfl⟩
theorem of_not {k : Int} (h : ¬ P.hasK k) : P.ofF k = 0 ∧ P.ofM k = 0 ∧ P.ofE k = 2 := by
  unfold ofF ofM ofE; rw [if_neg h, if_neg h, if_neg h]; exact ⟨rfl, rfl, rfl⟩
theorem in_ok {q : Nat} (h : q < P.T) : P.inF q = (P.fi q : Nat) ∧ P.inM q = (P.mn q : Nat) ∧ P.inE q = 0 := by
  unfold inF inM inE; rw [if_pos ⟨by omega, by omega⟩, if_pos ⟨by omega, by omega⟩, if_pos ⟨by omega, by omega⟩, Int.toNat_natCast]; exact ⟨rfl, rfl, rfl⟩
theorem in_not {q : Int} (h : ¬ P.hasQ q) : P.inF q = 0 ∧ P.inM q = 0 ∧ P.inE q = 2 := by
  unfold inF inM inE; rw [if_neg h, if_neg h, if_neg h]; exact ⟨rfl, rfl, rfl⟩
end Pl

theorem at_dec (P : Pl) (a : Int) : ∃ r e, AtR P a r e := by
  by_cases h : ∃ i : Nat, i < P.S ∧ (P.ad i : Int) = a
  · obtain ⟨i, h1, h2⟩ := h
    exact ⟨i, 0, Or.inl ⟨i, h1, h2, rfl, rfl⟩⟩
  · exact ⟨0, 7, Or.inr ⟨fun i h1 h2 => h ⟨i, h1, h2⟩, rfl, rfl⟩⟩

end Go.Proofs.YthokalcibjjihaaGreatDoor
