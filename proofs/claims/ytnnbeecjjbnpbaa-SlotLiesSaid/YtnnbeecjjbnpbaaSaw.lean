/- The document's example, and the calls whose answers the document fixes (awake). -/
import Derived.Test.YtnnbeecjjbnpbaaPq
namespace Go.Proofs.Ytnnbeecjjbnpbaa
open Go.ChangeShapes Go.WideShapes Go.ChangeAt Go.RowKit Go.Deep
set_option linter.unusedVariables false

def exC (pg : Int) : Cf := { n := 2, F := fun j => ([2, 4] : List Int).getD j 0, page := pg, m := 2, Q := fun j => ([20, 4] : List Int).getD j 0, Tr := fun j => ([8, 1] : List Int).getD j 0, Cp := fun j => ([4, 1] : List Int).getD j 0, As := fun j => ([1, 0] : List Int).getD j 0, wk := 1, gr := 2, gn := 3 }
theorem nat_two {j : Nat} (h : j < 2) : j = 0 ∨ j = 1 := by omega
theorem ex_made (w : World) (pg : Int) {W : World} (g : Bel ((w.alloc (.cells #[.int .i64 2, .int .i64 4] 3)).alloc (.cells #[.int .i64 20, .int .i64 8, .int .i64 4, .int .i64 1, .int .i64 4, .int .i64 1, .int .i64 1, .int .i64 0] 56)) W) :
    IsCf W (.agg #[.slice (some ⟨w.heap.size, 0, none⟩) 2 2, .int .i64 pg, .slice (some ⟨w.heap.size + 1, 0, none⟩) 2 2, .int .i64 1, .int .i64 2, .int .i64 3]) (exC pg) := by
  have s1 : (w.alloc (.cells #[.int .i64 2, .int .i64 4] 3)).heap.size = w.heap.size + 1 := size_alloc1 _ _
  have a0 := fun j => agg_at (w := w) (((Bel.refl _).alloc _).trans g) j
  have a1 := fun j => agg_at (w := w.alloc (.cells #[.int .i64 2, .int .i64 4] 3)) g j
  rw [s1] at a1
  refine ⟨_, _, rfl, Or.inr ⟨_, 0, 2, rfl, (by decide : 1 ≤ 2), (by decide : 2 ≤ 2), by decide, fun j hj => ?_⟩, Or.inr ⟨_, 0, 2, rfl, (by decide : 1 ≤ 2), (by decide : 2 ≤ 2), by decide, fun j hj => ?_⟩⟩
  · rcases nat_two hj with rfl | rfl
    · exact a0 0
    · exact a0 1
  · rcases nat_two hj with rfl | rfl
    · exact ⟨a1 0, a1 1, a1 2, a1 3⟩
    · exact ⟨a1 4, a1 5, a1 6, a1 7⟩
theorem ex_ok : (exC 8).ok := by decide
/-- the example's plan -/
def exP : Pl := (exC 8).pl 0
theorem ex_pl : PlOk exP := Cf.pl_ok ex_ok (by decide)
theorem ex_at : AtR exP 18 9 0 := Or.inl ⟨9, by decide, by decide, rfl, rfl⟩
theorem ex_at_no : AtR exP 19 0 7 := by
  refine Or.inr ⟨fun i hi => ?_, rfl, rfl⟩
  have h : ∀ j : Fin 15, (exP.ad j : Int) ≠ 19 := by decide
  exact h ⟨i, hi⟩

section
variable {v : Value} {w : World} (h : IsPlan w v exP)
include h
theorem ex1 : Calls Try.prog 21 #[v, .int .i64 9] w fun e w' => e = .returned (.tuple #[.int .i64 18, .int .i64 0]) ∧ Bel w w' := by
  have k := paddr v exP w h ex_pl 9 ⟨by decide, by decide⟩
  rw [show exP.slR exP.ad 9 = 18 by kernel_rfl, show exP.slE 9 = 0 by kernel_rfl] at k
  exact k
theorem ex2 : Calls Try.prog 21 #[v, .int .i64 14] w fun e w' => e = .returned (.tuple #[.int .i64 40, .int .i64 0]) ∧ Bel w w' := by
  have k := paddr v exP w h ex_pl 14 ⟨by decide, by decide⟩
  rw [show exP.slR exP.ad 14 = 40 by kernel_rfl, show exP.slE 14 = 0 by kernel_rfl] at k
  exact k
theorem ex3 : Calls Try.prog 25 #[v, .int .i64 10] w fun e w' => e = .returned (.tuple #[.int .i64 1, .int .i64 0]) ∧ Bel w w' := by
  have k := pclass v exP w h ex_pl 10 ⟨by decide, by decide⟩
  rw [show exP.slR exP.cls 10 = 1 by kernel_rfl, show exP.slE 10 = 0 by kernel_rfl] at k
  exact k
theorem ex4 : Calls Try.prog 23 #[v, .int .i64 10] w fun e w' => e = .returned (.tuple #[.int .i64 3, .int .i64 0]) ∧ Bel w w' := by
  have k := ppage v exP w h ex_pl 10 ⟨by decide, by decide⟩
  rw [show exP.slR exP.pg 10 = 3 by kernel_rfl, show exP.slE 10 = 0 by kernel_rfl] at k
  exact k
theorem ex5 : Calls Try.prog 24 #[v, .int .i64 5] w fun e w' => e = .returned (.tuple #[.int .i64 14, .int .i64 1, .int .i64 0]) ∧ Bel w w' := by
  have k := pin v exP w h ex_pl 5 ⟨by decide, by decide⟩
  rw [show exP.inF 5 = 14 by kernel_rfl, show exP.inM 5 = 1 by kernel_rfl, show exP.inE 5 = 0 by kernel_rfl] at k
  exact k
theorem ex6 : Calls Try.prog 11 #[v, .int .i64 18] w fun e w' => e = .returned (.tuple #[.int .i64 9, .int .i64 0]) ∧ Bel w w' := pat v exP w h ex_pl 18 9 0 ⟨by decide, by decide⟩ ex_at
theorem ex7 : Calls Try.prog 11 #[v, .int .i64 19] w fun e w' => e = .returned (.tuple #[.int .i64 0, .int .i64 7]) ∧ Bel w w' := pat v exP w h ex_pl 19 0 7 ⟨by decide, by decide⟩ ex_at_no
theorem ex8 : Calls Try.prog 21 #[v, .int .i64 15] w fun e w' => e = .returned (.tuple #[.int .i64 0, .int .i64 2]) ∧ Bel w w' := by
  have k := paddr v exP w h ex_pl 15 ⟨by decide, by decide⟩
  rw [show exP.slR exP.ad 15 = 0 by kernel_rfl, show exP.slE 15 = 2 by kernel_rfl] at k
  exact k
theorem ex9 : Calls Try.prog 15 #[v] w fun e w' => e = .returned (.int .i64 15) ∧ Bel w w' := by
  have k := pslots v exP w h ex_pl
  rw [show exP.S = 15 by kernel_rfl] at k
  exact k
theorem ex10 : Calls Try.prog 16 #[v] w fun e w' => e = .returned (.int .i64 6) ∧ Bel w w' := by
  have k := ppages v exP w h ex_pl
  rw [show exP.T = 6 by kernel_rfl] at k
  exact k
theorem ex11 : Calls Try.prog 17 #[v] w fun e w' => e = .returned (.int .i64 48) ∧ Bel w w' := by
  have k := pwords v exP w h ex_pl
  rw [show exP.W = 48 by kernel_rfl] at k
  exact k
end

set_option maxRecDepth 100000 in
set_option maxHeartbeats 2000000 in
theorem awake_any (w : World) : Calls Try.prog 8 #[] w fun e w' => e = .returned (.bool true) ∧ Bel w w' := by
  have g0 := ((Bel.refl w).alloc (.cells #[.int .i64 2, .int .i64 4] 3)).alloc (.cells #[.int .i64 20, .int .i64 8, .int .i64 4, .int .i64 1, .int .i64 4, .int .i64 1, .int .i64 1, .int .i64 0] 56)
  have nw := fun W (g : Bel ((w.alloc (.cells #[.int .i64 2, .int .i64 4] 3)).alloc (.cells #[.int .i64 20, .int .i64 8, .int .i64 4, .int .i64 1, .int .i64 4, .int .i64 1, .int .i64 1, .int .i64 0] 56)) W) => pnew_yes _ (exC 8) 0 W (ex_made w 8 g) ex_ok (by decide)
  have g1 := (Bel.refl ((w.alloc (.cells #[.int .i64 2, .int .i64 4] 3)).alloc (.cells #[.int .i64 20, .int .i64 8, .int .i64 4, .int .i64 1, .int .i64 4, .int .i64 1, .int .i64 1, .int .i64 0] 56))).alloc (.cells #[.slice (some ⟨w.heap.size, 0, none⟩) 2 2, .int .i64 8, .slice (some ⟨w.heap.size + 1, 0, none⟩) 2 2, .int .i64 1, .int .i64 2, .int .i64 3] 25)
  have nw1 := nw _ g1
  clear nw
  go_enter Try.func8, Try.ntmps8
  go_wp2_with (first
    | (go_at_call 9; (refine nw1.mono ?_; rintro e w2 ⟨⟨p, rfl, hP⟩, h2⟩; have P2 : IsPlan w2 (.pointer (some p)) exP := hP; have g2 := g0.trans (g1.trans h2); clear hP nw1))
    | (go_at_call 21; ((with_reducible refine (ex1 P2).mono ?_); rintro e w3 ⟨rfl, h3⟩; have P3 := P2.bel h3; have g3 := g2.trans h3))
    | (go_at_call 21; ((with_reducible refine (ex2 P3).mono ?_); rintro e w4 ⟨rfl, h4⟩; have P4 := P3.bel h4; have g4 := g3.trans h4))
    | (go_at_call 25; ((with_reducible refine (ex3 P4).mono ?_); rintro e w5 ⟨rfl, h5⟩; have P5 := P4.bel h5; have g5 := g4.trans h5))
    | (go_at_call 23; ((with_reducible refine (ex4 P5).mono ?_); rintro e w6 ⟨rfl, h6⟩; have P6 := P5.bel h6; have g6 := g5.trans h6))
    | (go_at_call 24; ((with_reducible refine (ex5 P6).mono ?_); rintro e w7 ⟨rfl, h7⟩; have P7 := P6.bel h7; have g7 := g6.trans h7))
    | (go_at_call 11; ((with_reducible refine (ex6 P7).mono ?_); rintro e w8 ⟨rfl, h8⟩; have P8 := P7.bel h8; have g8 := g7.trans h8))
    | (go_at_call 11; ((with_reducible refine (ex7 P8).mono ?_); rintro e w9 ⟨rfl, h9⟩; have P9 := P8.bel h9; have g9 := g8.trans h9))
    | (go_at_call 21; ((with_reducible refine (ex8 P9).mono ?_); rintro e wA ⟨rfl, hA⟩; have PA := P9.bel hA; have gA := g9.trans hA))
    | (go_at_call 15; ((with_reducible refine (ex9 PA).mono ?_); rintro e wB ⟨rfl, hB⟩; have PB := PA.bel hB; have gB := gA.trans hB))
    | (go_at_call 16; ((with_reducible refine (ex10 PB).mono ?_); rintro e wC ⟨rfl, hC⟩; have PC := PB.bel hC; have gC := gB.trans hC))
    | (go_at_call 17; ((with_reducible refine (ex11 PC).mono ?_); rintro e wD ⟨rfl, hD⟩; have gD := gC.trans hD)))
  go_ret
  exact ⟨rfl, gD⟩

end Go.Proofs.Ytnnbeecjjbnpbaa
