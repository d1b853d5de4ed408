/- pageOf, Class, Size, Page, Addr of the program's plans. -/
import Derived.Test.YtjgjomojcocegaaDoorPh
namespace Go.Proofs.YtjgjomojcocegaaDoor
open Go.ChangeShapes Go.WideShapes Go.ChangeAt Go.RowKit Go.Deep Go.Shelf

theorem psize_at {b g off cap : Nat} {P : Pl} (w : World) (h : PlanAt w b g off cap P) (ok : PlOk P) (i : Int) :
    Calls Tryd.prog 67 #[.pointer (some ⟨b, 0, none⟩), .int .i64 i] w fun e w' => e = .returned (.tuple #[.int .i64 (P.slR P.sz i), .int .i64 (P.slE i)]) ∧ Bel w w' := by
  by_cases hi : P.hasS i
  · have hi' := hi
    unfold Pl.hasS at hi'
    obtain ⟨I, rfl⟩ : ∃ I : Nat, i = I := ⟨i.toNat, by omega⟩
    have hI : I < P.S := by omega
    rw [Pl.slR_ok hI, Pl.slE_ok hI]
    obtain ⟨k, j, hk, hj, rfl⟩ := Pl.slot_of hI
    have pt := partof_yes w h ok hk hj
    rw [Pl.sz_at hk hj]
    dsimp only [Pl.pt, pv] at pt
    have hbb : ∀ {W : World} (o : Obj), Bel w W → Bel w (W.alloc o) := fun o g => g.alloc o
    clear h ok hk hj hi hi' hI
    generalize ((P.fo k + j : Nat) : Int) = I at *
    generalize P.f k = xf at *
    generalize P.e k = xe at *
    generalize P.fo k = xo at *
    generalize P.s k = xs at *
    generalize P.po k = xq at *
    generalize P.p k = xp at *
    go_enter Tryd.func67, Tryd.ntmps67
    go_wp2_with (go_at_call 82; refine pt.mono ?_; rintro e w' ⟨rfl, hg⟩)
    go_ret2
    exact ⟨rfl, hbb _ hg⟩
  · rw [Pl.slR_no hi, Pl.slE_no hi]
    have pt := partof_no w h ok hi
    dsimp only [pv] at pt
    have hbb : ∀ {W : World} (o : Obj), Bel w W → Bel w (W.alloc o) := fun o g => g.alloc o
    clear h ok hi
    go_enter Tryd.func67, Tryd.ntmps67
    go_wp2_with (go_at_call 82; refine pt.mono ?_; rintro e w' ⟨rfl, hg⟩)
    go_ret2
    exact ⟨rfl, hbb _ hg⟩

/-- a part's cells and a page's, and that all lies as it lay -/
theorem keep8 {w W : World} {B b : Nat} {x0 x1 x2 x3 x4 x5 x6 y : Value} {t : TypeId} (hB : w.heap[B]? = some (.cells #[x0, x1, x2, x3, x4, x5, x6] t (0, 0))) (hp : w.cell? ⟨b, 0, none⟩ = some y) (g : Bel w W) :
    Bel w W ∧ (W.cell? ⟨B, 0, none⟩ = some x0 ∧ W.cell? ⟨B, 1, none⟩ = some x1 ∧ W.cell? ⟨B, 2, none⟩ = some x2 ∧ W.cell? ⟨B, 3, none⟩ = some x3 ∧ W.cell? ⟨B, 4, none⟩ = some x4 ∧ W.cell? ⟨B, 5, none⟩ = some x5 ∧ W.cell? ⟨B, 6, none⟩ = some x6) ∧ W.cell? ⟨b, 0, none⟩ = some y :=
  ⟨g, (box7 (heap_bel g hB)).1, cell_bel g hp⟩

end Go.Proofs.YtjgjomojcocegaaDoor
