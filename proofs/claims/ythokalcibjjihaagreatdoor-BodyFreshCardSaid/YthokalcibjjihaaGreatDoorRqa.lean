/- Has, At, Of of the document's plans; the size that a statement looks at. -/
import Derived.Test.YthokalcibjjihaaGreatDoorRq
import Derived.Test.YthokalcibjjihaaGreatDoorReg
namespace Go.Proofs.YthokalcibjjihaaGreatDoor
open Go.ChangeShapes Go.WideShapes Go.ChangeAt Go.RowKit Go.Deep
set_option linter.unusedVariables false

theorem agg5_at {w W : World} {a b c d e : Value} {t : TypeId} (h : Bel (w.alloc (.cells #[a, b, c, d, e] t)) W) :
    W.cell? ⟨w.heap.size, 0, none⟩ = some a ∧ W.cell? ⟨w.heap.size, 1, none⟩ = some b ∧ W.cell? ⟨w.heap.size, 2, none⟩ = some c ∧ W.cell? ⟨w.heap.size, 3, none⟩ = some d ∧ W.cell? ⟨w.heap.size, 4, none⟩ = some e :=
  ⟨agg_at h 0, agg_at h 1, agg_at h 2, agg_at h 3, agg_at h 4⟩

/-- is there such a slot? -/
theorem has_any (v : Value) (P : Pl) (n : Int) (w : World) (h : IsQ w v P) :
    Calls Tryz.prog 18 #[v, .int .i64 n] w fun e w' => e = .returned (.bool (decide (0 ≤ n ∧ n < P.S))) ∧ Bel w w' := by
  obtain ⟨Lv, Fv, Mv, p, cap, rfl, ⟨b, off, cL, rfl, _⟩, _, _⟩ := h
  have hb : ∀ o, Bel w (w.alloc o) := fun o => (Bel.refl w).alloc o
  generalize P.S = S at *
  generalize (P.W : Int) = W at *
  by_cases a : 0 ≤ n
  · have e : decide (0 ≤ n ∧ n < S) = decide (n < S) := decide_eq_decide.2 ⟨fun x => x.2, fun x => ⟨a, x⟩⟩
    have d : decide (0 ≤ n) = true := decide_eq_true a
    rw [e]
    go_enter Tryz.func18, Tryz.ntmps18
    go_wp2
    go_ret
    exact ⟨rfl, hb _⟩
  · have e : decide (0 ≤ n ∧ n < S) = false := decide_eq_false fun x => a x.1
    have d : decide (0 ≤ n) = false := decide_eq_false a
    rw [e]
    go_enter Tryz.func18, Tryz.ntmps18
    go_wp2
    go_ret
    exact ⟨rfl, hb _⟩

/-- what At answers -/
def AtR (P : Pl) (a : Int) (r e : Int) : Prop := (∃ i : Nat, i < P.S ∧ (P.ad i : Int) = a ∧ r = i ∧ e = 0) ∨ ((∀ i : Nat, i < P.S → (P.ad i : Int) ≠ a) ∧ r = 0 ∧ e = 7)

/-- how many of the first slots are of a class, and the first of them -/
def manyTo (f s i : Nat) : Nat := min (i - f) s
def firstTo (f s i : Nat) : Nat := if manyTo f s i = 0 then 0 else f

end Go.Proofs.YthokalcibjjihaaGreatDoor
