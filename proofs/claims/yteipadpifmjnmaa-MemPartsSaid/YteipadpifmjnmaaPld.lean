/- Load of the program's memories. -/
import Derived.Test.YteipadpifmjnmaaPdf
namespace Go.Proofs.Yteipadpifmjnmaa
open Go.ChangeShapes Go.WideShapes Go.ChangeAt Go.RowKit Go.Deep
set_option linter.unusedVariables false

/-- a box of one cell, the first that the call made -/
structure Bx (w W : World) (a : Value) (t : TypeId) : Prop where
  heap : W.heap[w.heap.size]? = some (.cells #[a] t (0, 0))
  bel : Bel w W
theorem Bx.made {w W : World} {a : Value} {t : TypeId} (h : Bel (w.alloc (.cells #[a] t)) W) : Bx w W a t := ⟨box_at h, ((Bel.refl w).alloc _).trans h⟩
theorem Bx.cell {w W : World} {a : Value} {t : TypeId} (h : Bx w W a t) : W.cell? ⟨w.heap.size, 0, none⟩ = some a := cell_of_row _ _ 0 _ _ (0, 0) h.heap
theorem Bx.free {w W : World} {a : Value} {t : TypeId} (h : Bx w W a t) : W.frozen? ⟨w.heap.size, 0, none⟩ = false := frozen_of_row _ _ 0 _ _ h.heap
theorem Bx.set {w W : World} {a : Value} {t : TypeId} (h : Bx w W a t) (x : Value) : Bx w (W.setCell ⟨w.heap.size, 0, none⟩ x) x t :=
  ⟨heap_setCell_same W _ 0 _ t x h.heap, set_bel h.bel (Nat.le_refl _) _ _⟩
theorem Bx.go {w W W' : World} {a : Value} {t : TypeId} (h : Bx w W a t) (g : Bel W W') : Bx w W' a t := ⟨heap_bel g h.heap, h.bel.trans g⟩
theorem hmf (fn : Fn) (first cap : Array Value) (w : World) : (Instr.makeFunc fn first cap).run Try.prog w = .ok (.func fn first cap) w := rfl

theorem pl_no (v : Value) (t a x : Int) (w : World) (h : ∀ W, Bel w W → Calls Try.prog 38 #[v, .int .i64 t, .int .i64 a, .int .i64 1] W fun e w' => e = gaveUp x ∧ Bel W w') :
    Calls Try.prog 17 #[v, .int .i64 t, .int .i64 a] w fun e w' => e = .returned (.tuple #[.int .u64 0, .int .i64 x]) ∧ Bel w w' := by
  have hm := hmf
  go_enter_defers Try.func17, Try.ntmps17
  go_wp2_with (go_at_call 38; refine (h _ ((Bel.refl w).alloc _)).mono ?_; rintro e w' ⟨rfl, hg⟩)
  have B := Bx.made hg
  have B1 := B.set (.int .i64 x)
  refine leaves_cons (f := 40) (args := #[.pointer (some ⟨w.heap.size, 0, none⟩)]) (by simp) (by simp [go_sem]) ?_
  refine (load_catch _ 0 x [] _ B.cell B.free).mono ?_
  rintro e u' w'' ⟨rfl, rfl, rfl⟩
  simp [Leaves, settle, results, Try.results17, go_sem, B1.cell, B1.bel]

theorem pl_yes (p g1 n k1 j u : Nat) (t a : Int) (w : World) (c0 : w.cell? ⟨p, 0, none⟩ = some (.slice (some ⟨g1, 0, none⟩) n k1)) (cj : w.cell? ⟨g1, j, none⟩ = some (.int .u64 (u : Nat))) (hj : j < n)
    (h : ∀ W, Bel w W → Calls Try.prog 38 #[.pointer (some ⟨p, 0, none⟩), .int .i64 t, .int .i64 a, .int .i64 1] W fun e w' => e = .returned (.int .i64 (j : Nat)) ∧ Bel W w') :
    Calls Try.prog 17 #[.pointer (some ⟨p, 0, none⟩), .int .i64 t, .int .i64 a] w fun e w' => e = .returned (.tuple #[.int .u64 (u : Nat), .int .i64 0]) ∧ Bel w w' := by
  have hm := hmf
  have j1 : (j : Int) < (n : Int) := by omega
  have j0 : (0 : Int) ≤ (j : Int) := by omega
  clear hj
  go_enter_defers Try.func17, Try.ntmps17
  go_wp2_with (go_at_call 38; refine (h _ ((Bel.refl w).alloc _)).mono ?_; rintro e w' ⟨rfl, hg⟩; have b0 := (Bx.made hg).cell; have f0 := (Bx.made hg).free; have q0 := cell_bel (((Bel.refl w).alloc _).trans hg) c0; have qj := cell_bel (((Bel.refl w).alloc _).trans hg) cj)
  have B1 := (Bx.made hg).set (.int .i64 0)
  have B2 := B1.set (.int .i64 0)
  refine leaves_cons (f := 40) (args := #[.pointer (some ⟨w.heap.size, 0, none⟩)]) (by simp) (by simp [go_sem]) ?_
  refine (load_idle _ 0 _ B1.cell B1.free).mono ?_
  rintro e u' w'' ⟨rfl, rfl, rfl⟩
  simp [Leaves, settle, results, Try.results17, go_sem, B2.cell, B2.bel]

end Go.Proofs.Yteipadpifmjnmaa
