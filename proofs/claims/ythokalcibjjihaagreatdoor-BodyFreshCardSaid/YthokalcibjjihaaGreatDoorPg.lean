/- The closures of the program's plans; find, as it is called. -/
import Derived.Test.YthokalcibjjihaaGreatDoorPf
namespace Go.Proofs.YthokalcibjjihaaGreatDoor
open Go.ChangeShapes Go.WideShapes Go.ChangeAt Go.RowKit Go.Deep Go.Shelf
set_option linter.unusedVariables false

/-- what find answers -/
abbrev Found (P : Pl) (φ : Nat → Bool) (e : Ending) : Prop :=
  (∃ k, k < P.n ∧ φ k = true ∧ (∀ j, j < k → φ j = false) ∧ e = .returned (.tuple #[P.pt k, .int .i64 0])) ∨ ((∀ k, k < P.n → φ k = false) ∧ e = .returned (.tuple #[pv 0 0 0 0 0 0 0, .int .i64 2]))
theorem Found.yes {P : Pl} {φ : Nat → Bool} {e : Ending} (h : Found P φ e) {K : Nat} (hK : K < P.n) (t : φ K = true) (u : ∀ j, j < P.n → φ j = true → j = K) : e = .returned (.tuple #[P.pt K, .int .i64 0]) := by
  rcases h with ⟨k, h1, h2, _, h4⟩ | ⟨h1, _⟩
  · rw [u k h1 h2] at h4
    exact h4
  · have := h1 K hK
    rw [t] at this
    cases this
theorem Found.no {P : Pl} {φ : Nat → Bool} {e : Ending} (h : Found P φ e) (t : ∀ j, j < P.n → φ j = false) : e = .returned (.tuple #[pv 0 0 0 0 0 0 0, .int .i64 2]) := by
  rcases h with ⟨k, h1, h2, _, h4⟩ | ⟨_, h2⟩
  · rw [t k h1] at h2
    cases h2
  · exact h2

theorem agg_new {w W : World} {vs : Array Value} {t : TypeId} (h : Bel (w.alloc (.cells vs t)) W) (j : Nat) : W.cell? ⟨w.heap.size, j, none⟩ = vs[j]? := blk_cell (heap_bel h (World.alloc_heap_new w _)) j

theorem clo_sl (P : Pl) (k : Nat) (i : Int) (bc : Nat) (w : World) (ha : P.fo k ≤ 4294967296) (hs : P.s k ≤ 4294967296) (hx : w.cell? ⟨bc, 0, none⟩ = some (.int .i64 i)) :
    Calls Tryz.prog 124 #[P.pt k, .pointer (some ⟨bc, 0, none⟩)] w fun e w' => e = .returned (.bool (inS (P.fo k) (P.s k) i)) ∧ Bel w w' := by
  have hb : ∀ o, Bel w (w.alloc o) := fun o => (Bel.refl w).alloc o
  have hh := fun W => has_spn (P.fo k) (P.s k) i W ha hs
  have hx2 := cell_bel (hb (P.blk k)) hx
  dsimp only [Pl.pt, pv, Pl.blk, pblk] at hx2 ⊢
  clear hx
  clear ha hs
  generalize inS (P.fo k) (P.s k) i = R at *
  generalize P.f k = xf at *
  generalize P.e k = xe at *
  generalize P.fo k = xo at *
  generalize P.s k = xs at *
  generalize P.po k = xq at *
  generalize P.p k = xp at *
  go_enter Tryz.func124, Tryz.ntmps124
  go_wp2_with (go_at_call 125; refine (hh _).mono ?_; rintro e w' ⟨rfl, hg⟩)
  go_ret
  exact ⟨rfl, (hb _).trans hg⟩

/-- find, with a closure that was just made -/
theorem fd_sl {b g off cap : Nat} {P : Pl} (i : Int) (w : World) (h : PlanAt w b g off cap P) (hn : 1 ≤ P.n) (h1 : ∀ k, k < P.n → P.fo k ≤ 4294967296 ∧ P.s k ≤ 4294967296) (W : World) (bc : Nat) (hW : Bel w W) (hbc : bc < W.heap.size) (hx : W.cell? ⟨bc, 0, none⟩ = some (.int .i64 i)) :
    Calls Tryz.prog 123 #[.pointer (some ⟨b, 0, none⟩), .func (.func 124) #[] #[.pointer (some ⟨bc, 0, none⟩)]] W fun e w' => Found P (fun k => inS (P.fo k) (P.s k) i) e ∧ Bel W w' :=
  find_sl (fun k => inS (P.fo k) (P.s k) i) bc W (h.bel hW) hn hbc fun W2 g k hk => clo_sl P k i bc W2 (h1 k hk).1 (h1 k hk).2 (cell_bel g hx)

end Go.Proofs.YthokalcibjjihaaGreatDoor
