/- Of the program's memories: exists, region, position; what gives up by a panic. -/
import Derived.Test.YteipadpifmjnmaaPim
import Derived.Defers
import Derived.Recover
namespace Go.Proofs.Yteipadpifmjnmaa
open Go.ChangeShapes Go.WideShapes Go.ChangeAt Go.RowKit Go.Deep
set_option linter.unusedVariables false

/-- a panic with an error of that number -/
abbrev gaveUp (x : Int) : Ending := .panicked [{ v := .iface 30 (.int .i64 x), recovered := false }]

theorem pex_yes (p n k : Nat) (a : Option Addr) (w : World) (h : w.cell? ⟨p, 1, none⟩ = some (.slice a n k)) (h1 : 1 ≤ n) (h2 : n ≤ 9223372036854775807) :
    Calls Try.prog 41 #[.pointer (some ⟨p, 0, none⟩)] w fun e w' => e = .returned (.bool true) ∧ w' = w := by
  have d : decide ((0 : Int) < (n : Int)) = true := decide_eq_true (by omega)
  have d2 : decide (0 < n) = true := decide_eq_true (by omega)
  go_enter Try.func41, Try.ntmps41
  go_wp2
  go_ret
  exact ⟨rfl, rfl⟩
theorem pex_no (p : Nat) (w : World) (h : w.cell? ⟨p, 1, none⟩ = some (.slice none 0 0)) :
    Calls Try.prog 41 #[.pointer (some ⟨p, 0, none⟩)] w fun e w' => e = .returned (.bool false) ∧ w' = w := by
  go_enter Try.func41, Try.ntmps41
  go_wp2
  go_ret
  exact ⟨rfl, rfl⟩
theorem pex_nil (w : World) :
    Calls Try.prog 41 #[.pointer none] w fun e w' => e = .returned (.bool false) ∧ w' = w := by
  go_enter Try.func41, Try.ntmps41
  go_wp2
  go_ret
  exact ⟨rfl, rfl⟩

/-- what is no memory -/
def NoMem (w : World) (v : Value) : Prop := v = .pointer none ∨ ∃ p, v = .pointer (some ⟨p, 0, none⟩) ∧ w.cell? ⟨p, 1, none⟩ = some (.slice none 0 0)
theorem pex_none (v : Value) (w : World) (h : NoMem w v) :
    Calls Try.prog 41 #[v] w fun e w' => e = .returned (.bool false) ∧ w' = w := by
  rcases h with rfl | ⟨p, rfl, h⟩
  · exact pex_nil w
  · exact pex_no p w h
theorem IsZero.none {w : World} {b : Nat} (h : IsZero w b) : NoMem w (.pointer (some ⟨b, 0, none⟩)) := Or.inr ⟨b, rfl, cell_of_row _ _ 1 _ _ (0, 0) h⟩
theorem NoMem.bel {w w' : World} {v : Value} (h : NoMem w v) (g : Bel w w') : NoMem w' v := by
  rcases h with h | ⟨p, e, h⟩
  · exact Or.inl h
  · exact Or.inr ⟨p, e, cell_bel g h⟩

theorem preg_none (v : Value) (t : Int) (w : World) (h : NoMem w v) :
    Calls Try.prog 35 #[v, .int .i64 t] w fun e w' => e = gaveUp 1 ∧ w' = w := by
  have hx := pex_none v w h
  clear h
  go_enter Try.func35, Try.ntmps35
  go_wp2_with (go_at_call 41; refine hx.mono ?_; rintro e w' ⟨rfl, rfl⟩)
  exact ⟨rfl, rfl, rfl⟩

/-- what region reads -/
structure Edges (w : World) (p g2 N k2 : Nat) : Prop where
  c1 : w.cell? ⟨p, 1, none⟩ = some (.slice (some ⟨g2, 0, none⟩) N k2)
  ge : 2 ≤ N
  le : N ≤ k2
  bd : k2 ≤ 9223372036854775807
theorem Edges.bel {w w' : World} {p g2 N k2 : Nat} (h : Edges w p g2 N k2) (g : Bel w w') : Edges w' p g2 N k2 := ⟨cell_bel g h.c1, h.ge, h.le, h.bd⟩

theorem preg_arg (p g2 N k2 : Nat) (t : Int) (w : World) (h : Edges w p g2 N k2) (ht : t < 0 ∨ (N : Int) - 1 ≤ t) :
    Calls Try.prog 35 #[.pointer (some ⟨p, 0, none⟩), .int .i64 t] w fun e w' => e = gaveUp 2 ∧ w' = w := by
  obtain ⟨c1, ge, le, bd⟩ := h
  have hx := pex_yes p N k2 _ w c1 (by omega) (by omega)
  by_cases t1 : t < 0
  · clear ht ge le bd
    go_enter Try.func35, Try.ntmps35
    go_wp2_with (go_at_call 41; refine hx.mono ?_; rintro e w' ⟨rfl, rfl⟩)
    exact ⟨rfl, rfl, rfl⟩
  · have d1 : decide (t < 0) = false := decide_eq_false t1
    obtain ⟨M, hM⟩ : ∃ M, (N : Int) - 1 = M := ⟨_, rfl⟩
    have d2 : decide (M ≤ t) = true := decide_eq_true (by omega)
    have d3 : IntKind.i64.wrap ((N : Int) - 1) = M := by rw [IntWalk.i64_in _ (by omega), hM]
    clear ht ge le bd t1 hM
    go_enter Try.func35, Try.ntmps35
    go_wp2_with (go_at_call 41; refine hx.mono ?_; rintro e w' ⟨rfl, rfl⟩)
    exact ⟨rfl, rfl, rfl⟩

set_option maxHeartbeats 1000000 in
theorem preg_yes (p g2 N k2 t b e : Nat) (w : World) (h : Edges w p g2 N k2) (ht : t + 1 < N) (cb : w.cell? ⟨g2, t, none⟩ = some (.int .i64 (b : Nat))) (ce : w.cell? ⟨g2, t + 1, none⟩ = some (.int .i64 (e : Nat))) :
    Calls Try.prog 35 #[.pointer (some ⟨p, 0, none⟩), .int .i64 (t : Nat)] w fun r w' => r = .returned (.tuple #[.int .i64 (b : Nat), .int .i64 (e : Nat)]) ∧ Bel w w' := by
  obtain ⟨c1, ge, le, bd⟩ := h
  have hx := pex_yes p N k2 _ w c1 (by omega) (by omega)
  obtain ⟨M, hM⟩ : ∃ M, (N : Int) - 1 = M := ⟨_, rfl⟩
  obtain ⟨s, hs⟩ : ∃ s, t + 1 = s := ⟨_, rfl⟩
  rw [hs] at ce ht
  have d0 : (0 : Int) ≤ (t : Int) := by omega
  have d1 : decide ((t : Int) < 0) = false := decide_eq_false (by omega)
  have d2 : decide (M ≤ (t : Int)) = false := decide_eq_false (by omega)
  have d3 : IntKind.i64.wrap ((N : Int) - 1) = M := by rw [IntWalk.i64_in _ (by omega), hM]
  have d4 : IntKind.i64.wrap ((t : Int) + 1) = (s : Int) := by rw [IntWalk.i64_in _ (by omega)]; omega
  have d5 : (t : Int) < (N : Int) := by omega
  have d6 : (s : Int) < (N : Int) := by omega
  have d7 : (0 : Int) ≤ (s : Int) := by omega
  clear ht ge le bd hM hs
  go_enter Try.func35, Try.ntmps35
  go_wp2_with (go_at_call 41; refine hx.mono ?_; rintro r w' ⟨rfl, rfl⟩)
  go_quiet (fail)
  go_wp2
  go_ret2
  exact ⟨rfl, Bel.drewN _ _⟩

/-! position. -/
theorem ppos_gives (v : Value) (t a n x : Int) (w : World) (h : Calls Try.prog 35 #[v, .int .i64 t] w fun e w' => e = gaveUp x ∧ w' = w) :
    Calls Try.prog 38 #[v, .int .i64 t, .int .i64 a, .int .i64 n] w fun e w' => e = gaveUp x ∧ w' = w := by
  go_enter Try.func38, Try.ntmps38
  go_wp2_with (go_at_call 35; refine h.mono ?_; rintro e w' ⟨rfl, rfl⟩)
  exact ⟨rfl, rfl, rfl⟩

theorem ppos_no (v : Value) (t a n : Int) (b e : Nat) (w : World) (h : Calls Try.prog 35 #[v, .int .i64 t] w fun r w' => r = .returned (.tuple #[.int .i64 (b : Nat), .int .i64 (e : Nat)]) ∧ Bel w w')
    (hbe : b ≤ e) (he : e ≤ 1000000) (hn : -9223372036854775808 ≤ n ∧ n ≤ 9223372036854775807) (no : a < 0 ∨ n < 0 ∨ (e : Int) - b - n < a) :
    Calls Try.prog 38 #[v, .int .i64 t, .int .i64 a, .int .i64 n] w fun e w' => e = gaveUp 4 ∧ Bel w w' := by
  by_cases a1 : a < 0
  · clear no hbe he hn
    go_enter Try.func38, Try.ntmps38
    go_wp2_with (go_at_call 35; refine h.mono ?_; rintro e w' ⟨rfl, hg⟩)
    exact ⟨rfl, rfl, hg⟩
  · have d1 : decide (a < 0) = false := decide_eq_false a1
    by_cases n1 : n < 0
    · clear no hbe he hn a1
      go_enter Try.func38, Try.ntmps38
      go_wp2_with (go_at_call 35; refine h.mono ?_; rintro e w' ⟨rfl, hg⟩)
      exact ⟨rfl, rfl, hg⟩
    · have d2 : decide (n < 0) = false := decide_eq_false n1
      obtain ⟨m, hm⟩ : ∃ m, (e : Int) - b = m := ⟨_, rfl⟩
      obtain ⟨r, hr⟩ : ∃ r, m - n = r := ⟨_, rfl⟩
      have w1 : IntKind.i64.wrap ((e : Int) - b) = m := by rw [IntWalk.i64_in _ (by omega), hm]
      have w2 : IntKind.i64.wrap (m - n) = r := by rw [IntWalk.i64_in _ (by omega), hr]
      have d3 : decide (r < a) = true := decide_eq_true (by omega)
      clear no hbe he hn a1 n1 hm hr
      go_enter Try.func38, Try.ntmps38
      go_wp2_with (go_at_call 35; refine h.mono ?_; rintro e w' ⟨rfl, hg⟩)
      exact ⟨rfl, rfl, hg⟩

theorem ppos_yes (v : Value) (t : Int) (a n b e : Nat) (w : World) (h : Calls Try.prog 35 #[v, .int .i64 t] w fun r w' => r = .returned (.tuple #[.int .i64 (b : Nat), .int .i64 (e : Nat)]) ∧ Bel w w')
    (he : e ≤ 1000000) (ha : b + a + n ≤ e) :
    Calls Try.prog 38 #[v, .int .i64 t, .int .i64 (a : Nat), .int .i64 (n : Nat)] w fun e w' => e = .returned (.int .i64 (b + a : Nat)) ∧ Bel w w' := by
  have d1 : decide ((a : Int) < 0) = false := decide_eq_false (by omega)
  have d2 : decide ((n : Int) < 0) = false := decide_eq_false (by omega)
  obtain ⟨m, hm⟩ : ∃ m, (e : Int) - b = m := ⟨_, rfl⟩
  obtain ⟨r, hr⟩ : ∃ r, m - (n : Int) = r := ⟨_, rfl⟩
  obtain ⟨s, hs⟩ : ∃ s, b + a = s := ⟨_, rfl⟩
  have w1 : IntKind.i64.wrap ((e : Int) - b) = m := by rw [IntWalk.i64_in _ (by omega), hm]
  have w2 : IntKind.i64.wrap (m - (n : Int)) = r := by rw [IntWalk.i64_in _ (by omega), hr]
  have w3 : IntKind.i64.wrap ((b : Int) + (a : Int)) = (s : Int) := by rw [IntWalk.i64_in _ (by omega)]; omega
  have d3 : decide (r < (a : Int)) = false := decide_eq_false (by omega)
  rw [hs]
  clear ha he hm hr hs
  go_enter Try.func38, Try.ntmps38
  go_wp2_with (go_at_call 35; refine h.mono ?_; rintro e w' ⟨rfl, hg⟩)
  go_ret
  exact ⟨rfl, hg⟩

/-! caught. -/
theorem caught_nil (w : World) : Calls Try.prog 34 #[.nilIface] w fun e w' => e = .returned (.int .i64 0) ∧ w' = w := by
  go_enter Try.func34, Try.ntmps34
  go_wp2
  go_ret
  exact ⟨rfl, rfl⟩
theorem caught_some (x : Int) (w : World) : Calls Try.prog 34 #[.iface 30 (.int .i64 x)] w fun e w' => e = .returned (.int .i64 x) ∧ w' = w := by
  have hq : ∀ w : World, (binOp BinOp.eql 20 (.iface 30 (.int .i64 x)) .nilIface).run Try.prog w = .ok (.bool false) w := fun _ => by kernel_rfl
  have ha : ∀ w : World, (Instr.typeAssert (.iface 30 (.int .i64 x)) 20 30 false).run Try.prog w = .ok (.int .i64 x) w := fun _ => by kernel_rfl
  go_enter Try.func34, Try.ntmps34
  go_wp2
  go_ret
  exact ⟨rfl, rfl⟩

end Go.Proofs.Yteipadpifmjnmaa
