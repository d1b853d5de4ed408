/- A plan of the program, as it lies; its small functions; the traversal of its parts. -/
import Derived.Test.YthokalcibjjihaaGreatDoorPcf
import Derived.Test.YthokalcibjjihaaGreatDoorRq
import Derived.RangeFuncNested
import Derived.RangeFuncBound
import Derived.RangeFuncCalls
import Derived.RangeFuncLeaves
import Derived.RangeFuncBox
import Derived.Shelf.Abstract
import Derived.Shelf.RegionOpen
import Derived.OwnWalkIn
import Derived.TacticsInMore
import Derived.LoopNIn
import Derived.LoopIn
import Derived.BigQuiet
namespace Go.Proofs.YthokalcibjjihaaGreatDoor
open Go.ChangeShapes Go.WideShapes Go.ChangeAt Go.RowKit Go.Deep Go.Shelf
attribute [local go_sem] Oper.semAt_some

/-- seven numbers of a part -/
abbrev pv (a b c d e f g : Nat) : Value := .agg #[.int .i64 a, .int .i64 b, .int .i64 c, .int .i64 d, .int .i64 e, .int .i64 f, .int .i64 g]
/-- a part's cells -/
def Part (w : World) (b o : Nat) (x0 x1 x2 x3 x4 x5 x6 : Nat) : Prop :=
  w.cell? ⟨b, o, none⟩ = some (.int .i64 (x0 : Nat)) ∧ w.cell? ⟨b, o + 1, none⟩ = some (.int .i64 (x1 : Nat)) ∧ w.cell? ⟨b, o + 2, none⟩ = some (.int .i64 (x2 : Nat)) ∧ w.cell? ⟨b, o + 3, none⟩ = some (.int .i64 (x3 : Nat)) ∧
    w.cell? ⟨b, o + 4, none⟩ = some (.int .i64 (x4 : Nat)) ∧ w.cell? ⟨b, o + 5, none⟩ = some (.int .i64 (x5 : Nat)) ∧ w.cell? ⟨b, o + 6, none⟩ = some (.int .i64 (x6 : Nat))
theorem cell_below {w w' : World} {n : Nat} {a : Addr} {v : Value} (k : Below n w w') (ha : a.block < n) (h : w.cell? a = some v) : w'.cell? a = some v := (k.cell ha).trans h
theorem Part.below {w w' : World} {n b o x0 x1 x2 x3 x4 x5 x6 : Nat} (h : Part w b o x0 x1 x2 x3 x4 x5 x6) (k : Below n w w') (hb : b < n) : Part w' b o x0 x1 x2 x3 x4 x5 x6 := by
  obtain ⟨h0, h1, h2, h3, h4, h5, h6⟩ := h
  exact ⟨cell_below k hb h0, cell_below k hb h1, cell_below k hb h2, cell_below k hb h3, cell_below k hb h4, cell_below k hb h5, cell_below k hb h6⟩
/-- the part of a class -/
abbrev Pl.pt (P : Pl) (k : Nat) : Value := pv k (P.f k) (P.e k) (P.fo k) (P.s k) (P.po k) (P.p k)
/-- a plan's cells -/
def PlanAt (w : World) (b g off cap : Nat) (P : Pl) : Prop :=
  b < w.heap.size ∧ g < w.heap.size ∧ w.cell? ⟨b, 0, none⟩ = some (.int .i64 (P.g : Nat)) ∧ w.cell? ⟨b, 1, none⟩ = some (.slice (some ⟨g, off, none⟩) P.n cap) ∧ P.n ≤ cap ∧ cap ≤ 9223372036854775807 ∧
    ∀ k, k < P.n → Part w g (off + k * 7) k (P.f k) (P.e k) (P.fo k) (P.s k) (P.po k) (P.p k)
/-- a plan of the program -/
def IsPlan (w : World) (v : Value) (P : Pl) : Prop := ∃ b g off cap, v = .pointer (some ⟨b, 0, none⟩) ∧ PlanAt w b g off cap P
theorem PlanAt.below {w w' : World} {n b g off cap : Nat} {P : Pl} (h : PlanAt w b g off cap P) (k : Below n w w') (hb : b < n) (hg : g < n) : PlanAt w' b g off cap P := by
  obtain ⟨h1, h2, h3, h4, h5, h6, h7⟩ := h
  exact ⟨Nat.lt_of_lt_of_le h1 k.size, Nat.lt_of_lt_of_le h2 k.size, cell_below k hb h3, cell_below k hb h4, h5, h6, fun j hj => (h7 j hj).below k hg⟩
theorem PlanAt.bel {w w' : World} {b g off cap : Nat} {P : Pl} (h : PlanAt w b g off cap P) (k : Bel w w') : PlanAt w' b g off cap P := h.below k h.1 h.2.1
theorem IsPlan.bel {w w' : World} {v : Value} {P : Pl} (h : IsPlan w v P) (g : Bel w w') : IsPlan w' v P := by
  obtain ⟨b, x, off, cap, e, h⟩ := h
  exact ⟨b, x, off, cap, e, h.bel g⟩
theorem IsPlan.ptr {w : World} {v : Value} {P : Pl} (h : IsPlan w v P) : ∃ p, v = .pointer (some p) := by
  obtain ⟨b, x, off, cap, e, h⟩ := h
  exact ⟨_, e⟩

/-! Spans. -/
set_option maxRecDepth 100000 in
theorem end_any (a b : Nat) (w : World) (ha : a ≤ 4294967296) (hb : b ≤ 4294967296) :
    Calls Tryz.prog 108 #[.agg #[.int .i64 a, .int .i64 b]] w fun e w' => e = .returned (.int .i64 ((a + b : Nat) : Int)) ∧ w' = w.alloc (.cells #[.int .i64 a, .int .i64 b] 132) := by
  obtain ⟨s, hs⟩ : ∃ s, a + b = s := ⟨_, rfl⟩
  have e : (a : Int) + (b : Int) = (s : Int) := by omega
  have hs2 : s ≤ 8589934592 := by omega
  rw [hs]
  clear hs ha hb
  go_enter Tryz.func108, Tryz.ntmps108
  go_wp2
  go_ret
  exact ⟨by go_num, rfl⟩
/-- what a span has -/
def inS (a b : Nat) (i : Int) : Bool := decide ((a : Int) ≤ i ∧ i < ((a + b : Nat) : Int))
theorem has_spn (a b : Nat) (i : Int) (w : World) (ha : a ≤ 4294967296) (hb : b ≤ 4294967296) :
    Calls Tryz.prog 125 #[.agg #[.int .i64 a, .int .i64 b], .int .i64 i] w fun e w' => e = .returned (.bool (inS a b i)) ∧ Bel w w' := by
  obtain ⟨R, hR⟩ : ∃ R, inS a b i = R := ⟨_, rfl⟩
  rw [hR]
  have en := fun W => end_any a b W ha hb
  have hb1 : ∀ o, Bel w (w.alloc o) := fun o => (Bel.refl w).alloc o
  have hb2 : ∀ o o', Bel w ((w.alloc o).alloc o') := fun o o' => ((Bel.refl w).alloc o).alloc o'
  by_cases c1 : (a : Int) ≤ i
  · have d1 : decide ((a : Int) ≤ i) = true := decide_eq_true c1
    have e1 : inS a b i = decide (i < ((a + b : Nat) : Int)) := decide_eq_decide.2 ⟨fun x => x.2, fun x => ⟨c1, x⟩⟩
    rw [e1] at hR
    subst hR
    clear e1
    generalize a + b = s at *
    go_enter Tryz.func125, Tryz.ntmps125
    go_wp2_with (go_at_call 108; refine (en _).mono ?_; rintro e w' ⟨rfl, rfl⟩)
    go_ret
    exact ⟨rfl, hb2 _ _⟩
  · have d1 : decide ((a : Int) ≤ i) = false := decide_eq_false c1
    have e1 : inS a b i = false := decide_eq_false fun x => c1 x.1
    rw [e1] at hR
    subst hR
    clear e1
    go_enter Tryz.func125, Tryz.ntmps125
    go_wp2_with (go_at_call 108; refine (en _).mono ?_; rintro e w' ⟨rfl, rfl⟩)
    go_ret
    exact ⟨rfl, hb1 _⟩

/-! Is it a plan? -/
theorem exists_yes {w : World} {b g off cap : Nat} {P : Pl} (h : PlanAt w b g off cap P) (hn : 1 ≤ P.n) :
    Calls Tryz.prog 111 #[.pointer (some ⟨b, 0, none⟩)] w fun e w' => e = .returned (.bool true) ∧ w' = w := by
  obtain ⟨_, _, c0, c1, hc, hc2, _⟩ := h
  generalize P.n = n at *
  have n0 : (0 : Int) < (n : Int) := by omega
  have n1 : 0 < n := by omega
  have n2 : decide (0 < n) = true := decide_eq_true n1
  go_enter Tryz.func111, Tryz.ntmps111
  go_wp2
  go_ret
  exact ⟨rfl, rfl⟩
theorem exists_nil (w : World) :
    Calls Tryz.prog 111 #[.pointer none] w fun e w' => e = .returned (.bool false) ∧ w' = w := by
  go_enter Tryz.func111, Tryz.ntmps111
  go_wp2
  go_ret
  exact ⟨rfl, rfl⟩
theorem exists_zero (w : World) (b : Nat) (h : w.cell? ⟨b, 1, none⟩ = some (.slice none 0 0)) :
    Calls Tryz.prog 111 #[.pointer (some ⟨b, 0, none⟩)] w fun e w' => e = .returned (.bool false) ∧ w' = w := by
  go_enter Tryz.func111, Tryz.ntmps111
  go_wp2
  go_ret
  exact ⟨rfl, rfl⟩

/-- all: the receiver is boxed -/
theorem all_any (p : Option Addr) (w : World) :
    Calls Tryz.prog 110 #[.pointer p] w fun e w' => e = .returned (.func (.func 131) #[] #[.pointer (some ⟨w.heap.size, 0, none⟩)]) ∧ w' = w.alloc (.cells #[.pointer p] 72) := by
  go_enter Tryz.func110, Tryz.ntmps110
  go_wp2
  go_ret
  exact ⟨rfl, rfl⟩

end Go.Proofs.YthokalcibjjihaaGreatDoor
