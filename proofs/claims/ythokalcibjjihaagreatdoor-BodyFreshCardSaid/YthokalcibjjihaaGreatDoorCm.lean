/- Configurations in memory; the document's small functions on them. -/
import Derived.Test.YthokalcibjjihaaGreatDoorRck
import Derived.Test.YthokalcibjjihaaGreatDoorCfg
namespace Go.Proofs.YthokalcibjjihaaGreatDoor
open Go.ChangeShapes Go.WideShapes Go.ChangeAt Go.RowKit

/-- the four cells of a tenant -/
def Ten (w : World) (b o : Nat) (q t c a : Int) : Prop :=
  w.cell? ⟨b, o, none⟩ = some (.int .i64 q) ∧ w.cell? ⟨b, o + 1, none⟩ = some (.int .i64 t) ∧ w.cell? ⟨b, o + 2, none⟩ = some (.int .i64 c) ∧ w.cell? ⟨b, o + 3, none⟩ = some (.int .i64 a)

/-- a slice of tenants -/
def Tens (w : World) (v : Value) (c : Cf) : Prop :=
  (c.m = 0 ∧ ∃ p cap, v = .slice p 0 cap) ∨
  ∃ b off cap, v = .slice (some ⟨b, off, none⟩) c.m cap ∧ 1 ≤ c.m ∧ c.m ≤ cap ∧ cap ≤ 9223372036854775807 ∧ ∀ j, j < c.m → Ten w b (off + j * 4) (c.Q j) (c.Tr j) (c.Cp j) (c.As j)

theorem Ten.bel {w w' : World} {b o : Nat} {q t c a : Int} (h : Ten w b o q t c a) (g : Bel w w') : Ten w' b o q t c a :=
  ⟨cell_bel g h.1, cell_bel g h.2.1, cell_bel g h.2.2.1, cell_bel g h.2.2.2⟩
theorem Tens.bel {w w' : World} {v : Value} {c : Cf} (h : Tens w v c) (g : Bel w w') : Tens w' v c := by
  rcases h with h | ⟨b, off, cap, h1, h2, h3, h4, h5⟩
  · exact Or.inl h
  · exact Or.inr ⟨b, off, cap, h1, h2, h3, h4, fun j hj => (h5 j hj).bel g⟩
theorem tens_slice {w : World} {v : Value} {c : Cf} (h : Tens w v c) : ∃ p cap, v = .slice p c.m cap ∧ c.m ≤ 9223372036854775807 := by
  rcases h with ⟨e, p, cap, rfl⟩ | ⟨b, off, cap, rfl, h1, h2, h3, h4⟩
  · exact ⟨p, cap, by rw [e], by omega⟩
  · exact ⟨_, cap, rfl, by omega⟩

/-- the cells of a configuration -/
def cfCells (vc vt : Value) (c : Cf) : Array Value := #[vc, .int .i64 c.page, vt, .int .i64 c.wk, .int .i64 c.gr, .int .i64 c.gn]
/-- a configuration, by value -/
def IsCf (w : World) (v : Value) (c : Cf) : Prop := ∃ vc vt, v = .agg #[vc, .int .i64 c.page, vt, .int .i64 c.wk, .int .i64 c.gr, .int .i64 c.gn] ∧ Nums w vc c.n c.F ∧ Tens w vt c
theorem IsCf.bel {w w' : World} {v : Value} {c : Cf} (h : IsCf w v c) (g : Bel w w') : IsCf w' v c := by
  obtain ⟨vc, vt, e, h1, h2⟩ := h
  exact ⟨vc, vt, e, h1.bel g, h2.bel g⟩

theorem small_any (v : Value) (c : Cf) (w : World) (h : IsCf w v c) :
    Calls Tryz.prog 31 #[v] w fun e w' => e = .returned (.bool (decide (c.n ≤ 50 ∧ c.m ≤ 50))) ∧ Bel w w' := by
  obtain ⟨vc, vt, rfl, hN, hT⟩ := h
  obtain ⟨p1, c1, rfl, b1⟩ := nums_slice hN
  obtain ⟨p2, c2, rfl, b2⟩ := tens_slice hT
  clear hN hT
  have hb : ∀ o, Bel w (w.alloc o) := fun o => (Bel.refl w).alloc o
  obtain ⟨R, hR⟩ : ∃ R, decide (c.n ≤ 50 ∧ c.m ≤ 50) = R := ⟨_, rfl⟩
  rw [hR]
  have hidR := Lib.hid hR
  clear hR
  generalize c.n = n at *
  generalize c.m = m at *
  generalize c.page = pg at *
  generalize c.wk = wk at *
  generalize c.gr = gr at *
  generalize c.gn = gn at *
  by_cases a : n ≤ 50
  · by_cases d : m ≤ 50
    · have hR := hidR.out
      rw [decide_eq_true ⟨a, d⟩] at hR
      subst hR
      have d1 : decide (m ≤ 50) = true := decide_eq_true d
      have d2 : decide ((m : Int) ≤ 50) = true := decide_eq_true (by omega)
      go_enter Tryz.func31, Tryz.ntmps31
      go_wp2
      go_ret
      exact ⟨rfl, hb _⟩
    · have hR := hidR.out
      rw [decide_eq_false fun x => d x.2] at hR
      subst hR
      have d1 : decide (m ≤ 50) = false := decide_eq_false d
      have d2 : decide ((m : Int) ≤ 50) = false := decide_eq_false (by omega)
      go_enter Tryz.func31, Tryz.ntmps31
      go_wp2
      go_ret
      exact ⟨rfl, hb _⟩
  · have hR := hidR.out
    rw [decide_eq_false fun x => a x.1] at hR
    subst hR
    have d1 : decide (n ≤ 50) = false := decide_eq_false a
    have d2 : decide ((n : Int) ≤ 50) = false := decide_eq_false (by omega)
    go_enter Tryz.func31, Tryz.ntmps31
    go_wp2
    go_ret
    exact ⟨rfl, hb _⟩

theorem from_any (n a b : Int) (w : World) :
    Calls Tryz.prog 79 #[.int .i64 n, .int .i64 a, .int .i64 b] w fun e w' => e = .returned (.bool (decide (a ≤ n ∧ n ≤ b))) ∧ w' = w := by
  by_cases h1 : a ≤ n
  · have e : decide (a ≤ n ∧ n ≤ b) = decide (n ≤ b) := decide_eq_decide.2 ⟨fun x => x.2, fun x => ⟨h1, x⟩⟩
    rw [e]
    go_enter Tryz.func79, Tryz.ntmps79
    go_wp2
    go_ret
    exact ⟨rfl, rfl⟩
  · rw [decide_eq_false fun x => h1 x.1]
    have d : decide (a ≤ n) = false := decide_eq_false h1
    go_enter Tryz.func79, Tryz.ntmps79
    go_wp2
    go_ret
    exact ⟨rfl, rfl⟩

end Go.Proofs.YthokalcibjjihaaGreatDoor
