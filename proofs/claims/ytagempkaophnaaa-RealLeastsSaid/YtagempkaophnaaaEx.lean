/- Sums of whole numbers' words are exact. -/
import Derived.Test.YtagempkaophnaaaFacts
import Derived.Test.YtagempkaophnaaaRp
namespace Go.Proofs.Ytagempkaophnaaa
open Go.ChangeShapes Go.WideShapes Go.ChangeAt Go.RowKit

/-- the sum of the first numbers -/
def sumI (g : Nat → Int) : Nat → Int
  | 0 => 0
  | k + 1 => sumI g k + g k

theorem sv_ofN {n : Int} (h : n.natAbs < 9007199254740992) : sv (ofN n) = n * ((2 ^ K : Nat) : Int) := by
  have b : rungOf (n.natAbs * 2 ^ K) ≤ 4895412794951729152 := rungOf_int (by omega)
  unfold sv ofN
  rw [sgn_wd _ (by omega), rung_wd _ (by omega), val_rungOf_mul K h]
  by_cases c : n < 0
  · rw [decide_eq_true c, if_pos rfl]
    rw [Int.natCast_mul, ← Int.neg_mul]
    congr 1; omega
  · rw [decide_eq_false c, if_neg Bool.false_ne_true, Int.natCast_mul]
    congr 1; omega

theorem add_ofN {a b : Int} (ha : a.natAbs < 9007199254740992) (hb : b.natAbs < 9007199254740992) (hs : (a + b).natAbs < 9007199254740992) : addN (ofN a) (ofN b) = ofN (a + b) := by
  have la := ofN_lt (n := a) (by omega)
  have lb := ofN_lt (n := b) (by omega)
  unfold addN
  rw [add_fin (by omega) (by omega)]
  show plus (ofN a) (ofN b) = ofN (a + b)
  unfold plus
  have e : sv (ofN a) + sv (ofN b) = (a + b) * ((2 ^ K : Nat) : Int) := by rw [sv_ofN ha, sv_ofN hb, Int.add_mul]
  have p := Nat.two_pow_pos K
  rw [e, Int.natAbs_mul, Int.natAbs_natCast]
  have r : rungOf ((a + b).natAbs * 2 ^ K) ≤ 4895412794951729152 := rungOf_int (by omega)
  rw [Nat.min_eq_left (by omega)]
  have z : ((a + b) * ((2 ^ K : Nat) : Int) = 0) ↔ a + b = 0 := by
    constructor
    · intro h; rcases Int.mul_eq_zero.1 h with h | h
      · exact h
      · exfalso; generalize 2 ^ K = q at *; omega
    · intro h; rw [h, Int.zero_mul]
  have l : ((a + b) * ((2 ^ K : Nat) : Int) < 0) ↔ a + b < 0 := by
    constructor
    · intro h
      by_cases c : a + b < 0
      · exact c
      · have := Int.mul_nonneg (Int.not_lt.1 c) (show (0 : Int) ≤ ((2 ^ K : Nat) : Int) from Int.natCast_nonneg _)
        omega
    · intro h
      exact Int.mul_neg_of_neg_of_pos h (by generalize 2 ^ K = q at *; omega)
  have s : (if (a + b) * ((2 ^ K : Nat) : Int) = 0 then sgn (ofN a) && sgn (ofN b) else decide ((a + b) * ((2 ^ K : Nat) : Int) < 0)) = decide (a + b < 0) := by
    by_cases c : a + b = 0
    · rw [if_pos (z.2 c)]
      have sa : sgn (ofN a) = decide (a < 0) := sgn_wd _ (by have : rungOf (a.natAbs * 2 ^ K) ≤ 4895412794951729152 := rungOf_int (by omega); omega)
      have sb : sgn (ofN b) = decide (b < 0) := sgn_wd _ (by have : rungOf (b.natAbs * 2 ^ K) ≤ 4895412794951729152 := rungOf_int (by omega); omega)
      rw [sa, sb, decide_eq_false (show ¬ a + b < 0 by omega), ← Bool.decide_and]
      exact decide_eq_false (by omega)
    · rw [if_neg (fun h => c (z.1 h))]
      exact decide_eq_decide.2 l
  rw [s]; rfl

theorem sumI_bd {g : Nat → Int} (hg : ∀ j, (g j).natAbs < 1099511627776) : ∀ k, (sumI g k).natAbs ≤ k * 1099511627776 := by
  intro k
  induction k with
  | zero => exact Nat.le_refl 0
  | succ k ih =>
    show (sumI g k + g k).natAbs ≤ _
    have := hg k
    omega

theorem sumTo_exact {g : Nat → Int} (hg : ∀ j, (g j).natAbs < 1099511627776) : ∀ k, k < 200 → sumTo (fun j => ofN (g j)) k = ofN (sumI g (k + 1)) := by
  intro k
  induction k with
  | zero =>
    intro _
    show ofN (g 0) = ofN (0 + g 0)
    rw [Int.zero_add]
  | succ k ih =>
    intro h
    show addN (sumTo (fun j => ofN (g j)) k) (ofN (g (k + 1))) = ofN (sumI g (k + 1) + g (k + 1))
    rw [ih (by omega)]
    have b1 := sumI_bd hg (k + 1)
    have b2 := hg (k + 1)
    exact add_ofN (by omega) (by omega) (by omega)

theorem canon_ofN {n : Int} (h : n.natAbs ≤ 18446744073709551616) : canonN (ofN n) = ofN n := by
  have := (ofN_lt h).1
  exact canon_not (decide_eq_false (by omega))

/-- the sum of the words is the word of the sum -/
theorem sum_exact {g : Nat → Int} (hg : ∀ j, (g j).natAbs < 1099511627776) {n : Nat} (hn : n ≤ 100) : sumN (fun j => ofN (g j)) n = ofN (sumI g n) := by
  cases n with
  | zero => show 0 = ofN 0; unfold ofN; rw [show (0 : Int).natAbs = 0 from rfl, Nat.zero_mul]; rfl
  | succ k =>
    show canonN (sumTo (fun j => ofN (g j)) k) = _
    rw [sumTo_exact hg k (by omega)]
    have := sumI_bd hg (k + 1)
    exact canon_ofN (by omega)

theorem exact_small {n : Int} (h : n.natAbs < 9007199254740992) : exactN n = true := by
  rw [exact_iff (by omega) (by omega)]
  exact decide_eq_true (val_rungOf_mul K h)

end Go.Proofs.Ytagempkaophnaaa
