/- Floats and whole numbers. -/
import Derived.Test.YtagempkaophnaaaFw
namespace Go.Proofs.Ytagempkaophnaaa
open Ieee

/-- how many binary places there are behind the point -/
def K : Nat := 1074
theorem K_is : K = 1074 := rfl

/-- the word nearest to a whole number -/
def ofN (n : Int) : Nat := wd (n < 0) (rungOf (n.natAbs * 2 ^ K))

theorem rungOf_le_pow {N K : Nat} (h : N ≤ 2 ^ (K + 52)) : rungOf N ≤ (K + 1) * 4503599627370496 := by
  have := rungOf_mono h
  rwa [rungOf_pow] at this

theorem rungOf_int {m : Nat} (h : m ≤ 18446744073709551616) : rungOf (m * 2 ^ K) ≤ 4895412794951729152 := by
  have : m * 2 ^ K ≤ 2 ^ (1086 + 52) := by
    rw [show 1086 + 52 = 64 + K from rfl, Nat.pow_add]
    exact Nat.mul_le_mul_right _ (by omega)
  exact rungOf_le_pow this

theorem ofN_nearest {n : Int} (h : n.natAbs ≤ 18446744073709551616) : (Go.FloatKind.f64).nearest n = ofN n := by
  show double.nearest (decide (n < 0)) n.natAbs 0 = _
  rw [nearest_at _ _ _ (by omega), show ((0 : Int) + 1074).toNat = K from rfl]
  have := rungOf_int h
  rw [Nat.min_eq_left (by omega)]; rfl

/-- what is cut off -/
theorem toInt_zero {w : Nat} (h : rung w < 9218868437227405312) : (double.read w).toInt .zero = some (if sgn w then -((val (rung w) / 2 ^ K : Nat) : Int) else ((val (rung w) / 2 ^ K : Nat) : Int)) := by
  obtain ⟨m, p, r, lp, v⟩ := read_fin h
  rw [r]
  show some (signed (sgn w) (Toward.zero.cut (sgn w) (m <<< p.toNat) (-p).toNat) 0) = _
  have hc : Toward.zero.cut (sgn w) (m <<< p.toNat) (-p).toNat = val (rung w) / 2 ^ K := by
    rw [← v]
    unfold Toward.cut
    show (m <<< p.toNat) / (1 <<< min (-p).toNat ((m <<< p.toNat).log2 + 2)) + 0 = _
    rw [Nat.add_zero, Nat.shiftLeft_eq, Nat.shiftLeft_eq, Nat.one_mul]
    by_cases c : 0 ≤ p
    · rw [show (-p).toNat = 0 by omega, Nat.zero_min, Nat.pow_zero, Nat.div_one]
      rw [show (p + 1074).toNat = p.toNat + K by rw [K_is]; omega, Nat.pow_add, ← Nat.mul_assoc, Nat.mul_div_cancel _ (Nat.two_pow_pos _)]
    · rw [show p.toNat = 0 by omega, Nat.pow_zero, Nat.mul_one]
      obtain ⟨d, hd⟩ : ∃ d, (-p).toNat = d := ⟨_, rfl⟩
      rw [hd]
      have e : m * 2 ^ (p + 1074).toNat / 2 ^ K = m / 2 ^ d := by
        have e2 : 2 ^ K = 2 ^ d * 2 ^ (p + 1074).toNat := by
          rw [← Nat.pow_add]; congr 1; rw [K_is]; omega
        rw [e2, Nat.mul_div_mul_right _ _ (Nat.two_pow_pos _)]
      rw [e]
      by_cases k : d ≤ m.log2 + 2
      · rw [Nat.min_eq_left k]
      · rw [Nat.min_eq_right (by omega)]
        have l : m < 2 ^ (m.log2 + 1) := Nat.lt_log2_self
        rw [Nat.div_eq_of_lt, Nat.div_eq_of_lt]
        · exact Nat.lt_of_lt_of_le l (Nat.pow_le_pow_right (by omega) (by omega))
        · exact Nat.lt_of_lt_of_le l (Nat.pow_le_pow_right (by omega) (by omega))
  rw [hc]
  unfold signed
  rw [Nat.shiftLeft_eq, Nat.pow_zero, Nat.mul_one]

/-- a number at least 2^53 is whole -/
theorem val_big {r : Nat} (h : 4845873199050653696 ≤ r) : val r % 2 ^ K = 0 := by
  unfold val
  rw [if_neg (by omega)]
  obtain ⟨k, hk⟩ : ∃ k, r / 4503599627370496 - 1 = k + K := ⟨r / 4503599627370496 - 1 - 1074, by rw [K_is]; omega⟩
  rw [hk, Nat.pow_add, ← Nat.mul_assoc, Nat.mul_mod_left]

/-- when the number cut off is the number itself -/
theorem back_iff (r : Nat) : rungOf (val r / 2 ^ K * 2 ^ K) = r ↔ val r % 2 ^ K = 0 := by
  constructor
  · intro h
    by_cases c : 4845873199050653696 ≤ r
    · exact val_big c
    · have lt : val r < 9007199254740992 * 2 ^ K := by
        have := val_mono (show r < (1075 + 1) * 4503599627370496 by omega)
        rw [val_pow, show 1075 + 52 = 53 + K from rfl, Nat.pow_add, show (2 : Nat) ^ 53 = 9007199254740992 from rfl] at this
        exact this
      have q : val r / 2 ^ K < 9007199254740992 := Nat.div_lt_of_lt_mul (by rw [Nat.mul_comm]; exact lt)
      have e := val_rungOf_mul K q
      rw [h] at e
      have e2 := Nat.div_add_mod (val r) (2 ^ K)
      rw [Nat.mul_comm] at e2
      generalize val r / 2 ^ K * 2 ^ K = x at *
      omega
  · intro h
    have e := Nat.div_add_mod (val r) (2 ^ K)
    rw [h, Nat.add_zero, Nat.mul_comm] at e
    rw [e, rungOf_val]

/-- rungs of words below 2^63 -/
theorem small_of_rung {r : Nat} (h : r < 4890909195324358656) : val r / 2 ^ K < 9223372036854775808 := by
  have := val_mono h
  rw [show (4890909195324358656 : Nat) = (1085 + 1) * 4503599627370496 by omega, val_pow, show 1085 + 52 = 63 + K from rfl, Nat.pow_add, show (2 : Nat) ^ 63 = 9223372036854775808 from rfl] at this
  exact Nat.div_lt_of_lt_mul (by rw [Nat.mul_comm]; exact this)

theorem at_rung : val 4890909195324358656 = 9223372036854775808 * 2 ^ K := by
  rw [show (4890909195324358656 : Nat) = (1085 + 1) * 4503599627370496 by omega, val_pow, show 1085 + 52 = 63 + K from rfl, Nat.pow_add]

theorem large_of_rung {r : Nat} (h : 4890909195324358656 ≤ r) : 9223372036854775808 ≤ val r / 2 ^ K := by
  have := val_le h
  rw [at_rung] at this
  exact (Nat.le_div_iff_mul_le (Nat.two_pow_pos _)).2 this

theorem larger_of_rung {r : Nat} (h : 4890909195324358656 < r) : 9223372036854775808 < val r / 2 ^ K := by
  have l := val_mono h
  have b := val_big (r := r) (by omega)
  have d := Nat.div_add_mod (val r) (2 ^ K)
  rw [b, Nat.add_zero, Nat.mul_comm] at d
  rw [at_rung, ← d] at l
  exact Nat.lt_of_mul_lt_mul_right l

end Go.Proofs.Ytagempkaophnaaa
