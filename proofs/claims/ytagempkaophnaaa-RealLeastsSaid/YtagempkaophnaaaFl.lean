/- Rungs of float64: the numbers that they stand for, in units of the least place; rounding. -/
import Ieee.Arith
import GoSem.Core.Float
namespace Go.Proofs.Ytagempkaophnaaa

/-- the number of a rung -/
def val (r : Nat) : Nat := if r < 4503599627370496 then r else (4503599627370496 + r % 4503599627370496) * 2 ^ (r / 4503599627370496 - 1)

/-- N over 2^e, to the nearest, ties to even -/
def near (N e : Nat) : Nat := N / 2 ^ e + (if 2 ^ e < 2 * (N % 2 ^ e) ∨ (2 ^ e = 2 * (N % 2 ^ e) ∧ N / 2 ^ e % 2 = 1) then 1 else 0)

/-- the rung nearest to a number -/
def rungOf (N : Nat) : Nat := (N.log2 - 52) * 4503599627370496 + near N (N.log2 - 52)

theorem near_mono {N M : Nat} (e : Nat) (h : N ≤ M) : near N e ≤ near M e := by
  unfold near
  have hq : N / 2 ^ e ≤ M / 2 ^ e := Nat.div_le_div_right h
  have hN := Nat.div_add_mod N (2 ^ e)
  have hM := Nat.div_add_mod M (2 ^ e)
  generalize 2 ^ e = p at *
  generalize hqq : N / p = q at *
  generalize M / p = q' at *
  generalize N % p = r at *
  generalize M % p = r' at *
  by_cases c : q = q'
  · subst c
    have : r ≤ r' := by omega
    split <;> split <;> omega
  · split <;> split <;> omega

theorem near_le {N e : Nat} (h : N < 2 ^ (e + 53)) : near N e ≤ 9007199254740992 := by
  unfold near
  have : N / 2 ^ e < 9007199254740992 := Nat.div_lt_of_lt_mul (by rw [Nat.pow_add] at h; exact h)
  split <;> omega

theorem near_ge {N e : Nat} (h : 2 ^ (e + 52) ≤ N) : 4503599627370496 ≤ near N e := by
  unfold near
  have : 4503599627370496 ≤ N / 2 ^ e := (Nat.le_div_iff_mul_le (Nat.two_pow_pos e)).2 (by rw [Nat.pow_add, Nat.mul_comm] at h; exact h)
  omega

theorem near_exact (m e : Nat) : near (m * 2 ^ e) e = m := by
  unfold near
  rw [Nat.mul_div_cancel _ (Nat.two_pow_pos e), Nat.mul_mod_left, if_neg (by have := Nat.two_pow_pos e; omega)]
  omega

theorem near_zero (N : Nat) : near N 0 = N := by
  have := near_exact N 0
  rwa [Nat.pow_zero, Nat.mul_one] at this

theorem log_small {N : Nat} (h : N < 9007199254740992) : N.log2 - 52 = 0 := by
  by_cases z : N = 0
  · subst z; rfl
  · have : N.log2 < 53 := (Nat.log2_lt z).2 h
    omega

theorem rungOf_small {N : Nat} (h : N < 9007199254740992) : rungOf N = N := by
  unfold rungOf
  rw [log_small h, near_zero]; omega

/-- the binade of a number -/
theorem big_cases {N : Nat} (h : 9007199254740992 ≤ N) : 0 < N.log2 - 52 ∧ 2 ^ (N.log2 - 52 + 52) ≤ N ∧ N < 2 ^ (N.log2 - 52 + 53) := by
  have z : N ≠ 0 := by omega
  have a : 53 ≤ N.log2 := (Nat.le_log2 z).2 h
  have e1 : N.log2 - 52 + 52 = N.log2 := by omega
  have e2 : N.log2 - 52 + 53 = N.log2 + 1 := by omega
  rw [e1, e2]
  exact ⟨by omega, Nat.log2_self_le z, Nat.lt_log2_self⟩

theorem rungOf_big {N : Nat} (h : 9007199254740992 ≤ N) : 9007199254740992 ≤ rungOf N := by
  have ⟨a, b, _⟩ := big_cases h
  have := near_ge b
  unfold rungOf
  omega

theorem rungOf_mono {N M : Nat} (h : N ≤ M) : rungOf N ≤ rungOf M := by
  by_cases s : N < 9007199254740992
  · rw [rungOf_small s]
    by_cases t : M < 9007199254740992
    · rw [rungOf_small t]; exact h
    · have := rungOf_big (Nat.not_lt.1 t)
      omega
  · have ⟨a, b, c⟩ := big_cases (Nat.not_lt.1 s)
    have ⟨a', b', c'⟩ := big_cases (N := M) (by omega)
    have le : N.log2 ≤ M.log2 := (Nat.le_log2 (by omega)).2 (Nat.le_trans (Nat.log2_self_le (by omega)) h)
    unfold rungOf
    by_cases q : N.log2 = M.log2
    · rw [q]
      have := near_mono (M.log2 - 52) h
      omega
    · have h1 := near_le c
      have h2 := near_ge b'
      generalize near N (N.log2 - 52) = x at *
      generalize near M (M.log2 - 52) = y at *
      generalize N.log2 = n at *
      generalize M.log2 = m at *
      omega

theorem log_mul {m : Nat} (k : Nat) (h : 4503599627370496 ≤ m) (h2 : m < 9007199254740992) : (m * 2 ^ k).log2 = 52 + k := by
  refine (Nat.log2_eq_iff ?_).2 ⟨?_, ?_⟩
  · have := Nat.two_pow_pos k
    exact Nat.mul_ne_zero (by omega) (by omega)
  · rw [Nat.pow_add]; exact Nat.mul_le_mul_right _ h
  · rw [show 52 + k + 1 = 53 + k by omega, Nat.pow_add]
    exact Nat.mul_lt_mul_of_pos_right h2 (Nat.two_pow_pos k)

theorem rungOf_mul {m : Nat} (k : Nat) (h : 4503599627370496 ≤ m) (h2 : m < 9007199254740992) : rungOf (m * 2 ^ k) = k * 4503599627370496 + m := by
  unfold rungOf
  rw [log_mul k h h2, show 52 + k - 52 = k by omega, near_exact]

theorem rungOf_val (r : Nat) : rungOf (val r) = r := by
  unfold val
  split
  · exact rungOf_small (by omega)
  · rw [rungOf_mul _ (by omega) (by omega)]
    omega

theorem val_mono {r s : Nat} (h : r < s) : val r < val s := by
  by_cases c : val r < val s
  · exact c
  · have := rungOf_mono (Nat.not_lt.1 c)
    rw [rungOf_val, rungOf_val] at this
    omega

theorem val_le {r s : Nat} (h : r ≤ s) : val r ≤ val s := by
  rcases Nat.lt_or_ge r s with h1 | h1
  · exact Nat.le_of_lt (val_mono h1)
  · rw [Nat.le_antisymm h h1]; exact Nat.le_refl _

theorem val_inj {r s : Nat} (h : val r = val s) : r = s := by
  rw [← rungOf_val r, h, rungOf_val]

theorem val_zero : val 0 = 0 := rfl

theorem val_pos {r : Nat} (h : 0 < r) : 0 < val r := val_mono h

/-- the rungs of m * 2^k -/
theorem val_at {m : Nat} (k : Nat) (h : 4503599627370496 ≤ m) (h2 : m < 9007199254740992) : val (k * 4503599627370496 + m) = m * 2 ^ k := by
  unfold val
  rw [if_neg (by omega)]
  have e1 : (k * 4503599627370496 + m) / 4503599627370496 - 1 = k := by omega
  have e2 : 4503599627370496 + (k * 4503599627370496 + m) % 4503599627370496 = m := by omega
  rw [e1, e2]

/-- a number of at most 53 bits is met -/
theorem val_rungOf_mul {m : Nat} (k : Nat) (h : m < 9007199254740992) : val (rungOf (m * 2 ^ k)) = m * 2 ^ k := by
  by_cases z : m = 0
  · subst z; rw [Nat.zero_mul]; rfl
  -- m = m' * 2^-j with 52 bits in front
  by_cases s : m * 2 ^ k < 4503599627370496
  · rw [rungOf_small (by omega)]; unfold val; rw [if_pos s]
  · by_cases g : 4503599627370496 ≤ m
    · rw [rungOf_mul _ g h, val_at _ g h]
    · have lg : m.log2 < 52 := (Nat.log2_lt z).2 (by omega)
      have p1 := Nat.log2_self_le z
      have p2 : m < 2 ^ (m.log2 + 1) := Nat.lt_log2_self
      generalize hL : m.log2 = L at *
      -- j = 52 - L ≤ k
      have jk : 52 - L ≤ k := by
        by_cases c : 52 - L ≤ k
        · exact c
        · exfalso
          apply s
          have : m * 2 ^ k < 2 ^ (L + 1) * 2 ^ k := Nat.mul_lt_mul_of_pos_right p2 (Nat.two_pow_pos k)
          rw [← Nat.pow_add] at this
          exact Nat.lt_of_lt_of_le this (Nat.pow_le_pow_right (n := 2) (by omega) (show L + 1 + k ≤ 52 by omega))
      have hm : m * 2 ^ k = (m * 2 ^ (52 - L)) * 2 ^ (k - (52 - L)) := by
        rw [Nat.mul_assoc, ← Nat.pow_add]
        congr 2; omega
      have g1 : 4503599627370496 ≤ m * 2 ^ (52 - L) := by
        have : 2 ^ L * 2 ^ (52 - L) ≤ m * 2 ^ (52 - L) := Nat.mul_le_mul_right _ p1
        rw [← Nat.pow_add, show L + (52 - L) = 52 by omega] at this
        exact this
      have g2 : m * 2 ^ (52 - L) < 9007199254740992 := by
        have : m * 2 ^ (52 - L) < 2 ^ (L + 1) * 2 ^ (52 - L) := Nat.mul_lt_mul_of_pos_right p2 (Nat.two_pow_pos _)
        rw [← Nat.pow_add, show L + 1 + (52 - L) = 53 by omega] at this
        exact this
      rw [hm, rungOf_mul _ g1 g2, val_at _ g1 g2]

/-- the rung of a power of two -/
theorem rungOf_pow (K : Nat) : rungOf (2 ^ (K + 52)) = (K + 1) * 4503599627370496 := by
  have := rungOf_mul (m := 4503599627370496) K (by omega) (by omega)
  rw [show (4503599627370496 : Nat) = 2 ^ 52 from rfl, ← Nat.pow_add, Nat.add_comm 52 K] at this
  rw [this]; omega

theorem val_pow (K : Nat) : val ((K + 1) * 4503599627370496) = 2 ^ (K + 52) := by
  have := val_at (m := 4503599627370496) K (by omega) (by omega)
  rw [show K * 4503599627370496 + 4503599627370496 = (K + 1) * 4503599627370496 by omega, show (4503599627370496 : Nat) * 2 ^ K = 2 ^ (K + 52) by rw [Nat.add_comm, Nat.pow_add]] at this
  exact this

end Go.Proofs.Ytagempkaophnaaa
