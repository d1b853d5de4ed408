/- Long division by half words, as Div64 makes it: numbers alone. -/
namespace Go.Proofs.Ytclfpmmiplandaa

/-- One digit of the long division: u the part so far, d the next half word, h * K + l the divisor. -/
structure Digit (K u d h l q r : Nat) : Prop where
  sum : q * h + r = u
  room : r < K
  above : (u * K + d) / (h * K + l) ≤ q

theorem digit_start (K u d h l : Nat) (hh : 0 < h) (hh1 : h < K) (hd : d < K) : Digit K u d h l (u / h) (u % h) := by
  have hm := Nat.mod_lt u hh
  refine ⟨by rw [Nat.mul_comm]; exact Nat.div_add_mod u h, by omega, ?_⟩
  rw [Nat.le_div_iff_mul_le hh]
  have h1 := Nat.div_mul_le_self (u * K + d) (h * K + l)
  generalize (u * K + d) / (h * K + l) = q at h1
  rw [Nat.mul_add, ← Nat.mul_assoc] at h1
  have h2 : q * h * K < (u + 1) * K := by rw [Nat.add_mul, Nat.one_mul]; omega
  have h3 := Nat.lt_of_mul_lt_mul_right h2
  omega

/-- The digit is below K. -/
theorem digit_lt (K u d h l : Nat) (hu : u < h * K + l) (hd : d < K) : (u * K + d) / (h * K + l) < K := by
  rw [Nat.div_lt_iff_lt_mul (by omega)]
  generalize h * K + l = v at hu
  have h1 : (u + 1) * K ≤ v * K := Nat.mul_le_mul_right _ hu
  rw [Nat.add_mul, Nat.one_mul, Nat.mul_comm v K] at h1
  omega

theorem digit_cmp (K u d h l q r : Nat) (hs : q * h + r = u) : q * (h * K + l) + (r * K + d) = (u * K + d) + q * l := by
  subst hs
  rw [Nat.mul_add, Nat.add_mul, ← Nat.mul_assoc]
  omega

/-- Too great: a step down keeps it above. -/
theorem digit_step (K u d h l q r : Nat) (hu : u < h * K + l) (hd : d < K) (D : Digit K u d h l q r) (hc : K ≤ q ∨ r * K + d < q * l) :
    1 ≤ q ∧ (q - 1) * h + (r + h) = u ∧ (u * K + d) / (h * K + l) ≤ q - 1 := by
  have hlt : (u * K + d) / (h * K + l) < q := by
    rcases hc with hc | hc
    · exact Nat.lt_of_lt_of_le (digit_lt K u d h l hu hd) hc
    · have hv : 0 < h * K + l := Nat.lt_of_le_of_lt (Nat.zero_le u) hu
      rw [Nat.div_lt_iff_lt_mul hv]
      have e := digit_cmp K u d h l q r D.sum
      omega
  have hs := D.sum
  generalize (u * K + d) / (h * K + l) = Q at hlt ⊢
  refine ⟨by omega, ?_, by omega⟩
  obtain ⟨k, rfl⟩ : ∃ k, q = k + 1 := ⟨q - 1, by omega⟩
  have := hs
  rw [Nat.add_mul, Nat.one_mul] at this
  rw [Nat.add_sub_cancel]
  omega

/-- No more too great: it is the digit. -/
theorem digit_done (K u d h l q r : Nat) (hK : 0 < K) (hv : 0 < h) (D : (u * K + d) / (h * K + l) ≤ q) (hs : q * h + r = u) (hc : q * l ≤ r * K + d) :
    (u * K + d) / (h * K + l) = q := by
  apply Nat.le_antisymm D
  have hv' : 0 < h * K + l := Nat.lt_of_lt_of_le (Nat.mul_pos hv hK) (Nat.le_add_right _ _)
  rw [Nat.le_div_iff_mul_le hv']
  have e := digit_cmp K u d h l q r hs
  omega

/-- The rest has grown past a half word: it is the digit. -/
theorem digit_break (K u d h l q r : Nat) (hK : 0 < K) (hu : u < h * K + l) (hv : 0 < h) (hl : l < K) (D : (u * K + d) / (h * K + l) ≤ q) (hs : q * h + r = u) (hr : K ≤ r) :
    (u * K + d) / (h * K + l) = q := by
  refine digit_done K u d h l q r hK hv D hs ?_
  have h1 : q * h < h * K := by omega
  rw [Nat.mul_comm h K] at h1
  have h3 : q < K := Nat.lt_of_mul_lt_mul_right h1
  have h4 : q * l ≤ K * K := Nat.mul_le_mul (by omega) (by omega)
  have h5 : K * K ≤ r * K := Nat.mul_le_mul_right _ hr
  omega

/-- What is left behind a digit. -/
theorem digit_rest (n v q : Nat) (hq : n / v = q) : n - q * v = n % v ∧ q * v ≤ n := by
  subst hq
  have h := Nat.div_add_mod n v
  rw [Nat.mul_comm] at h
  omega

/-- The whole: two digits of the shifted numbers are the quotient. -/
theorem whole_quot (K N y p : Nat) (hp : 0 < p) (A un0 v : Nat) (hv : v = y * p) (hN : N * p = A * K + un0) (hy : 0 < y) :
    (A / v) * K + (A % v * K + un0) / v = N / y ∧ (A % v * K + un0) % v / p = N % y := by
  have hv0 : 0 < v := by rw [hv]; exact Nat.mul_pos hy hp
  have e2 := Nat.div_add_mod A v
  have e4 : N * p = A % v * K + un0 + v * (A / v * K) := by
    rw [hN]
    have : A * K = (v * (A / v) + A % v) * K := by rw [e2]
    rw [this, Nat.add_mul, Nat.mul_assoc]; omega
  have e5 : N * p / v = (A % v * K + un0) / v + A / v * K := by
    rw [e4, Nat.add_mul_div_left _ _ hv0]
  have e6 : N * p % v = (A % v * K + un0) % v := by
    rw [e4, Nat.add_mul_mod_self_left]
  constructor
  · rw [Nat.add_comm, ← e5, hv, Nat.mul_div_mul_right _ _ hp]
  · rw [← e6, hv, Nat.mul_mod_mul_right, Nat.mul_div_cancel _ hp]

end Go.Proofs.Ytclfpmmiplandaa
