/- Multiplying bit by bit and dividing as one goes, as the document's Scale does it: numbers alone. -/
namespace Go.Proofs.Ytclfpmmiplandaa

/-- Behind the bits of y from k on: the quotient so far and what is left. -/
structure Scl (x y c k Q R : Nat) : Prop where
  sum : Q * c + R = x * (y / 2 ^ k)
  room : R < c

/-- Behind the doubling. -/
structure Half (x y c j Q R : Nat) : Prop where
  sum : Q * c + R = x * (2 * (y / 2 ^ (j + 1)))
  room : R < c

theorem half_up {x y c j Q R : Nat} (h : Scl x y c (j + 1) Q R) (hc : c ≤ 2 * R) : Half x y c j (2 * Q + 1) (R - (c - R)) := by
  have hs := h.sum
  have hr := h.room
  refine ⟨?_, by omega⟩
  rw [Nat.mul_left_comm, ← hs, Nat.add_mul, Nat.mul_assoc, Nat.one_mul, Nat.mul_add]
  omega

theorem half_down {x y c j Q R : Nat} (h : Scl x y c (j + 1) Q R) (hc : 2 * R < c) : Half x y c j (2 * Q) (2 * R) := by
  refine ⟨?_, hc⟩
  rw [Nat.mul_left_comm, ← h.sum, Nat.mul_assoc, Nat.mul_add]

theorem bits_at (y j : Nat) : y / 2 ^ j = 2 * (y / 2 ^ (j + 1)) + y / 2 ^ j % 2 := by
  rw [Nat.pow_succ, ← Nat.div_div_eq_div_mul]
  omega

theorem half_even {x y c j Q R : Nat} (h : Half x y c j Q R) (hb : y / 2 ^ j % 2 = 0) : Scl x y c j Q R := by
  refine ⟨?_, h.room⟩
  rw [bits_at y j, hb, Nat.add_zero]
  exact h.sum

theorem odd_up {x y c j Q R : Nat} (h : Half x y c j Q R) (hb : y / 2 ^ j % 2 = 1) (hc : 0 < c) (hr : c - x % c ≤ R) : Scl x y c j (Q + x / c + 1) (R - (c - x % c)) := by
  have hs := h.sum
  have hr1 := h.room
  have hx := Nat.div_add_mod x c
  have hm := Nat.mod_lt x hc
  refine ⟨?_, by omega⟩
  rw [bits_at y j, hb, Nat.mul_add x, ← hs, Nat.add_mul, Nat.add_mul, Nat.one_mul, Nat.mul_one, Nat.mul_comm (x / c) c]
  omega

theorem odd_down {x y c j Q R : Nat} (h : Half x y c j Q R) (hb : y / 2 ^ j % 2 = 1) (hc : 0 < c) (hr : R < c - x % c) : Scl x y c j (Q + x / c) (R + x % c) := by
  have hs := h.sum
  have hx := Nat.div_add_mod x c
  have hm := Nat.mod_lt x hc
  refine ⟨?_, by omega⟩
  rw [bits_at y j, hb, Nat.mul_add x, ← hs, Nat.add_mul, Nat.mul_one, Nat.mul_comm (x / c) c]
  omega

theorem scl_over {x y c j Q R M : Nat} (h : Scl x y c j Q R) (hc : 0 < c) (hm : M < Q) : M ≤ x * y / c := by
  rw [Nat.le_div_iff_mul_le hc]
  have h1 : M * c ≤ Q * c := Nat.mul_le_mul_right _ (by omega)
  have h2 : x * (y / 2 ^ j) ≤ x * y := Nat.mul_le_mul_left _ (Nat.div_le_self _ _)
  have := h.sum
  omega

theorem half_over {x y c j Q R M : Nat} (h : Half x y c j Q R) (hc : 0 < c) (hm : M < Q) : M ≤ x * y / c := by
  rw [Nat.le_div_iff_mul_le hc]
  have h1 : M * c ≤ Q * c := Nat.mul_le_mul_right _ (by omega)
  have hb := bits_at y j
  have h3 : y / 2 ^ j ≤ y := Nat.div_le_self _ _
  have h2 : x * (2 * (y / 2 ^ (j + 1))) ≤ x * y := Nat.mul_le_mul_left _ (by omega)
  have := h.sum
  omega

theorem scl_end {x y c Q R : Nat} (h : Scl x y c 0 Q R) (hc : 0 < c) : Q = x * y / c := by
  have hs := h.sum
  rw [Nat.pow_zero, Nat.div_one] at hs
  rw [← hs, Nat.add_comm, Nat.add_mul_div_right _ _ hc, Nat.div_eq_of_lt h.room, Nat.zero_add]

theorem scl_start (x y c k : Nat) (hc : 0 < c) (hy : y < 2 ^ k) : Scl x y c k 0 0 := by
  refine ⟨?_, hc⟩
  rw [Nat.div_eq_of_lt hy, Nat.mul_zero, Nat.zero_mul]
end Go.Proofs.Ytclfpmmiplandaa
