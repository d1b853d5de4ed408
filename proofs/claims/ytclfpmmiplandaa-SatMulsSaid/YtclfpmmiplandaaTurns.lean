/- Numbers for the laws of sat: units, quotients and products of counts. -/
import Derived.Test.YtclfpmmiplandaaMid
namespace Go.Proofs.Ytclfpmmiplandaa
open Go.ChangeShapes Go.WideShapes Go.ChangeAt Go.RowKit

theorem units_of (x u : Int) (hx0 : 0 ≤ x) (hx1 : x ≤ 4611686018427387904) : unitsV x u = if x < 1 then 0 else if u < 1 then 0 else (x - 1) / u + 1 := by
  unfold unitsV; rw [cnt_in hx0 hx1]

theorem quot_step (x u : Int) (hu : 1 ≤ u) : (x - 1) / u + 1 = x / u ∨ (x - 1) / u + 1 = x / u + 1 := by
  have h1 : (x - 1) / u ≤ x / u := Int.ediv_le_ediv (by omega) (by omega)
  have h2 : x / u ≤ (x - 1 + u) / u := Int.ediv_le_ediv (by omega) (by omega)
  have h3 : (x - 1 + u) / u = (x - 1) / u + 1 := by
    rw [Int.add_ediv_of_dvd_right (Int.dvd_refl u), Int.ediv_self (by omega)]
  omega

theorem units_enough (x u : Int) (hu : 1 ≤ u) : x ≤ ((x - 1) / u + 1) * u := by
  have h1 := Int.mul_ediv_add_emod (x - 1) u
  have h2 := Int.emod_lt_of_pos (x - 1) (by omega : 0 < u)
  rw [Int.add_mul, Int.one_mul, Int.mul_comm]
  omega

theorem units_bd (x u : Int) (hx0 : 0 ≤ x) (hx1 : x ≤ 4611686018427387904) (hu : 1 ≤ u) : 0 ≤ unitsV x u ∧ unitsV x u ≤ x := by
  rw [units_of x u hx0 hx1]; split
  · omega
  · rw [if_neg (by omega)]
    have := Int.ediv_nonneg (a := x - 1) (b := u) (by omega) (by omega)
    have := Int.ediv_le_self (a := x - 1) u (by omega)
    omega

theorem turns_core (x u : Int) (hx0 : 0 ≤ x) (hx1 : x ≤ 4611686018427387904) (hu : 1 ≤ u) (hu1 : u ≤ 4611686018427387904) :
    ∃ n m r q : Int, (∀ w, Calls Try.prog 22 #[.int .i64 x, .int .i64 u] w fun e w' => e = .returned (.int .i64 n) ∧ w' = w) ∧
      (∀ w, Calls Try.prog 20 #[.int .i64 x, .int .i64 1, .int .i64 u] w fun e w' => e = .returned (.int .i64 m) ∧ Grown w w') ∧
      (∀ w, Calls Try.prog 18 #[.int .i64 m, .int .i64 u] w fun e w' => e = .returned (.int .i64 r) ∧ Grown w w') ∧
      (∀ w, Calls Try.prog 18 #[.int .i64 n, .int .i64 u] w fun e w' => e = .returned (.int .i64 q) ∧ Grown w w') ∧
      r ≤ x ∧ x ≤ q ∧ (n = m ∧ r = q ∨ n = m + 1) ∧ 0 ≤ m ∧ m ≤ x ∧ 0 ≤ n ∧ n ≤ x := by
  have b0 : 0 ≤ x / u := Int.ediv_nonneg hx0 (by omega)
  have b1 : x / u ≤ x := Int.ediv_le_self _ hx0
  obtain ⟨n0, n1⟩ := units_bd x u hx0 hx1 hu
  have em : scaleV x 1 u = x / u := by
    unfold scaleV; rw [if_neg (by omega), Int.mul_one, cnt_in b0 (by omega)]
  have cs := fun w => scale_any x 1 u w (by omega) (by omega) (by omega) (by omega) (by omega) (fun _ => divOK_low _ _ _ (by omega) (by omega) (by rw [show Int.natAbs 1 = 1 from rfl]; omega))
  rw [em] at cs
  refine ⟨unitsV x u, x / u, cnt (x / u * u), cnt (unitsV x u * u), fun w => units_any x u w (by omega) (by omega) (by omega) (by omega), cs, fun w => mul_any _ _ w (by omega) (by omega) (by omega) (by omega), fun w => mul_any _ _ w (by omega) (by omega) (by omega) (by omega), ?_, ?_, ?_, b0, b1, n0, n1⟩
  · have h : x / u * u ≤ x := Int.ediv_mul_le x (by omega)
    generalize x / u * u = z at *
    unfold cnt; split <;> (try split) <;> omega
  · have h : x ≤ unitsV x u * u := by
      rw [units_of x u hx0 hx1]; split
      · omega
      · rw [if_neg (by omega)]
        exact units_enough x u hu
    generalize unitsV x u * u = z at *
    unfold cnt; split <;> (try split) <;> omega
  · have h : unitsV x u = x / u ∨ unitsV x u = x / u + 1 := by
      rw [units_of x u hx0 hx1]; split
      · left; rw [show x = 0 by omega, Int.zero_ediv]
      · rw [if_neg (by omega)]; exact quot_step x u hu
    rcases h with h | h
    · left; exact ⟨h, by rw [h]⟩
    · right; exact h

theorem cnt_mul (p z : Int) (hp : 0 ≤ p) (hz : 0 ≤ z) : cnt (cnt p * z) = cnt (p * z) := by
  by_cases h0 : z = 0
  · rw [h0, Int.mul_zero, Int.mul_zero]
  by_cases hm : p ≤ 4611686018427387904
  · rw [cnt_in hp hm]
  · have h1 : 4611686018427387904 * 1 ≤ 4611686018427387904 * z := Int.mul_le_mul_of_nonneg_left (by omega) (by omega)
    have h2 : 4611686018427387904 * 1 ≤ p * z := Int.mul_le_mul (by omega) (by omega) (by omega) hp
    rw [cnt_hi (n := p) (by omega), cnt_hi (by omega), cnt_hi (by omega)]

theorem three_core (x y z : Int) (hx0 : 0 ≤ x) (hx1 : x ≤ 4611686018427387904) (hy0 : 0 ≤ y) (hy1 : y ≤ 4611686018427387904) (hz0 : 0 ≤ z) (hz1 : z ≤ 4611686018427387904) :
    ∃ s1 s2 t p1 p2 u d v : Int,
      (∀ w, Calls Try.prog 13 #[.int .i64 x, .int .i64 y] w fun e w' => e = .returned (.int .i64 s1) ∧ w' = w) ∧
      (∀ w, Calls Try.prog 13 #[.int .i64 s1, .int .i64 z] w fun e w' => e = .returned (.int .i64 t) ∧ w' = w) ∧
      (∀ w, Calls Try.prog 13 #[.int .i64 y, .int .i64 z] w fun e w' => e = .returned (.int .i64 s2) ∧ w' = w) ∧
      (∀ w, Calls Try.prog 13 #[.int .i64 x, .int .i64 s2] w fun e w' => e = .returned (.int .i64 t) ∧ w' = w) ∧
      (∀ w, Calls Try.prog 18 #[.int .i64 x, .int .i64 y] w fun e w' => e = .returned (.int .i64 p1) ∧ Grown w w') ∧
      (∀ w, Calls Try.prog 18 #[.int .i64 p1, .int .i64 z] w fun e w' => e = .returned (.int .i64 u) ∧ Grown w w') ∧
      (∀ w, Calls Try.prog 18 #[.int .i64 y, .int .i64 z] w fun e w' => e = .returned (.int .i64 p2) ∧ Grown w w') ∧
      (∀ w, Calls Try.prog 18 #[.int .i64 x, .int .i64 p2] w fun e w' => e = .returned (.int .i64 u) ∧ Grown w w') ∧
      (∀ w, Calls Try.prog 15 #[.int .i64 x, .int .i64 y] w fun e w' => e = .returned (.int .i64 d) ∧ w' = w) ∧
      (∀ w, Calls Try.prog 15 #[.int .i64 d, .int .i64 z] w fun e w' => e = .returned (.int .i64 v) ∧ w' = w) ∧
      (∀ w, Calls Try.prog 15 #[.int .i64 x, .int .i64 s2] w fun e w' => e = .returned (.int .i64 v) ∧ w' = w) := by
  have bxy := cnt_bd (x + y)
  have byz := cnt_bd (y + z)
  have pxy := cnt_bd (x * y)
  have pyz := cnt_bd (y * z)
  have dxy := cnt_bd (x - y)
  refine ⟨cnt (x + y), cnt (y + z), cnt (x + y + z), cnt (x * y), cnt (y * z), cnt (x * y * z), cnt (x - y), cnt (x - y - z), fun w => add_any _ _ w (by omega) (by omega) (by omega) (by omega), fun w => ?_, fun w => add_any _ _ w (by omega) (by omega) (by omega) (by omega), fun w => ?_, fun w => mul_any _ _ w (by omega) (by omega) (by omega) (by omega), fun w => ?_, fun w => mul_any _ _ w (by omega) (by omega) (by omega) (by omega), fun w => ?_, fun w => sub_any _ _ w (by omega) (by omega) (by omega) (by omega), fun w => ?_, fun w => ?_⟩
  · have h := add_any (cnt (x + y)) z w (by omega) (by omega) (by omega) (by omega)
    rwa [show cnt (cnt (x + y) + z) = cnt (x + y + z) by unfold cnt; split <;> (try split) <;> (try split) <;> (try split) <;> (try split) <;> omega] at h
  · have h := add_any x (cnt (y + z)) w (by omega) (by omega) (by omega) (by omega)
    rwa [show cnt (x + cnt (y + z)) = cnt (x + y + z) by unfold cnt; split <;> (try split) <;> (try split) <;> (try split) <;> (try split) <;> omega] at h
  · have h := mul_any (cnt (x * y)) z w (by omega) (by omega) (by omega) (by omega)
    rwa [cnt_mul _ _ (Int.mul_nonneg hx0 hy0) hz0] at h
  · have h := mul_any x (cnt (y * z)) w (by omega) (by omega) (by omega) (by omega)
    rwa [show cnt (x * cnt (y * z)) = cnt (x * y * z) by rw [Int.mul_comm x (cnt (y * z)), cnt_mul _ _ (Int.mul_nonneg hy0 hz0) hx0, Int.mul_comm (y * z) x, ← Int.mul_assoc]] at h
  · have h := sub_any (cnt (x - y)) z w (by omega) (by omega) (by omega) (by omega)
    rwa [show cnt (cnt (x - y) - z) = cnt (x - y - z) by unfold cnt; split <;> (try split) <;> (try split) <;> (try split) <;> (try split) <;> omega] at h
  · have h := sub_any x (cnt (y + z)) w (by omega) (by omega) (by omega) (by omega)
    rwa [show cnt (x - cnt (y + z)) = cnt (x - y - z) by unfold cnt; split <;> (try split) <;> (try split) <;> (try split) <;> (try split) <;> omega] at h

/-- Of units in two parts and in both together: x and y are counts, their sum is one. -/
theorem units_parts (x y u : Int) (hx0 : 0 ≤ x) (hy0 : 0 ≤ y) (hs : x + y ≤ 4611686018427387904) (hu : 1 ≤ u) :
    unitsV x u + unitsV y u = unitsV (x + y) u ∨ unitsV x u + unitsV y u = unitsV (x + y) u + 1 := by
  rw [units_of x u hx0 (by omega), units_of y u hy0 (by omega), units_of (x + y) u (by omega) hs]
  by_cases hx : x < 1
  · rw [if_pos hx, show x = 0 by omega]; left; rw [Int.zero_add, Int.zero_add]
  by_cases hy : y < 1
  · rw [if_pos hy, show y = 0 by omega]; left; rw [Int.add_zero, Int.add_zero]
  rw [if_neg hx, if_neg hy, if_neg (by omega), if_neg (by omega), if_neg (by omega), if_neg (by omega)]
  have ex := Int.mul_ediv_add_emod (x - 1) u
  have ey := Int.mul_ediv_add_emod (y - 1) u
  have rx := Int.emod_lt_of_pos (x - 1) (by omega : 0 < u)
  have ry := Int.emod_lt_of_pos (y - 1) (by omega : 0 < u)
  have sx := Int.emod_nonneg (x - 1) (by omega : u ≠ 0)
  have sy := Int.emod_nonneg (y - 1) (by omega : u ≠ 0)
  have e : x + y - 1 = ((x - 1) % u + (y - 1) % u + 1) + u * ((x - 1) / u + (y - 1) / u) := by rw [Int.mul_add]; omega
  have e2 : (x + y - 1) / u = ((x - 1) % u + (y - 1) % u + 1) / u + ((x - 1) / u + (y - 1) / u) := by
    rw [e, Int.add_mul_ediv_left _ _ (by omega)]
  rw [e2]
  generalize (x - 1) % u = a at *
  generalize (y - 1) % u = b at *
  by_cases hc : a + b + 1 < u
  · have : (a + b + 1) / u = 0 := Int.ediv_eq_zero_of_lt (by omega) hc
    omega
  · have h1 : (a + b + 1) / u = (a + b + 1 - u) / u + 1 := by
      rw [show a + b + 1 = (a + b + 1 - u) + u by omega, Int.add_ediv_of_dvd_right (Int.dvd_refl u), Int.ediv_self (by omega)]
      rw [show a + b + 1 - u + u - u = a + b + 1 - u by omega]
    have h2 : (a + b + 1 - u) / u = 0 := Int.ediv_eq_zero_of_lt (by omega) (by omega)
    omega
end Go.Proofs.Ytclfpmmiplandaa
