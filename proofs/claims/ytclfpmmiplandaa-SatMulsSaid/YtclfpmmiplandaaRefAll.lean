/- The document's own Scale, Mul and Units, for any numbers. -/
import Derived.Test.YtclfpmmiplandaaRefMul
namespace Go.Proofs.Ytclfpmmiplandaa
open Go.ChangeShapes Go.WideShapes Go.ChangeAt Go.RowKit

theorem scale_zero (a b c : Int) (h : c < 1 ∨ a * b ≤ 0) : scaleV a b c = 0 := by
  unfold scaleV; split
  · rfl
  · rename_i hc
    have hp : a * b ≤ 0 := by rcases h with h | h; (exact absurd h hc); exact h
    exact cnt_lo (Int.le_trans (Int.ediv_le_ediv (by omega) hp) (by rw [Int.zero_ediv]; exact Int.le_refl 0))

theorem same_prod (a b : Int) (hs : (a < 0 ∧ b < 0) ∨ (0 < a ∧ 0 < b)) : a * b = ((a.natAbs * b.natAbs : Nat) : Int) := by
  rcases hs with ⟨ha, hb⟩ | ⟨ha, hb⟩
  · obtain ⟨x, rfl⟩ : ∃ x : Nat, a = -(x : Int) := ⟨a.natAbs, by omega⟩
    obtain ⟨y, rfl⟩ : ∃ y : Nat, b = -(y : Int) := ⟨b.natAbs, by omega⟩
    rw [Int.neg_mul_neg, Int.natAbs_neg, Int.natAbs_neg]; rfl
  · obtain ⟨x, rfl⟩ : ∃ x : Nat, a = (x : Int) := ⟨a.natAbs, by omega⟩
    obtain ⟨y, rfl⟩ : ∃ y : Nat, b = (y : Int) := ⟨b.natAbs, by omega⟩
    rfl

theorem ref_scale (a b c : Int) (w : World) (h0 : -9223372036854775808 ≤ a) (h1 : a ≤ 9223372036854775807) (g0 : -9223372036854775808 ≤ b) (g1 : b ≤ 9223372036854775807) (hc1 : c ≤ 9223372036854775807) :
    Calls Try.prog 21 #[.int .i64 a, .int .i64 b, .int .i64 c] w fun e w' => e = .returned (.int .i64 (scaleV a b c)) ∧ w' = w := by
  by_cases hc : c < 1
  · rw [scale_zero a b c (Or.inl hc)]
    go_enter Try.func21, Try.ntmps21
    go_wp2_with fail
    go_ret
    exact ⟨rfl, rfl⟩
  by_cases ha : a = 0
  · rw [scale_zero a b c (Or.inr (by rw [ha, Int.zero_mul]; exact Int.le_refl 0))]
    have e : (a == 0) = true := by simp [ha]
    clear ha
    go_enter Try.func21, Try.ntmps21
    go_wp2_with fail
    go_ret
    exact ⟨rfl, rfl⟩
  have ea : (a == 0) = false := by simp [ha]
  by_cases hb : b = 0
  · rw [scale_zero a b c (Or.inr (by rw [hb, Int.mul_zero]; exact Int.le_refl 0))]
    have e : (b == 0) = true := by simp [hb]
    clear hb ha
    go_enter Try.func21, Try.ntmps21
    go_wp2_with fail
    go_ret
    exact ⟨rfl, rfl⟩
  have eb : (b == 0) = false := by simp [hb]
  by_cases na : a < 0
  · by_cases nb : b < 0
    · obtain ⟨n, rfl⟩ : ∃ n : Nat, c = (n : Int) := ⟨c.toNat, by omega⟩
      refine ref_scale_same a b n a.natAbs b.natAbs _ _ _ w h0 h1 g0 g1 (by omega) (by omega) ea eb (Or.inl ⟨na, nb⟩) rfl rfl ⟨rfl, rfl⟩ ?_
      show scaleV a b n = _
      unfold scaleV
      rw [if_neg hc, same_prod a b (Or.inl ⟨na, nb⟩)]; rfl
    · rw [scale_zero a b c (Or.inr (Int.mul_nonpos_of_nonpos_of_nonneg (by omega) (by omega)))]
      have pb : 0 < b := by omega
      clear hb ha
      go_enter Try.func21, Try.ntmps21
      go_wp2_with fail
      go_ret
      exact ⟨rfl, rfl⟩
  · have pa : 0 < a := by omega
    by_cases nb : b < 0
    · rw [scale_zero a b c (Or.inr (Int.mul_nonpos_of_nonneg_of_nonpos (by omega) (by omega)))]
      clear hb ha
      go_enter Try.func21, Try.ntmps21
      go_wp2_with fail
      go_ret
      exact ⟨rfl, rfl⟩
    · have pb : 0 < b := by omega
      obtain ⟨n, rfl⟩ : ∃ n : Nat, c = (n : Int) := ⟨c.toNat, by omega⟩
      refine ref_scale_same a b n a.natAbs b.natAbs _ _ _ w h0 h1 g0 g1 (by omega) (by omega) ea eb (Or.inr ⟨pa, pb⟩) rfl rfl ⟨rfl, rfl⟩ ?_
      show scaleV a b n = _
      unfold scaleV
      rw [if_neg hc, same_prod a b (Or.inr ⟨pa, pb⟩)]; rfl

/-- How far a number is from 0, at most the greatest count. -/
theorem ref_size (n : Int) (w : World) (h0 : -9223372036854775808 ≤ n) (h1 : n ≤ 9223372036854775807) :
    Calls Try.prog 28 #[.int .i64 n] w fun e w' => e = .returned (.int .i64 (cnt (n.natAbs : Int))) ∧ w' = w := by
  by_cases ha : n < -4611686018427387904
  · rw [cnt_hi (by omega)]
    go_enter Try.func28, Try.ntmps28
    go_wp2_with fail
    go_ret
    exact ⟨rfl, rfl⟩
  by_cases hb : n < 0
  · have c1 := fun w => ref_clip (-n) w (by omega) (by omega)
    rw [show -n = (n.natAbs : Int) by omega] at c1
    have e : -n = (n.natAbs : Int) := by omega
    go_enter Try.func28, Try.ntmps28
    go_wp2_with (go_at_call 12; ((with_reducible refine (c1 _).mono ?_); rintro e w' ⟨rfl, hw⟩; rw [hw]))
    go_ret
    exact ⟨rfl, rfl⟩
  · have c1 := fun w => ref_clip n w (by omega) (by omega)
    have e : cnt n = cnt (n.natAbs : Int) := by congr 1; omega
    rw [e] at c1
    clear e
    go_enter Try.func28, Try.ntmps28
    go_wp2_with (go_at_call 12; ((with_reducible refine (c1 _).mono ?_); rintro e w' ⟨rfl, hw⟩; rw [hw]))
    go_ret
    exact ⟨rfl, rfl⟩

theorem mul_hi (x y : Int) (hy0 : 1 ≤ y) (hy1 : y ≤ 4611686018427387904) :
    (4611686018427387904 / y < x → 4611686018427387904 ≤ x * y) ∧ (x ≤ 4611686018427387904 / y → x * y ≤ 4611686018427387904) := by
  constructor
  · intro h
    have h1 := (Int.ediv_lt_iff_lt_mul (by omega : 0 < y)).1 h
    omega
  · intro h
    exact (Int.le_ediv_iff_mul_le (by omega : 0 < y)).1 h

theorem cnt_cnt_mul (p q : Int) (hp : 0 ≤ p) (hq : 0 ≤ q) : cnt (cnt p * cnt q) = cnt (p * q) := by
  rw [cnt_mul p (cnt q) hp (cnt_bd q).1, Int.mul_comm p, cnt_mul q p hq hp, Int.mul_comm q]

theorem ref_mul (a b : Int) (w : World) (h0 : -9223372036854775808 ≤ a) (h1 : a ≤ 9223372036854775807) (g0 : -9223372036854775808 ≤ b) (g1 : b ≤ 9223372036854775807) :
    Calls Try.prog 19 #[.int .i64 a, .int .i64 b] w fun e w' => e = .returned (.int .i64 (cnt (a * b))) ∧ w' = w := by
  by_cases ha : a = 0
  · rw [cnt_lo (by rw [ha, Int.zero_mul]; exact Int.le_refl 0)]
    have e : (a == 0) = true := by simp [ha]
    clear ha
    go_enter Try.func19, Try.ntmps19
    go_wp2_with fail
    go_ret
    exact ⟨rfl, rfl⟩
  have ea : (a == 0) = false := by simp [ha]
  by_cases hb : b = 0
  · rw [cnt_lo (by rw [hb, Int.mul_zero]; exact Int.le_refl 0)]
    have e : (b == 0) = true := by simp [hb]
    clear hb ha
    go_enter Try.func19, Try.ntmps19
    go_wp2_with fail
    go_ret
    exact ⟨rfl, rfl⟩
  have eb : (b == 0) = false := by simp [hb]
  by_cases hm : a < 0 ∧ 0 < b
  · obtain ⟨na, pb⟩ := hm
    rw [cnt_lo (Int.mul_nonpos_of_nonpos_of_nonneg (by omega) (by omega))]
    clear hb ha
    go_enter Try.func19, Try.ntmps19
    go_wp2_with fail
    go_ret
    exact ⟨rfl, rfl⟩
  by_cases hm2 : 0 < a ∧ b < 0
  · obtain ⟨pa, nb⟩ := hm2
    rw [cnt_lo (Int.mul_nonpos_of_nonneg_of_nonpos (by omega) (by omega))]
    clear hb ha hm
    go_enter Try.func19, Try.ntmps19
    go_wp2_with fail
    go_ret
    exact ⟨rfl, rfl⟩
  have hs : (a < 0 ∧ b < 0) ∨ (0 < a ∧ 0 < b) := by omega
  have e1 : cnt (cnt (a.natAbs : Int) * cnt (b.natAbs : Int)) = cnt (a * b) := by
    rw [cnt_cnt_mul _ _ (by omega) (by omega), same_prod a b hs, Int.natCast_mul]
  have s1 := fun w => ref_size a w h0 h1
  have s2 := fun w => ref_size b w g0 g1
  have x1 : 1 ≤ cnt (a.natAbs : Int) := by unfold cnt; split <;> (try split) <;> omega
  have y1 : 1 ≤ cnt (b.natAbs : Int) := by unfold cnt; split <;> (try split) <;> omega
  have bx := cnt_bd (a.natAbs : Int)
  have by' := cnt_bd (b.natAbs : Int)
  rw [← e1]
  generalize cnt (a.natAbs : Int) = x at *
  generalize cnt (b.natAbs : Int) = y at *
  obtain ⟨b1, b2⟩ := bx
  obtain ⟨b3, b4⟩ := by'
  clear e1 hm hm2 ha hb
  obtain ⟨k1, k2⟩ := mul_hi x y y1 b4
  have d0 : 0 ≤ 4611686018427387904 / y := Int.ediv_nonneg (by omega) (by omega)
  have d1 : 4611686018427387904 / y ≤ 4611686018427387904 := Int.ediv_le_self _ (by omega)
  by_cases hq : 4611686018427387904 / y < x
  · rw [cnt_hi (k1 hq)]
    clear k1 k2
    rcases hs with ⟨g1, g2⟩ | ⟨g1, g2⟩
    all_goals
      go_enter Try.func19, Try.ntmps19
      go_wp2_with (first
        | (go_at_call 28; ((with_reducible refine (s1 _).mono ?_); rintro e w' ⟨rfl, hw⟩; rw [hw]))
        | (go_at_call 28; ((with_reducible refine (s2 _).mono ?_); rintro e w' ⟨rfl, hw⟩; rw [hw])))
      go_ret
      exact ⟨rfl, rfl⟩
  · have hp := k2 (by omega)
    have hp0 : 0 ≤ x * y := Int.mul_nonneg b1 b3
    rw [cnt_in hp0 hp]
    clear k1 k2
    rcases hs with ⟨g1, g2⟩ | ⟨g1, g2⟩
    all_goals
      go_enter Try.func19, Try.ntmps19
      go_wp2_with (first
        | (go_at_call 28; ((with_reducible refine (s1 _).mono ?_); rintro e w' ⟨rfl, hw⟩; rw [hw]))
        | (go_at_call 28; ((with_reducible refine (s2 _).mono ?_); rintro e w' ⟨rfl, hw⟩; rw [hw])))
      go_ret
      exact ⟨rfl, rfl⟩

theorem quot_up (x u : Int) (hu : 1 ≤ u) : (0 < x % u → (x - 1) / u + 1 = x / u + 1) ∧ (x % u ≤ 0 → (x - 1) / u + 1 = x / u) := by
  have e := Int.mul_ediv_add_emod x u
  have r1 := Int.emod_lt_of_pos x (by omega : 0 < u)
  have r0 := Int.emod_nonneg x (by omega : u ≠ 0)
  constructor
  · intro h
    have e2 : x - 1 = (x % u - 1) + u * (x / u) := by omega
    rw [e2, Int.add_mul_ediv_left _ _ (by omega : u ≠ 0), Int.ediv_eq_zero_of_lt (by omega) (by omega), Int.zero_add]
  · intro h
    have e2 : x - 1 = (u - 1) + u * (x / u - 1) := by rw [Int.mul_sub]; omega
    rw [e2, Int.add_mul_ediv_left _ _ (by omega : u ≠ 0), Int.ediv_eq_zero_of_lt (by omega) (by omega)]
    omega

theorem ref_units (n u : Int) (w : World) (h0 : -9223372036854775808 ≤ n) (h1 : n ≤ 9223372036854775807) (g1 : u ≤ 9223372036854775807) :
    Calls Try.prog 23 #[.int .i64 n, .int .i64 u] w fun e w' => e = .returned (.int .i64 (unitsV n u)) ∧ w' = w := by
  by_cases hn : n < 1
  · rw [show unitsV n u = 0 from if_pos hn]
    go_enter Try.func23, Try.ntmps23
    go_wp2_with fail
    go_ret
    exact ⟨rfl, rfl⟩
  by_cases hu : u < 1
  · rw [show unitsV n u = 0 by unfold unitsV; rw [if_neg hn, if_pos hu]]
    go_enter Try.func23, Try.ntmps23
    go_wp2_with fail
    go_ret
    exact ⟨rfl, rfl⟩
  have ev : unitsV n u = (cnt n - 1) / u + 1 := by unfold unitsV; rw [if_neg hn, if_neg hu]
  have hc := cnt_bd n
  have c1 := fun w => ref_clip n w h0 h1
  rw [ev]
  clear ev
  generalize cnt n = x at *
  obtain ⟨q1, q2⟩ := quot_up x u (by omega)
  have d0 : 0 ≤ x / u := Int.ediv_nonneg (by omega) (by omega)
  have d1 : x / u ≤ x := Int.ediv_le_self _ (by omega)
  by_cases hm : 0 < x % u
  · rw [q1 hm]
    clear q1 q2
    go_enter Try.func23, Try.ntmps23
    go_wp2_with (go_at_call 12; ((with_reducible refine (c1 _).mono ?_); rintro e w' ⟨rfl, hw⟩; rw [hw]))
    go_ret
    exact ⟨rfl, rfl⟩
  · rw [q2 (by omega)]
    clear q1 q2
    go_enter Try.func23, Try.ntmps23
    go_wp2_with (go_at_call 12; ((with_reducible refine (c1 _).mono ?_); rintro e w' ⟨rfl, hw⟩; rw [hw]))
    go_ret
    exact ⟨rfl, rfl⟩
end Go.Proofs.Ytclfpmmiplandaa
