/- Scale of any three numbers, and what the laws of sat need of it. -/
import Derived.Test.YtclfpmmiplandaaDiv
import Derived.Test.YtclfpmmiplandaaTurns
namespace Go.Proofs.Ytclfpmmiplandaa
open Go.ChangeShapes Go.WideShapes Go.ChangeAt Go.RowKit

theorem scale_full (a b c : Int) (w : World) (h0 : -9223372036854775808 ≤ a) (h1 : a ≤ 9223372036854775807) (g0 : -9223372036854775808 ≤ b) (g1 : b ≤ 9223372036854775807) (hc1 : c ≤ 9223372036854775807) :
    Calls Try.prog 20 #[.int .i64 a, .int .i64 b, .int .i64 c] w fun e w' => e = .returned (.int .i64 (scaleV a b c)) ∧ Grown w w' :=
  scale_any a b c w h0 h1 g0 g1 hc1 (fun h => divOK _ _ _ (by omega) (by omega))

theorem is_any (n : Int) (w : World) (h0 : 0 ≤ n) (h1 : n ≤ 4611686018427387904) :
    Calls Try.prog 24 #[.int .i64 n] w fun e w' => e = .returned (.bool true) ∧ w' = w := by
  go_enter Try.func24, Try.ntmps24
  go_wp2_with fail
  go_ret
  exact ⟨rfl, rfl⟩

theorem scale_bd (a b c : Int) : 0 ≤ scaleV a b c ∧ scaleV a b c ≤ 4611686018427387904 := by
  unfold scaleV; split
  · omega
  · exact cnt_bd _

theorem unitsV_bd (n u : Int) : 0 ≤ unitsV n u ∧ unitsV n u ≤ 4611686018427387904 := by
  unfold unitsV; split
  · omega
  · split
    · omega
    · have hc := cnt_bd n
      have hc1 : 1 ≤ cnt n := by unfold cnt; split <;> (try split) <;> omega
      have := Int.ediv_nonneg (a := cnt n - 1) (b := u) (by omega) (by omega)
      have := Int.ediv_le_self (a := cnt n - 1) u (by omega)
      omega

theorem cnt_mono {a b : Int} (h : a ≤ b) : cnt a ≤ cnt b := by
  unfold cnt; split <;> (try split) <;> (try split) <;> (try split) <;> omega

theorem rises_core (x y z : Int) (hxy : x ≤ y) (hx0 : 0 ≤ x) (hy1 : y ≤ 4611686018427387904) (hz0 : 0 ≤ z) (hz1 : z ≤ 4611686018427387904) :
    ∃ s1 s2 p1 p2 d1 d2 e1 e2 k1 k2 : Int,
      (∀ w, Calls Try.prog 13 #[.int .i64 x, .int .i64 z] w fun e w' => e = .returned (.int .i64 s1) ∧ w' = w) ∧
      (∀ w, Calls Try.prog 13 #[.int .i64 y, .int .i64 z] w fun e w' => e = .returned (.int .i64 s2) ∧ w' = w) ∧
      (∀ w, Calls Try.prog 18 #[.int .i64 x, .int .i64 z] w fun e w' => e = .returned (.int .i64 p1) ∧ Grown w w') ∧
      (∀ w, Calls Try.prog 18 #[.int .i64 y, .int .i64 z] w fun e w' => e = .returned (.int .i64 p2) ∧ Grown w w') ∧
      (∀ w, Calls Try.prog 15 #[.int .i64 x, .int .i64 z] w fun e w' => e = .returned (.int .i64 d1) ∧ w' = w) ∧
      (∀ w, Calls Try.prog 15 #[.int .i64 y, .int .i64 z] w fun e w' => e = .returned (.int .i64 d2) ∧ w' = w) ∧
      (∀ w, Calls Try.prog 15 #[.int .i64 z, .int .i64 x] w fun e w' => e = .returned (.int .i64 e1) ∧ w' = w) ∧
      (∀ w, Calls Try.prog 15 #[.int .i64 z, .int .i64 y] w fun e w' => e = .returned (.int .i64 e2) ∧ w' = w) ∧
      (∀ w, Calls Try.prog 20 #[.int .i64 x, .int .i64 z, .int .i64 7] w fun e w' => e = .returned (.int .i64 k1) ∧ Grown w w') ∧
      (∀ w, Calls Try.prog 20 #[.int .i64 y, .int .i64 z, .int .i64 7] w fun e w' => e = .returned (.int .i64 k2) ∧ Grown w w') ∧
      s1 ≤ s2 ∧ p1 ≤ p2 ∧ d1 ≤ d2 ∧ e2 ≤ e1 ∧ k1 ≤ k2 := by
  have hm : x * z ≤ y * z := Int.mul_le_mul_of_nonneg_right hxy hz0
  refine ⟨_, _, _, _, _, _, _, _, _, _, fun w => add_any x z w (by omega) (by omega) (by omega) (by omega), fun w => add_any y z w (by omega) (by omega) (by omega) (by omega), fun w => mul_any x z w (by omega) (by omega) (by omega) (by omega), fun w => mul_any y z w (by omega) (by omega) (by omega) (by omega), fun w => sub_any x z w (by omega) (by omega) (by omega) (by omega), fun w => sub_any y z w (by omega) (by omega) (by omega) (by omega), fun w => sub_any z x w (by omega) (by omega) (by omega) (by omega), fun w => sub_any z y w (by omega) (by omega) (by omega) (by omega), fun w => scale_full x z 7 w (by omega) (by omega) (by omega) (by omega) (by omega), fun w => scale_full y z 7 w (by omega) (by omega) (by omega) (by omega) (by omega), cnt_mono (by omega), cnt_mono hm, cnt_mono (by omega), cnt_mono (by omega), ?_⟩
  unfold scaleV
  rw [if_neg (by omega), if_neg (by omega)]
  exact cnt_mono (Int.ediv_le_ediv (by omega) hm)

theorem same_core (x y : Int) (hx0 : 0 ≤ x) (hx1 : x ≤ 4611686018427387904) (hy0 : 0 ≤ y) (hy1 : y ≤ 4611686018427387904) :
    ∃ p : Int,
      (∀ w, Calls Try.prog 18 #[.int .i64 x, .int .i64 y] w fun e w' => e = .returned (.int .i64 p) ∧ Grown w w') ∧
      (∀ w, Calls Try.prog 13 #[.int .i64 x, .int .i64 0] w fun e w' => e = .returned (.int .i64 x) ∧ w' = w) ∧
      (∀ w, Calls Try.prog 15 #[.int .i64 x, .int .i64 0] w fun e w' => e = .returned (.int .i64 x) ∧ w' = w) ∧
      (∀ w, Calls Try.prog 15 #[.int .i64 x, .int .i64 x] w fun e w' => e = .returned (.int .i64 0) ∧ w' = w) ∧
      (∀ w, Calls Try.prog 18 #[.int .i64 x, .int .i64 1] w fun e w' => e = .returned (.int .i64 x) ∧ Grown w w') ∧
      (∀ w, Calls Try.prog 18 #[.int .i64 x, .int .i64 0] w fun e w' => e = .returned (.int .i64 0) ∧ Grown w w') ∧
      (∀ w, Calls Try.prog 20 #[.int .i64 x, .int .i64 y, .int .i64 1] w fun e w' => e = .returned (.int .i64 p) ∧ Grown w w') ∧
      (1 ≤ y → ∀ w, Calls Try.prog 20 #[.int .i64 x, .int .i64 y, .int .i64 y] w fun e w' => e = .returned (.int .i64 x) ∧ Grown w w') ∧
      (1 ≤ y → p ≤ 4611686018427387903 → ∀ w, Calls Try.prog 20 #[.int .i64 p, .int .i64 1, .int .i64 y] w fun e w' => e = .returned (.int .i64 x) ∧ Grown w w') ∧ 0 ≤ p ∧ p ≤ 4611686018427387904 := by
  have bp := cnt_bd (x * y)
  refine ⟨cnt (x * y), fun w => mul_any x y w (by omega) (by omega) (by omega) (by omega), fun w => ?_, fun w => ?_, fun w => ?_, fun w => ?_, fun w => ?_, fun w => ?_, fun h w => ?_, fun h hp w => ?_, bp.1, bp.2⟩
  · have h := add_any x 0 w (by omega) (by omega) (by omega) (by omega)
    rwa [Int.add_zero, cnt_in hx0 hx1] at h
  · have h := sub_any x 0 w (by omega) (by omega) (by omega) (by omega)
    rwa [Int.sub_zero, cnt_in hx0 hx1] at h
  · have h := sub_any x x w (by omega) (by omega) (by omega) (by omega)
    rwa [Int.sub_self, cnt_lo (Int.le_refl 0)] at h
  · have h := mul_any x 1 w (by omega) (by omega) (by omega) (by omega)
    rwa [Int.mul_one, cnt_in hx0 hx1] at h
  · have h := mul_any x 0 w (by omega) (by omega) (by omega) (by omega)
    rwa [Int.mul_zero, cnt_lo (Int.le_refl 0)] at h
  · have h := scale_full x y 1 w (by omega) (by omega) (by omega) (by omega) (by omega)
    rwa [show scaleV x y 1 = cnt (x * y) by unfold scaleV; rw [if_neg (by omega), Int.ediv_one]] at h
  · have h := scale_full x y y w (by omega) (by omega) (by omega) (by omega) (by omega)
    rwa [show scaleV x y y = x by unfold scaleV; rw [if_neg (by omega), Int.mul_ediv_cancel _ (by omega), cnt_in hx0 hx1]] at h
  · have e : cnt (x * y) = x * y := by
      have hn := Int.mul_nonneg hx0 hy0
      generalize x * y = q at *
      unfold cnt at *; split at hp <;> (try split at hp) <;> (try split) <;> (try split) <;> omega
    have h := scale_full (cnt (x * y)) 1 y w (by omega) (by omega) (by omega) (by omega) (by omega)
    rwa [show scaleV (cnt (x * y)) 1 y = x by rw [e]; unfold scaleV; rw [if_neg (by omega), Int.mul_one, Int.mul_ediv_cancel _ (by omega), cnt_in hx0 hx1]] at h
end Go.Proofs.Ytclfpmmiplandaa
