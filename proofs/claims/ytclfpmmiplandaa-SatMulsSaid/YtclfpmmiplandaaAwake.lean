/- The calls whose answers the document fixes (awake) answer true. -/
import Derived.Test.YtclfpmmiplandaaMid
namespace Go.Proofs.Ytclfpmmiplandaa
open Go.ChangeShapes Go.WideShapes Go.ChangeAt Go.RowKit

theorem aw_clip (w : World) : Calls Try.prog 11 #[.int .i64 (-3)] w fun e w' => e = .returned (.int .i64 0) ∧ w' = w := clip_any (-3) w (by omega) (by omega)
theorem aw_add1 (w : World) : Calls Try.prog 13 #[.int .i64 4611686018427387904, .int .i64 1] w fun e w' => e = .returned (.int .i64 4611686018427387904) ∧ w' = w := by
  have h := add_any 4611686018427387904 1 w (by omega) (by omega) (by omega) (by omega)
  rwa [show cnt (4611686018427387904 + 1) = 4611686018427387904 from cnt_hi (by omega)] at h
theorem aw_add2 (w : World) : Calls Try.prog 13 #[.int .i64 (-5), .int .i64 3] w fun e w' => e = .returned (.int .i64 0) ∧ w' = w := add_any (-5) 3 w (by omega) (by omega) (by omega) (by omega)
theorem aw_sub1 (w : World) : Calls Try.prog 15 #[.int .i64 3, .int .i64 5] w fun e w' => e = .returned (.int .i64 0) ∧ w' = w := sub_any 3 5 w (by omega) (by omega) (by omega) (by omega)
theorem aw_sub2 (w : World) : Calls Try.prog 15 #[.int .i64 0, .int .i64 (-9223372036854775808)] w fun e w' => e = .returned (.int .i64 4611686018427387904) ∧ w' = w := by
  have h := sub_any 0 (-9223372036854775808) w (by omega) (by omega) (by omega) (by omega)
  rwa [show cnt (0 - (-9223372036854775808)) = 4611686018427387904 from cnt_hi (by omega)] at h
theorem aw_mul1 (w : World) : Calls Try.prog 18 #[.int .i64 (-9223372036854775808), .int .i64 (-1)] w fun e w' => e = .returned (.int .i64 4611686018427387904) ∧ Grown w w' := by
  have h := mul_any (-9223372036854775808) (-1) w (by omega) (by omega) (by omega) (by omega)
  rwa [show cnt (-9223372036854775808 * -1) = 4611686018427387904 from cnt_hi (by omega)] at h
theorem aw_mul2 (w : World) : Calls Try.prog 18 #[.int .i64 2147483648, .int .i64 1073741824] w fun e w' => e = .returned (.int .i64 2305843009213693952) ∧ Grown w w' := by
  have h := mul_any 2147483648 1073741824 w (by omega) (by omega) (by omega) (by omega)
  rwa [show cnt (2147483648 * 1073741824) = 2305843009213693952 from cnt_in (by omega) (by omega)] at h
theorem aw_scale1 (w : World) : Calls Try.prog 20 #[.int .i64 7, .int .i64 3, .int .i64 2] w fun e w' => e = .returned (.int .i64 10) ∧ Grown w w' := 
  scale_any 7 3 2 w (by omega) (by omega) (by omega) (by omega) (by omega) (fun _ => divOK_low _ _ _ (by decide) (by decide) (by decide))
theorem aw_scale2 (w : World) : Calls Try.prog 20 #[.int .i64 (-1), .int .i64 (-3), .int .i64 2] w fun e w' => e = .returned (.int .i64 1) ∧ Grown w w' := 
  scale_any (-1) (-3) 2 w (by omega) (by omega) (by omega) (by omega) (by omega) (fun _ => divOK_low _ _ _ (by decide) (by decide) (by decide))
theorem aw_units1 (w : World) : Calls Try.prog 22 #[.int .i64 7, .int .i64 3] w fun e w' => e = .returned (.int .i64 3) ∧ w' = w := units_any 7 3 w (by omega) (by omega) (by omega) (by omega)
theorem aw_units2 (w : World) : Calls Try.prog 22 #[.int .i64 6, .int .i64 3] w fun e w' => e = .returned (.int .i64 2) ∧ w' = w := units_any 6 3 w (by omega) (by omega) (by omega) (by omega)

set_option maxHeartbeats 1000000 in
theorem awake_any (w : World) : Calls Try.prog 17 #[] w fun e w' => e = .returned (.bool true) ∧ Grown w w' := by
  go_enter Try.func17, Try.ntmps17
  go_wp2_with (first
    | (go_at_call 11; refine (aw_clip _).mono ?_; rintro e w' ⟨rfl, hw⟩; rw [hw])
    | (go_at_call 13; ((with_reducible refine (aw_add1 _).mono ?_); rintro e w' ⟨rfl, hw⟩; rw [hw]))
    | (go_at_call 13; ((with_reducible refine (aw_add2 _).mono ?_); rintro e w' ⟨rfl, hw⟩; rw [hw]))
    | (go_at_call 15; ((with_reducible refine (aw_sub1 _).mono ?_); rintro e w' ⟨rfl, hw⟩; rw [hw]))
    | (go_at_call 15; ((with_reducible refine (aw_sub2 _).mono ?_); rintro e w' ⟨rfl, hw⟩; rw [hw]))
    | (go_at_call 18; ((with_reducible refine (aw_mul1 _).mono ?_); rintro e w' ⟨rfl, hg⟩))
    | (go_at_call 18; ((with_reducible refine (aw_mul2 _).mono ?_); rintro e w' ⟨rfl, hg⟩))
    | (go_at_call 20; ((with_reducible refine (aw_scale1 _).mono ?_); rintro e w' ⟨rfl, hg⟩))
    | (go_at_call 20; ((with_reducible refine (aw_scale2 _).mono ?_); rintro e w' ⟨rfl, hg⟩))
    | (go_at_call 22; ((with_reducible refine (aw_units1 _).mono ?_); rintro e w' ⟨rfl, hw⟩; rw [hw]))
    | (go_at_call 22; ((with_reducible refine (aw_units2 _).mono ?_); rintro e w' ⟨rfl, hw⟩; rw [hw])))
  go_ret
  refine ⟨rfl, ?_⟩
  repeat (first | assumption | exact Grown.refl _ | refine grown_trans ?_ (by assumption))
end Go.Proofs.Ytclfpmmiplandaa
