/- The document's own answers for counts (all but Scale). -/
import Derived.Test.YtclfpmmiplandaaLow
namespace Go.Proofs.Ytclfpmmiplandaa
open Go.ChangeShapes Go.WideShapes Go.ChangeAt Go.RowKit

theorem ref_clip (a : Int) (w : World) (h0 : -9223372036854775808 ≤ a) (h1 : a ≤ 9223372036854775807) :
    Calls Try.prog 12 #[.int .i64 a] w fun e w' => e = .returned (.int .i64 (cnt a)) ∧ w' = w := by
  by_cases ha : a < 0
  · rw [cnt_lo (by omega)]
    go_enter Try.func12, Try.ntmps12
    go_wp2
    go_ret
    exact ⟨rfl, rfl⟩
  by_cases hb : 4611686018427387904 < a
  · rw [cnt_hi (by omega)]
    go_enter Try.func12, Try.ntmps12
    go_wp2
    go_ret
    exact ⟨rfl, rfl⟩
  · rw [cnt_in (by omega) (by omega)]
    go_enter Try.func12, Try.ntmps12
    go_wp2
    go_ret
    exact ⟨rfl, rfl⟩

theorem ref_add (a b : Int) (w : World) (h0 : -9223372036854775808 ≤ a) (h1 : a ≤ 9223372036854775807) (g0 : -9223372036854775808 ≤ b) (g1 : b ≤ 9223372036854775807) :
    Calls Try.prog 14 #[.int .i64 a, .int .i64 b] w fun e w' => e = .returned (.int .i64 (cnt (a + b))) ∧ w' = w := by
  by_cases ha : 0 < a
  · by_cases hb : 4611686018427387904 - a < b
    · rw [cnt_hi (by omega)]
      go_enter Try.func14, Try.ntmps14
      go_wp2_with fail
      go_ret
      exact ⟨rfl, rfl⟩
    · go_enter Try.func14, Try.ntmps14
      go_wp2_with (go_at_call 12; refine (ref_clip _ _ (by omega) (by omega)).mono ?_; rintro e w' ⟨rfl, hw⟩; rw [hw])
      go_ret
      exact ⟨rfl, rfl⟩
  by_cases hn : a < 0
  · by_cases hb : b < 0
    · rw [cnt_lo (by omega)]
      go_enter Try.func14, Try.ntmps14
      go_wp2_with fail
      go_ret
      exact ⟨rfl, rfl⟩
    · go_enter Try.func14, Try.ntmps14
      go_wp2_with (go_at_call 12; refine (ref_clip _ _ (by omega) (by omega)).mono ?_; rintro e w' ⟨rfl, hw⟩; rw [hw])
      go_ret
      exact ⟨rfl, rfl⟩
  · go_enter Try.func14, Try.ntmps14
    go_wp2_with (go_at_call 12; refine (ref_clip _ _ (by omega) (by omega)).mono ?_; rintro e w' ⟨rfl, hw⟩; rw [hw])
    go_ret
    exact ⟨rfl, rfl⟩

theorem ref_sub (a b : Int) (w : World) (h0 : -9223372036854775808 ≤ a) (h1 : a ≤ 9223372036854775807) (g0 : -9223372036854775808 ≤ b) (g1 : b ≤ 9223372036854775807) :
    Calls Try.prog 16 #[.int .i64 a, .int .i64 b] w fun e w' => e = .returned (.int .i64 (cnt (a - b))) ∧ w' = w := by
  by_cases hl : a ≤ b
  · rw [cnt_lo (by omega)]
    go_enter Try.func16, Try.ntmps16
    go_wp2_with fail
    go_ret
    exact ⟨rfl, rfl⟩
  by_cases hc : 0 ≤ a ∧ b < 0
  · obtain ⟨ha, hb⟩ := hc
    have e1 : cnt (-(b + 1) + 1) = cnt (-b) := by rw [show -(b + 1) + 1 = -b by omega]
    have b1 := cnt_bd (-b)
    have e2 : cnt (a + cnt (-b)) = cnt (a - b) := by unfold cnt; split <;> (try split) <;> (try split) <;> (try split) <;> omega
    have c1 := ref_add (-(b + 1)) 1
    rw [e1] at c1
    have c2 := ref_add a (cnt (-b))
    rw [e2] at c2
    clear e1 e2
    go_enter Try.func16, Try.ntmps16
    go_wp2_with (first | (go_at_call 14; ((with_reducible refine (c1 _ (by omega) (by omega) (by omega) (by omega)).mono ?_); rintro e w' ⟨rfl, hw⟩; rw [hw])) | (go_at_call 14; ((with_reducible refine (c2 _ h0 h1 (by omega) (by omega)).mono ?_); rintro e w' ⟨rfl, hw⟩; rw [hw])))
    go_ret
    exact ⟨rfl, rfl⟩
  · by_cases ha : 0 ≤ a
    · have hb : ¬ b < 0 := by omega
      clear hc
      go_enter Try.func16, Try.ntmps16
      go_wp2_with (go_at_call 12; refine (ref_clip _ _ (by omega) (by omega)).mono ?_; rintro e w' ⟨rfl, hw⟩; rw [hw])
      go_ret
      exact ⟨rfl, rfl⟩
    · clear hc
      go_enter Try.func16, Try.ntmps16
      go_wp2_with (go_at_call 12; refine (ref_clip _ _ (by omega) (by omega)).mono ?_; rintro e w' ⟨rfl, hw⟩; rw [hw])
      go_ret
      exact ⟨rfl, rfl⟩
end Go.Proofs.Ytclfpmmiplandaa
