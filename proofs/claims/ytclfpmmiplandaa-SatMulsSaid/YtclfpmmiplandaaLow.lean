/- The contracts of the small functions of sat that make no memory: magnitude, sum and the closure of Sub. -/
import Derived.Test.YtclfpmmiplandaaRows
import Derived.WalkKit
import Derived.WalkLawsBesides
import Derived.ProofKit
import Derived.IntWalk
import Derived.Lib.Hide
namespace Go.Proofs.Ytclfpmmiplandaa
open Go.ChangeShapes Go.WideShapes Go.ChangeAt Go.RowKit

theorem ret_int {k : IntKind} {a b : Int} (h : a = b) : Ending.returned (.int k a) = .returned (.int k b) := by rw [h]

theorem wf_bd {a : Int} (h : (Lit.int .i64 a).wf = true) : -9223372036854775808 ≤ a ∧ a ≤ 9223372036854775807 := by
  simp [Lit.wf, IntKind.min, IntKind.max, IntKind.signed, IntKind.bits] at h
  omega

/-- The size of a number, as a natural number below 2^64. -/
theorem magnitude_any (n : Int) (w : World) (h0 : -9223372036854775808 ≤ n) (h1 : n ≤ 9223372036854775807) :
    Calls Try.prog 32 #[.int .i64 n] w fun e w' => e = .returned (.int .u64 (n.natAbs : Int)) ∧ w' = w := by
  by_cases h : n < 0
  · go_enter Try.func32, Try.ntmps32
    go_wp2
    go_ret
    exact ⟨ret_int (by simp only [IntKind.wrap_u64]; omega), rfl⟩
  · go_enter Try.func32, Try.ntmps32
    go_wp2
    go_ret
    exact ⟨ret_int (by omega), rfl⟩

/-- What sum answers: of two sizes and their signs. -/
def sumV (x y : Nat) (xn yn : Bool) : Nat :=
  if xn = true then (if yn = true then 0 else y - x) else (if yn = true then x - y else x + y)

theorem sum_any (x y : Nat) (xn yn : Bool) (w : World) (hx : x ≤ 9223372036854775808) (hy : y ≤ 9223372036854775808) (hb : sumV x y xn yn < 18446744073709551616) :
    Calls Try.prog 26 #[.int .u64 x, .int .u64 y, .bool xn, .bool yn] w fun e w' => e = .returned (.int .u64 (sumV x y xn yn : Int)) ∧ w' = w := by
  unfold sumV at hb ⊢
  cases xn <;> cases yn <;> simp only [if_true, if_false, Bool.false_eq_true] at hb ⊢
  · go_enter Try.func26, Try.ntmps26
    go_wp2
    go_ret
    exact ⟨ret_int (by omega), rfl⟩
  · go_enter Try.func26, Try.ntmps26
    go_wp2
    all_goals (go_ret; exact ⟨ret_int (by omega), rfl⟩)
  · go_enter Try.func26, Try.ntmps26
    go_wp2
    all_goals (go_ret; exact ⟨ret_int (by omega), rfl⟩)
  · go_enter Try.func26, Try.ntmps26
    go_wp2
    all_goals (go_ret; exact ⟨ret_int (by omega), rfl⟩)

theorem sub1_any (x y : Nat) (xn yn : Bool) (w : World) (hx : x ≤ 9223372036854775808) (hy : y ≤ 9223372036854775808) (hb : sumV x y xn (!yn) < 18446744073709551616) :
    Calls Try.prog 27 #[.int .u64 x, .int .u64 y, .bool xn, .bool yn] w fun e w' => e = .returned (.int .u64 (sumV x y xn (!yn) : Int)) ∧ w' = w := by
  cases yn
  · go_enter Try.func27, Try.ntmps27
    go_wp2_with (go_at_call 26; refine (sum_any x y xn true _ hx hy hb).mono ?_; rintro e w' ⟨rfl, hw⟩; rw [hw])
    go_ret
    exact ⟨rfl, rfl⟩
  · go_enter Try.func27, Try.ntmps27
    go_wp2_with (go_at_call 26; refine (sum_any x y xn false _ hx hy hb).mono ?_; rintro e w' ⟨rfl, hw⟩; rw [hw])
    go_ret
    exact ⟨rfl, rfl⟩

/-- The count of an integer. -/
def cnt (n : Int) : Int := if n < 0 then 0 else if 4611686018427387904 < n then 4611686018427387904 else n
theorem cnt_lo {n : Int} (h : n ≤ 0) : cnt n = 0 := by unfold cnt; split <;> (try split) <;> omega
theorem cnt_hi {n : Int} (h : 4611686018427387904 ≤ n) : cnt n = 4611686018427387904 := by unfold cnt; split <;> (try split) <;> omega
theorem cnt_in {n : Int} (h0 : 0 ≤ n) (h1 : n ≤ 4611686018427387904) : cnt n = n := by unfold cnt; split <;> (try split) <;> omega
theorem cnt_bd (n : Int) : 0 ≤ cnt n ∧ cnt n ≤ 4611686018427387904 := by unfold cnt; split <;> (try split) <;> omega

theorem sumV_add (a b : Int) : (sumV a.natAbs b.natAbs (decide (a < 0)) (decide (b < 0)) : Int) = if 0 < a + b then a + b else 0 := by
  unfold sumV; by_cases ha : a < 0 <;> by_cases hb : b < 0 <;> simp only [ha, hb, decide_true, decide_false, if_true, if_false, Bool.false_eq_true] <;> split <;> omega
theorem sumV_sub (a b : Int) : (sumV a.natAbs b.natAbs (decide (a < 0)) (!decide (b < 0)) : Int) = if 0 < a - b then a - b else 0 := by
  unfold sumV; by_cases ha : a < 0 <;> by_cases hb : b < 0 <;> simp only [ha, hb, decide_true, decide_false, if_true, if_false, Bool.false_eq_true, Bool.not_true, Bool.not_false] <;> split <;> omega

theorem signed_add (a b : Int) (w : World) (h0 : -9223372036854775808 ≤ a) (h1 : a ≤ 9223372036854775807) (g0 : -9223372036854775808 ≤ b) (g1 : b ≤ 9223372036854775807) :
    Calls Try.prog 25 #[.int .i64 a, .int .i64 b, .func (.func 26) #[] #[]] w fun e w' => e = .returned (.int .i64 (cnt (a + b))) ∧ w' = w := by
  have hs := sumV_add a b
  have hB : sumV a.natAbs b.natAbs (decide (a < 0)) (decide (b < 0)) < 18446744073709551616 := by split at hs <;> omega
  have H := Lib.hid hs; clear hs
  go_enter Try.func25, Try.ntmps25
  go_wp2_with (first | (go_at_call 32; refine (magnitude_any _ _ (by omega) (by omega)).mono ?_; rintro e w' ⟨rfl, hw⟩; rw [hw]) | (go_at_call 26; refine (sum_any _ _ _ _ _ (by omega) (by omega) hB).mono ?_; rintro e w' ⟨rfl, hw⟩; rw [hw]))
  all_goals (go_ret; refine ⟨ret_int ?_, rfl⟩; have hs := H.out; unfold cnt; split at hs <;> split <;> (try split) <;> omega)

theorem signed_sub (a b : Int) (w : World) (h0 : -9223372036854775808 ≤ a) (h1 : a ≤ 9223372036854775807) (g0 : -9223372036854775808 ≤ b) (g1 : b ≤ 9223372036854775807) :
    Calls Try.prog 25 #[.int .i64 a, .int .i64 b, .func (.func 27) #[] #[]] w fun e w' => e = .returned (.int .i64 (cnt (a - b))) ∧ w' = w := by
  have hs := sumV_sub a b
  have hB : sumV a.natAbs b.natAbs (decide (a < 0)) (!decide (b < 0)) < 18446744073709551616 := by split at hs <;> omega
  have H := Lib.hid hs; clear hs
  go_enter Try.func25, Try.ntmps25
  go_wp2_with (first | (go_at_call 32; refine (magnitude_any _ _ (by omega) (by omega)).mono ?_; rintro e w' ⟨rfl, hw⟩; rw [hw]) | (go_at_call 27; refine (sub1_any _ _ _ _ _ (by omega) (by omega) hB).mono ?_; rintro e w' ⟨rfl, hw⟩; rw [hw]))
  all_goals (go_ret; refine ⟨ret_int ?_, rfl⟩; have hs := H.out; unfold cnt; split at hs <;> split <;> (try split) <;> omega)

theorem add_any (a b : Int) (w : World) (h0 : -9223372036854775808 ≤ a) (h1 : a ≤ 9223372036854775807) (g0 : -9223372036854775808 ≤ b) (g1 : b ≤ 9223372036854775807)  :
    Calls Try.prog 13 #[.int .i64 a, .int .i64 b] w fun e w' => e = .returned (.int .i64 (cnt (a + b))) ∧ w' = w := by
  go_enter Try.func13, Try.ntmps13
  go_wp2_with (go_at_call 25; refine (signed_add a b _ h0 h1 g0 g1).mono ?_; rintro e w' ⟨rfl, hw⟩; rw [hw])
  go_ret
  exact ⟨rfl, rfl⟩

theorem sub_any (a b : Int) (w : World) (h0 : -9223372036854775808 ≤ a) (h1 : a ≤ 9223372036854775807) (g0 : -9223372036854775808 ≤ b) (g1 : b ≤ 9223372036854775807)  :
    Calls Try.prog 15 #[.int .i64 a, .int .i64 b] w fun e w' => e = .returned (.int .i64 (cnt (a - b))) ∧ w' = w := by
  go_enter Try.func15, Try.ntmps15
  go_wp2_with (go_at_call 25; refine (signed_sub a b _ h0 h1 g0 g1).mono ?_; rintro e w' ⟨rfl, hw⟩; rw [hw])
  go_ret
  exact ⟨rfl, rfl⟩

theorem clip_any (a : Int) (w : World) (h0 : -9223372036854775808 ≤ a) (h1 : a ≤ 9223372036854775807) :
    Calls Try.prog 11 #[.int .i64 a] w fun e w' => e = .returned (.int .i64 (cnt a)) ∧ w' = w := by
  go_enter Try.func11, Try.ntmps11
  go_wp2_with (go_at_call 13; refine (add_any a 0 _ h0 h1 (by omega) (by omega)).mono ?_; rintro e w' ⟨rfl, hw⟩; rw [hw])
  go_ret
  exact ⟨rfl, rfl⟩

/-- The units that a number takes: of a number and a unit from 1 on. -/
def unitsV (n u : Int) : Int := if n < 1 then 0 else if u < 1 then 0 else (cnt n - 1) / u + 1

set_option maxHeartbeats 400000 in
theorem units_any (n u : Int) (w : World) (h0 : -9223372036854775808 ≤ n) (h1 : n ≤ 9223372036854775807) (g0 : -9223372036854775808 ≤ u) (g1 : u ≤ 9223372036854775807) :
    Calls Try.prog 22 #[.int .i64 n, .int .i64 u] w fun e w' => e = .returned (.int .i64 (unitsV n u)) ∧ w' = w := by
  by_cases hn : n < 1
  · go_enter Try.func22, Try.ntmps22
    go_wp2_with fail
    go_ret
    exact ⟨ret_int (by simp [unitsV, hn]), rfl⟩
  by_cases hu : u < 1
  · go_enter Try.func22, Try.ntmps22
    go_wp2_with fail
    go_ret
    exact ⟨ret_int (by simp [unitsV, hu]), rfl⟩
  have hc := cnt_bd n
  have hc1 : 1 ≤ cnt n := by unfold cnt; split <;> (try split) <;> omega
  have hq0 : 0 ≤ (cnt n - 1) / u := Int.ediv_nonneg (by omega) (by omega)
  have hq1 : (cnt n - 1) / u ≤ cnt n - 1 := Int.ediv_le_self _ (by omega)
  go_enter Try.func22, Try.ntmps22
  go_wp2_with (go_at_call 11; refine (clip_any n _ h0 h1).mono ?_; rintro e w' ⟨rfl, hw⟩; rw [hw])
  go_ret
  exact ⟨ret_int (by rw [unitsV, if_neg (by omega), if_neg (by omega)]), rfl⟩
end Go.Proofs.Ytclfpmmiplandaa
