/- Kinds and canonical forms, of the program and of the document. -/
import Derived.Test.YtagempkaophnaaaLow
namespace Go.Proofs.Ytagempkaophnaaa
open Go.ChangeShapes Go.WideShapes Go.ChangeAt Go.RowKit

theorem sgn_of {a : Nat} (h : a < 18446744073709551616) : sgn a = decide (9223372036854775808 ≤ a) := by
  unfold sgn
  by_cases c : 9223372036854775808 ≤ a
  · rw [show a / 9223372036854775808 = 1 by omega, decide_eq_true c]; rfl
  · rw [show a / 9223372036854775808 = 0 by omega, decide_eq_false c]; rfl

theorem beq_dec (a b : Int) : (a == b) = decide (a = b) := rfl
theorem bne_dec (a b : Int) : (a != b) = decide (¬ a = b) := by
  by_cases h : a = b
  · rw [decide_eq_false (by omega), h]; simp
  · rw [decide_eq_true h]; simp [h]

theorem sgn_int {a : Nat} (h : a < 18446744073709551616) : ((a : Int) / 9223372036854775808 == 1) = sgn a := by
  rw [sgn_of h, beq_dec]
  exact decide_eq_decide.2 (by omega)

theorem kind_any (x : Int) (w : World) (h0 : 0 ≤ x) (h1 : x ≤ 18446744073709551615) : Calls Try.prog 13 #[.int .u64 x] w fun e w' => e = .returned (.tuple #[.int .u8 (kindN x.toNat), .bool (sgn x.toNat)]) ∧ w' = w := by
  obtain ⟨a, rfl⟩ := Int.eq_ofNat_of_zero_le h0
  have ha : a < 18446744073709551616 := by omega
  rw [Int.toNat_natCast]
  have h2 := run_from
  have h3 := sgn_int ha
  go_enter Try.func13, Try.ntmps13
  go_wp2_with (go_at_call 30; refine (kindOf_any _ _ ha).mono ?_; rintro e w' ⟨rfl, hw⟩; rw [hw])
  go_ret2
  exact ⟨rfl, rfl⟩

theorem rkind_any (x : Int) (w : World) (h0 : 0 ≤ x) (h1 : x ≤ 18446744073709551615) : Calls Try.prog 14 #[.int .u64 x] w fun e w' => e = .returned (.tuple #[.int .u8 (kindN x.toNat), .bool (sgn x.toNat)]) ∧ w' = w := by
  obtain ⟨a, rfl⟩ := Int.eq_ofNat_of_zero_le h0
  have ha : a < 18446744073709551616 := by omega
  rw [Int.toNat_natCast]
  have h3 := sgn_int ha
  have e1 : ((a : Int) / 4503599627370496 % 2048 == 2047) = decide (9218868437227405312 ≤ rung a) := by
    rw [beq_dec]; unfold rung; exact decide_eq_decide.2 (by omega)
  have e2 : ((a : Int) / 4503599627370496 % 2048 != 0) = decide (4503599627370496 ≤ rung a) := by
    rw [bne_dec]; unfold rung; exact decide_eq_decide.2 (by omega)
  have e3 : ((a : Int) % 4503599627370496 != 0) = decide (¬ rung a % 4503599627370496 = 0) := by
    rw [bne_dec]; unfold rung; exact decide_eq_decide.2 (by omega)
  unfold kindN
  by_cases c1 : rung a = 0
  · rw [if_pos c1]
    rw [decide_eq_false (by omega)] at e1 e2 e3
    go_enter Try.func14, Try.ntmps14
    go_wp2
    go_ret2; exact ⟨rfl, rfl⟩
  rw [if_neg c1]
  by_cases c2 : rung a < 4503599627370496
  · rw [if_pos c2]
    rw [decide_eq_false (by omega)] at e1 e2
    rw [decide_eq_true (by omega)] at e3
    go_enter Try.func14, Try.ntmps14
    go_wp2
    go_ret2; exact ⟨rfl, rfl⟩
  rw [if_neg c2]
  by_cases c3 : rung a < 9218868437227405312
  · rw [if_pos c3]
    rw [decide_eq_false (by omega)] at e1
    rw [decide_eq_true (by omega)] at e2
    clear e3
    go_enter Try.func14, Try.ntmps14
    go_wp2
    go_ret2; exact ⟨rfl, rfl⟩
  rw [if_neg c3]
  have hr := rung_lt a
  by_cases c4 : rung a = 9218868437227405312
  · rw [if_pos c4]
    rw [decide_eq_true (by omega)] at e1 e2
    rw [decide_eq_false (by omega)] at e3
    go_enter Try.func14, Try.ntmps14
    go_wp2
    go_ret2; exact ⟨rfl, rfl⟩
  · rw [if_neg c4]
    rw [decide_eq_true (by omega)] at e1 e2 e3
    go_enter Try.func14, Try.ntmps14
    go_wp2
    go_ret2; exact ⟨rfl, rfl⟩

/-- the canonical form of a word -/
def canonN (a : Nat) : Nat := if nanN a = true then 9221120237041090560 else a

theorem canon_any (x : Int) (w : World) (h0 : 0 ≤ x) (h1 : x ≤ 18446744073709551615) : Calls Try.prog 17 #[.int .u64 x] w fun e w' => e = .returned (.int .u64 (canonN x.toNat : Nat)) ∧ w' = w := by
  obtain ⟨a, rfl⟩ := Int.eq_ofNat_of_zero_le h0
  rw [Int.toNat_natCast]
  have h2 := run_from
  unfold canonN
  cases h : nanN a
  · go_enter Try.func17, Try.ntmps17
    go_wp2_with (go_at_call 32; refine (isNaN_any _ _).mono ?_; rintro e w' ⟨rfl, hw⟩; rw [hw, h])
    go_ret; exact ⟨rfl, rfl⟩
  · go_enter Try.func17, Try.ntmps17
    go_wp2_with (go_at_call 32; refine (isNaN_any _ _).mono ?_; rintro e w' ⟨rfl, hw⟩; rw [hw, h])
    go_ret; exact ⟨rfl, rfl⟩

theorem kind_nan (a : Nat) : (kindN a == 0) = nanN a := by
  unfold kindN nanN
  by_cases h : 9218868437227405312 < rung a
  · rw [if_neg (by omega), if_neg (by omega), if_neg (by omega), if_neg (by omega), decide_eq_true h]; rfl
  · rw [decide_eq_false h]
    split
    · rfl
    split
    · rfl
    split
    · rfl
    rw [if_pos (by omega)]; rfl

theorem rnan_any (x : Int) (w : World) (h0 : 0 ≤ x) (h1 : x ≤ 18446744073709551615) : Calls Try.prog 33 #[.int .u64 x] w fun e w' => e = .returned (.bool (nanN x.toNat)) ∧ w' = w := by
  have hk := kind_nan x.toNat
  go_enter Try.func33, Try.ntmps33
  go_wp2_with (go_at_call 14; refine (rkind_any _ _ h0 h1).mono ?_; rintro e w' ⟨rfl, hw⟩; rw [hw])
  go_ret; exact ⟨rfl, rfl⟩

theorem rcanon_any (x : Int) (w : World) (h0 : 0 ≤ x) (h1 : x ≤ 18446744073709551615) : Calls Try.prog 18 #[.int .u64 x] w fun e w' => e = .returned (.int .u64 (canonN x.toNat : Nat)) ∧ w' = w := by
  unfold canonN
  cases h : nanN x.toNat
  · have hx : ((x.toNat : Nat) : Int) = x := by omega
    go_enter Try.func18, Try.ntmps18
    go_wp2_with (go_at_call 33; refine (rnan_any _ _ h0 h1).mono ?_; rintro e w' ⟨rfl, hw⟩; rw [hw, h])
    go_ret; exact ⟨rfl, rfl⟩
  · go_enter Try.func18, Try.ntmps18
    go_wp2_with (go_at_call 33; refine (rnan_any _ _ h0 h1).mono ?_; rintro e w' ⟨rfl, hw⟩; rw [hw, h])
    go_ret; exact ⟨rfl, rfl⟩

end Go.Proofs.Ytagempkaophnaaa
