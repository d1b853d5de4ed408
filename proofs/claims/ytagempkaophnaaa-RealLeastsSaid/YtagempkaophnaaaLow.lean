/- The contracts of the functions that compare, and tell kinds. -/
import Derived.Test.YtagempkaophnaaaRows
import Derived.Test.YtagempkaophnaaaFw
import Derived.WalkKit
import Derived.WalkLawsBesides
import Derived.ProofKit
import Derived.IntWalk
import Derived.Laws.BitsAllLaws
namespace Go.Proofs.Ytagempkaophnaaa
open Go.ChangeShapes Go.WideShapes Go.ChangeAt Go.RowKit

theorem ret_int {k : IntKind} {a b : Int} (h : a = b) : Ending.returned (.int k a) = .returned (.int k b) := by rw [h]
theorem ret_float {k : FloatKind} {a b : Nat} (h : a = b) : Ending.returned (.float k a) = .returned (.float k b) := by rw [h]
theorem ret_bool {a b : Bool} (h : a = b) : Ending.returned (.bool a) = .returned (.bool b) := by rw [h]

/-- is a word a NaN's? -/
def nanN (a : Nat) : Bool := decide (9218868437227405312 < rung a)

theorem neq_self (a : Nat) : ((FloatKind.f64).format.order a a != some .eq) = nanN a := by
  unfold nanN
  by_cases h : 9218868437227405312 < rung a
  · rw [show (FloatKind.f64).format.order a a = none from order_nan_left h, decide_eq_true h]; rfl
  · rw [show (FloatKind.f64).format.order a a = _ from order_at (by omega) (by omega), decide_eq_false h, Int.compare_eq_eq.2 rfl]; rfl

theorem isNaN_any (a : Nat) (w : World) : Calls Try.prog 32 #[.float .f64 a] w fun e w' => e = .returned (.bool (nanN a)) ∧ w' = w := by
  go_enter Try.func32, Try.ntmps32
  go_wp2
  go_ret
  exact ⟨ret_bool (neq_self a), rfl⟩

/-- the two functions that read bits -/
theorem run_bits (b : Nat) (w : World) : (callFunc 36 #[.float .f64 b]).run Try.prog w = .ok (.value (.int .u64 b)) w := by
  rw [run_callFunc_extern Try.func36 (by kernel_rfl) (by kernel_rfl) (by kernel_rfl) (e := Extern.MathFloatBits.float64bits) (by kernel_rfl)]; rfl

theorem run_from (n : Int) (w : World) : (callFunc 31 #[.int .u64 n]).run Try.prog w = .ok (.value (.float .f64 n.toNat)) w := by
  rw [run_callFunc_extern Try.func31 (by kernel_rfl) (by kernel_rfl) (by kernel_rfl) (e := Extern.MathFloatBits.float64frombits) (by kernel_rfl)]; rfl

theorem u64_clear (a : Nat) (h : a < 18446744073709551616) : bits .andNot .u64 (a : Int) 9223372036854775808 = ((rung a : Nat) : Int) := by
  rw [show (9223372036854775808 : Int) = ((9223372036854775808 : Nat) : Int) from rfl, u64_andNot_nat _ _ h (by omega)]
  show (((a &&& 9223372036854775807) : Nat) : Int) = _
  rw [show (9223372036854775807 : Nat) = 2 ^ 63 - 1 from rfl, Nat.and_two_pow_sub_one_eq_mod]; rfl

theorem abs_any (a : Nat) (w : World) (h : a < 18446744073709551616) : Calls Try.prog 37 #[.float .f64 a] w fun e w' => e = .returned (.float .f64 (rung a)) ∧ w' = w := by
  have h1 := run_bits
  have h2 := run_from
  have h3 := u64_clear a h
  go_enter Try.func37, Try.ntmps37
  go_wp2
  go_ret
  exact ⟨rfl, rfl⟩

/-- the kind of a word -/
def kindN (a : Nat) : Int := if rung a = 0 then 4 else if rung a < 4503599627370496 then 3 else if rung a < 9218868437227405312 then 2 else if rung a = 9218868437227405312 then 1 else 0

/-- an order told by comparing a rung with a word of no sign -/
theorem order_low {r b : Nat} (hr : r < 9223372036854775808) (hb : b ≤ 9218868437227405312) : (FloatKind.f64).format.order r b = if 9218868437227405312 < r then none else some (compare (r : Int) (b : Int)) := by
  have rr : rung r = r := Nat.mod_eq_of_lt hr
  have rb : rung b = b := Nat.mod_eq_of_lt (by omega)
  have sr : sgn r = false := by unfold sgn; rw [Nat.div_eq_of_lt hr]; rfl
  have sb : sgn b = false := by unfold sgn; rw [Nat.div_eq_of_lt (by omega)]; rfl
  split
  · exact order_nan_left (by omega)
  · rw [show (FloatKind.f64).format.order r b = _ from order_at (by omega) (by omega)]
    unfold key; rw [sr, sb, rr, rb]; rfl

theorem cmp_cases (a b : Int) : (a < b ∧ compare a b = .lt) ∨ (a = b ∧ compare a b = .eq) ∨ (b < a ∧ compare a b = .gt) := by
  rcases Int.lt_trichotomy a b with h | h | h
  · exact Or.inl ⟨h, Int.compare_eq_lt.2 h⟩
  · exact Or.inr (Or.inl ⟨h, Int.compare_eq_eq.2 h⟩)
  · exact Or.inr (Or.inr ⟨h, Int.compare_eq_gt.2 h⟩)

theorem low_eq {r b : Nat} (hr : r < 9223372036854775808) (hb : b ≤ 9218868437227405312) : ((FloatKind.f64).format.order r b == some .eq) = decide (r = b) := by
  rw [order_low hr hb]
  split
  · rw [decide_eq_false (by omega)]; rfl
  · rcases cmp_cases (r : Int) (b : Int) with ⟨h, e⟩ | ⟨h, e⟩ | ⟨h, e⟩ <;> rw [e]
    · rw [decide_eq_false (by omega)]; rfl
    · rw [decide_eq_true (by omega)]; rfl
    · rw [decide_eq_false (by omega)]; rfl

theorem low_lt {r b : Nat} (hr : r < 9223372036854775808) (hb : b ≤ 9218868437227405312) : ((FloatKind.f64).format.order r b == some .lt) = decide (r < b) := by
  rw [order_low hr hb]
  split
  · rw [decide_eq_false (by omega)]; rfl
  · rcases cmp_cases (r : Int) (b : Int) with ⟨h, e⟩ | ⟨h, e⟩ | ⟨h, e⟩ <;> rw [e]
    · rw [decide_eq_true (by omega)]; rfl
    · rw [decide_eq_false (by omega)]; rfl
    · rw [decide_eq_false (by omega)]; rfl

theorem low_le {r b : Nat} (hr : r < 9223372036854775808) (hb : b ≤ 9218868437227405312) : ((FloatKind.f64).format.order r b == some .lt || (FloatKind.f64).format.order r b == some .eq) = decide (r ≤ b) := by
  rw [low_eq hr hb, low_lt hr hb, ← Bool.decide_or]
  exact decide_eq_decide.2 (by omega)

theorem kindOf_any (a : Nat) (w : World) (h : a < 18446744073709551616) : Calls Try.prog 30 #[.float .f64 a] w fun e w' => e = .returned (.int .u8 (kindN a)) ∧ w' = w := by
  have hr := rung_lt a
  have e1 := low_eq (b := 0) hr (by omega)
  have e2 := low_lt (b := 4503599627370496) hr (by omega)
  have e3 := low_le (b := 9218868437227405311) hr (by omega)
  unfold kindN
  by_cases c1 : rung a = 0
  · rw [if_pos c1]
    rw [decide_eq_true c1] at e1
    clear e2 e3
    go_enter Try.func30, Try.ntmps30
    go_wp2_with (go_at_call 37; refine (abs_any _ _ h).mono ?_; rintro e w' ⟨rfl, hw⟩; rw [hw])
    go_ret; exact ⟨rfl, rfl⟩
  rw [if_neg c1]
  rw [decide_eq_false c1] at e1
  by_cases c2 : rung a < 4503599627370496
  · rw [if_pos c2]
    rw [decide_eq_true c2] at e2
    clear e3
    go_enter Try.func30, Try.ntmps30
    go_wp2_with (go_at_call 37; refine (abs_any _ _ h).mono ?_; rintro e w' ⟨rfl, hw⟩; rw [hw])
    go_ret; exact ⟨rfl, rfl⟩
  rw [if_neg c2]
  rw [decide_eq_false c2] at e2
  by_cases c3 : rung a < 9218868437227405312
  · rw [if_pos c3]
    rw [decide_eq_true (by omega)] at e3
    go_enter Try.func30, Try.ntmps30
    go_wp2_with (go_at_call 37; refine (abs_any _ _ h).mono ?_; rintro e w' ⟨rfl, hw⟩; rw [hw])
    go_ret; exact ⟨rfl, rfl⟩
  rw [if_neg c3]
  rw [decide_eq_false (by omega)] at e3
  by_cases c4 : rung a = 9218868437227405312
  · rw [if_pos c4]
    have n0 : nanN a = false := decide_eq_false (by omega)
    go_enter Try.func30, Try.ntmps30
    go_wp2_with (first | (go_at_call 37; refine (abs_any _ _ h).mono ?_; rintro e w' ⟨rfl, hw⟩; rw [hw]) | (go_at_call 32; refine (isNaN_any _ _).mono ?_; rintro e w' ⟨rfl, hw⟩; rw [hw, n0]))
    go_ret; exact ⟨rfl, rfl⟩
  · rw [if_neg c4]
    have n0 : nanN a = true := decide_eq_true (by omega)
    go_enter Try.func30, Try.ntmps30
    go_wp2_with (first | (go_at_call 37; refine (abs_any _ _ h).mono ?_; rintro e w' ⟨rfl, hw⟩; rw [hw]) | (go_at_call 32; refine (isNaN_any _ _).mono ?_; rintro e w' ⟨rfl, hw⟩; rw [hw, n0]))
    go_ret; exact ⟨rfl, rfl⟩

end Go.Proofs.Ytagempkaophnaaa
