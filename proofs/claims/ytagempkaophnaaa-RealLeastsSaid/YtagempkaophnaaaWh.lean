/- Whole and Of of the program. -/
import Derived.Test.YtagempkaophnaaaEq
import Derived.Test.YtagempkaophnaaaFz
namespace Go.Proofs.Ytagempkaophnaaa
open Go.ChangeShapes Go.WideShapes Go.ChangeAt Go.RowKit

/-- is a word's float an int64? -/
def wholeOk (a : Nat) : Bool := decide (val (rung a) % 2 ^ K = 0 ∧ (rung a < 4890909195324358656 ∨ (rung a = 4890909195324358656 ∧ sgn a = true)))

/-- the number of a word, cut off -/
def cutI (a : Nat) : Int := if sgn a = true then -((val (rung a) / 2 ^ K : Nat) : Int) else ((val (rung a) / 2 ^ K : Nat) : Int)

/-- what Whole answers -/
def wholeV (a : Nat) : Int := if wholeOk a = true then cutI a else 0

theorem cut_bd {a : Nat} (h : rung a < 4890909195324358656 ∨ (rung a = 4890909195324358656 ∧ sgn a = true)) : -9223372036854775808 ≤ cutI a ∧ cutI a ≤ 9223372036854775807 := by
  unfold cutI
  rcases h with h | ⟨h, s⟩
  · have := small_of_rung h
    generalize val (rung a) / 2 ^ K = q at this ⊢
    split <;> omega
  · rw [if_pos s, h, at_rung, Nat.mul_div_cancel _ (Nat.two_pow_pos K)]
    omega

theorem toInt_at {a : Nat} (h : rung a < 4890909195324358656 ∨ (rung a = 4890909195324358656 ∧ sgn a = true)) : floatToIntVal .f64 a .i64 = some (cutI a) := by
  have b := cut_bd h
  unfold floatToIntVal
  have e : ((FloatKind.f64).decode a).toInt .zero = some (cutI a) := by
    have := toInt_zero (w := a) (by omega)
    exact this
  rw [e]
  show (if _ then some (cutI a) else none) = _
  rw [if_pos]
  exact b

theorem key_ofN {n : Int} (h : n.natAbs ≤ 18446744073709551616) : key (ofN n) = if n < 0 then -(rungOf (n.natAbs * 2 ^ K) : Int) else (rungOf (n.natAbs * 2 ^ K) : Int) := by
  have b : rungOf (n.natAbs * 2 ^ K) < 9223372036854775808 := by
    have : rungOf (n.natAbs * 2 ^ K) ≤ _ := rungOf_int h
    omega
  unfold key ofN
  rw [sgn_wd _ b, rung_wd _ b]
  by_cases c : n < 0
  · rw [if_pos c, decide_eq_true c, if_pos rfl]
  · rw [if_neg c, decide_eq_false c, if_neg Bool.false_ne_true]

theorem ofN_lt {n : Int} (h : n.natAbs ≤ 18446744073709551616) : rung (ofN n) ≤ 4895412794951729152 ∧ ofN n < 18446744073709551616 := by
  have b : rungOf (n.natAbs * 2 ^ K) ≤ 4895412794951729152 := rungOf_int h
  unfold ofN
  rw [rung_wd _ (by omega)]
  refine ⟨b, ?_⟩
  unfold wd; split <;> omega

/-- is the number cut off the number itself? -/
theorem back_cut {a : Nat} (h : rung a < 4890909195324358656 ∨ (rung a = 4890909195324358656 ∧ sgn a = true)) : ((FloatKind.f64).format.order (ofN (cutI a)) a != some .eq) = decide (¬ val (rung a) % 2 ^ K = 0) := by
  have b := cut_bd h
  have l := ofN_lt (n := cutI a) (by omega)
  rw [show (FloatKind.f64).format.order (ofN (cutI a)) a = _ from order_at (by omega) (by omega)]
  have e : key (ofN (cutI a)) = key a ↔ val (rung a) % 2 ^ K = 0 := by
    rw [← back_iff, key_ofN (by omega)]
    unfold cutI key
    generalize hq : val (rung a) / 2 ^ K = q
    cases sgn a
    · simp only [Bool.false_eq_true, if_false, Int.natAbs_natCast]
      rw [if_neg (by omega)]; omega
    · simp only [if_true, Int.natAbs_neg, Int.natAbs_natCast]
      by_cases z : q = 0
      · subst z
        rw [if_neg (by omega), Nat.zero_mul, show rungOf 0 = 0 from rfl]; omega
      · rw [if_pos (by omega)]; omega
  rcases cmp_cases (key (ofN (cutI a))) (key a) with ⟨h, e1⟩ | ⟨h, e1⟩ | ⟨h, e1⟩ <;> rw [e1]
  · rw [decide_eq_true (by rw [← e]; omega)]; rfl
  · rw [decide_eq_false (by rw [← e]; omega)]; rfl
  · rw [decide_eq_true (by rw [← e]; omega)]; rfl

theorem below_least {a : Nat} (h : nanN a = false) : ((FloatKind.f64).format.order a 14114281232179134464 == some .lt) = decide (4890909195324358656 < rung a ∧ sgn a = true) := by
  have h' := of_decide_eq_false h
  rw [show (FloatKind.f64).format.order a 14114281232179134464 = _ from order_at (by omega) (by decide)]
  rw [show key 14114281232179134464 = -4890909195324358656 from rfl]
  have e : key a < -4890909195324358656 ↔ (4890909195324358656 < rung a ∧ sgn a = true) := by
    unfold key
    cases sgn a
    · simp only [Bool.false_eq_true, if_false, and_false, iff_false]; omega
    · simp only [if_true, and_true]; omega
  rcases cmp_cases (key a) (-4890909195324358656) with ⟨h, e1⟩ | ⟨h, e1⟩ | ⟨h, e1⟩ <;> rw [e1]
  · rw [decide_eq_true (e.1 h)]; rfl
  · rw [decide_eq_false (fun g => by have := e.2 g; omega)]; rfl
  · rw [decide_eq_false (fun g => by have := e.2 g; omega)]; rfl

theorem above_most {a : Nat} (h : nanN a = false) : ((FloatKind.f64).format.order a 4890909195324358656 == some .gt || (FloatKind.f64).format.order a 4890909195324358656 == some .eq) = decide (4890909195324358656 ≤ rung a ∧ sgn a = false) := by
  have h' := of_decide_eq_false h
  rw [show (FloatKind.f64).format.order a 4890909195324358656 = _ from order_at (by omega) (by decide)]
  rw [show key 4890909195324358656 = 4890909195324358656 from rfl]
  have e : ¬ (key a < 4890909195324358656) ↔ (4890909195324358656 ≤ rung a ∧ sgn a = false) := by
    unfold key
    cases sgn a
    · simp only [Bool.false_eq_true, if_false, and_true]; omega
    · simp only [Bool.true_eq_false, if_true, and_false, iff_false]; omega
  rcases cmp_cases (key a) (4890909195324358656) with ⟨h, e1⟩ | ⟨h, e1⟩ | ⟨h, e1⟩ <;> rw [e1]
  · rw [decide_eq_false (fun g => by have := e.2 g; omega)]; rfl
  · rw [decide_eq_true (e.1 (by omega))]; rfl
  · rw [decide_eq_true (e.1 (by omega))]; rfl

theorem back_run (n : Int) (h : n.natAbs ≤ 18446744073709551616) (w : World) : (convert 2 45 (.int .i64 n)).run Try.prog w = .ok (.float .f64 (ofN n)) w := by
  rw [run_convert_int_float (P := Try.prog) w 2 45 .i64 .f64 n (by kernel_rfl) (by kernel_rfl)]
  show Result.ok (Value.float .f64 ((FloatKind.f64).nearest n)) w = _
  rw [ofN_nearest h]

theorem whole_any (x : Int) (w : World) (h0 : 0 ≤ x) (h1 : x ≤ 18446744073709551615) : Calls Try.prog 15 #[.int .u64 x] w fun e w' => e = .returned (.tuple #[.int .i64 (wholeV x.toNat), .bool (wholeOk x.toNat)]) ∧ w' = w := by
  obtain ⟨a, rfl⟩ := Int.eq_ofNat_of_zero_le h0
  have ha : a < 18446744073709551616 := by omega
  simp only [Int.toNat_natCast]
  have h2 := run_from
  unfold wholeV
  cases hn : nanN a
  · have b1 := below_least hn
    have b2 := above_most hn
    by_cases c1 : 4890909195324358656 < rung a ∧ sgn a = true
    · rw [show wholeOk a = false from decide_eq_false (by omega), if_neg Bool.false_ne_true]
      rw [decide_eq_true c1] at b1
      clear b2 c1 ha h0 h1
      go_enter Try.func15, Try.ntmps15
      go_wp2_with (go_at_call 32; refine (isNaN_any _ _).mono ?_; rintro e w' ⟨rfl, hw⟩; rw [hw, hn])
      go_ret2; exact ⟨rfl, rfl⟩
    rw [decide_eq_false c1] at b1
    by_cases c2 : 4890909195324358656 ≤ rung a ∧ sgn a = false
    · have c3 : ¬ (rung a < 4890909195324358656 ∨ (rung a = 4890909195324358656 ∧ sgn a = true)) := by
        rintro (h | ⟨h, g⟩)
        · omega
        · rw [c2.2] at g; cases g
      rw [show wholeOk a = false from decide_eq_false (fun h => c3 h.2), if_neg Bool.false_ne_true]
      rw [decide_eq_true c2] at b2
      clear c2 c1 c3 ha h0 h1
      go_enter Try.func15, Try.ntmps15
      go_wp2_with (go_at_call 32; refine (isNaN_any _ _).mono ?_; rintro e w' ⟨rfl, hw⟩; rw [hw, hn])
      go_ret2; exact ⟨rfl, rfl⟩
    rw [decide_eq_false c2] at b2
    have c3 : rung a < 4890909195324358656 ∨ (rung a = 4890909195324358656 ∧ sgn a = true) := by
      cases hs : sgn a
      · rw [hs] at c2
        have : ¬ 4890909195324358656 ≤ rung a := fun h => c2 ⟨h, rfl⟩
        omega
      · rw [hs] at c1
        have : ¬ 4890909195324358656 < rung a := fun h => c1 ⟨h, rfl⟩
        by_cases k : rung a = 4890909195324358656
        · exact Or.inr ⟨k, rfl⟩
        · omega
    have bd := cut_bd c3
    have k1 := fun w : World => run_convert_float_int (P := Try.prog) w 45 2 .f64 .i64 a (cutI a) (by kernel_rfl) (by kernel_rfl) (toInt_at c3)
    have k2 := fun w : World => back_run (cutI a) (by omega) w
    have k3 := back_cut c3
    by_cases c4 : val (rung a) % 2 ^ K = 0
    · rw [show wholeOk a = true from decide_eq_true ⟨c4, c3⟩, if_pos rfl]
      rw [decide_eq_false (by omega)] at k3
      generalize cutI a = n at *
      generalize ofN n = m at *
      clear bd c1 c2 c3 c4 ha h0 h1
      go_enter Try.func15, Try.ntmps15
      go_wp2_with (go_at_call 32; refine (isNaN_any _ _).mono ?_; rintro e w' ⟨rfl, hw⟩; rw [hw, hn])
      go_ret2; exact ⟨rfl, rfl⟩
    · rw [show wholeOk a = false from decide_eq_false (fun h => c4 h.1), if_neg Bool.false_ne_true]
      rw [decide_eq_true c4] at k3
      generalize cutI a = n at *
      generalize ofN n = m at *
      clear bd c1 c2 c3 c4 ha h0 h1
      go_enter Try.func15, Try.ntmps15
      go_wp2_with (go_at_call 32; refine (isNaN_any _ _).mono ?_; rintro e w' ⟨rfl, hw⟩; rw [hw, hn])
      go_ret2; exact ⟨rfl, rfl⟩
  · have c1 := of_decide_eq_true hn
    rw [show wholeOk a = false from decide_eq_false (by omega), if_neg Bool.false_ne_true]
    clear c1 ha h0 h1
    go_enter Try.func15, Try.ntmps15
    go_wp2_with (go_at_call 32; refine (isNaN_any _ _).mono ?_; rintro e w' ⟨rfl, hw⟩; rw [hw, hn])
    go_ret2; exact ⟨rfl, rfl⟩

/-- is a number met by its float? -/
def exactN (n : Int) : Bool := wholeOk (ofN n) && (wholeV (ofN n) == n)

theorem of_any (n : Int) (w : World) (h0 : -9223372036854775808 ≤ n) (h1 : n ≤ 9223372036854775807) : Calls Try.prog 28 #[.int .i64 n] w fun e w' => e = .returned (.tuple #[.int .u64 (ofN n : Nat), .bool (exactN n)]) ∧ w' = w := by
  have h2 := run_bits
  have k2 := fun w : World => back_run n (by omega) w
  have l := (ofN_lt (n := n) (by omega)).2
  have hw := whole_any (ofN n : Nat) w (by omega) (by omega)
  simp only [Int.toNat_natCast] at hw
  unfold exactN
  generalize wholeV (ofN n) = v at *
  generalize ofN n = m at *
  clear l h0 h1
  cases ho : wholeOk m
  · rw [ho] at hw
    go_enter Try.func28, Try.ntmps28
    go_wp2_with (go_at_call 15; refine hw.mono ?_; rintro e w' ⟨rfl, hw⟩; rw [hw])
    go_ret2; exact ⟨rfl, rfl⟩
  · rw [ho] at hw
    go_enter Try.func28, Try.ntmps28
    go_wp2_with (go_at_call 15; refine hw.mono ?_; rintro e w' ⟨rfl, hw⟩; rw [hw])
    go_ret2; exact ⟨rfl, rfl⟩

end Go.Proofs.Ytagempkaophnaaa
