/- The contracts of Mul64, of Div64 at a high word 0, and of scaled where the product fits into 64 bits or is too great. -/
import Derived.Test.YtclfpmmiplandaaLow
import Derived.Lib.Mul64
import Derived.Laws.Bits64b
import Derived.Deep.QuietTactic
import Derived.BigQuiet
import Derived.OpenShut
namespace Go.Proofs.Ytclfpmmiplandaa
open Go.ChangeShapes Go.WideShapes Go.ChangeAt Go.RowKit

theorem grown_trans {a b c : World} (h : Grown a b) (g : Grown b c) : Grown a c :=
  ⟨World.keptBut_trans h.1 g.1, fun x => (g.2.1 x).trans (h.2.1 x), Nat.le_trans h.2.2 g.2.2⟩

theorem grown_drewN {a b : World} (h : Grown a b) (n : Nat) : Grown a (b.drewN n) := h

theorem low_word (a : Nat) (ha : a < 18446744073709551616) : bits .and .u64 (a : Int) 4294967295 = ((a % 4294967296 : Nat) : Int) := by
  have h : bits .and .u64 (a : Int) 4294967295 = ((a &&& 4294967295 : Nat) : Int) := bits_and_u64_nat a 4294967295 ha (by omega)
  rw [h]; congr 1; exact Nat.and_two_pow_sub_one_eq_mod a 32
theorem high_word (a : Nat) : (a : Int) / 4294967296 = ((a / 4294967296 : Nat) : Int) := by omega
theorem wrap_fits (a : Nat) (ha : a < 18446744073709551616) : IntKind.u64.wrap (a : Int) = (a : Int) := by rw [IntKind.wrap_u64]; omega
theorem wrap_mod (a : Nat) : IntKind.u64.wrap (a : Int) = ((a % 18446744073709551616 : Nat) : Int) := by rw [IntKind.wrap_u64]; omega
theorem ret_two {k : IntKind} {a b a' b' : Int} (h : a = a') (g : b = b') : Ending.returned (.tuple #[.int k a, .int k b]) = .returned (.tuple #[.int k a', .int k b']) := by rw [h, g]

/-- The high word of a product, as Mul64 makes it out of halves. -/
theorem mul64_num (x y : Nat) (hx : x < 18446744073709551616) (hy : y < 18446744073709551616) (x0 x1 y0 y1 : Nat) (ex0 : x0 = x % 4294967296) (ex1 : x1 = x / 4294967296) (ey0 : y0 = y % 4294967296) (ey1 : y1 = y / 4294967296) :
    IntKind.u64.wrap (IntKind.u64.wrap (IntKind.u64.wrap ((x1 : Int) * (y1 : Int)) + IntKind.u64.wrap (IntKind.u64.wrap ((x1 : Int) * (y0 : Int)) + IntKind.u64.wrap ((x0 : Int) * (y0 : Int)) / 4294967296) / 4294967296)
      + IntKind.u64.wrap (bits .and .u64 (IntKind.u64.wrap (IntKind.u64.wrap ((x1 : Int) * (y0 : Int)) + IntKind.u64.wrap ((x0 : Int) * (y0 : Int)) / 4294967296)) 4294967295 + IntKind.u64.wrap ((x0 : Int) * (y1 : Int))) / 4294967296) = ((x * y / 18446744073709551616 : Nat) : Int) := by
  obtain ⟨b1, b2, b3, b4⟩ := Lib.mul64_hi x y hx hy
  rw [← ex0, ← ex1, ← ey0, ← ey1] at b4
  rw [← ex0, ← ey0] at b1
  rw [← ex0, ← ex1, ← ey0] at b2
  rw [← ex0, ← ex1, ← ey0, ← ey1] at b3
  have m1 : x1 * y1 ≤ 18446744065119617025 := Lib.half_mul_le (by omega) (by omega)
  have m2 : x1 * y0 ≤ 18446744065119617025 := Lib.half_mul_le (by omega) (by omega)
  have m3 : x0 * y1 ≤ 18446744065119617025 := Lib.half_mul_le (by omega) (by omega)
  have m4 : x0 * y0 ≤ 18446744065119617025 := Lib.half_mul_le (by omega) (by omega)
  rw [← b4]
  simp only [← Int.natCast_mul]
  generalize x1 * y1 = p11 at *
  generalize x1 * y0 = p10 at *
  generalize x0 * y1 = p01 at *
  generalize x0 * y0 = p00 at *
  rw [wrap_fits p11 (by omega), wrap_fits p10 (by omega), wrap_fits p01 (by omega), wrap_fits p00 (by omega), high_word p00, ← Int.natCast_add p10, wrap_fits (p10 + p00 / 4294967296) b2, low_word _ b2, ← Int.natCast_add _ p01, wrap_fits _ b3, high_word (p10 + p00 / 4294967296), high_word, ← Int.natCast_add p11, wrap_fits _ (by omega), ← Int.natCast_add, wrap_fits _ (by omega)]

set_option maxHeartbeats 1000000 in
theorem mul64_any (x y : Nat) (hx : x < 18446744073709551616) (hy : y < 18446744073709551616) (w : World) :
    Calls Try.prog 33 #[.int .u64 x, .int .u64 y] w fun e w' => e = .returned (.tuple #[.int .u64 ((x * y / 18446744073709551616 : Nat) : Int), .int .u64 ((x * y % 18446744073709551616 : Nat) : Int)]) ∧ w' = w := by
  go_enter Try.func33, Try.ntmps33
  go_wp2
  go_ret2
  refine ⟨ret_two ?_ ?_, rfl⟩
  · rw [low_word x hx, low_word y hy, high_word x, high_word y]
    exact mul64_num x y hx hy _ _ _ _ rfl rfl rfl rfl
  · rw [← Int.natCast_mul, wrap_mod]

set_option maxHeartbeats 1000000 in
theorem div64_low (lo y : Nat) (hl : lo < 18446744073709551616) (hy : y < 18446744073709551616) (h1 : 1 ≤ y) (w : World) :
    Calls Try.prog 34 #[.int .u64 0, .int .u64 lo, .int .u64 y] w fun e w' => e = .returned (.tuple #[.int .u64 ((lo / y : Nat) : Int), .int .u64 ((lo % y : Nat) : Int)]) ∧ Grown w w' := by
  have hy0 : ((y : Int) == 0) = false := by simp; omega
  have hy1 : decide (y = 0) = false := by simp; omega
  go_enter Try.func34, Try.ntmps34
  go_wp2
  go_quiet (fail)
  go_wp2
  go_ret2
  refine ⟨ret_two ?_ rfl, grown_drewN (Grown.refl w) _⟩
  exact wrap_fits (lo / y) (Nat.lt_of_le_of_lt (Nat.div_le_self lo y) hl)

/-- Div64 divides the product of x and y by c, where the quotient fits. -/
def DivOK (x y c : Nat) : Prop := x * y / 18446744073709551616 < c → ∀ w, Calls Try.prog 34 #[.int .u64 ((x * y / 18446744073709551616 : Nat) : Int), .int .u64 ((x * y % 18446744073709551616 : Nat) : Int), .int .u64 c] w fun e w' => e = .returned (.tuple #[.int .u64 ((x * y / c : Nat) : Int), .int .u64 ((x * y % c : Nat) : Int)]) ∧ Grown w w'

theorem divOK_low (x y c : Nat) (hc1 : 1 ≤ c) (hc : c < 18446744073709551616) (h : x * y < 18446744073709551616) : DivOK x y c := by
  intro _ w
  have e1 : x * y / 18446744073709551616 = 0 := Nat.div_eq_of_lt h
  have e2 : x * y % 18446744073709551616 = x * y := Nat.mod_eq_of_lt h
  rw [e1, e2]
  exact div64_low (x * y) c h hc hc1 w

theorem divOK_one (x y : Nat) : DivOK x y 1 := by
  intro h w
  have h' : x * y < 18446744073709551616 := by omega
  exact divOK_low x y 1 (by omega) (by omega) h' h w

/-- What scaled answers. -/
def scaledV (x y c : Nat) : Nat := if c ≤ x * y / 18446744073709551616 then 4611686018427387904 else x * y / c

set_option maxHeartbeats 400000 in
theorem scaled_any (x y c : Nat) (w : World) (hx : x ≤ 9223372036854775808) (hy : y ≤ 9223372036854775808) (hD : DivOK x y c) :
    Calls Try.prog 30 #[.int .u64 x, .int .u64 y, .int .u64 c] w fun e w' => e = .returned (.int .u64 (scaledV x y c : Int)) ∧ Grown w w' := by
  by_cases hc : c ≤ x * y / 18446744073709551616
  · have es : scaledV x y c = 4611686018427387904 := if_pos hc
    rw [es]; clear es
    have hk : decide (c ≤ x * y / 18446744073709551616) = true := decide_eq_true hc
    clear hc
    generalize hp : x * y / 18446744073709551616 = p at *
    have H := Lib.hid hp; clear hp
    have hm := mul64_any x y (by omega) (by omega)
    rw [H.out] at hm
    go_enter Try.func30, Try.ntmps30
    go_wp2_with (go_at_call 33; refine (hm _).mono ?_; rintro e w' ⟨rfl, hw⟩; rw [hw])
    go_ret
    exact ⟨rfl, Grown.refl _⟩
  · have es : scaledV x y c = x * y / c := if_neg hc
    rw [es]; clear es
    have hd := hD (Nat.lt_of_not_le hc)
    have hm := mul64_any x y (by omega) (by omega)
    generalize x * y / 18446744073709551616 = p at *
    generalize x * y % 18446744073709551616 = l at *
    generalize x * y / c = q at *
    generalize x * y % c = r at *
    go_enter Try.func30, Try.ntmps30
    go_wp2_with (first | (go_at_call 33; refine (hm _).mono ?_; rintro e w' ⟨rfl, hw⟩; rw [hw]) | (go_at_call 34; refine (hd _).mono ?_; rintro e w' ⟨rfl, hg⟩))
    go_ret
    exact ⟨rfl, by assumption⟩

/-- The product of two numbers, divided by a third one, as signed makes it of sizes. -/
def closV (x y c : Nat) (xn yn : Bool) : Nat := if xn = yn then scaledV x y c else 0

theorem clos_any (x y c : Nat) (xn yn : Bool) (p : Addr) (w : World) (hx : x ≤ 9223372036854775808) (hy : y ≤ 9223372036854775808) (hc : c < 9223372036854775808) (hcell : w.cell? p = some (.int .i64 c)) (hD : DivOK x y c) :
    Calls Try.prog 29 #[.int .u64 x, .int .u64 y, .bool xn, .bool yn, .pointer (some p)] w fun e w' => e = .returned (.int .u64 (closV x y c xn yn : Int)) ∧ Grown w w' := by
  cases xn <;> cases yn
  · go_enter Try.func29, Try.ntmps29
    go_wp2_with (go_at_call 30; refine (scaled_any x y c _ hx hy hD).mono ?_; rintro e w' ⟨rfl, hg⟩)
    go_ret
    exact ⟨rfl, by assumption⟩
  · go_enter Try.func29, Try.ntmps29
    go_wp2_with fail
    go_ret
    exact ⟨rfl, Grown.refl _⟩
  · go_enter Try.func29, Try.ntmps29
    go_wp2_with fail
    go_ret
    exact ⟨rfl, Grown.refl _⟩
  · go_enter Try.func29, Try.ntmps29
    go_wp2_with (go_at_call 30; refine (scaled_any x y c _ hx hy hD).mono ?_; rintro e w' ⟨rfl, hg⟩)
    go_ret
    exact ⟨rfl, by assumption⟩

theorem closV_cnt (a b : Int) (c : Nat) (hc : 1 ≤ c) (hc1 : c < 9223372036854775808) : ((if 4611686018427387904 < closV a.natAbs b.natAbs c (decide (a < 0)) (decide (b < 0)) then 4611686018427387904 else closV a.natAbs b.natAbs c (decide (a < 0)) (decide (b < 0)) : Nat) : Int) = cnt (a * b / (c : Int)) := by
  by_cases hs : decide (a < 0) = decide (b < 0)
  · have hp : a * b = ((a.natAbs * b.natAbs : Nat) : Int) := by
      by_cases ha : a < 0
      · have hb : b < 0 := by simpa [ha] using hs
        obtain ⟨x, rfl⟩ : ∃ x : Nat, a = -(x : Int) := ⟨a.natAbs, by omega⟩
        obtain ⟨y, rfl⟩ : ∃ y : Nat, b = -(y : Int) := ⟨b.natAbs, by omega⟩
        rw [Int.neg_mul_neg, Int.natAbs_neg, Int.natAbs_neg]; rfl
      · have hb : ¬ b < 0 := by simpa [ha] using hs
        obtain ⟨x, rfl⟩ : ∃ x : Nat, a = (x : Int) := ⟨a.natAbs, by omega⟩
        obtain ⟨y, rfl⟩ : ∃ y : Nat, b = (y : Int) := ⟨b.natAbs, by omega⟩
        rfl
    have hd : a * b / (c : Int) = ((a.natAbs * b.natAbs / c : Nat) : Int) := by rw [hp]; rfl
    have hv : closV a.natAbs b.natAbs c (decide (a < 0)) (decide (b < 0)) = scaledV a.natAbs b.natAbs c := if_pos hs
    rw [hd, hv]
    unfold scaledV
    clear hp hd hv
    generalize a.natAbs * b.natAbs = p
    by_cases hq : c ≤ p / 18446744073709551616
    · rw [if_pos hq, if_neg (by omega), cnt_hi]
      · rfl
      · have hm : 4611686018427387904 ≤ p / c := by
          rw [Nat.le_div_iff_mul_le (by omega)]
          have := Nat.div_mul_le_self p 18446744073709551616
          omega
        omega
    · rw [if_neg hq]
      generalize p / c = q
      unfold cnt
      split <;> split <;> (try split) <;> omega
  · have hz : closV a.natAbs b.natAbs c (decide (a < 0)) (decide (b < 0)) = 0 := if_neg hs
    rw [hz, if_neg (by omega), cnt_lo]
    · rfl
    · have hp : a * b ≤ 0 := by
        by_cases ha : a < 0
        · exact Int.mul_nonpos_of_nonpos_of_nonneg (by omega) (by simp [ha] at hs; omega)
        · exact Int.mul_nonpos_of_nonneg_of_nonpos (by omega) (by simp [ha] at hs; omega)
      exact Int.le_trans (Int.ediv_le_ediv (by omega) hp) (by rw [Int.zero_ediv]; exact Int.le_refl 0)

set_option maxHeartbeats 400000 in
theorem signed_scale (a b : Int) (c : Nat) (p : Addr) (w : World) (h0 : -9223372036854775808 ≤ a) (h1 : a ≤ 9223372036854775807) (g0 : -9223372036854775808 ≤ b) (g1 : b ≤ 9223372036854775807) (hc : 1 ≤ c) (hc1 : c < 9223372036854775808) (hcell : w.cell? p = some (.int .i64 c)) (hD : DivOK a.natAbs b.natAbs c) :
    Calls Try.prog 25 #[.int .i64 a, .int .i64 b, .func (.func 29) #[] #[.pointer (some p)]] w fun e w' => e = .returned (.int .i64 (cnt (a * b / (c : Int)))) ∧ Grown w w' := by
  have H := Lib.hid (closV_cnt a b c hc hc1)
  go_enter Try.func25, Try.ntmps25
  go_wp2_with (first | (go_at_call 32; refine (magnitude_any _ _ (by omega) (by omega)).mono ?_; rintro e w' ⟨rfl, hw⟩; rw [hw]) | (go_at_call 29; refine (clos_any _ _ _ _ _ _ _ (by omega) (by omega) hc1 hcell hD).mono ?_; rintro e w' ⟨rfl, hg⟩))
  all_goals (go_ret; refine ⟨ret_int ?_, by assumption⟩; have hs := H.out; rw [← hs]; split <;> omega)

/-- What Scale answers. -/
def scaleV (a b c : Int) : Int := if c < 1 then 0 else cnt (a * b / c)

set_option maxHeartbeats 400000 in
theorem scale_any (a b c : Int) (w : World) (h0 : -9223372036854775808 ≤ a) (h1 : a ≤ 9223372036854775807) (g0 : -9223372036854775808 ≤ b) (g1 : b ≤ 9223372036854775807) (hc1 : c ≤ 9223372036854775807) (hD : 1 ≤ c → DivOK a.natAbs b.natAbs c.toNat) :
    Calls Try.prog 20 #[.int .i64 a, .int .i64 b, .int .i64 c] w fun e w' => e = .returned (.int .i64 (scaleV a b c)) ∧ Grown w w' := by
  by_cases hc : c < 1
  · have e1 : scaleV a b c = 0 := if_pos hc
    rw [e1]; clear e1 hD
    go_enter Try.func20, Try.ntmps20
    go_wp2_with fail
    go_ret
    exact ⟨rfl, (Grown.refl _).alloc _ _⟩
  · obtain ⟨n, rfl⟩ : ∃ n : Nat, c = (n : Int) := ⟨c.toNat, by omega⟩
    have e1 : scaleV a b n = cnt (a * b / n) := if_neg hc
    rw [e1]; clear e1
    have hd := hD (by omega)
    rw [Int.toNat_natCast] at hd
    clear hD
    go_enter Try.func20, Try.ntmps20
    go_wp2_with (go_at_call 25; refine (signed_scale a b n _ _ h0 h1 g0 g1 (by omega) (by omega) (by simp) hd).mono ?_; rintro e w' ⟨rfl, hg⟩)
    go_ret
    exact ⟨rfl, grown_trans ((Grown.refl _).alloc _ _) (by assumption)⟩

theorem mul_any (a b : Int) (w : World) (h0 : -9223372036854775808 ≤ a) (h1 : a ≤ 9223372036854775807) (g0 : -9223372036854775808 ≤ b) (g1 : b ≤ 9223372036854775807) :
    Calls Try.prog 18 #[.int .i64 a, .int .i64 b] w fun e w' => e = .returned (.int .i64 (cnt (a * b))) ∧ Grown w w' := by
  have e1 : scaleV a b 1 = cnt (a * b) := by unfold scaleV; rw [if_neg (by omega), Int.ediv_one]
  have hs := scale_any a b 1
  rw [e1] at hs
  clear e1
  go_enter Try.func18, Try.ntmps18
  go_wp2_with (go_at_call 20; refine (hs _ h0 h1 g0 g1 (by omega) (fun _ => divOK_one _ _)).mono ?_; rintro e w' ⟨rfl, hg⟩)
  go_ret
  exact ⟨rfl, by assumption⟩
end Go.Proofs.Ytclfpmmiplandaa
