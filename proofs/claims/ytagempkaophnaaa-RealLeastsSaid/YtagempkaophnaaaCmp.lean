/- Equal and Compare, of the program and of the document. -/
import Derived.Test.YtagempkaophnaaaKind
namespace Go.Proofs.Ytagempkaophnaaa
open Go.ChangeShapes Go.WideShapes Go.ChangeAt Go.RowKit

theorem xor_low {r : Nat} (h : r < 2 ^ 63) : (2 ^ 63 + r) ^^^ (2 ^ 63 - 1) = 2 ^ 63 + (2 ^ 63 - (r + 1)) := by
  apply Nat.eq_of_testBit_eq
  intro i
  rw [Nat.testBit_xor, Nat.testBit_two_pow_sub_one]
  rcases Nat.lt_trichotomy i 63 with c | c | c
  · rw [Nat.testBit_two_pow_add_gt c, Nat.testBit_two_pow_add_gt c, Nat.testBit_two_pow_sub_succ h, decide_eq_true c]
    cases r.testBit i <;> rfl
  · subst c
    rw [Nat.testBit_two_pow_add_eq, Nat.testBit_two_pow_add_eq, Nat.testBit_lt_two_pow h, Nat.testBit_lt_two_pow (show 2 ^ 63 - (r + 1) < 2 ^ 63 by omega)]
    rfl
  · have le : 2 ^ 64 ≤ 2 ^ i := Nat.pow_le_pow_right (by omega) (by omega)
    rw [Nat.testBit_lt_two_pow (show 2 ^ 63 + r < 2 ^ i by omega), Nat.testBit_lt_two_pow (show 2 ^ 63 + (2 ^ 63 - (r + 1)) < 2 ^ i by omega), decide_eq_false (by omega)]
    rfl

theorem i64_flip {r : Nat} (h : r < 9223372036854775808) : bits .xor .i64 ((r : Int) - 9223372036854775808) 9223372036854775807 = -1 - (r : Int) := by
  have e1 : BitVec.ofInt 64 ((r : Int) - 9223372036854775808) = BitVec.ofNat 64 (2 ^ 63 + r) := by
    apply BitVec.eq_of_toNat_eq
    rw [BitVec.toNat_ofInt, BitVec.toNat_ofNat]
    omega
  have e2 : BitVec.ofInt 64 9223372036854775807 = BitVec.ofNat 64 (2 ^ 63 - 1) := rfl
  show IntKind.i64.wrap ((BitVec.ofInt 64 ((r : Int) - 9223372036854775808) ^^^ BitVec.ofInt 64 9223372036854775807).toNat) = _
  rw [e1, e2, BitVec.toNat_xor, BitVec.toNat_ofNat, BitVec.toNat_ofNat, Nat.mod_eq_of_lt (show 2 ^ 63 + r < 2 ^ 64 by omega), Nat.mod_eq_of_lt (show 2 ^ 63 - 1 < 2 ^ 64 by omega), xor_low h]
  simp only [IntKind.wrap_i64]
  omega

/-- the place of a canonical word in the order -/
def rk (a : Nat) : Int := if 9223372036854775808 ≤ a then 9223372036854775807 - (a : Int) else (a : Int)

theorem canonN_lt {a : Nat} (h : a < 18446744073709551616) : canonN a < 18446744073709551616 := by
  unfold canonN; split <;> omega

theorem rank_any (x : Int) (w : World) (h0 : 0 ≤ x) (h1 : x ≤ 18446744073709551615) : Calls Try.prog 35 #[.int .u64 x] w fun e w' => e = .returned (.int .i64 (rk (canonN x.toNat))) ∧ w' = w := by
  have hl : canonN x.toNat < 18446744073709551616 := canonN_lt (by omega)
  have hc := canon_any x w h0 h1
  generalize canonN x.toNat = A at hl hc ⊢
  unfold rk
  by_cases c : 9223372036854775808 ≤ A
  · rw [if_pos c]
    obtain ⟨r, hr⟩ : ∃ r, r = A - 9223372036854775808 := ⟨_, rfl⟩
    have hf := i64_flip (r := r) (by omega)
    have hwr : IntKind.i64.wrap (A : Int) = (r : Int) - 9223372036854775808 := by simp only [IntKind.wrap_i64]; omega
    have hn : (r : Int) - 9223372036854775808 < 0 := by omega
    have hv : -1 - (r : Int) = 9223372036854775807 - (A : Int) := by omega
    rw [hv] at hf
    generalize (r : Int) - 9223372036854775808 = n at *
    generalize 9223372036854775807 - (A : Int) = v at *
    clear hv hr hl c h0 h1
    go_enter Try.func35, Try.ntmps35
    go_wp2_with (go_at_call 17; refine hc.mono ?_; rintro e w' ⟨rfl, hw⟩; rw [hw])
    go_ret; exact ⟨rfl, rfl⟩
  · rw [if_neg c]
    have hn : ¬ (A : Int) < 0 := by omega
    have hm : (A : Int) ≤ 9223372036854775807 := by omega
    go_enter Try.func35, Try.ntmps35
    go_wp2_with (go_at_call 17; refine hc.mono ?_; rintro e w' ⟨rfl, hw⟩; rw [hw])
    go_ret; exact ⟨ret_int (by omega), rfl⟩

/-- how two integers stand -/
def cmpI (x y : Int) : Int := if x < y then -1 else if y < x then 1 else 0

theorem cmp_any (x y : Int) (w : World) : Calls Try.prog 34 #[.int .i64 x, .int .i64 y] w fun e w' => e = .returned (.int .i64 (cmpI x y)) ∧ w' = w := by
  have hn : ∀ (z : Int) (w : World), Calls Try.prog 38 #[.int .i64 z] w fun e w' => e = .returned (.bool false) ∧ w' = w := by
    intro z w
    have hz : (z != z) = false := by simp
    go_enter Try.func38, Try.ntmps38
    go_wp2
    go_ret; exact ⟨rfl, rfl⟩
  unfold cmpI
  by_cases c : x < y
  · rw [if_pos c]
    go_enter Try.func34, Try.ntmps34
    go_wp2_with (go_at_call 38; refine (hn _ _).mono ?_; rintro e w' ⟨rfl, hw⟩; rw [hw])
    go_ret; exact ⟨rfl, rfl⟩
  rw [if_neg c]
  by_cases d : y < x
  · rw [if_pos d]
    go_enter Try.func34, Try.ntmps34
    go_wp2_with (go_at_call 38; refine (hn _ _).mono ?_; rintro e w' ⟨rfl, hw⟩; rw [hw])
    go_ret; exact ⟨rfl, rfl⟩
  · rw [if_neg d]
    go_enter Try.func34, Try.ntmps34
    go_wp2_with (go_at_call 38; refine (hn _ _).mono ?_; rintro e w' ⟨rfl, hw⟩; rw [hw])
    go_ret; exact ⟨rfl, rfl⟩

/-- the answer of Compare -/
def cmpN (a b : Nat) : Int := cmpI (rk (canonN a)) (rk (canonN b))

theorem compare_any (x y : Int) (w : World) (h0 : 0 ≤ x) (h1 : x ≤ 18446744073709551615) (g0 : 0 ≤ y) (g1 : y ≤ 18446744073709551615) : Calls Try.prog 22 #[.int .u64 x, .int .u64 y] w fun e w' => e = .returned (.int .i64 (cmpN x.toNat y.toNat)) ∧ w' = w := by
  go_enter Try.func22, Try.ntmps22
  go_wp2_with (first | (go_at_call 35; (first | ((with_reducible refine (rank_any x _ h0 h1).mono ?_)) | (with_reducible refine (rank_any y _ g0 g1).mono ?_)); rintro e w' ⟨rfl, hw⟩; rw [hw]) | (go_at_call 34; refine (cmp_any _ _ _).mono ?_; rintro e w' ⟨rfl, hw⟩; rw [hw]))
  go_ret; exact ⟨rfl, rfl⟩

theorem rcompare_any (x y : Int) (w : World) (h0 : 0 ≤ x) (h1 : x ≤ 18446744073709551615) (g0 : 0 ≤ y) (g1 : y ≤ 18446744073709551615) : Calls Try.prog 23 #[.int .u64 x, .int .u64 y] w fun e w' => e = .returned (.int .i64 (cmpN x.toNat y.toNat)) ∧ w' = w := by
  unfold cmpN
  have hA : canonN x.toNat < 18446744073709551616 := canonN_lt (by omega)
  have hB : canonN y.toNat < 18446744073709551616 := canonN_lt (by omega)
  have cx := rcanon_any x w h0 h1
  have cy := rcanon_any y w g0 g1
  generalize canonN x.toNat = A at hA cx ⊢
  generalize canonN y.toNat = B at hB cy ⊢
  have e1 : ((A : Int) == (B : Int)) = decide (A = B) := by rw [beq_dec]; exact decide_eq_decide.2 (by omega)
  unfold cmpI rk
  by_cases c1 : A = B
  · subst c1
    rw [if_neg (by omega), if_neg (by omega)]
    rw [decide_eq_true rfl] at e1
    go_enter Try.func23, Try.ntmps23
    go_wp2_with (go_at_call 18; (first | (with_reducible refine cx.mono ?_) | (with_reducible refine cy.mono ?_)); rintro e w' ⟨rfl, hw⟩; rw [hw])
    go_ret; exact ⟨rfl, rfl⟩
  rw [decide_eq_false c1] at e1
  by_cases c2 : 9223372036854775808 ≤ A <;> by_cases c3 : 9223372036854775808 ≤ B <;> by_cases c4 : A < B
  · rw [if_pos c2, if_pos c3, if_neg (by omega), if_pos (by omega)]
    have hp : (A : Int) / 9223372036854775808 = 1 := by omega
    have hq : (B : Int) / 9223372036854775808 = 1 := by omega
    have e2 : A < B := by omega
    have e6 : ¬ (B < A) := by omega
    clear c2 c3 c4 hA hB h0 h1 g0 g1 c1
    go_enter Try.func23, Try.ntmps23
    go_wp2_with (go_at_call 18; (first | (with_reducible refine cx.mono ?_) | (with_reducible refine cy.mono ?_)); rintro e w' ⟨rfl, hw⟩; rw [hw])
    go_ret; exact ⟨rfl, rfl⟩
  · rw [if_pos c2, if_pos c3, if_pos (by omega)]
    have hp : (A : Int) / 9223372036854775808 = 1 := by omega
    have hq : (B : Int) / 9223372036854775808 = 1 := by omega
    have e6 : B < A := by omega
    have e2 : ¬ (A < B) := by omega
    clear c2 c3 c4 hA hB h0 h1 g0 g1 c1
    go_enter Try.func23, Try.ntmps23
    go_wp2_with (go_at_call 18; (first | (with_reducible refine cx.mono ?_) | (with_reducible refine cy.mono ?_)); rintro e w' ⟨rfl, hw⟩; rw [hw])
    go_ret; exact ⟨rfl, rfl⟩
  · exfalso; omega
  · rw [if_pos c2, if_neg c3, if_pos (by omega)]
    have hp : (A : Int) / 9223372036854775808 = 1 := by omega
    have hq : (B : Int) / 9223372036854775808 = 0 := by omega
    have e6 : B < A := by omega
    have e2 : ¬ (A < B) := by omega
    clear c2 c3 c4 hA hB h0 h1 g0 g1 c1
    go_enter Try.func23, Try.ntmps23
    go_wp2_with (go_at_call 18; (first | (with_reducible refine cx.mono ?_) | (with_reducible refine cy.mono ?_)); rintro e w' ⟨rfl, hw⟩; rw [hw])
    go_ret; exact ⟨rfl, rfl⟩
  · rw [if_neg c2, if_pos c3, if_neg (by omega), if_pos (by omega)]
    have hp : (A : Int) / 9223372036854775808 = 0 := by omega
    have hq : (B : Int) / 9223372036854775808 = 1 := by omega
    have e2 : A < B := by omega
    have e6 : ¬ (B < A) := by omega
    clear c2 c3 c4 hA hB h0 h1 g0 g1 c1
    go_enter Try.func23, Try.ntmps23
    go_wp2_with (go_at_call 18; (first | (with_reducible refine cx.mono ?_) | (with_reducible refine cy.mono ?_)); rintro e w' ⟨rfl, hw⟩; rw [hw])
    go_ret; exact ⟨rfl, rfl⟩
  · exfalso; omega
  · rw [if_neg c2, if_neg c3, if_pos (by omega)]
    have hp : (A : Int) / 9223372036854775808 = 0 := by omega
    have hq : (B : Int) / 9223372036854775808 = 0 := by omega
    have e2 : A < B := by omega
    have e6 : ¬ (B < A) := by omega
    clear c2 c3 c4 hA hB h0 h1 g0 g1 c1
    go_enter Try.func23, Try.ntmps23
    go_wp2_with (go_at_call 18; (first | (with_reducible refine cx.mono ?_) | (with_reducible refine cy.mono ?_)); rintro e w' ⟨rfl, hw⟩; rw [hw])
    go_ret; exact ⟨rfl, rfl⟩
  · rw [if_neg c2, if_neg c3, if_neg (by omega), if_pos (by omega)]
    have hp : (A : Int) / 9223372036854775808 = 0 := by omega
    have hq : (B : Int) / 9223372036854775808 = 0 := by omega
    have e6 : B < A := by omega
    have e2 : ¬ (A < B) := by omega
    clear c2 c3 c4 hA hB h0 h1 g0 g1 c1
    go_enter Try.func23, Try.ntmps23
    go_wp2_with (go_at_call 18; (first | (with_reducible refine cx.mono ?_) | (with_reducible refine cy.mono ?_)); rintro e w' ⟨rfl, hw⟩; rw [hw])
    go_ret; exact ⟨rfl, rfl⟩

end Go.Proofs.Ytagempkaophnaaa
