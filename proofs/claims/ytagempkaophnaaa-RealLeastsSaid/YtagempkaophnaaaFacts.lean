/- What the kinds, the order and the sums say of each other. -/
import Derived.Test.YtagempkaophnaaaSum
namespace Go.Proofs.Ytagempkaophnaaa
open Go.ChangeShapes Go.WideShapes Go.ChangeAt Go.RowKit

theorem rk_inj {a b : Nat} (ha : a < 18446744073709551616) (hb : b < 18446744073709551616) : rk a = rk b ↔ a = b := by
  unfold rk
  by_cases c : 9223372036854775808 ≤ a <;> by_cases d : 9223372036854775808 ≤ b <;> simp only [c, d, if_true, if_false] <;> omega

theorem canon_nan {a : Nat} (h : nanN a = true) : canonN a = 9221120237041090560 := by unfold canonN; rw [h]; rfl
theorem canon_not {a : Nat} (h : nanN a = false) : canonN a = a := by unfold canonN; rw [h]; rfl
theorem nan_is : nanN 9221120237041090560 = true := by decide

theorem kind_zero_iff {a : Nat} : kindN a = 0 ↔ nanN a = true := by
  have := kind_nan a
  constructor
  · intro h; rw [h] at this; exact this.symm
  · intro h; rw [h] at this; simpa using this

/-- kinds and order, where one is a NaN -/
theorem kinds_cmp {a b : Nat} (h : nanN a = true ∨ nanN b = true) : (kindN a == kindN b) = decide (canonN a = canonN b) := by
  rw [beq_dec]
  refine decide_eq_decide.2 ?_
  cases ha : nanN a <;> cases hb : nanN b
  · rw [ha, hb] at h; rcases h with h | h <;> cases h
  · rw [canon_not ha, canon_nan hb, kind_zero_iff.2 hb]
    constructor
    · intro g; rw [kind_zero_iff, ha] at g; cases g
    · intro g; rw [g, nan_is] at ha; cases ha
  · rw [canon_not hb, canon_nan ha, kind_zero_iff.2 ha]
    constructor
    · intro g; have g := g.symm; rw [kind_zero_iff, hb] at g; cases g
    · intro g; rw [← g, nan_is] at hb; cases hb
  · rw [canon_nan ha, canon_nan hb, kind_zero_iff.2 ha, kind_zero_iff.2 hb]
    exact ⟨fun _ => rfl, fun _ => rfl⟩

theorem order_kinds {a b : Nat} (ha : a < 18446744073709551616) (hb : b < 18446744073709551616) :
    ((kindN a == 0) = true ∧ (kindN a == kindN b) = decide (canonN a = canonN b) ∧ eqN a b = false) ∨
    ((kindN a == 0) = false ∧ (kindN b == 0) = true ∧ (kindN a == kindN b) = decide (canonN a = canonN b) ∧ eqN a b = false) ∨
    ((kindN a == 0) = false ∧ (kindN b == 0) = false ∧ (canonN a = canonN b → eqN a b = true) ∧
      (¬ canonN a = canonN b → ((kindN a == 4) = false ∧ eqN a b = false ∨ (kindN a == 4) = true ∧ (kindN b == 4) = false ∧ eqN a b = false ∨ (kindN a == 4) = true ∧ (kindN b == 4) = true ∧ eqN a b = true))) := by
  cases na : nanN a
  · cases nb : nanN b
    · refine Or.inr (Or.inr ⟨by rw [kind_nan, na], by rw [kind_nan, nb], ?_, ?_⟩)
      · rw [canon_not na, canon_not nb, eqN_key na nb]
        intro h; exact decide_eq_true ((key_eq ha hb).2 (Or.inl h))
      · rw [canon_not na, canon_not nb, eqN_key na nb, kind_four, kind_four]
        intro h
        by_cases za : rung a = 0
        · by_cases zb : rung b = 0
          · exact Or.inr (Or.inr ⟨decide_eq_true za, decide_eq_true zb, decide_eq_true ((key_eq ha hb).2 (Or.inr ⟨za, zb⟩))⟩)
          · refine Or.inr (Or.inl ⟨decide_eq_true za, decide_eq_false zb, decide_eq_false (fun g => ?_)⟩)
            rcases (key_eq ha hb).1 g with g | g
            · exact h g
            · exact zb g.2
        · refine Or.inl ⟨decide_eq_false za, decide_eq_false (fun g => ?_)⟩
          rcases (key_eq ha hb).1 g with g | g
          · exact h g
          · exact za g.1
    · exact Or.inr (Or.inl ⟨by rw [kind_nan, na], by rw [kind_nan, nb], kinds_cmp (Or.inr nb), eqN_nan_right nb⟩)
  · exact Or.inl ⟨by rw [kind_nan, na], kinds_cmp (Or.inl na), eqN_nan_left na⟩

theorem cmpI_lt {p q : Int} (h : p < q) : cmpI p q = -1 := by unfold cmpI; rw [if_pos h]
theorem cmpI_gt {p q : Int} (h : q < p) : cmpI p q = 1 := by unfold cmpI; rw [if_neg (by omega), if_pos h]
theorem cmpI_eq {p q : Int} (h : p = q) : cmpI p q = 0 := by unfold cmpI; rw [if_neg (by omega), if_neg (by omega)]

/-- a word with its sign turned -/
def flipN (a : Nat) : Nat := if a < 9223372036854775808 then a + 9223372036854775808 else a - 9223372036854775808

theorem flip_lt {a : Nat} (h : a < 18446744073709551616) : flipN a < 18446744073709551616 := by unfold flipN; split <;> omega
theorem flip_rung {a : Nat} (h : a < 18446744073709551616) : rung (flipN a) = rung a := by unfold flipN rung; split <;> omega
theorem flip_nan {a : Nat} (h : a < 18446744073709551616) : nanN (flipN a) = nanN a := by unfold nanN; rw [flip_rung h]
theorem flip_rk {a : Nat} (h : a < 18446744073709551616) : rk (flipN a) = -1 - rk a := by
  unfold flipN rk
  by_cases c : a < 9223372036854775808
  · rw [if_pos c, if_pos (by omega), if_neg (by omega)]; omega
  · rw [if_neg c, if_neg (by omega), if_pos (by omega)]; omega
theorem flip_key {a : Nat} (h : a < 18446744073709551616) : key (flipN a) = -key a := by
  unfold key
  rw [flip_rung h, sgn_of (flip_lt h), sgn_of h]
  unfold flipN
  by_cases c : a < 9223372036854775808
  · rw [if_pos c, decide_eq_true (by omega), decide_eq_false (by omega), if_pos rfl, if_neg Bool.false_ne_true]
  · rw [if_neg c, decide_eq_false (by omega), decide_eq_true (by omega), if_pos rfl, if_neg Bool.false_ne_true]; omega

theorem flip_cmp {a b : Nat} (ha : a < 18446744073709551616) (hb : b < 18446744073709551616) (na : nanN a = false) (nb : nanN b = false) : cmpN (flipN a) (flipN b) = cmpN b a := by
  unfold cmpN
  rw [canon_not na, canon_not nb, canon_not ((flip_nan ha).trans na), canon_not ((flip_nan hb).trans nb), flip_rk ha, flip_rk hb]
  unfold cmpI
  by_cases c : rk b < rk a
  · rw [if_pos c, if_pos (by omega)]
  · by_cases d : rk a < rk b
    · rw [if_neg c, if_pos d, if_neg (by omega), if_pos (by omega)]
    · rw [if_neg c, if_neg d, if_neg (by omega), if_neg (by omega)]

theorem flip_eq {a b : Nat} (ha : a < 18446744073709551616) (hb : b < 18446744073709551616) (na : nanN a = false) (nb : nanN b = false) : eqN (flipN a) (flipN b) = eqN a b := by
  rw [eqN_key na nb, eqN_key ((flip_nan ha).trans na) ((flip_nan hb).trans nb), flip_key ha, flip_key hb]
  exact decide_eq_decide.2 (by omega)

theorem u64_flip {a : Nat} (h : a < 18446744073709551616) : bits .xor .u64 (a : Int) 9223372036854775808 = ((flipN a : Nat) : Int) := by
  have e : bits .xor .u64 (a : Int) ((9223372036854775808 : Nat) : Int) = ((a ^^^ 9223372036854775808 : Nat) : Int) := u64_xor_nat a 9223372036854775808 h (by omega)
  rw [show (9223372036854775808 : Int) = ((9223372036854775808 : Nat) : Int) from rfl, e]
  congr 1
  apply Nat.eq_of_testBit_eq
  intro i
  rw [Nat.testBit_xor, show 9223372036854775808 = 2 ^ 63 from rfl, Nat.testBit_two_pow]
  unfold flipN
  by_cases c : a < 9223372036854775808
  · rw [if_pos c, Nat.add_comm, show 9223372036854775808 = 2 ^ 63 from rfl]
    rcases Nat.lt_trichotomy i 63 with k | k | k
    · rw [Nat.testBit_two_pow_add_gt k, decide_eq_false (by omega), Bool.xor_false]
    · subst k; rw [Nat.testBit_two_pow_add_eq, decide_eq_true rfl, Bool.xor_true]
    · have le : 2 ^ 64 ≤ 2 ^ i := Nat.pow_le_pow_right (by omega) (by omega)
      rw [Nat.testBit_lt_two_pow (show 2 ^ 63 + a < 2 ^ i by omega), Nat.testBit_lt_two_pow (show a < 2 ^ i by omega), decide_eq_false (by omega)]; rfl
  · rw [if_neg c]
    obtain ⟨r, rfl⟩ : ∃ r, a = 2 ^ 63 + r := ⟨a - 2 ^ 63, by omega⟩
    rw [show 2 ^ 63 + r - 9223372036854775808 = r by omega]
    rcases Nat.lt_trichotomy i 63 with k | k | k
    · rw [Nat.testBit_two_pow_add_gt k, decide_eq_false (by omega), Bool.xor_false]
    · subst k; rw [Nat.testBit_two_pow_add_eq, decide_eq_true rfl, Bool.xor_true, Bool.not_not]
    · have le : 2 ^ 64 ≤ 2 ^ i := Nat.pow_le_pow_right (by omega) (by omega)
      rw [Nat.testBit_lt_two_pow (show 2 ^ 63 + r < 2 ^ i by omega), Nat.testBit_lt_two_pow (show r < 2 ^ i by omega), decide_eq_false (by omega)]; rfl

/-- what comes with a NaN -/
theorem add_nan {x y : Nat} (h : nanN x = true ∨ nanN y = true) : addN x y = 9221120237041090560 := by
  unfold addN
  rcases h with h | h
  · rw [add_nan_left (of_decide_eq_true h)]
  · rw [add_nan_right (of_decide_eq_true h)]

theorem rung_zero : rung 0 = 0 := rfl
theorem sv_of_zero : sv 0 = 0 := rfl

/-- a word and +0 -/
theorem add_zero {x : Nat} (h : x < 18446744073709551616) : canonN (addN x 0) = if x = 9223372036854775808 then 0 else canonN x := by
  cases n : nanN x
  · have n' := of_decide_eq_false n
    by_cases z : x = 9223372036854775808
    · rw [if_pos z, z]; decide +kernel
    · rw [if_neg z]
      congr 1
      unfold addN
      by_cases i : rung x = 9218868437227405312
      · rw [add_inf_fin i (by rw [rung_zero]; omega)]
        show wd (sgn x) 9218868437227405312 = x
        rw [← i, wd_of h]
      · rw [add_fin (by omega) (by rw [rung_zero]; omega)]
        show plus x 0 = x
        unfold plus
        rw [sv_of_zero, Int.add_zero]
        have e : (sv x).natAbs = val (rung x) := by unfold sv; split <;> simp
        rw [e, rungOf_val, Nat.min_eq_left (by omega)]
        have s : (if sv x = 0 then sgn x && sgn 0 else decide (sv x < 0)) = sgn x := by
          have hv : 0 < rung x → 0 < val (rung x) := val_pos
          by_cases r0 : rung x = 0
          · have sz : sv x = 0 := by unfold sv; rw [r0, val_zero]; split <;> rfl
            rw [if_pos sz]
            have : sgn x = false := by
              rw [sgn_of h]; exact decide_eq_false (by unfold rung at r0; omega)
            rw [this]; rfl
          · have p := hv (by omega)
            unfold sv
            cases sgn x
            · rw [if_neg Bool.false_ne_true, if_neg (by omega)]; exact decide_eq_false (by omega)
            · rw [if_pos rfl, if_neg (by omega)]; exact decide_eq_true (by omega)
        rw [s, wd_of h]
  · have z : x ≠ 9223372036854775808 := by
      intro z; rw [z] at n; exact absurd n (by decide)
    rw [if_neg z, add_nan (Or.inl n), canon_nan n]; decide

/-- floats of numbers rise -/
theorem rk_ofN {n : Int} (h0 : -9223372036854775808 ≤ n) (h1 : n ≤ 9223372036854775807) : rk (canonN (ofN n)) = if n < 0 then -1 - (rungOf (n.natAbs * 2 ^ K) : Int) else (rungOf (n.natAbs * 2 ^ K) : Int) := by
  have rl := rungOf_int (m := n.natAbs) (by omega)
  have hr : rung (ofN n) = rungOf (n.natAbs * 2 ^ K) := rung_wd _ (by omega)
  have nn : nanN (ofN n) = false := decide_eq_false (by omega)
  rw [canon_not nn]
  unfold rk ofN wd
  generalize rungOf (n.natAbs * 2 ^ K) = r at *
  by_cases c : n < 0
  · rw [decide_eq_true c, if_pos c]
    simp only [if_true]
    rw [if_pos (by omega)]; omega
  · rw [decide_eq_false c, if_neg c]
    simp only [Bool.false_eq_true, if_false]
    rw [if_neg (by omega)]

theorem rk_rises {p q : Int} (h0 : -9223372036854775808 ≤ p) (h : p ≤ q) (h1 : q ≤ 9223372036854775807) : rk (canonN (ofN p)) ≤ rk (canonN (ofN q)) := by
  rw [rk_ofN h0 (by omega), rk_ofN (by omega) h1]
  by_cases c : p < 0
  · rw [if_pos c]
    by_cases d : q < 0
    · rw [if_pos d]
      have := rungOf_mono (Nat.mul_le_mul_right (2 ^ K) (show q.natAbs ≤ p.natAbs by omega))
      omega
    · rw [if_neg d]; omega
  · rw [if_neg c, if_neg (by omega)]
    have := rungOf_mono (Nat.mul_le_mul_right (2 ^ K) (show p.natAbs ≤ q.natAbs by omega))
    omega

theorem cmp_rises {p q : Int} (h0 : -9223372036854775808 ≤ p) (h : p ≤ q) (h1 : q ≤ 9223372036854775807) : cmpN (ofN p) (ofN q) = -1 ∨ cmpN (ofN p) (ofN q) = 0 := by
  have := rk_rises h0 h h1
  unfold cmpN
  by_cases c : rk (canonN (ofN p)) < rk (canonN (ofN q))
  · exact Or.inl (cmpI_lt c)
  · exact Or.inr (cmpI_eq (by omega))

end Go.Proofs.Ytagempkaophnaaa
