/- Of of the document: what the walk comes to. -/
import Derived.Test.YtagempkaophnaaaRo
namespace Go.Proofs.Ytagempkaophnaaa
open Go.ChangeShapes Go.WideShapes Go.ChangeAt Go.RowKit

theorem placed_of (sg : Bool) {L M : Nat} (hL : L ≤ 63) (h1 : 4503599627370496 ≤ M) (h2 : M < 9007199254740992) : placed sg L M (wd sg ((L + 1022) * 4503599627370496 + M)) := by
  unfold placed
  cases sg
  · refine ⟨(L : Int) + 1023, ((L : Int) + 1023) * 4503599627370496, ((L : Int) + 1023) * 4503599627370496, (M : Int) % 4503599627370496, ?_, ?_, rfl, ?_, ?_⟩
    · simp only [IntKind.wrap_u64]; omega
    · simp only [IntKind.wrap_u64]; omega
    · rw [if_neg Bool.false_ne_true]; simp only [IntKind.wrap_u64]; omega
    · unfold wd; rw [if_neg Bool.false_ne_true]; simp only [IntKind.wrap_u64]; omega
  · refine ⟨(L : Int) + 1023, ((L : Int) + 1023) * 4503599627370496, 9223372036854775808 + ((L : Int) + 1023) * 4503599627370496, (M : Int) % 4503599627370496, ?_, ?_, rfl, ?_, ?_⟩
    · simp only [IntKind.wrap_u64]; omega
    · simp only [IntKind.wrap_u64]; omega
    · rw [if_pos rfl]; simp only [IntKind.wrap_u64]; omega
    · unfold wd; rw [if_pos rfl]; simp only [IntKind.wrap_u64]; omega

theorem placed1_of (sg : Bool) {L : Nat} (hL : L ≤ 64) : placed1 sg L (wd sg ((L + 1022) * 4503599627370496 + 4503599627370496)) := by
  unfold placed1
  cases sg
  · refine ⟨(L : Int) + 1023, ((L : Int) + 1023) * 4503599627370496, ((L : Int) + 1023) * 4503599627370496, ?_, ?_, ?_, ?_⟩
    · simp only [IntKind.wrap_u64]; omega
    · simp only [IntKind.wrap_u64]; omega
    · rw [if_neg Bool.false_ne_true]; simp only [IntKind.wrap_u64]; omega
    · unfold wd; rw [if_neg Bool.false_ne_true]; simp only [IntKind.wrap_u64]; omega
  · refine ⟨(L : Int) + 1023, ((L : Int) + 1023) * 4503599627370496, 9223372036854775808 + ((L : Int) + 1023) * 4503599627370496, ?_, ?_, ?_, ?_⟩
    · simp only [IntKind.wrap_u64]; omega
    · simp only [IntKind.wrap_u64]; omega
    · rw [if_pos rfl]; simp only [IntKind.wrap_u64]; omega
    · unfold wd; rw [if_pos rfl]; simp only [IntKind.wrap_u64]; omega

theorem sized_of (n : Int) (h0 : -9223372036854775808 ≤ n) (h1 : n ≤ 9223372036854775807) : sized n n.natAbs (decide (n < 0)) := by
  by_cases c : n < 0
  · rw [decide_eq_true c]
    refine ⟨n + 1, -(n + 1), -(n + 1), ?_, ?_, ?_, ?_⟩
    · simp only [wrap64]; omega
    · simp only [wrap64]; omega
    · simp only [IntKind.wrap_u64]; omega
    · simp only [IntKind.wrap_u64]; omega
  · rw [decide_eq_false c]
    show IntKind.u64.wrap n = (n.natAbs : Int)
    simp only [IntKind.wrap_u64]; omega

/-- a number is met just if its rung stands for it -/
theorem exact_iff {n : Int} (h0 : -9223372036854775808 ≤ n) (h1 : n ≤ 9223372036854775807) : exactN n = decide (val (rungOf (n.natAbs * 2 ^ K)) = n.natAbs * 2 ^ K) := by
  have rl := rungOf_int (m := n.natAbs) (by omega)
  have hr : rung (ofN n) = rungOf (n.natAbs * 2 ^ K) := rung_wd _ (by omega)
  have hs : sgn (ofN n) = decide (n < 0) := sgn_wd _ (by omega)
  by_cases c : val (rungOf (n.natAbs * 2 ^ K)) = n.natAbs * 2 ^ K
  · rw [decide_eq_true c]
    have p := Nat.two_pow_pos K
    have rng : rungOf (n.natAbs * 2 ^ K) < 4890909195324358656 ∨ (rungOf (n.natAbs * 2 ^ K) = 4890909195324358656 ∧ sgn (ofN n) = true) := by
      rcases Nat.lt_trichotomy (rungOf (n.natAbs * 2 ^ K)) 4890909195324358656 with g | g | g
      · exact Or.inl g
      · refine Or.inr ⟨g, ?_⟩
        rw [hs]
        refine decide_eq_true ?_
        rw [g, at_rung] at c
        have := Nat.eq_of_mul_eq_mul_right p c
        omega
      · exfalso
        have l := val_mono g
        rw [c, at_rung] at l
        have := Nat.lt_of_mul_lt_mul_right l
        omega
    have ok : wholeOk (ofN n) = true := by
      unfold wholeOk
      rw [hr, c]
      exact decide_eq_true ⟨Nat.mul_mod_left _ _, rng⟩
    have v : wholeV (ofN n) = n := by
      unfold wholeV cutI
      rw [if_pos ok, hr, hs, c, Nat.mul_div_cancel _ p]
      by_cases g : n < 0
      · rw [decide_eq_true g, if_pos rfl]; omega
      · rw [decide_eq_false g, if_neg Bool.false_ne_true]; omega
    unfold exactN
    rw [ok, v]; simp
  · rw [decide_eq_false c]
    cases h : exactN n
    · rfl
    · exfalso
      unfold exactN at h
      rw [Bool.and_eq_true] at h
      obtain ⟨ok, v⟩ := h
      have v' : wholeV (ofN n) = n := by simpa using v
      unfold wholeV cutI at v'
      rw [if_pos ok, hr] at v'
      have ok' := (of_decide_eq_true ok).1
      rw [hr] at ok'
      have d := Nat.div_add_mod (val (rungOf (n.natAbs * 2 ^ K))) (2 ^ K)
      rw [ok', Nat.add_zero, Nat.mul_comm] at d
      have e : val (rungOf (n.natAbs * 2 ^ K)) / 2 ^ K = n.natAbs := by
        generalize val (rungOf (n.natAbs * 2 ^ K)) / 2 ^ K = q at v'
        split at v' <;> omega
      rw [e] at d
      exact c d.symm

theorem near_scale (m s k : Nat) : near (m * 2 ^ k) (s + k) = near m s := by
  have pp := Nat.two_pow_pos k
  unfold near
  rw [Nat.pow_add, Nat.mul_div_mul_right _ _ pp, Nat.mul_mod_mul_right]
  have k1 : (2 ^ s * 2 ^ k < 2 * (m % 2 ^ s * 2 ^ k)) ↔ (2 ^ s < 2 * (m % 2 ^ s)) := by
    rw [← Nat.mul_assoc]; exact Nat.mul_lt_mul_right pp
  have k2 : (2 ^ s * 2 ^ k = 2 * (m % 2 ^ s * 2 ^ k)) ↔ (2 ^ s = 2 * (m % 2 ^ s)) := by
    rw [← Nat.mul_assoc]; exact Nat.mul_left_inj (by omega)
  simp only [k1, k2]

theorem log_scale {m : Nat} (k : Nat) (z : m ≠ 0) : (m * 2 ^ k).log2 = m.log2 + k := by
  have z2 : m * 2 ^ k ≠ 0 := Nat.mul_ne_zero z (by have := Nat.two_pow_pos k; omega)
  refine (Nat.log2_eq_iff z2).2 ⟨?_, ?_⟩
  · rw [Nat.pow_add]; exact Nat.mul_le_mul_right _ (Nat.log2_self_le z)
  · rw [show m.log2 + k + 1 = (m.log2 + 1) + k by omega, Nat.pow_add]
    exact Nat.mul_lt_mul_of_pos_right Nat.lt_log2_self (Nat.two_pow_pos k)

/-- the rung of a number of more than 53 bits -/
theorem rung_high {m s : Nat} (z : m ≠ 0) (hl : m.log2 = 52 + s) : rungOf (m * 2 ^ K) = (52 + s + 1022) * 4503599627370496 + near m s := by
  unfold rungOf
  rw [log_scale K z, hl, show 52 + s + K - 52 = s + K by omega, near_scale]
  have e : s + K = 52 + s + 1022 := by have := K_is; omega
  rw [e]

/-- the rung of a number of at most 53 bits -/
theorem rung_low {m t L : Nat} (h : L + t = 52) (h1 : 4503599627370496 ≤ m * 2 ^ t) (h2 : m * 2 ^ t < 9007199254740992) : rungOf (m * 2 ^ K) = (L + 1022) * 4503599627370496 + m * 2 ^ t := by
  obtain ⟨X, hX⟩ : ∃ X, L + 1022 = X := ⟨_, rfl⟩
  have hk : K = t + X := by have := K_is; omega
  have e1 : 2 ^ K = 2 ^ t * 2 ^ X := by rw [hk, Nat.pow_add]
  have e : m * 2 ^ K = (m * 2 ^ t) * 2 ^ X := by rw [e1, Nat.mul_assoc]
  rw [e, rungOf_mul _ h1 h2, hX]

theorem near_up {m s R H M0 : Nat} (hs : 1 ≤ s) (hR : m % 2 ^ s = R) (hH : 2 ^ (s - 1) = H) (hM : m / 2 ^ s = M0) : near m s = M0 + (if H < R ∨ (R = H ∧ M0 % 2 = 1) then 1 else 0) := by
  unfold near
  have e : 2 ^ s = 2 * H := by
    rw [← hH, Nat.mul_comm, ← Nat.pow_succ]; congr 1; omega
  rw [hM, hR, e]
  by_cases c : H < R ∨ (R = H ∧ M0 % 2 = 1)
  · rw [if_pos c, if_pos (by omega)]
  · rw [if_neg c, if_neg (by omega)]

/-- of more than 53 bits: met just if nothing is left over -/
theorem exact_high {m s : Nat} (z : m ≠ 0) (hl : m.log2 = 52 + s) : val (rungOf (m * 2 ^ K)) = m * 2 ^ K ↔ m % 2 ^ s = 0 := by
  have b1 : 2 ^ (s + 52) ≤ m := by rw [Nat.add_comm, ← hl]; exact Nat.log2_self_le z
  have b2 : m < 2 ^ (s + 53) := by
    have := Nat.lt_log2_self (n := m)
    rw [hl, show 52 + s + 1 = s + 53 by omega] at this; exact this
  constructor
  · intro h
    rw [rung_high z hl] at h
    have g1 := near_ge b1
    have g2 := near_le b2
    have v : val ((52 + s + 1022) * 4503599627370496 + near m s) = near m s * 2 ^ s * 2 ^ K := by
      rw [Nat.mul_assoc, ← Nat.pow_add]
      have e : 52 + s + 1022 = s + K := by have := K_is; omega
      rw [e]
      by_cases c : near m s = 9007199254740992
      · rw [c, show (s + K) * 4503599627370496 + 9007199254740992 = (s + K + 1) * 4503599627370496 + 4503599627370496 by omega, val_at _ (by omega) (by omega), Nat.pow_succ]
        rw [show 9007199254740992 = 4503599627370496 * 2 by omega, Nat.mul_assoc, Nat.mul_comm 2]
      · exact val_at _ g1 (by omega)
    rw [v] at h
    have := Nat.eq_of_mul_eq_mul_right (Nat.two_pow_pos K) h
    rw [← this, Nat.mul_mod_left]
  · intro h
    have d := Nat.div_add_mod m (2 ^ s)
    rw [h, Nat.add_zero, Nat.mul_comm] at d
    have q : m / 2 ^ s < 9007199254740992 := Nat.div_lt_of_lt_mul (by rw [Nat.pow_add] at b2; exact b2)
    rw [← d, Nat.mul_assoc, ← Nat.pow_add]
    exact val_rungOf_mul _ q

end Go.Proofs.Ytagempkaophnaaa
