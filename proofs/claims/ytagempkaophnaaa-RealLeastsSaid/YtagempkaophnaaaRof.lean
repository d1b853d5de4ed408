/- Of of the document: its contract. -/
import Derived.Test.YtagempkaophnaaaRp
namespace Go.Proofs.Ytagempkaophnaaa
open Go.ChangeShapes Go.WideShapes Go.ChangeAt Go.RowKit

theorem cast_div (m j : Nat) : (m : Int) / 2 ^ j = ((m / 2 ^ j : Nat) : Int) := by norm_cast
theorem cast_mod (m j : Nat) : (m : Int) % ((j : Nat) : Int) = ((m % j : Nat) : Int) := by norm_cast
theorem cast_pow (j : Nat) : (2 : Int) ^ j = ((2 ^ j : Nat) : Int) := by norm_cast

theorem rof_zero (w : World) : Calls Try.prog 29 #[.int .i64 0] w fun e w' => e = .returned (.tuple #[.int .u64 0, .bool true]) ∧ w' = w := by
  go_enter Try.func29, Try.ntmps29
  go_wp2
  go_ret2
  exact ⟨rfl, rfl⟩

theorem rof_small (n : Int) (w : World) (h0 : -9223372036854775808 ≤ n) (h1 : n ≤ 9223372036854775807) (z : n ≠ 0) (hl : n.natAbs.log2 ≤ 52) :
    Calls Try.prog 29 #[.int .i64 n] w fun e w' => e = .returned (.tuple #[.int .u64 (ofN n : Nat), .bool (exactN n)]) ∧ w' = w := by
  have sz := sized_of n h0 h1
  have ex := exact_iff h0 h1
  have zm : n.natAbs ≠ 0 := by omega
  have b1 := Nat.log2_self_le zm
  have b2 : n.natAbs < 2 ^ (n.natAbs.log2 + 1) := Nat.lt_log2_self
  have hz : (n == 0) = false := by rw [beq_dec]; exact decide_eq_false z
  unfold ofN
  generalize n.natAbs = m at *
  generalize hL : m.log2 = L at *
  obtain ⟨t, ht⟩ : ∃ t, L + t = 52 := ⟨52 - L, by omega⟩
  have g1 : 4503599627370496 ≤ m * 2 ^ t := by
    have : 2 ^ L * 2 ^ t ≤ m * 2 ^ t := Nat.mul_le_mul_right _ b1
    rw [← Nat.pow_add, ht] at this; exact this
  have up : ∀ i, m * 2 ^ i < 2 ^ (L + 1 + i) := by
    intro i
    have : m * 2 ^ i < 2 ^ (L + 1) * 2 ^ i := Nat.mul_lt_mul_of_pos_right b2 (Nat.two_pow_pos i)
    rw [← Nat.pow_add] at this; exact this
  have g2 : m * 2 ^ t < 9007199254740992 := by
    have := up t
    rw [show L + 1 + t = 53 by omega] at this; exact this
  have lo : ∀ i, i < t → m * 2 ^ i < 4503599627370496 := by
    intro i hi
    exact Nat.lt_of_lt_of_le (up i) (show 2 ^ (L + 1 + i) ≤ 2 ^ 52 from Nat.pow_le_pow_right (by omega) (by omega))
  have e : exactN n = true := by
    rw [ex]
    refine decide_eq_true (val_rungOf_mul K ?_)
    have := b2
    exact Nat.lt_of_lt_of_le this (show 2 ^ (L + 1) ≤ 2 ^ 53 from Nat.pow_le_pow_right (by omega) (by omega))
  rw [e, rung_low ht g1 g2]
  exact rof_low n _ m t L _ w hz rfl sz lo g1 g2 ht (placed_of _ (by omega) g1 g2)

theorem keep_of {m s : Nat} (b1 : 2 ^ (s + 52) ≤ m) (hs2 : s ≤ 11) : ∀ j, j ≤ s → (j < s ∧ decide (9007199254740992 ≤ (m : Int) / 2 ^ j) = true ∧ (j : Int) ≤ 11) ∨ j = s := by
  intro j hj
  by_cases c : j < s
  · refine Or.inl ⟨c, ?_, by omega⟩
    have le : 2 ^ (53 + j) ≤ 2 ^ (s + 52) := Nat.pow_le_pow_right (by omega) (by omega)
    have g : 9007199254740992 ≤ m / 2 ^ j := by
      refine (Nat.le_div_iff_mul_le (Nat.two_pow_pos j)).2 ?_
      rw [Nat.pow_add, show (2 : Nat) ^ 53 = 9007199254740992 from rfl] at le
      exact Nat.le_trans le b1
    rw [cast_div]
    exact decide_eq_true (by omega)
  · exact Or.inr (by omega)

set_option maxHeartbeats 2000000 in
theorem rof_large (n : Int) (w : World) (h0 : -9223372036854775808 ≤ n) (h1 : n ≤ 9223372036854775807) (hl : 52 < n.natAbs.log2) :
    Calls Try.prog 29 #[.int .i64 n] w fun e w' => e = .returned (.tuple #[.int .u64 (ofN n : Nat), .bool (exactN n)]) ∧ w' = w := by
  have sz := sized_of n h0 h1
  have ex := exact_iff h0 h1
  have zm : n.natAbs ≠ 0 := by
    intro h; rw [h] at hl; exact absurd hl (by decide)
  have hz : (n == 0) = false := by rw [beq_dec]; exact decide_eq_false (by omega)
  have m64 : n.natAbs ≤ 9223372036854775808 := by omega
  unfold ofN
  generalize n.natAbs = m at *
  have hl3 : m.log2 < 64 := (Nat.log2_lt zm).2 (by omega)
  obtain ⟨s, hs⟩ : ∃ s, m.log2 = 52 + s := ⟨m.log2 - 52, by omega⟩
  have b1 : 2 ^ (s + 52) ≤ m := by rw [Nat.add_comm, ← hs]; exact Nat.log2_self_le zm
  have b2 : m < 2 ^ (s + 53) := by
    have := Nat.lt_log2_self (n := m)
    rw [hs, show 52 + s + 1 = s + 53 by omega] at this; exact this
  have hs1 : 1 ≤ s := by omega
  have hs2 : s ≤ 11 := by omega
  have exh := exact_high zm hs
  rw [show exactN n = decide (m % 2 ^ s = 0) by rw [ex]; exact decide_eq_decide.2 exh]
  rw [rung_high zm hs]
  -- the numbers of the walk
  have pP := Nat.two_pow_pos s
  have pH := Nat.two_pow_pos (s - 1)
  have lP : 2 ^ s ≤ 2 ^ 11 := Nat.pow_le_pow_right (by omega) hs2
  have eHP : 2 ^ s = 2 * 2 ^ (s - 1) := by
    rw [Nat.mul_comm, ← Nat.pow_succ]; congr 1; omega
  have q : m / 2 ^ s < 9007199254740992 := Nat.div_lt_of_lt_mul (by rw [Nat.pow_add] at b2; exact b2)
  have q1 : 4503599627370496 ≤ m / 2 ^ s := (Nat.le_div_iff_mul_le pP).2 (by rw [Nat.pow_add, Nat.mul_comm] at b1; exact b1)
  have nu := near_up (m := m) (s := s) hs1 rfl rfl rfl
  have keep := keep_of b1 hs2
  have eP : IntKind.u64.wrap (2 ^ s) = ((2 ^ s : Nat) : Int) := by
    rw [cast_pow]; exact wrap_nat (by omega)
  have eH : IntKind.u64.wrap (2 ^ (s - 1)) = ((2 ^ (s - 1) : Nat) : Int) := by
    rw [cast_pow]; exact wrap_nat (by omega)
  have eR := cast_mod m (2 ^ s)
  have eM0 := cast_div m s
  have hL : m.log2 ≤ 63 := by omega
  rw [← hs]
  have es : IntKind.u64.wrap ((s : Int) - 1) = ((s - 1 : Nat) : Int) := by simp only [IntKind.wrap_u64]; omega
  generalize hRR : m % 2 ^ s = R at *
  generalize hMM : m / 2 ^ s = M0 at *
  generalize 2 ^ (s - 1) = H at *
  generalize 2 ^ s = P at *
  have hR0 : decide (R = 0) = ((R : Int) == 0) := by rw [beq_dec]; exact decide_eq_decide.2 (by omega)
  rw [hR0]
  generalize near m s = M at *
  have tL : decide ((m : Int) < 4503599627370496) = false := decide_eq_false (by
    have : 2 ^ 52 ≤ 2 ^ (s + 52) := Nat.pow_le_pow_right (by omega) (by omega)
    have : 2 ^ 52 ≤ m := Nat.le_trans this b1
    omega)
  have tS : decide (9007199254740992 ≤ (M0 : Int)) = false := decide_eq_false (by omega)
  have tE0 : ((M0 : Int) == 9007199254740992) = false := by rw [beq_dec]; exact decide_eq_false (by omega)
  have e1 : IntKind.u64.wrap ((M0 : Int) + 1) = ((M0 + 1 : Nat) : Int) := by simp only [IntKind.wrap_u64]; omega
  have hP0 : ¬ (P : Int) = 0 := by omega
  have eL : IntKind.u64.wrap ((m.log2 : Int) + 1) = ((m.log2 + 1 : Nat) : Int) := by simp only [IntKind.wrap_u64]; omega
  clear exh ex hRR hMM b1 b2 pP lP m64 h0 h1 hl hl3 hR0
  generalize m.log2 = L at *
  have main : ∀ sg : Bool, decide (n < 0) = sg → sized n m sg →
      Calls Try.prog 29 #[.int .i64 n] w fun e w' => e = .returned (.tuple #[.int .u64 (wd sg ((L + 1022) * 4503599627370496 + M) : Nat), .bool ((R : Int) == 0)]) ∧ w' = w := by
    intro sg hn hm
    by_cases tA : H < R
    · rw [if_pos (Or.inl tA)] at nu
      by_cases c : M = 9007199254740992
      · have tE : (((M0 + 1 : Nat) : Int) == 9007199254740992) = true := by rw [beq_dec]; exact decide_eq_true (by omega)
        have hW := placed1_of sg (L := L + 1) (by omega)
        rw [show (L + 1 + 1022) * 4503599627370496 + 4503599627370496 = (L + 1022) * 4503599627370496 + M by omega] at hW
        cases sg
        · exact rof_f_a_t n m s (s - 1) L (L + 1) P R H M0 (M0 + 1) _ w hz keep tL tS hs1 (by omega) (by omega) hs.symm eP hP0 eR es eH eM0 e1 tE0 eL hn hm tA tE hW
        · exact rof_t_a_t n m s (s - 1) L (L + 1) P R H M0 (M0 + 1) _ w hz keep tL tS hs1 (by omega) (by omega) hs.symm eP hP0 eR es eH eM0 e1 tE0 eL hn hm tA tE hW
      · have tE : (((M0 + 1 : Nat) : Int) == 9007199254740992) = false := by rw [beq_dec]; exact decide_eq_false (by omega)
        have hW := placed_of sg (L := L) (M := M0 + 1) (by omega) (by omega) (by omega)
        rw [← nu] at hW
        cases sg
        · exact rof_f_a_f n m s (s - 1) L (L + 1) P R H M0 M _ w hz keep tL tS hs1 (by omega) (by omega) hs.symm eP hP0 eR es eH eM0 (nu ▸ e1) tE0 eL hn hm tA (nu ▸ tE) hW
        · exact rof_t_a_f n m s (s - 1) L (L + 1) P R H M0 M _ w hz keep tL tS hs1 (by omega) (by omega) hs.symm eP hP0 eR es eH eM0 (nu ▸ e1) tE0 eL hn hm tA (nu ▸ tE) hW
    · by_cases cB : R = H
      · have tB : ((R : Int) == (H : Int)) = true := by rw [beq_dec]; exact decide_eq_true (by omega)
        have tC : 0 < R := by omega
        by_cases cD : M0 % 2 = 1
        · have tD : ((M0 : Int) % 2 == 1) = true := by rw [beq_dec]; exact decide_eq_true (by omega)
          rw [if_pos (Or.inr ⟨cB, cD⟩)] at nu
          by_cases c : M = 9007199254740992
          · have tE : (((M0 + 1 : Nat) : Int) == 9007199254740992) = true := by rw [beq_dec]; exact decide_eq_true (by omega)
            have hW := placed1_of sg (L := L + 1) (by omega)
            rw [show (L + 1 + 1022) * 4503599627370496 + 4503599627370496 = (L + 1022) * 4503599627370496 + M by omega] at hW
            cases sg
            · exact rof_f_b_t n m s (s - 1) L (L + 1) P R H M0 (M0 + 1) _ w hz keep tL tS hs1 (by omega) (by omega) hs.symm eP hP0 eR es eH eM0 e1 tE0 eL hn hm tA tB tC tD tE hW
            · exact rof_t_b_t n m s (s - 1) L (L + 1) P R H M0 (M0 + 1) _ w hz keep tL tS hs1 (by omega) (by omega) hs.symm eP hP0 eR es eH eM0 e1 tE0 eL hn hm tA tB tC tD tE hW
          · have tE : (((M0 + 1 : Nat) : Int) == 9007199254740992) = false := by rw [beq_dec]; exact decide_eq_false (by omega)
            have hW := placed_of sg (L := L) (M := M0 + 1) (by omega) (by omega) (by omega)
            rw [← nu] at hW
            cases sg
            · exact rof_f_b_f n m s (s - 1) L (L + 1) P R H M0 M _ w hz keep tL tS hs1 (by omega) (by omega) hs.symm eP hP0 eR es eH eM0 (nu ▸ e1) tE0 eL hn hm tA tB tC tD (nu ▸ tE) hW
            · exact rof_t_b_f n m s (s - 1) L (L + 1) P R H M0 M _ w hz keep tL tS hs1 (by omega) (by omega) hs.symm eP hP0 eR es eH eM0 (nu ▸ e1) tE0 eL hn hm tA tB tC tD (nu ▸ tE) hW
        · have tD : ((M0 : Int) % 2 == 1) = false := by rw [beq_dec]; exact decide_eq_false (by omega)
          rw [if_neg (by omega), Nat.add_zero] at nu
          have hW := placed_of sg (L := L) (M := M0) (by omega) (by omega) (by omega)
          rw [nu]
          cases sg
          · exact rof_f_c n m s (s - 1) L (L + 1) P R H M0 (M0 + 1) _ w hz keep tL tS hs1 (by omega) (by omega) hs.symm eP hP0 eR es eH eM0 e1 tE0 eL hn hm tA tB tC tD hW
          · exact rof_t_c n m s (s - 1) L (L + 1) P R H M0 (M0 + 1) _ w hz keep tL tS hs1 (by omega) (by omega) hs.symm eP hP0 eR es eH eM0 e1 tE0 eL hn hm tA tB tC tD hW
      · have tB : ((R : Int) == (H : Int)) = false := by rw [beq_dec]; exact decide_eq_false (by omega)
        rw [if_neg (by omega), Nat.add_zero] at nu
        have hW := placed_of sg (L := L) (M := M0) (by omega) (by omega) (by omega)
        rw [nu]
        cases sg
        · exact rof_f_d n m s (s - 1) L (L + 1) P R H M0 (M0 + 1) _ w hz keep tL tS hs1 (by omega) (by omega) hs.symm eP hP0 eR es eH eM0 e1 tE0 eL hn hm tA tB hW
        · exact rof_t_d n m s (s - 1) L (L + 1) P R H M0 (M0 + 1) _ w hz keep tL tS hs1 (by omega) (by omega) hs.symm eP hP0 eR es eH eM0 e1 tE0 eL hn hm tA tB hW
  exact main _ rfl sz

theorem rof_any (n : Int) (w : World) (h0 : -9223372036854775808 ≤ n) (h1 : n ≤ 9223372036854775807) :
    Calls Try.prog 29 #[.int .i64 n] w fun e w' => e = .returned (.tuple #[.int .u64 (ofN n : Nat), .bool (exactN n)]) ∧ w' = w := by
  by_cases z : n = 0
  · subst z
    have e : exactN 0 = true := by
      rw [exact_iff (by omega) (by omega)]
      rw [show (0 : Int).natAbs = 0 from rfl, Nat.zero_mul]
      exact decide_eq_true rfl
    have o : ofN 0 = 0 := by
      unfold ofN
      rw [show (0 : Int).natAbs = 0 from rfl, Nat.zero_mul]; rfl
    rw [e, o]
    exact rof_zero w
  · by_cases c : n.natAbs.log2 ≤ 52
    · exact rof_small n w h0 h1 z c
    · exact rof_large n w h0 h1 (by omega)

end Go.Proofs.Ytagempkaophnaaa
