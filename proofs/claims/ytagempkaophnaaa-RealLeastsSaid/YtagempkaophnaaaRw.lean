/- Whole of the document: the bits, moved to their place. -/
import Derived.Test.YtagempkaophnaaaWh
namespace Go.Proofs.Ytagempkaophnaaa
open Go.ChangeShapes Go.WideShapes Go.ChangeAt Go.RowKit

theorem wrap_nat {n : Nat} (h : n < 18446744073709551616) : IntKind.u64.wrap (n : Int) = (n : Int) := by
  simp only [IntKind.wrap_u64]; omega

theorem wrap_small {Q : Nat} (h : Q < 9223372036854775808) : wrap64 (Q : Int) = (Q : Int) := by
  simp only [wrap64]; omega
theorem wrap_small_neg {Q : Nat} (h : Q < 9223372036854775808) : wrap64 (-(Q : Int)) = -(Q : Int) := by
  simp only [wrap64]; omega

theorem dec_small {Q : Nat} (h : Q < 9223372036854775808) : decide ((Q : Int) < 9223372036854775808) = true := decide_eq_true (by omega)

theorem ret_whole {a b : Int} {s : Bool} (h : a = b) : Ending.returned (.tuple #[.int .i64 a, .bool s]) = .returned (.tuple #[.int .i64 b, .bool s]) := by rw [h]

theorem val_parts {r E f : Nat} (hE : r / 4503599627370496 = E) (hf : r % 4503599627370496 = f) (h : 1 ≤ E) : val r = (4503599627370496 + f) * 2 ^ (E - 1) := by
  unfold val
  rw [if_neg (by omega), hE, hf]

/-- below 1: not whole -/
theorem not_whole {m E : Nat} (h1 : 1 ≤ m) (h2 : m < 9007199254740992) (h3 : E < 1023) : ¬ (m * 2 ^ (E - 1)) % 2 ^ K = 0 := by
  have lt : m * 2 ^ (E - 1) < 2 ^ K := by
    have : m * 2 ^ (E - 1) < 2 ^ 53 * 2 ^ (E - 1) := Nat.mul_lt_mul_of_pos_right h2 (Nat.two_pow_pos _)
    rw [← Nat.pow_add] at this
    exact Nat.lt_of_lt_of_le this (Nat.pow_le_pow_right (by omega) (by rw [K_is]; omega))
  rw [Nat.mod_eq_of_lt lt]
  have := Nat.two_pow_pos (E - 1)
  exact Nat.mul_ne_zero (by omega) (by omega)

/-- from 1 to 2^53 -/
theorem whole_low {m E d : Nat} (h1 : 1 ≤ E) (h : E + d = 1075) : (m * 2 ^ (E - 1)) % 2 ^ K = m % 2 ^ d * 2 ^ (E - 1) ∧ (m * 2 ^ (E - 1)) / 2 ^ K = m / 2 ^ d := by
  have e : 2 ^ K = 2 ^ d * 2 ^ (E - 1) := by
    rw [← Nat.pow_add]; congr 1; rw [K_is]; omega
  rw [e]
  exact ⟨Nat.mul_mod_mul_right _ _ _, Nat.mul_div_mul_right _ _ (Nat.two_pow_pos _)⟩

/-- above it -/
theorem whole_high {m E d : Nat} (h : E = 1075 + d) : (m * 2 ^ (E - 1)) % 2 ^ K = 0 ∧ (m * 2 ^ (E - 1)) / 2 ^ K = m * 2 ^ d := by
  have e : m * 2 ^ (E - 1) = m * 2 ^ d * 2 ^ K := by
    rw [Nat.mul_assoc, ← Nat.pow_add]; congr 2; rw [K_is]; omega
  rw [e]
  exact ⟨Nat.mul_mod_left _ _, Nat.mul_div_cancel _ (Nat.two_pow_pos _)⟩

set_option maxHeartbeats 4000000 in
theorem rwhole_any (x : Int) (w : World) (h0 : 0 ≤ x) (h1 : x ≤ 18446744073709551615) : Calls Try.prog 16 #[.int .u64 x] w fun e w' => e = .returned (.tuple #[.int .i64 (wholeV x.toNat), .bool (wholeOk x.toNat)]) ∧ w' = w := by
  obtain ⟨a, rfl⟩ := Int.eq_ofNat_of_zero_le h0
  have ck := rkind_any (a : Int) w h0 h1
  simp only [Int.toNat_natCast] at ck ⊢
  by_cases z : rung a = 0
  · rw [show kindN a = 4 by unfold kindN; rw [if_pos z]] at ck
    have e1 : wholeOk a = true := decide_eq_true ⟨by rw [z, val_zero, Nat.zero_mod], Or.inl (by omega)⟩
    have e2 : wholeV a = 0 := by
      unfold wholeV cutI
      rw [if_pos e1, z, val_zero, Nat.zero_div]; split <;> rfl
    rw [e1, e2]
    clear e1 e2 z h0 h1
    generalize sgn a = s at *
    go_enter Try.func16, Try.ntmps16
    go_wp2_with (go_at_call 14; refine ck.mono ?_; rintro e w' ⟨rfl, hw⟩; rw [hw])
    go_ret2; exact ⟨rfl, rfl⟩
  have k4 := kind_four a
  rw [decide_eq_false z] at k4
  by_cases c : rung a < 4503599627370496 ∨ 9218868437227405312 ≤ rung a
  · have k2 : (kindN a != 2) = true := by
      unfold kindN
      rw [if_neg z]
      rcases c with c | c
      · rw [if_pos c]; rfl
      · rw [if_neg (by omega), if_neg (by omega)]; split <;> rfl
    have e1 : wholeOk a = false := by
      refine decide_eq_false ?_
      rintro ⟨g1, g2⟩
      rcases c with c | c
      · have lt : val (rung a) < 2 ^ K := by
          have e : val (rung a) = rung a := by unfold val; rw [if_pos c]
          rw [e]
          exact Nat.lt_of_lt_of_le c (show 2 ^ 52 ≤ 2 ^ K from Nat.pow_le_pow_right (by omega) (by rw [K_is]; omega))
        rw [Nat.mod_eq_of_lt lt] at g1
        have := val_pos (r := rung a) (by omega)
        omega
      · rcases g2 with g2 | ⟨g2, _⟩ <;> omega
    have e2 : wholeV a = 0 := by unfold wholeV; rw [e1, if_neg Bool.false_ne_true]
    rw [e1, e2]
    clear e1 e2 z h0 h1 c
    generalize sgn a = s at *
    generalize kindN a = k at *
    go_enter Try.func16, Try.ntmps16
    go_wp2_with (go_at_call 14; refine ck.mono ?_; rintro e w' ⟨rfl, hw⟩; rw [hw])
    go_ret2; exact ⟨rfl, rfl⟩
  rw [show kindN a = 2 by unfold kindN; rw [if_neg z, if_neg (by omega), if_pos (by omega)]] at ck
  clear k4
  obtain ⟨E, hE⟩ : ∃ E, rung a / 4503599627370496 = E := ⟨_, rfl⟩
  obtain ⟨f, hf⟩ : ∃ f, rung a % 4503599627370496 = f := ⟨_, rfl⟩
  obtain ⟨M, hM⟩ : ∃ M, 4503599627370496 + f = M := ⟨_, rfl⟩
  have hE1 : 1 ≤ E := by omega
  have hfl : f < 4503599627370496 := by omega
  have hv := val_parts hE hf hE1
  rw [hM] at hv
  have eE : (a : Int) / 4503599627370496 % 2048 = (E : Int) := by unfold rung at hE; omega
  have ef : (a : Int) % 4503599627370496 = (f : Int) := by unfold rung at hf; omega
  have eM : IntKind.u64.wrap ((f : Int) + 4503599627370496) = (M : Int) := by simp only [IntKind.wrap_u64]; omega
  obtain ⟨e, he⟩ : ∃ e : Int, (E : Int) - 1023 = e := ⟨_, rfl⟩
  by_cases c1 : E < 1023
  · have e1 : wholeOk a = false := decide_eq_false (fun g => not_whole (by omega) (by omega) c1 (hv ▸ g.1))
    have e2 : wholeV a = 0 := by unfold wholeV; rw [e1, if_neg Bool.false_ne_true]
    rw [e1, e2]
    have b3 : decide (e < 0) = true := decide_eq_true (by omega)
    clear e1 e2 z h0 h1 c hE hf hM hE1 hfl hv c1
    generalize sgn a = s at *
    go_enter Try.func16, Try.ntmps16
    go_wp2_with (go_at_call 14; refine ck.mono ?_; rintro e w' ⟨rfl, hw⟩; rw [hw])
    go_ret2; exact ⟨rfl, rfl⟩
  have b3 : decide (e < 0) = false := decide_eq_false (by omega)
  by_cases c2 : 1086 < E
  · have e1 : wholeOk a = false := decide_eq_false (by
      rintro ⟨_, g | ⟨g, _⟩⟩ <;> omega)
    have e2 : wholeV a = 0 := by unfold wholeV; rw [e1, if_neg Bool.false_ne_true]
    rw [e1, e2]
    have b2 : decide (63 < e) = true := decide_eq_true (by omega)
    clear e1 e2 z h0 h1 c hE hf hM hE1 hfl hv c1 c2
    generalize sgn a = s at *
    go_enter Try.func16, Try.ntmps16
    go_wp2_with (go_at_call 14; refine ck.mono ?_; rintro e w' ⟨rfl, hw⟩; rw [hw])
    go_ret2; exact ⟨rfl, rfl⟩
  have b2 : decide (63 < e) = false := decide_eq_false (by omega)
  by_cases c3 : E ≤ 1075
  · obtain ⟨d, hd⟩ : ∃ d, E + d = 1075 := ⟨1075 - E, by omega⟩
    have ⟨w1, w2⟩ := whole_low (m := M) hE1 hd
    rw [← hv] at w1 w2
    have b : decide (e ≤ 52) = true := decide_eq_true (by omega)
    have ed : 52 - e = (d : Int) := by omega
    have bd : (d : Int) ≤ 52 := by omega
    have p1 := Nat.two_pow_pos d
    have p2 : 2 ^ d ≤ 2 ^ 52 := Nat.pow_le_pow_right (by omega) (by omega)
    have eP : IntKind.u64.wrap (2 ^ d) = ((2 ^ d : Nat) : Int) := by
      rw [← wrap_nat (n := 2 ^ d) (by omega)]; norm_cast
    have eQ : (M : Int) / 2 ^ d = ((M / 2 ^ d : Nat) : Int) := by norm_cast
    have eR : (M : Int) % ((2 ^ d : Nat) : Int) = ((M % 2 ^ d : Nat) : Int) := by norm_cast
    have hQ : M / 2 ^ d ≤ M := Nat.div_le_self _ _
    have hr : rung a < 4890909195324358656 := by omega
    generalize M / 2 ^ d = Q at *
    generalize M % 2 ^ d = R at *
    generalize 2 ^ d = P at p1 p2 eP eR w1
    have hP : ¬ (P : Int) = 0 := by omega
    by_cases c4 : R = 0
    · have e1 : wholeOk a = true := decide_eq_true ⟨by rw [w1, c4, Nat.zero_mul], Or.inl hr⟩
      have e2 : wholeV a = if sgn a = true then -(Q : Int) else (Q : Int) := by
        unfold wholeV cutI; rw [if_pos e1, w2]
      rw [e1, e2]
      have tR : ((R : Int) != 0) = false := by rw [bne_dec]; exact decide_eq_false (by omega)
      have hq : Q < 9223372036854775808 := by omega
      have tQ := dec_small hq
      have wq := wrap_small hq
      have wn := wrap_small_neg hq
      clear hq
      clear e1 e2 z h0 h1 c hE hf hM hE1 hfl hv c1 c2 c3 hd w1 w2 p1 p2 c4 hQ hr
      cases hs : sgn a
      · rw [hs] at ck
        rw [if_neg Bool.false_ne_true]
        go_enter Try.func16, Try.ntmps16
        go_wp2_with (go_at_call 14; refine ck.mono ?_; rintro e w' ⟨rfl, hw⟩; rw [hw])
        go_ret2; exact ⟨ret_whole wq, rfl⟩
      · rw [hs] at ck
        rw [if_pos rfl]
        go_enter Try.func16, Try.ntmps16
        go_wp2_with (go_at_call 14; refine ck.mono ?_; rintro e w' ⟨rfl, hw⟩; rw [hw])
        go_ret2; exact ⟨ret_whole (by first | exact wn | (rw [wq]; exact wn)), rfl⟩
    · have e1 : wholeOk a = false := decide_eq_false (by
        rintro ⟨g, _⟩
        rw [w1] at g
        have := Nat.two_pow_pos (E - 1)
        exact Nat.mul_ne_zero c4 (by omega) g)
      have e2 : wholeV a = 0 := by unfold wholeV; rw [e1, if_neg Bool.false_ne_true]
      rw [e1, e2]
      have tR : ((R : Int) != 0) = true := by rw [bne_dec]; exact decide_eq_true (by omega)
      clear e1 e2 z h0 h1 c hE hf hM hE1 hfl hv c1 c2 c3 hd w1 w2 p1 p2 c4 hQ hr
      generalize sgn a = s at *
      go_enter Try.func16, Try.ntmps16
      go_wp2_with (go_at_call 14; refine ck.mono ?_; rintro e w' ⟨rfl, hw⟩; rw [hw])
      go_ret2; exact ⟨rfl, rfl⟩
  · obtain ⟨d, hd⟩ : ∃ d, E = 1075 + d := ⟨E - 1075, by omega⟩
    have ⟨w1, w2⟩ := whole_high (m := M) hd
    rw [← hv] at w1 w2
    have b : decide (e ≤ 52) = false := decide_eq_false (by omega)
    have ed : e - 52 = (d : Int) := by omega
    have bd : (d : Int) ≤ 11 := by omega
    have p2 : 2 ^ d ≤ 2 ^ 11 := Nat.pow_le_pow_right (by omega) (by omega)
    have lt : M * 2 ^ d < 18446744073709551616 := by
      have : M * 2 ^ d ≤ M * 2 ^ 11 := Nat.mul_le_mul_left _ p2
      omega
    have eP : IntKind.u64.wrap ((M : Int) * 2 ^ d) = ((M * 2 ^ d : Nat) : Int) := by
      rw [← wrap_nat lt]; norm_cast
    have small : E < 1086 → M * 2 ^ d < 9223372036854775808 := by
      intro h
      have : 2 ^ d ≤ 2 ^ 10 := Nat.pow_le_pow_right (by omega) (by omega)
      have : M * 2 ^ d ≤ M * 2 ^ 10 := Nat.mul_le_mul_left _ this
      omega
    have big : E = 1086 → M * 2 ^ d = M * 2048 := by
      intro h
      rw [show d = 11 by omega]
    generalize M * 2 ^ d = Q at *
    by_cases c4 : E = 1086
    · have hb := big c4
      have tQ : decide ((Q : Int) < 9223372036854775808) = false := decide_eq_false (by omega)
      by_cases c5 : f = 0 ∧ sgn a = true
      · obtain ⟨c5, hs⟩ := c5
        have e1 : wholeOk a = true := decide_eq_true ⟨w1, Or.inr ⟨by omega, hs⟩⟩
        have e2 : wholeV a = -9223372036854775808 := by
          unfold wholeV cutI; rw [if_pos e1, w2, if_pos hs]; omega
        rw [e1, e2]
        have tE : ((Q : Int) == 9223372036854775808) = true := by rw [beq_dec]; exact decide_eq_true (by omega)
        rw [hs] at ck
        clear e1 e2 z h0 h1 c hE hf hM hE1 hfl hv c1 c2 c3 hd w1 w2 p2 c4 hb c5 small big lt
        go_enter Try.func16, Try.ntmps16
        go_wp2_with (go_at_call 14; refine ck.mono ?_; rintro e w' ⟨rfl, hw⟩; rw [hw])
        go_ret2; exact ⟨rfl, rfl⟩
      · have e1 : wholeOk a = false := decide_eq_false (by
          rintro ⟨_, g | ⟨g, s⟩⟩
          · omega
          · exact c5 ⟨by omega, s⟩)
        have e2 : wholeV a = 0 := by unfold wholeV; rw [e1, if_neg Bool.false_ne_true]
        rw [e1, e2]
        by_cases c6 : f = 0
        · have hs : sgn a = false := by
            cases h : sgn a
            · rfl
            · exact absurd ⟨c6, h⟩ c5
          rw [hs] at ck
          have tE : ((Q : Int) == 9223372036854775808) = true := by rw [beq_dec]; exact decide_eq_true (by omega)
          clear e1 e2 z h0 h1 c hE hf hM hE1 hfl hv c1 c2 c3 hd w1 w2 p2 c4 hb c5 small big lt c6
          go_enter Try.func16, Try.ntmps16
          go_wp2_with (go_at_call 14; refine ck.mono ?_; rintro e w' ⟨rfl, hw⟩; rw [hw])
          go_ret2; exact ⟨rfl, rfl⟩
        · have tE : ((Q : Int) == 9223372036854775808) = false := by rw [beq_dec]; exact decide_eq_false (by omega)
          clear e1 e2 z h0 h1 c hE hf hM hE1 hfl hv c1 c2 c3 hd w1 w2 p2 c4 hb c5 small big lt
          generalize sgn a = s at *
          go_enter Try.func16, Try.ntmps16
          go_wp2_with (go_at_call 14; refine ck.mono ?_; rintro e w' ⟨rfl, hw⟩; rw [hw])
          go_ret2; exact ⟨rfl, rfl⟩
    · have sm := small (by omega)
      have e1 : wholeOk a = true := decide_eq_true ⟨w1, Or.inl (by omega)⟩
      have e2 : wholeV a = if sgn a = true then -(Q : Int) else (Q : Int) := by
        unfold wholeV cutI; rw [if_pos e1, w2]
      rw [e1, e2]
      have hq : Q < 9223372036854775808 := by omega
      have tQ := dec_small hq
      have wq := wrap_small hq
      have wn := wrap_small_neg hq
      clear hq
      clear e1 e2 z h0 h1 c hE hf hM hE1 hfl hv c1 c2 c3 hd w1 w2 p2 c4 small big lt sm
      cases hs : sgn a
      · rw [hs] at ck
        rw [if_neg Bool.false_ne_true]
        go_enter Try.func16, Try.ntmps16
        go_wp2_with (go_at_call 14; refine ck.mono ?_; rintro e w' ⟨rfl, hw⟩; rw [hw])
        go_ret2; exact ⟨ret_whole wq, rfl⟩
      · rw [hs] at ck
        rw [if_pos rfl]
        go_enter Try.func16, Try.ntmps16
        go_wp2_with (go_at_call 14; refine ck.mono ?_; rintro e w' ⟨rfl, hw⟩; rw [hw])
        go_ret2; exact ⟨ret_whole (by first | exact wn | (rw [wq]; exact wn)), rfl⟩

end Go.Proofs.Ytagempkaophnaaa
