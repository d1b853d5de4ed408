/- The document's own answers for products, quotients and units. -/
import Derived.Test.YtclfpmmiplandaaRef
import Derived.Test.YtclfpmmiplandaaMore
import Derived.Test.YtclfpmmiplandaaScaleN
namespace Go.Proofs.Ytclfpmmiplandaa
open Go.ChangeShapes Go.WideShapes Go.ChangeAt Go.RowKit

theorem ref_magnitude (n : Int) (w : World) (h0 : -9223372036854775808 ≤ n) (h1 : n ≤ 9223372036854775807) :
    Calls Try.prog 31 #[.int .i64 n] w fun e w' => e = .returned (.int .u64 (n.natAbs : Int)) ∧ w' = w := by
  by_cases h : n < 0
  · go_enter Try.func31, Try.ntmps31
    go_wp2
    go_ret
    exact ⟨ret_int (by omega), rfl⟩
  · go_enter Try.func31, Try.ntmps31
    go_wp2
    go_ret
    exact ⟨ret_int (by omega), rfl⟩

set_option maxRecDepth 100000 in
set_option maxHeartbeats 4000000 in
theorem ref_scale_same (a b : Int) (c x y d e : Nat) (V : Int) (w : World) (ha0 : -9223372036854775808 ≤ a) (ha1 : a ≤ 9223372036854775807) (hb0 : -9223372036854775808 ≤ b) (hb1 : b ≤ 9223372036854775807) (hc0 : 0 < c) (hc1 : c < 9223372036854775808)
    (ea : (a == 0) = false) (eb : (b == 0) = false) (hs : (a < 0 ∧ b < 0) ∨ (0 < a ∧ 0 < b)) (hx : a.natAbs = x) (hy : b.natAbs = y)
    (hde : d = x / c ∧ e = x % c) (HV : Hid (V = cnt ((x * y / c : Nat) : Int))) :
    Calls Try.prog 21 #[.int .i64 a, .int .i64 b, .int .i64 c] w fun e w' => e = .returned (.int .i64 V) ∧ w' = w := by
  have m1 := fun w => ref_magnitude a w ha0 ha1
  have m2 := fun w => ref_magnitude b w hb0 hb1
  rw [hx] at m1
  rw [hy] at m2
  have hd1 : d ≤ x := by rw [hde.1]; exact Nat.div_le_self _ _
  have he1 : e < c := by rw [hde.2]; exact Nat.mod_lt _ hc0
  have S0 := scl_start x y c 64 hc0 (by omega)
  have eD : IntKind.u64.wrap ((x : Int) / (c : Int)) = (d : Int) := by rw [hde.1]; exact quot_word x c (by omega)
  have eE : (x : Int) % (c : Int) = (e : Int) := by rw [hde.2]; exact (Int.natCast_emod x c).symm
  have c1 : (1 : Int) ≤ (c : Int) := by omega
  have hx1 : x ≤ 9223372036854775808 := by omega
  have hy1 : y ≤ 9223372036854775808 := by omega
  rcases hs with ⟨g1, g2⟩ | ⟨g1, g2⟩
  all_goals
    go_enter Try.func21, Try.ntmps21
    go_wp2_with (first
      | (go_at_call 31; ((with_reducible refine (m1 _).mono ?_); rintro e w' ⟨rfl, hw⟩; rw [hw]))
      | (go_at_call 31; ((with_reducible refine (m2 _).mono ?_); rintro e w' ⟨rfl, hw⟩; rw [hw])))
    go_loop [10, 11, 12] (fun q r i => ∃ k Q R : Nat, i = .int .i64 ((k : Int) - 1) ∧ q = .int .u64 (Q : Int) ∧ r = .int .u64 (R : Int) ∧ k ≤ 64 ∧ Q ≤ 4611686018427387904 ∧ Scl x y c k Q R) (fun _ _ i => (intOf i + 1).toNat)
    case atStart => exact ⟨64, 0, 0, rfl, rfl, rfl, by omega, by omega, S0⟩
    case round =>
      obtain ⟨k, Q, R, rfl, rfl, rfl, hk64, hQ, I⟩ := hrel
      have hroom := I.room
      have z1 : (R : Int) ≤ 9223372036854775807 := by omega
      have z2 : (Q : Int) ≤ 4611686018427387904 := by omega
      have z3 : (c : Int) ≤ 9223372036854775807 := by omega
      have z4 : (R : Int) ≤ (c : Int) := by omega
      have z5 : (d : Int) ≤ 9223372036854775808 := by omega
      have z6 : (e : Int) ≤ (c : Int) := by omega
      by_cases hk : k = 0
      · subst hk
        have H := Lib.hid (scl_end I hc0)
        clear I hQ hroom
        go_wp2_with fail
        go_ret
        refine ⟨ret_int ?_, rfl⟩
        have e1 := H.out
        have e2 := HV.out
        rw [e2, ← e1, cnt_in (by omega) (by omega)]
      · obtain ⟨j, rfl⟩ : ∃ j, k = j + 1 := ⟨k - 1, by omega⟩
        have ej : ((j + 1 : Nat) : Int) - 1 = (j : Int) := by omega
        have hj : (j : Int) ≤ 63 := by omega
        simp only [ej]
        clear ej hk hk64
        obtain ⟨Y, hY⟩ : ∃ Y, Y = y / 2 ^ j := ⟨_, rfl⟩
        have eY : (y : Int) / 2 ^ j = (Y : Int) := by rw [hY, Int.natCast_ediv, Int.natCast_pow]; rfl
        by_cases hd : c ≤ 2 * R
        · obtain ⟨Q1, hQ1⟩ : ∃ Q1, Q1 = 2 * Q + 1 := ⟨_, rfl⟩
          obtain ⟨R1, hR1⟩ : ∃ R1, R1 = R - (c - R) := ⟨_, rfl⟩
          have I1 := half_up I hd
          rw [← hQ1, ← hR1] at I1
          have t1 : decide ((c : Int) - (R : Int) ≤ (R : Int)) = true := by simp only [decide_eq_true_eq]; omega
          have q1 : 2 * (Q : Int) + 1 = (Q1 : Int) := by omega
          have r1 : (R : Int) - ((c : Int) - (R : Int)) = (R1 : Int) := by omega
          have hroom1 := I1.room
          have z7 : (R1 : Int) ≤ (c : Int) := by omega
          by_cases hm : 4611686018427387904 < Q1
          · have H := Lib.hid (half_over I1 hc0 hm)
            have f2 : (4611686018427387905 : Int) ≤ (Q1 : Int) := by omega
            clear hY I I1 hroom hroom1 hd hm hQ hQ1 hR1
            go_wp2_with fail
            go_ret
            exact ⟨ret_int (by have e1 := H.out; have e2 := HV.out; rw [e2, cnt_hi (by omega)]), rfl⟩
          · have f2 : (Q1 : Int) ≤ 4611686018427387904 := by omega
            by_cases hb : y / 2 ^ j % 2 = 1
            · have eB : ((Y : Int) % 2 == 1) = true := by simp only [beq_iff_eq]; omega
              obtain ⟨hd2, he2⟩ := hde
              by_cases ho : c - e ≤ R1
              · have I2 := odd_up I1 hb hc0 (by rw [← he2]; exact ho)
                rw [← hd2, ← he2] at I2
                obtain ⟨Q2, hQ2⟩ : ∃ Q2, Q2 = Q1 + d + 1 := ⟨_, rfl⟩
                obtain ⟨R2, hR2⟩ : ∃ R2, R2 = R1 - (c - e) := ⟨_, rfl⟩
                have q2 : (Q1 : Int) + (d : Int) + 1 = (Q2 : Int) := by omega
                have r2 : (R1 : Int) - ((c : Int) - (e : Int)) = (R2 : Int) := by omega
                have t2 : decide ((c : Int) - (e : Int) ≤ (R1 : Int)) = true := by simp only [decide_eq_true_eq]; omega
                rw [← hQ2, ← hR2] at I2
                have hroom2 := I2.room
                by_cases hm2 : 4611686018427387904 < Q2
                · have H := Lib.hid (scl_over I2 hc0 hm2)
                  have f4 : (4611686018427387905 : Int) ≤ (Q2 : Int) := by omega
                  clear hY I I1 I2 hroom hroom1 hroom2 hd hm hm2 hb ho hQ hQ1 hR1 hQ2 hR2 hd2 he2
                  go_wp2_with fail
                  go_ret
                  exact ⟨ret_int (by have e1 := H.out; have e2 := HV.out; rw [e2, cnt_hi (by omega)]), rfl⟩
                · have f4 : (Q2 : Int) ≤ 4611686018427387904 := by omega
                  have H := Lib.hid I2
                  have HM := Lib.hid hm2
                  clear hY I I1 I2 hroom hroom1 hroom2 hd hm hm2 hb ho hQ hQ1 hR1 hQ2 hR2 hd2 he2
                  go_wp2_with fail
                  go_round
                  case rel => exact ⟨j, _, _, rfl, rfl, rfl, by omega, by have := HM.out; omega, H.out⟩
                  case measure => simp [intOf] <;> omega
              · have I2 := odd_down I1 hb hc0 (by rw [← he2]; omega)
                rw [← hd2, ← he2] at I2
                obtain ⟨Q2, hQ2⟩ : ∃ Q2, Q2 = Q1 + d := ⟨_, rfl⟩
                obtain ⟨R2, hR2⟩ : ∃ R2, R2 = R1 + e := ⟨_, rfl⟩
                have q2 : (Q1 : Int) + (d : Int) = (Q2 : Int) := by omega
                have r2 : (R1 : Int) + (e : Int) = (R2 : Int) := by omega
                have t2 : decide ((c : Int) - (e : Int) ≤ (R1 : Int)) = false := by simp only [decide_eq_false_iff_not]; omega
                rw [← hQ2, ← hR2] at I2
                have hroom2 := I2.room
                by_cases hm2 : 4611686018427387904 < Q2
                · have H := Lib.hid (scl_over I2 hc0 hm2)
                  have f4 : (4611686018427387905 : Int) ≤ (Q2 : Int) := by omega
                  clear hY I I1 I2 hroom hroom1 hroom2 hd hm hm2 hb ho hQ hQ1 hR1 hQ2 hR2 hd2 he2
                  go_wp2_with fail
                  go_ret
                  exact ⟨ret_int (by have e1 := H.out; have e2 := HV.out; rw [e2, cnt_hi (by omega)]), rfl⟩
                · have f4 : (Q2 : Int) ≤ 4611686018427387904 := by omega
                  have H := Lib.hid I2
                  have HM := Lib.hid hm2
                  clear hY I I1 I2 hroom hroom1 hroom2 hd hm hm2 hb ho hQ hQ1 hR1 hQ2 hR2 hd2 he2
                  go_wp2_with fail
                  go_round
                  case rel => exact ⟨j, _, _, rfl, rfl, rfl, by omega, by have := HM.out; omega, H.out⟩
                  case measure => simp [intOf] <;> omega
            · have I2 := half_even I1 (by omega)
              have eB : ((Y : Int) % 2 == 1) = false := by simp only [beq_eq_false_iff_ne, ne_eq]; omega
              have H := Lib.hid I2
              have HM := Lib.hid hm
              clear hY I I1 I2 hroom hroom1 hd hm hb hQ hQ1 hR1
              go_wp2_with fail
              go_round
              case rel => exact ⟨j, _, _, rfl, rfl, rfl, by omega, by have := HM.out; omega, H.out⟩
              case measure => simp [intOf] <;> omega
        · obtain ⟨Q1, hQ1⟩ : ∃ Q1, Q1 = 2 * Q := ⟨_, rfl⟩
          obtain ⟨R1, hR1⟩ : ∃ R1, R1 = 2 * R := ⟨_, rfl⟩
          have I1 := half_down I (by omega)
          rw [← hQ1, ← hR1] at I1
          have t1 : decide ((c : Int) - (R : Int) ≤ (R : Int)) = false := by simp only [decide_eq_false_iff_not]; omega
          have q1 : 2 * (Q : Int) = (Q1 : Int) := by omega
          have r1 : 2 * (R : Int) = (R1 : Int) := by omega
          have hroom1 := I1.room
          have z7 : (R1 : Int) ≤ (c : Int) := by omega
          by_cases hm : 4611686018427387904 < Q1
          · have H := Lib.hid (half_over I1 hc0 hm)
            have f2 : (4611686018427387905 : Int) ≤ (Q1 : Int) := by omega
            clear hY I I1 hroom hroom1 hd hm hQ hQ1 hR1
            go_wp2_with fail
            go_ret
            exact ⟨ret_int (by have e1 := H.out; have e2 := HV.out; rw [e2, cnt_hi (by omega)]), rfl⟩
          · have f2 : (Q1 : Int) ≤ 4611686018427387904 := by omega
            by_cases hb : y / 2 ^ j % 2 = 1
            · have eB : ((Y : Int) % 2 == 1) = true := by simp only [beq_iff_eq]; omega
              obtain ⟨hd2, he2⟩ := hde
              by_cases ho : c - e ≤ R1
              · have I2 := odd_up I1 hb hc0 (by rw [← he2]; exact ho)
                rw [← hd2, ← he2] at I2
                obtain ⟨Q2, hQ2⟩ : ∃ Q2, Q2 = Q1 + d + 1 := ⟨_, rfl⟩
                obtain ⟨R2, hR2⟩ : ∃ R2, R2 = R1 - (c - e) := ⟨_, rfl⟩
                have q2 : (Q1 : Int) + (d : Int) + 1 = (Q2 : Int) := by omega
                have r2 : (R1 : Int) - ((c : Int) - (e : Int)) = (R2 : Int) := by omega
                have t2 : decide ((c : Int) - (e : Int) ≤ (R1 : Int)) = true := by simp only [decide_eq_true_eq]; omega
                rw [← hQ2, ← hR2] at I2
                have hroom2 := I2.room
                by_cases hm2 : 4611686018427387904 < Q2
                · have H := Lib.hid (scl_over I2 hc0 hm2)
                  have f4 : (4611686018427387905 : Int) ≤ (Q2 : Int) := by omega
                  clear hY I I1 I2 hroom hroom1 hroom2 hd hm hm2 hb ho hQ hQ1 hR1 hQ2 hR2 hd2 he2
                  go_wp2_with fail
                  go_ret
                  exact ⟨ret_int (by have e1 := H.out; have e2 := HV.out; rw [e2, cnt_hi (by omega)]), rfl⟩
                · have f4 : (Q2 : Int) ≤ 4611686018427387904 := by omega
                  have H := Lib.hid I2
                  have HM := Lib.hid hm2
                  clear hY I I1 I2 hroom hroom1 hroom2 hd hm hm2 hb ho hQ hQ1 hR1 hQ2 hR2 hd2 he2
                  go_wp2_with fail
                  go_round
                  case rel => exact ⟨j, _, _, rfl, rfl, rfl, by omega, by have := HM.out; omega, H.out⟩
                  case measure => simp [intOf] <;> omega
              · have I2 := odd_down I1 hb hc0 (by rw [← he2]; omega)
                rw [← hd2, ← he2] at I2
                obtain ⟨Q2, hQ2⟩ : ∃ Q2, Q2 = Q1 + d := ⟨_, rfl⟩
                obtain ⟨R2, hR2⟩ : ∃ R2, R2 = R1 + e := ⟨_, rfl⟩
                have q2 : (Q1 : Int) + (d : Int) = (Q2 : Int) := by omega
                have r2 : (R1 : Int) + (e : Int) = (R2 : Int) := by omega
                have t2 : decide ((c : Int) - (e : Int) ≤ (R1 : Int)) = false := by simp only [decide_eq_false_iff_not]; omega
                rw [← hQ2, ← hR2] at I2
                have hroom2 := I2.room
                by_cases hm2 : 4611686018427387904 < Q2
                · have H := Lib.hid (scl_over I2 hc0 hm2)
                  have f4 : (4611686018427387905 : Int) ≤ (Q2 : Int) := by omega
                  clear hY I I1 I2 hroom hroom1 hroom2 hd hm hm2 hb ho hQ hQ1 hR1 hQ2 hR2 hd2 he2
                  go_wp2_with fail
                  go_ret
                  exact ⟨ret_int (by have e1 := H.out; have e2 := HV.out; rw [e2, cnt_hi (by omega)]), rfl⟩
                · have f4 : (Q2 : Int) ≤ 4611686018427387904 := by omega
                  have H := Lib.hid I2
                  have HM := Lib.hid hm2
                  clear hY I I1 I2 hroom hroom1 hroom2 hd hm hm2 hb ho hQ hQ1 hR1 hQ2 hR2 hd2 he2
                  go_wp2_with fail
                  go_round
                  case rel => exact ⟨j, _, _, rfl, rfl, rfl, by omega, by have := HM.out; omega, H.out⟩
                  case measure => simp [intOf] <;> omega
            · have I2 := half_even I1 (by omega)
              have eB : ((Y : Int) % 2 == 1) = false := by simp only [beq_eq_false_iff_ne, ne_eq]; omega
              have H := Lib.hid I2
              have HM := Lib.hid hm
              clear hY I I1 I2 hroom hroom1 hd hm hb hQ hQ1 hR1
              go_wp2_with fail
              go_round
              case rel => exact ⟨j, _, _, rfl, rfl, rfl, by omega, by have := HM.out; omega, H.out⟩
              case measure => simp [intOf] <;> omega
end Go.Proofs.Ytclfpmmiplandaa
