/- The contract of Div64 at a high word above 0. -/
import Derived.Test.YtclfpmmiplandaaMid
import Derived.Test.YtclfpmmiplandaaLen
import Derived.Test.YtclfpmmiplandaaKnuth
import Derived.Lib.ItoaNum
import Derived.Deep.DeepCutAuto
import Derived.Deep.CutBlock
namespace Go.Proofs.Ytclfpmmiplandaa
open Go.ChangeShapes Go.WideShapes Go.ChangeAt Go.RowKit

theorem norm_of (y : Nat) (h1 : 1 ≤ y) (h2 : y < 18446744073709551616) : ∃ s : Nat, s ≤ 63 ∧ Lib.bitLen y + s = 64 ∧ 9223372036854775808 ≤ y * 2 ^ s ∧ y * 2 ^ s < 18446744073709551616 := by
  obtain ⟨a, b, c⟩ := Lib.bitLenAux_bounds 64 y (by omega) (by omega)
  have hl := Lib.bitLen_le y 64 (by omega) (by omega)
  have e : Lib.bitLenAux 64 y = Lib.bitLen y := rfl
  rw [e] at a b c
  generalize Lib.bitLen y = k at *
  refine ⟨64 - k, by omega, by omega, ?_, ?_⟩
  · have h : 2 ^ (k - 1) * 2 ^ (64 - k) ≤ y * 2 ^ (64 - k) := Nat.mul_le_mul_right _ b
    rw [← Nat.pow_add, show k - 1 + (64 - k) = 63 by omega] at h
    omega
  · have h : y * 2 ^ (64 - k) < 2 ^ k * 2 ^ (64 - k) := Nat.mul_lt_mul_of_pos_right c (Nat.two_pow_pos _)
    rw [← Nat.pow_add, show k + (64 - k) = 64 by omega] at h
    omega

theorem or_words (hi lo s : Nat) (hs : s ≤ 63) (hh : hi * 2 ^ s < 18446744073709551616) (hl : lo < 18446744073709551616) :
    lo / 2 ^ (64 - s) < 2 ^ s ∧ bits .or .u64 (IntKind.u64.wrap ((hi : Int) * 2 ^ s)) ((lo : Int) / 2 ^ (64 - s)) = ((hi * 2 ^ s + lo / 2 ^ (64 - s) : Nat) : Int) := by
  have e64 : 2 ^ (64 - s) * 2 ^ s = 18446744073709551616 := by rw [← Nat.pow_add, show 64 - s + s = 64 by omega]
  have hb : lo / 2 ^ (64 - s) < 2 ^ s := by
    apply Nat.div_lt_of_lt_mul
    rw [e64]; exact hl
  have hw : IntKind.u64.wrap ((hi : Int) * 2 ^ s) = ((hi * 2 ^ s : Nat) : Int) := by
    rw [← wrap_fits (hi * 2 ^ s) hh, Int.natCast_mul, Int.natCast_pow]; rfl
  have hd : (lo : Int) / 2 ^ (64 - s) = ((lo / 2 ^ (64 - s) : Nat) : Int) := by
    rw [Int.natCast_ediv, Int.natCast_pow]; rfl
  have hl2 : lo / 2 ^ (64 - s) < 18446744073709551616 := Nat.lt_of_le_of_lt (Nat.div_le_self _ _) hl
  refine ⟨hb, ?_⟩
  rw [hw, hd]
  have h := bits_or_u64_nat (hi * 2 ^ s) (lo / 2 ^ (64 - s)) hh hl2
  rw [h, Nat.mul_comm hi, Nat.two_pow_add_eq_or_of_lt hb]

theorem digit_next {u d h l q r Q : Nat} (hh : 0 < h) (hl : l < 4294967296) (hd : d < 4294967296) (hU : Hid (u < h * 4294967296 + l)) (hQ : Hid ((u * 4294967296 + d) / (h * 4294967296 + l) = Q))
    (D : Digit 4294967296 u d h l q r) (hc : 4294967296 ≤ q ∨ r * 4294967296 + d < q * l) :
    1 ≤ q ∧ (4294967296 ≤ r + h → q - 1 = Q) ∧ (r + h < 4294967296 → Digit 4294967296 u d h l (q - 1) (r + h)) := by
  obtain ⟨a, b, c⟩ := digit_step 4294967296 u d h l q r hU.out hd D hc
  refine ⟨a, fun g => ?_, fun g => ⟨b, g, c⟩⟩
  rw [← hQ.out]
  exact (digit_break 4294967296 u d h l (q - 1) (r + h) (by omega) hU.out hh hl c b g).symm

theorem digit_end {u d h l q r Q : Nat} (hh : 0 < h) (hQ : Hid ((u * 4294967296 + d) / (h * 4294967296 + l) = Q))
    (D : Digit 4294967296 u d h l q r) (hc : q * l ≤ r * 4294967296 + d) : q = Q := by
  rw [← hQ.out]
  exact (digit_done 4294967296 u d h l q r (by omega) hh D.above D.sum hc).symm

theorem digit_le {K u d h l q r : Nat} (hh : 0 < h) (D : Digit K u d h l q r) : q ≤ u := by
  have h1 := D.sum
  have h2 : q ≤ q * h := Nat.le_mul_of_pos_right q hh
  omega

theorem ret_u64 {a b : Int} (h : a = b) : Value.int .u64 a = .int .u64 b := by rw [h]

set_option maxRecDepth 100000 in
set_option maxHeartbeats 2000000 in
set_option linter.unusedVariables false in
theorem div64_walk (hi lo y s v h l u t d1 d0 q1 r1 Q1 u2 q0 r0 Q0 m0 m1 : Nat) (hl : lo < 18446744073709551616) (hy : y < 18446744073709551616) (h0 : 1 ≤ hi) (h1 : hi < y) (s63 : s ≤ 63)
    (hlz : ∀ w, Calls Try.prog 35 #[.int .u64 y] w fun e w' => e = .returned (.int .i64 (s : Int)) ∧ w' = w)
    (eV : IntKind.u64.wrap ((y : Int) * 2 ^ s) = (v : Int)) (eH : (v : Int) / 4294967296 = (h : Int)) (eL : bits .and .u64 (v : Int) 4294967295 = (l : Int))
    (eU : bits .or .u64 (IntKind.u64.wrap ((hi : Int) * 2 ^ s)) ((lo : Int) / 2 ^ (64 - s)) = (u : Int)) (eT : IntKind.u64.wrap ((lo : Int) * 2 ^ s) = (t : Int))
    (eD1 : (t : Int) / 4294967296 = (d1 : Int)) (eD0 : bits .and .u64 (t : Int) 4294967295 = (d0 : Int))
    (bh0 : 2147483648 ≤ h) (bh1 : h < 4294967296) (bl : l < 4294967296) (bd1 : d1 < 4294967296) (bd0 : d0 < 4294967296) (bu1 : u < 18446744073709551616) (bu2 : u2 < 18446744073709551616)
    (eQ1 : IntKind.u64.wrap ((u : Int) / (h : Int)) = (q1 : Int)) (eR1 : IntKind.u64.wrap ((u : Int) - IntKind.u64.wrap ((q1 : Int) * (h : Int))) = (r1 : Int))
    (D1 : Digit 4294967296 u d1 h l q1 r1) (hU : Hid (u < h * 4294967296 + l)) (hQ1 : Hid ((u * 4294967296 + d1) / (h * 4294967296 + l) = Q1))
    (eU2 : IntKind.u64.wrap (IntKind.u64.wrap (IntKind.u64.wrap ((u : Int) * 4294967296) + (d1 : Int)) - IntKind.u64.wrap ((Q1 : Int) * (v : Int))) = (u2 : Int))
    (eQ0 : IntKind.u64.wrap ((u2 : Int) / (h : Int)) = (q0 : Int)) (eR0 : IntKind.u64.wrap ((u2 : Int) - IntKind.u64.wrap ((q0 : Int) * (h : Int))) = (r0 : Int))
    (D0 : Digit 4294967296 u2 d0 h l q0 r0) (hU2 : Hid (u2 < h * 4294967296 + l)) (hQ0 : Hid ((u2 * 4294967296 + d0) / (h * 4294967296 + l) = Q0))
    (eM0 : IntKind.u64.wrap (IntKind.u64.wrap ((Q1 : Int) * 4294967296) + (Q0 : Int)) = (m0 : Int))
    (eM1 : IntKind.u64.wrap (IntKind.u64.wrap (IntKind.u64.wrap ((u2 : Int) * 4294967296) + (d0 : Int)) - IntKind.u64.wrap ((Q0 : Int) * (v : Int))) / 2 ^ s = (m1 : Int))
    (w : World) :
    Calls Try.prog 34 #[.int .u64 hi, .int .u64 lo, .int .u64 y] w fun e w' => e = .returned (.tuple #[.int .u64 (m0 : Int), .int .u64 (m1 : Int)]) ∧ w' = w := by
  go_enter Try.func34, Try.ntmps34
  go_upto_block 0 with (go_at_call 35; refine (hlz _).mono ?_; rintro e w' ⟨rfl, hw⟩; rw [hw])
  go_cut [15, 16] (fun a _ wx => a = .int .u64 (Q1 : Int) ∧ wx = w)
  case first =>
    clear eQ1 eR1 eV eH eL eU eT eD1 eD0 eU2 eQ0 eR0 eM0 eM1 hl hy h0 h1
    go_wp2_with fail
    go_loop [15, 16] (fun a b => ∃ q r : Nat, a = .int .u64 (q : Int) ∧ b = .int .u64 (r : Int) ∧ Digit 4294967296 u d1 h l q r) (fun _ b => 4294967296 - (intOf b).toNat)
    case atStart => exact ⟨q1, r1, rfl, rfl, D1⟩
    case round =>
      obtain ⟨q, r, rfl, rfl, D⟩ := hrel
      have hr := D.room
      have hq0 := digit_le (by omega) D
      have a2 : (q : Int) ≤ 18446744073709551615 := by omega
      have a3 : (r : Int) ≤ 4294967295 := by omega
      have a4 : (h : Int) ≤ 4294967295 := by omega
      have a5 : (d1 : Int) ≤ 4294967295 := by omega
      by_cases hq : 4294967296 ≤ q
      · obtain ⟨n1, n2, n3⟩ := digit_next (by omega) bl bd1 hU hQ1 D (Or.inl hq)
        have c1 : (1 : Int) ≤ (q : Int) := by omega
        have c2 : (4294967296 : Int) ≤ (q : Int) := by omega
        by_cases hb : 4294967296 ≤ r + h
        · have H := Lib.hid (n2 hb)
          have c3 : (4294967296 : Int) ≤ (r : Int) + (h : Int) := by omega
          clear hq hb hq0 hr bl bd1 bd0 bh0 bh1 bu1 bu2 D1 D0 n1 n2 n3 D
          go_wp2_with fail
          go_meet
          exact ⟨ret_u64 (by have := H.out; omega), rfl⟩
        · have H := Lib.hid (n3 (by omega))
          have c3 : decide ((4294967296 : Int) ≤ (r : Int) + (h : Int)) = false := by simp; omega
          have c4 : (1 : Int) ≤ (h : Int) := by omega
          clear hq hb hq0 hr bl bd1 bd0 bh0 bh1 bu1 bu2 D1 D0 n1 n2 n3 D
          go_wp2_with fail
          go_round
          case rel => exact ⟨q - 1, r + h, ret_u64 (by omega), ret_u64 (by omega), H.out⟩
          case measure => simp [intOf]; omega
      · have hm : q * l < 18446744073709551616 := by
          have := Lib.half_mul_le (a := q) (b := l) (by omega) (by omega)
          omega
        have eM : IntKind.u64.wrap ((q : Int) * (l : Int)) = ((q * l : Nat) : Int) := by rw [← Int.natCast_mul]; exact wrap_fits (q * l) hm
        have c2 : decide ((4294967296 : Int) ≤ (q : Int)) = false := by simp; omega
        by_cases hc : r * 4294967296 + d1 < q * l
        · obtain ⟨n1, n2, n3⟩ := digit_next (by omega) bl bd1 hU hQ1 D (Or.inr hc)
          have c1 : (1 : Int) ≤ (q : Int) := by omega
          have c5 : decide ((4294967296 : Int) * (r : Int) + (d1 : Int) < ((q * l : Nat) : Int)) = true := by simp only [decide_eq_true_eq]; omega
          generalize q * l = m at eM c5
          by_cases hb : 4294967296 ≤ r + h
          · have H := Lib.hid (n2 hb)
            have c3 : (4294967296 : Int) ≤ (r : Int) + (h : Int) := by omega
            clear hq hb hq0 hr bl bd1 bd0 bh0 bh1 bu1 bu2 D1 D0 n1 n2 n3 D hm hc
            go_wp2_with fail
            go_meet
            exact ⟨ret_u64 (by have := H.out; omega), rfl⟩
          · have H := Lib.hid (n3 (by omega))
            have c3 : decide ((4294967296 : Int) ≤ (r : Int) + (h : Int)) = false := by simp; omega
            have c4 : (1 : Int) ≤ (h : Int) := by omega
            clear hq hb hq0 hr bl bd1 bd0 bh0 bh1 bu1 bu2 D1 D0 n1 n2 n3 D hm hc
            go_wp2_with fail
            go_round
            case rel => exact ⟨q - 1, r + h, ret_u64 (by omega), ret_u64 (by omega), H.out⟩
            case measure => simp [intOf]; omega
        · have H := Lib.hid (digit_end (by omega) hQ1 D (by omega))
          have c5 : decide ((4294967296 : Int) * (r : Int) + (d1 : Int) < ((q * l : Nat) : Int)) = false := by simp only [decide_eq_false_iff_not]; omega
          generalize q * l = m at eM c5
          clear hq hq0 hr bl bd1 bd0 bh0 bh1 bu1 bu2 D1 D0 D hm hc
          go_wp2_with fail
          go_meet
          exact ⟨ret_u64 (by have := H.out; omega), rfl⟩
  case rest =>
    obtain ⟨rfl, rfl⟩ := hcut
    go_upto_block 2 with fail
    go_cut [16, 18] (fun _ a wx => a = .int .u64 (Q0 : Int) ∧ wx = wc)
    case first =>
      clear eQ1 eR1 eV eH eL eU eT eD1 eD0 eU2 eQ0 eR0 eM0 eM1 hl hy h0 h1
      go_wp2_with fail
      go_loop [16, 18] (fun a b => ∃ q r : Nat, b = .int .u64 (q : Int) ∧ a = .int .u64 (r : Int) ∧ Digit 4294967296 u2 d0 h l q r) (fun b _ => 4294967296 - (intOf b).toNat)
      case atStart => exact ⟨q0, r0, rfl, rfl, D0⟩
      case round =>
        obtain ⟨q, r, rfl, rfl, D⟩ := hrel
        have hr := D.room
        have hq0 := digit_le (by omega) D
        have a2 : (q : Int) ≤ 18446744073709551615 := by omega
        have a3 : (r : Int) ≤ 4294967295 := by omega
        have a4 : (h : Int) ≤ 4294967295 := by omega
        have a5 : (d0 : Int) ≤ 4294967295 := by omega
        by_cases hq : 4294967296 ≤ q
        · obtain ⟨n1, n2, n3⟩ := digit_next (by omega) bl bd0 hU2 hQ0 D (Or.inl hq)
          have c1 : (1 : Int) ≤ (q : Int) := by omega
          have c2 : (4294967296 : Int) ≤ (q : Int) := by omega
          by_cases hb : 4294967296 ≤ r + h
          · have H := Lib.hid (n2 hb)
            have c3 : (4294967296 : Int) ≤ (r : Int) + (h : Int) := by omega
            clear hq hb hq0 hr bl bd1 bd0 bh0 bh1 bu1 bu2 D1 D0 n1 n2 n3 D
            go_wp2_with fail
            go_meet
            exact ⟨ret_u64 (by have := H.out; omega), rfl⟩
          · have H := Lib.hid (n3 (by omega))
            have c3 : decide ((4294967296 : Int) ≤ (r : Int) + (h : Int)) = false := by simp; omega
            have c4 : (1 : Int) ≤ (h : Int) := by omega
            clear hq hb hq0 hr bl bd1 bd0 bh0 bh1 bu1 bu2 D1 D0 n1 n2 n3 D
            go_wp2_with fail
            go_round
            case rel => exact ⟨q - 1, r + h, ret_u64 (by omega), ret_u64 (by omega), H.out⟩
            case measure => simp [intOf]; omega
        · have hm : q * l < 18446744073709551616 := by
            have := Lib.half_mul_le (a := q) (b := l) (by omega) (by omega)
            omega
          have eM : IntKind.u64.wrap ((q : Int) * (l : Int)) = ((q * l : Nat) : Int) := by rw [← Int.natCast_mul]; exact wrap_fits (q * l) hm
          have c2 : decide ((4294967296 : Int) ≤ (q : Int)) = false := by simp; omega
          by_cases hc : r * 4294967296 + d0 < q * l
          · obtain ⟨n1, n2, n3⟩ := digit_next (by omega) bl bd0 hU2 hQ0 D (Or.inr hc)
            have c1 : (1 : Int) ≤ (q : Int) := by omega
            have c5 : decide ((4294967296 : Int) * (r : Int) + (d0 : Int) < ((q * l : Nat) : Int)) = true := by simp only [decide_eq_true_eq]; omega
            generalize q * l = m at eM c5
            by_cases hb : 4294967296 ≤ r + h
            · have H := Lib.hid (n2 hb)
              have c3 : (4294967296 : Int) ≤ (r : Int) + (h : Int) := by omega
              clear hq hb hq0 hr bl bd1 bd0 bh0 bh1 bu1 bu2 D1 D0 n1 n2 n3 D hm hc
              go_wp2_with fail
              go_meet
              exact ⟨ret_u64 (by have := H.out; omega), rfl⟩
            · have H := Lib.hid (n3 (by omega))
              have c3 : decide ((4294967296 : Int) ≤ (r : Int) + (h : Int)) = false := by simp; omega
              have c4 : (1 : Int) ≤ (h : Int) := by omega
              clear hq hb hq0 hr bl bd1 bd0 bh0 bh1 bu1 bu2 D1 D0 n1 n2 n3 D hm hc
              go_wp2_with fail
              go_round
              case rel => exact ⟨q - 1, r + h, ret_u64 (by omega), ret_u64 (by omega), H.out⟩
              case measure => simp [intOf]; omega
          · have H := Lib.hid (digit_end (by omega) hQ0 D (by omega))
            have c5 : decide ((4294967296 : Int) * (r : Int) + (d0 : Int) < ((q * l : Nat) : Int)) = false := by simp only [decide_eq_false_iff_not]; omega
            generalize q * l = m at eM c5
            clear hq hq0 hr bl bd1 bd0 bh0 bh1 bu1 bu2 D1 D0 D hm hc
            go_wp2_with fail
            go_meet
            exact ⟨ret_u64 (by have := H.out; omega), rfl⟩
    case rest =>
      obtain ⟨rfl, rfl⟩ := hcut
      go_wp2_with fail
      go_ret2
      exact ⟨ret_two rfl rfl, rfl⟩

theorem rest_wrap (u d q v r : Nat) (h : u * 4294967296 + d = q * v + r) (hr : r < 18446744073709551616) : IntKind.u64.wrap (IntKind.u64.wrap (IntKind.u64.wrap ((u : Int) * 4294967296) + (d : Int)) - IntKind.u64.wrap ((q : Int) * (v : Int))) = (r : Int) := by
  rw [← Int.natCast_mul q v]
  generalize q * v = z at *
  simp only [IntKind.wrap_u64]; omega

theorem quot_word (u h : Nat) (hu : u < 18446744073709551616) : IntKind.u64.wrap ((u : Int) / (h : Int)) = ((u / h : Nat) : Int) := by
  rw [← Int.natCast_ediv]; exact wrap_fits _ (Nat.lt_of_le_of_lt (Nat.div_le_self _ _) hu)

theorem rest_word (u h : Nat) (hu : u < 18446744073709551616) : IntKind.u64.wrap ((u : Int) - IntKind.u64.wrap (((u / h : Nat) : Int) * (h : Int))) = ((u % h : Nat) : Int) := by
  have e := Nat.div_add_mod u h
  rw [Nat.mul_comm] at e
  rw [← Int.natCast_mul]
  generalize u / h * h = z at *
  generalize u % h = r at *
  simp only [IntKind.wrap_u64]; omega

set_option maxRecDepth 10000 in
theorem div64_high (hi lo y : Nat) (hl : lo < 18446744073709551616) (hy : y < 18446744073709551616) (h0 : 1 ≤ hi) (h1 : hi < y) (w : World) :
    Calls Try.prog 34 #[.int .u64 hi, .int .u64 lo, .int .u64 y] w fun e w' => e = .returned (.tuple #[.int .u64 (((hi * 18446744073709551616 + lo) / y : Nat) : Int), .int .u64 (((hi * 18446744073709551616 + lo) % y : Nat) : Int)]) ∧ w' = w := by
  obtain ⟨s, s63, sl, n0, n1⟩ := norm_of y (by omega) hy
  have hlz := fun w => lz64_any (y : Int) w (by omega) (by omega)
  rw [Int.toNat_natCast, show (64 - (Lib.bitLen y : Int)) = (s : Int) by omega] at hlz
  have hp : 0 < 2 ^ s := Nat.two_pow_pos s
  have hhi : hi * 2 ^ s < 18446744073709551616 := Nat.lt_of_le_of_lt (Nat.mul_le_mul_right _ (by omega : hi ≤ y)) n1
  obtain ⟨ob, oe⟩ := or_words hi lo s s63 hhi hl
  have e64 : 2 ^ (64 - s) * 2 ^ s = 18446744073709551616 := by rw [← Nat.pow_add, show 64 - s + s = 64 by omega]
  have elo : lo * 2 ^ s / 18446744073709551616 = lo / 2 ^ (64 - s) := by rw [← e64, Nat.mul_div_mul_right _ _ hp]
  have ev : IntKind.u64.wrap ((y : Int) * 2 ^ s) = ((y * 2 ^ s : Nat) : Int) := by
    rw [← wrap_fits (y * 2 ^ s) n1, Int.natCast_mul, Int.natCast_pow]; rfl
  have et : IntKind.u64.wrap ((lo : Int) * 2 ^ s) = ((lo * 2 ^ s % 18446744073709551616 : Nat) : Int) := by
    rw [← wrap_mod, Int.natCast_mul, Int.natCast_pow]; rfl
  have hu1 : hi * 2 ^ s + lo / 2 ^ (64 - s) < y * 2 ^ s := by
    have : (hi + 1) * 2 ^ s ≤ y * 2 ^ s := Nat.mul_le_mul_right _ h1
    rw [Nat.add_mul, Nat.one_mul] at this
    omega
  have elo2 := Nat.div_add_mod (lo * 2 ^ s) 18446744073709551616
  rw [elo] at elo2
  have eN : (hi * 18446744073709551616 + lo) * 2 ^ s = hi * 2 ^ s * 18446744073709551616 + lo * 2 ^ s := by
    rw [Nat.add_mul, Nat.mul_right_comm]
  obtain ⟨v, hv⟩ : ∃ v, v = y * 2 ^ s := ⟨_, rfl⟩
  obtain ⟨u, hu⟩ : ∃ u, u = hi * 2 ^ s + lo / 2 ^ (64 - s) := ⟨_, rfl⟩
  obtain ⟨t, ht⟩ : ∃ t, t = lo * 2 ^ s % 18446744073709551616 := ⟨_, rfl⟩
  have ht1 : t < 18446744073709551616 := by rw [ht]; exact Nat.mod_lt _ (by omega)
  rw [← hv] at n0 n1 hu1 ev
  rw [← hu] at hu1 oe
  rw [← ht] at et elo2
  obtain ⟨d1, hd1⟩ : ∃ d1, d1 = t / 4294967296 := ⟨_, rfl⟩
  obtain ⟨d0, hd0⟩ : ∃ d0, d0 = t % 4294967296 := ⟨_, rfl⟩
  obtain ⟨h, hh⟩ : ∃ h, h = v / 4294967296 := ⟨_, rfl⟩
  obtain ⟨l, hll⟩ : ∃ l, l = v % 4294967296 := ⟨_, rfl⟩
  obtain ⟨A, hA⟩ : ∃ A, A = u * 4294967296 + d1 := ⟨_, rfl⟩
  obtain ⟨Q1, hQ1⟩ : ∃ Q1, Q1 = A / v := ⟨_, rfl⟩
  obtain ⟨u2, hu2⟩ : ∃ u2, u2 = A % v := ⟨_, rfl⟩
  obtain ⟨A0, hA0⟩ : ∃ A0, A0 = u2 * 4294967296 + d0 := ⟨_, rfl⟩
  obtain ⟨Q0, hQ0⟩ : ∃ Q0, Q0 = A0 / v := ⟨_, rfl⟩
  obtain ⟨r0, hr0⟩ : ∃ r0, r0 = A0 % v := ⟨_, rfl⟩
  have eNp : (hi * 18446744073709551616 + lo) * 2 ^ s = A * 4294967296 + d0 := by
    rw [eN, hA, hu]; omega
  have hvv : h * 4294967296 + l = v := by omega
  have W := whole_quot 4294967296 (hi * 18446744073709551616 + lo) y (2 ^ s) hp A d0 v hv eNp (by omega)
  rw [← hQ1, ← hu2, ← hA0, ← hQ0, ← hr0] at W
  have S1 : u2 < v := by rw [hu2]; exact Nat.mod_lt _ (by omega)
  have S0 : r0 < v := by rw [hr0]; exact Nat.mod_lt _ (by omega)
  have L1 := digit_lt 4294967296 u d1 h l (by omega) (by omega)
  have L0 := digit_lt 4294967296 u2 d0 h l (by omega) (by omega)
  rw [hvv, ← hA, ← hQ1] at L1
  rw [hvv, ← hA0, ← hQ0] at L0
  have R1 := Nat.div_add_mod A v
  rw [← hQ1, ← hu2, Nat.mul_comm] at R1
  have R0 := Nat.div_add_mod A0 v
  rw [← hQ0, ← hr0, Nat.mul_comm] at R0
  rw [← W.1, ← W.2]
  have hu64 : u < 18446744073709551616 := by omega
  have hu264 : u2 < 18446744073709551616 := by omega
  refine div64_walk hi lo y s v h l u t d1 d0 (u / h) (u % h) Q1 u2 (u2 / h) (u2 % h) Q0 _ _ hl hy h0 h1 s63 hlz ev (by rw [hh]; exact high_word v) (by rw [hll]; exact low_word v n1) oe et (by rw [hd1]; exact high_word t) (by rw [hd0]; exact low_word t ht1)
    (by omega) (by omega) (by omega) (by omega) (by omega) hu64 hu264 (quot_word u h hu64) (rest_word u h hu64) (digit_start 4294967296 u d1 h l (by omega) (by omega) (by omega)) (by rw [hvv]; exact hu1) (by rw [hvv, ← hA]; exact hQ1.symm) ?_ (quot_word u2 h hu264) (rest_word u2 h hu264) (digit_start 4294967296 u2 d0 h l (by omega) (by omega) (by omega)) (by rw [hvv]; exact S1) (by rw [hvv, ← hA0]; exact hQ0.symm) ?_ ?_ w
  · exact rest_wrap u d1 Q1 v u2 (by rw [← hA]; exact R1.symm) hu264
  · simp only [IntKind.wrap_u64]; omega
  · rw [rest_wrap u2 d0 Q0 v r0 (by rw [← hA0]; exact R0.symm) (Nat.lt_trans S0 n1), Int.natCast_ediv, Int.natCast_pow]; rfl

theorem divOK (x y c : Nat) (hc1 : 1 ≤ c) (hc : c < 18446744073709551616) : DivOK x y c := by
  by_cases h0 : x * y / 18446744073709551616 = 0
  · exact divOK_low x y c hc1 hc (by omega)
  · intro h w
    have hd := div64_high (x * y / 18446744073709551616) (x * y % 18446744073709551616) c (Nat.mod_lt _ (by omega)) hc (by omega) h w
    rw [show x * y / 18446744073709551616 * 18446744073709551616 + x * y % 18446744073709551616 = x * y by omega] at hd
    exact hd.mono (by rintro e w' ⟨he, hw⟩; exact ⟨he, by rw [hw]; exact Grown.refl _⟩)
end Go.Proofs.Ytclfpmmiplandaa
