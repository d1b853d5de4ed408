/- Of of the document: the walk. -/
import Derived.Test.YtagempkaophnaaaRw
import Derived.Lib.Hide
namespace Go.Proofs.Ytagempkaophnaaa
open Go.ChangeShapes Go.WideShapes Go.ChangeAt Go.RowKit

set_option linter.unusedVariables false
/-- how the size of a number comes to be, behind its sign -/
def sized (n : Int) (m : Nat) : Bool → Prop
  | false => IntKind.u64.wrap n = (m : Int)
  | true => ∃ q1 q2 q3 : Int, wrap64 (n + 1) = q1 ∧ wrap64 (-q1) = q2 ∧ IntKind.u64.wrap q2 = q3 ∧ IntKind.u64.wrap (q3 + 1) = (m : Int)

/-- how the word comes to be, out of sign, exponent and fraction -/
def placed (sg : Bool) (L M W : Nat) : Prop :=
  ∃ x1 x2 x3 x4 : Int, IntKind.u64.wrap ((L : Int) + 1023) = x1 ∧ IntKind.u64.wrap (x1 * 4503599627370496) = x2 ∧ (M : Int) % 4503599627370496 = x4 ∧
    (if sg = true then IntKind.u64.wrap (9223372036854775808 + x2) = x3 else IntKind.u64.wrap x2 = x3) ∧ IntKind.u64.wrap (x3 + x4) = (W : Int)

theorem twice {m i v : Nat} (hv : m * 2 ^ i = v) (h : v < 4503599627370496) : IntKind.u64.wrap (2 * (v : Int)) = ((m * 2 ^ (i + 1) : Nat) : Int) := by
  have : m * 2 ^ (i + 1) = 2 * v := by rw [Nat.pow_succ, ← Nat.mul_assoc, hv, Nat.mul_comm]
  rw [this, ← wrap_nat (n := 2 * v) (by omega)]; norm_cast

theorem fewer {i c : Nat} (hc : 52 - i = c) (h : i < 52) : IntKind.u64.wrap ((c : Int) - 1) = ((52 - (i + 1) : Nat) : Int) := by
  simp only [IntKind.wrap_u64]; omega

theorem ret_of {a b : Int} {s : Bool} (h : a = b) : Ending.returned (.tuple #[.int .u64 a, .bool s]) = .returned (.tuple #[.int .u64 b, .bool s]) := by rw [h]

set_option maxHeartbeats 4000000 in
theorem rof_low (n : Int) (sg : Bool) (m t L W : Nat) (w : World) (hz : (n == 0) = false) (hn : decide (n < 0) = sg) (hm : sized n m sg)
    (lo : ∀ i, i < t → m * 2 ^ i < 4503599627370496) (hi : 4503599627370496 ≤ m * 2 ^ t) (hi2 : m * 2 ^ t < 9007199254740992) (hL : L + t = 52) (hW : placed sg L (m * 2 ^ t) W) :
    Calls Try.prog 29 #[.int .i64 n] w fun e w' => e = .returned (.tuple #[.int .u64 (W : Int), .bool true]) ∧ w' = w := by
  obtain ⟨x1, x2, x3, x4, r1, r2, r3, r4, r5⟩ := hW
  obtain ⟨m1, hm1⟩ : ∃ m1, m * 2 ^ t = m1 := ⟨_, rfl⟩
  have tE : ((m1 : Int) == 9007199254740992) = false := by rw [beq_dec]; exact decide_eq_false (by omega)
  have tG : decide (9007199254740992 ≤ (m1 : Int)) = false := decide_eq_false (by omega)
  have tL : decide ((m1 : Int) < 4503599627370496) = false := decide_eq_false (by omega)
  rw [hm1] at r3
  have keep : ∀ i, i ≤ t → (i < t ∧ m * 2 ^ i < 4503599627370496 ∧ i < 52) ∨ (i = t) := by
    intro i h
    by_cases c : i < t
    · exact Or.inl ⟨c, lo i c, by omega⟩
    · exact Or.inr (by omega)
  have e52 : 52 - t = L := by omega
  clear hi hi2 lo hL
  cases sg
  · rw [if_neg Bool.false_ne_true] at r4
    have hm' : IntKind.u64.wrap n = (m : Int) := hm
    clear hm
    go_enter Try.func29, Try.ntmps29
    go_wp2
    go_loop [5, 6] (fun a b => ∃ i : Nat, i ≤ t ∧ a = .int .u64 ((m * 2 ^ i : Nat) : Int) ∧ b = .int .u64 ((52 - i : Nat) : Int)) (fun _ b => (intOf b).toNat)
    case atStart => exact ⟨0, Nat.zero_le _, by rw [Nat.pow_zero, Nat.mul_one], rfl⟩
    case round =>
      obtain ⟨i, hi', rfl, rfl⟩ := hrel
      rcases keep i hi' with ⟨c, lt, l52⟩ | c
      · obtain ⟨v, hv⟩ : ∃ v, m * 2 ^ i = v := ⟨_, rfl⟩
        obtain ⟨u, hu⟩ : ∃ u, 52 - i = u := ⟨_, rfl⟩
        have b1 := twice hv (by omega)
        have b2 := fewer hu l52
        rw [hv, hu]
        rw [hv] at lt
        have b : decide ((v : Int) < 4503599627370496) = true := decide_eq_true (by omega)
        have hid := Lib.hid (And.intro c (And.intro l52 hu))
        clear lt c l52 hv hu keep e52 hi' hm1 tE tG tL r1 r2 r3 r5
        go_wp2
        go_round
        case rel => exact ⟨i + 1, hid.out.1, rfl, congrArg (fun k : Nat => Value.int IntKind.u64 (k : Int)) (show 51 - i = 52 - (i + 1) by omega)⟩
        case measure =>
          have := hid.out
          simp only [intOf]
          omega
      · subst c
        rw [hm1, e52]
        clear keep e52 hi' hm1 hm'
        go_wp2
        go_loop [9, 6] (fun a b => a = .int .u64 0 ∧ b = .int .u64 (L : Int)) (fun _ _ => 0)
        case atStart => exact ⟨rfl, rfl⟩
        case round =>
          obtain ⟨rfl, rfl⟩ := hrel
          go_wp2
          go_ret2
          exact ⟨rfl, rfl⟩
  · rw [if_pos rfl] at r4
    obtain ⟨q1, q2, q3, g1, g2, g3, g4⟩ := hm
    go_enter Try.func29, Try.ntmps29
    go_wp2
    go_loop [5, 6] (fun a b => ∃ i : Nat, i ≤ t ∧ a = .int .u64 ((m * 2 ^ i : Nat) : Int) ∧ b = .int .u64 ((52 - i : Nat) : Int)) (fun _ b => (intOf b).toNat)
    case atStart => exact ⟨0, Nat.zero_le _, by rw [Nat.pow_zero, Nat.mul_one], rfl⟩
    case round =>
      obtain ⟨i, hi', rfl, rfl⟩ := hrel
      rcases keep i hi' with ⟨c, lt, l52⟩ | c
      · obtain ⟨v, hv⟩ : ∃ v, m * 2 ^ i = v := ⟨_, rfl⟩
        obtain ⟨u, hu⟩ : ∃ u, 52 - i = u := ⟨_, rfl⟩
        have b1 := twice hv (by omega)
        have b2 := fewer hu l52
        rw [hv, hu]
        rw [hv] at lt
        have b : decide ((v : Int) < 4503599627370496) = true := decide_eq_true (by omega)
        have hid := Lib.hid (And.intro c (And.intro l52 hu))
        clear lt c l52 hv hu keep e52 hi' hm1 tE tG tL r1 r2 r3 r5
        go_wp2
        go_round
        case rel => exact ⟨i + 1, hid.out.1, rfl, congrArg (fun k : Nat => Value.int IntKind.u64 (k : Int)) (show 51 - i = 52 - (i + 1) by omega)⟩
        case measure =>
          have := hid.out
          simp only [intOf]
          omega
      · subst c
        rw [hm1, e52]
        clear keep e52 hi' hm1 g1 g2 g3 g4
        go_wp2
        go_loop [9, 6] (fun a b => a = .int .u64 0 ∧ b = .int .u64 (L : Int)) (fun _ _ => 0)
        case atStart => exact ⟨rfl, rfl⟩
        case round =>
          obtain ⟨rfl, rfl⟩ := hrel
          go_wp2
          go_ret2
          exact ⟨rfl, rfl⟩

theorem ups {a b : Nat} (h : a < 18446744073709551615) (hb : b = a + 1) : IntKind.u64.wrap ((a : Int) + 1) = (b : Int) := by
  simp only [IntKind.wrap_u64]; omega

/-- the same, where the fraction is none -/
def placed1 (sg : Bool) (L W : Nat) : Prop :=
  ∃ x1 x2 x3 : Int, IntKind.u64.wrap ((L : Int) + 1023) = x1 ∧ IntKind.u64.wrap (x1 * 4503599627370496) = x2 ∧
    (if sg = true then IntKind.u64.wrap (9223372036854775808 + x2) = x3 else IntKind.u64.wrap x2 = x3) ∧ IntKind.u64.wrap x3 = (W : Int)

set_option maxHeartbeats 4000000 in
theorem rof_f_a_f (n : Int) (m s s1 L L1 P R H M0 M1 W : Nat) (w : World) (hz : (n == 0) = false)
    (keep : ∀ j, j ≤ s → (j < s ∧ decide (9007199254740992 ≤ (m : Int) / 2 ^ j) = true ∧ (j : Int) ≤ 11) ∨ j = s)
    (tL : decide ((m : Int) < 4503599627370496) = false) (tS : decide (9007199254740992 ≤ (M0 : Int)) = false) (hs0 : 0 < s) (hs : (s : Int) ≤ 11) (hs1 : (s1 : Int) ≤ 11) (hL : 52 + s = L)
    (eP : IntKind.u64.wrap (2 ^ s) = (P : Int)) (hP0 : ¬ (P : Int) = 0) (eR : (m : Int) % (P : Int) = (R : Int)) (es : IntKind.u64.wrap ((s : Int) - 1) = (s1 : Int)) (eH : IntKind.u64.wrap (2 ^ s1) = (H : Int)) (eM0 : (m : Int) / 2 ^ s = (M0 : Int))
    (e1 : IntKind.u64.wrap ((M0 : Int) + 1) = (M1 : Int)) (tE0 : ((M0 : Int) == 9007199254740992) = false) (eL : IntKind.u64.wrap ((L : Int) + 1) = (L1 : Int))
    (hn : decide (n < 0) = false) (hm : sized n m false) (tA : H < R) (tE : ((M1 : Int) == 9007199254740992) = false) (hW : placed false L M1 W) :
    Calls Try.prog 29 #[.int .i64 n] w fun e w' => e = .returned (.tuple #[.int .u64 (W : Int), .bool ((R : Int) == 0)]) ∧ w' = w := by
  obtain ⟨x1, x2, x3, x4, r1, r2, r3, r4, r5⟩ := hW
  rw [if_neg Bool.false_ne_true] at r4
  have hm' : IntKind.u64.wrap n = (m : Int) := hm
  clear hm
  go_enter Try.func29, Try.ntmps29
  go_wp2
  go_loop [5, 6] (fun a b => a = .int .u64 (m : Int) ∧ b = .int .u64 52) (fun _ _ => 0)
  case atStart => exact ⟨rfl, rfl⟩
  case round =>
    obtain ⟨rfl, rfl⟩ := hrel
    go_wp2
    go_loop [9, 6] (fun a b => ∃ j : Nat, j ≤ s ∧ a = .int .u64 (j : Int) ∧ b = .int .u64 ((52 + j : Nat) : Int)) (fun a _ => s - (intOf a).toNat)
    case atStart => exact ⟨0, Nat.zero_le _, rfl, rfl⟩
    case round =>
      obtain ⟨j, hj, rfl, rfl⟩ := hrel
      rcases keep j hj with ⟨c, b, bj⟩ | c
      · obtain ⟨u, hu⟩ : ∃ u, 52 + j = u := ⟨_, rfl⟩
        have b1 := ups (a := j) (b := j + 1) (by omega) rfl
        have b2 := ups (a := u) (b := 52 + (j + 1)) (by omega) (by omega)
        rw [hu]
        have hid := Lib.hid (And.intro c hu)
        clear c hu keep hj tL tS hL eP eR es eH eM0 e1 tE0 eL r1 r2 r3 r4 r5 hs0 hs hs1 hP0 tA tE
        go_wp2
        go_round
        case rel => exact ⟨j + 1, hid.out.1, rfl, rfl⟩
        case measure =>
          have := hid.out
          simp only [intOf]
          omega
      · subst c
        rw [hL]
        clear keep hj hL tL
        go_wp2
        go_ret2
        exact ⟨rfl, rfl⟩

set_option maxHeartbeats 4000000 in
theorem rof_f_a_t (n : Int) (m s s1 L L1 P R H M0 M1 W : Nat) (w : World) (hz : (n == 0) = false)
    (keep : ∀ j, j ≤ s → (j < s ∧ decide (9007199254740992 ≤ (m : Int) / 2 ^ j) = true ∧ (j : Int) ≤ 11) ∨ j = s)
    (tL : decide ((m : Int) < 4503599627370496) = false) (tS : decide (9007199254740992 ≤ (M0 : Int)) = false) (hs0 : 0 < s) (hs : (s : Int) ≤ 11) (hs1 : (s1 : Int) ≤ 11) (hL : 52 + s = L)
    (eP : IntKind.u64.wrap (2 ^ s) = (P : Int)) (hP0 : ¬ (P : Int) = 0) (eR : (m : Int) % (P : Int) = (R : Int)) (es : IntKind.u64.wrap ((s : Int) - 1) = (s1 : Int)) (eH : IntKind.u64.wrap (2 ^ s1) = (H : Int)) (eM0 : (m : Int) / 2 ^ s = (M0 : Int))
    (e1 : IntKind.u64.wrap ((M0 : Int) + 1) = (M1 : Int)) (tE0 : ((M0 : Int) == 9007199254740992) = false) (eL : IntKind.u64.wrap ((L : Int) + 1) = (L1 : Int))
    (hn : decide (n < 0) = false) (hm : sized n m false) (tA : H < R) (tE : ((M1 : Int) == 9007199254740992) = true) (hW : placed1 false L1 W) :
    Calls Try.prog 29 #[.int .i64 n] w fun e w' => e = .returned (.tuple #[.int .u64 (W : Int), .bool ((R : Int) == 0)]) ∧ w' = w := by
  obtain ⟨x1, x2, x3, r1, r2, r4, r5⟩ := hW
  rw [if_neg Bool.false_ne_true] at r4
  have hm' : IntKind.u64.wrap n = (m : Int) := hm
  clear hm
  go_enter Try.func29, Try.ntmps29
  go_wp2
  go_loop [5, 6] (fun a b => a = .int .u64 (m : Int) ∧ b = .int .u64 52) (fun _ _ => 0)
  case atStart => exact ⟨rfl, rfl⟩
  case round =>
    obtain ⟨rfl, rfl⟩ := hrel
    go_wp2
    go_loop [9, 6] (fun a b => ∃ j : Nat, j ≤ s ∧ a = .int .u64 (j : Int) ∧ b = .int .u64 ((52 + j : Nat) : Int)) (fun a _ => s - (intOf a).toNat)
    case atStart => exact ⟨0, Nat.zero_le _, rfl, rfl⟩
    case round =>
      obtain ⟨j, hj, rfl, rfl⟩ := hrel
      rcases keep j hj with ⟨c, b, bj⟩ | c
      · obtain ⟨u, hu⟩ : ∃ u, 52 + j = u := ⟨_, rfl⟩
        have b1 := ups (a := j) (b := j + 1) (by omega) rfl
        have b2 := ups (a := u) (b := 52 + (j + 1)) (by omega) (by omega)
        rw [hu]
        have hid := Lib.hid (And.intro c hu)
        clear c hu keep hj tL tS hL eP eR es eH eM0 e1 tE0 eL r1 r2 r4 r5 hs0 hs hs1 hP0 tA tE
        go_wp2
        go_round
        case rel => exact ⟨j + 1, hid.out.1, rfl, rfl⟩
        case measure =>
          have := hid.out
          simp only [intOf]
          omega
      · subst c
        rw [hL]
        clear keep hj hL tL
        go_wp2
        go_ret2
        exact ⟨rfl, rfl⟩

set_option maxHeartbeats 4000000 in
theorem rof_f_b_f (n : Int) (m s s1 L L1 P R H M0 M1 W : Nat) (w : World) (hz : (n == 0) = false)
    (keep : ∀ j, j ≤ s → (j < s ∧ decide (9007199254740992 ≤ (m : Int) / 2 ^ j) = true ∧ (j : Int) ≤ 11) ∨ j = s)
    (tL : decide ((m : Int) < 4503599627370496) = false) (tS : decide (9007199254740992 ≤ (M0 : Int)) = false) (hs0 : 0 < s) (hs : (s : Int) ≤ 11) (hs1 : (s1 : Int) ≤ 11) (hL : 52 + s = L)
    (eP : IntKind.u64.wrap (2 ^ s) = (P : Int)) (hP0 : ¬ (P : Int) = 0) (eR : (m : Int) % (P : Int) = (R : Int)) (es : IntKind.u64.wrap ((s : Int) - 1) = (s1 : Int)) (eH : IntKind.u64.wrap (2 ^ s1) = (H : Int)) (eM0 : (m : Int) / 2 ^ s = (M0 : Int))
    (e1 : IntKind.u64.wrap ((M0 : Int) + 1) = (M1 : Int)) (tE0 : ((M0 : Int) == 9007199254740992) = false) (eL : IntKind.u64.wrap ((L : Int) + 1) = (L1 : Int))
    (hn : decide (n < 0) = false) (hm : sized n m false) (tA : ¬ H < R) (tB : ((R : Int) == (H : Int)) = true) (tC : 0 < R) (tD : ((M0 : Int) % 2 == 1) = true) (tE : ((M1 : Int) == 9007199254740992) = false) (hW : placed false L M1 W) :
    Calls Try.prog 29 #[.int .i64 n] w fun e w' => e = .returned (.tuple #[.int .u64 (W : Int), .bool ((R : Int) == 0)]) ∧ w' = w := by
  obtain ⟨x1, x2, x3, x4, r1, r2, r3, r4, r5⟩ := hW
  rw [if_neg Bool.false_ne_true] at r4
  have hm' : IntKind.u64.wrap n = (m : Int) := hm
  clear hm
  go_enter Try.func29, Try.ntmps29
  go_wp2
  go_loop [5, 6] (fun a b => a = .int .u64 (m : Int) ∧ b = .int .u64 52) (fun _ _ => 0)
  case atStart => exact ⟨rfl, rfl⟩
  case round =>
    obtain ⟨rfl, rfl⟩ := hrel
    go_wp2
    go_loop [9, 6] (fun a b => ∃ j : Nat, j ≤ s ∧ a = .int .u64 (j : Int) ∧ b = .int .u64 ((52 + j : Nat) : Int)) (fun a _ => s - (intOf a).toNat)
    case atStart => exact ⟨0, Nat.zero_le _, rfl, rfl⟩
    case round =>
      obtain ⟨j, hj, rfl, rfl⟩ := hrel
      rcases keep j hj with ⟨c, b, bj⟩ | c
      · obtain ⟨u, hu⟩ : ∃ u, 52 + j = u := ⟨_, rfl⟩
        have b1 := ups (a := j) (b := j + 1) (by omega) rfl
        have b2 := ups (a := u) (b := 52 + (j + 1)) (by omega) (by omega)
        rw [hu]
        have hid := Lib.hid (And.intro c hu)
        clear c hu keep hj tL tS hL eP eR es eH eM0 e1 tE0 eL r1 r2 r3 r4 r5 hs0 hs hs1 hP0 tA tB tC tD tE
        go_wp2
        go_round
        case rel => exact ⟨j + 1, hid.out.1, rfl, rfl⟩
        case measure =>
          have := hid.out
          simp only [intOf]
          omega
      · subst c
        rw [hL]
        clear keep hj hL tL
        go_wp2
        go_ret2
        exact ⟨rfl, rfl⟩

set_option maxHeartbeats 4000000 in
theorem rof_f_b_t (n : Int) (m s s1 L L1 P R H M0 M1 W : Nat) (w : World) (hz : (n == 0) = false)
    (keep : ∀ j, j ≤ s → (j < s ∧ decide (9007199254740992 ≤ (m : Int) / 2 ^ j) = true ∧ (j : Int) ≤ 11) ∨ j = s)
    (tL : decide ((m : Int) < 4503599627370496) = false) (tS : decide (9007199254740992 ≤ (M0 : Int)) = false) (hs0 : 0 < s) (hs : (s : Int) ≤ 11) (hs1 : (s1 : Int) ≤ 11) (hL : 52 + s = L)
    (eP : IntKind.u64.wrap (2 ^ s) = (P : Int)) (hP0 : ¬ (P : Int) = 0) (eR : (m : Int) % (P : Int) = (R : Int)) (es : IntKind.u64.wrap ((s : Int) - 1) = (s1 : Int)) (eH : IntKind.u64.wrap (2 ^ s1) = (H : Int)) (eM0 : (m : Int) / 2 ^ s = (M0 : Int))
    (e1 : IntKind.u64.wrap ((M0 : Int) + 1) = (M1 : Int)) (tE0 : ((M0 : Int) == 9007199254740992) = false) (eL : IntKind.u64.wrap ((L : Int) + 1) = (L1 : Int))
    (hn : decide (n < 0) = false) (hm : sized n m false) (tA : ¬ H < R) (tB : ((R : Int) == (H : Int)) = true) (tC : 0 < R) (tD : ((M0 : Int) % 2 == 1) = true) (tE : ((M1 : Int) == 9007199254740992) = true) (hW : placed1 false L1 W) :
    Calls Try.prog 29 #[.int .i64 n] w fun e w' => e = .returned (.tuple #[.int .u64 (W : Int), .bool ((R : Int) == 0)]) ∧ w' = w := by
  obtain ⟨x1, x2, x3, r1, r2, r4, r5⟩ := hW
  rw [if_neg Bool.false_ne_true] at r4
  have hm' : IntKind.u64.wrap n = (m : Int) := hm
  clear hm
  go_enter Try.func29, Try.ntmps29
  go_wp2
  go_loop [5, 6] (fun a b => a = .int .u64 (m : Int) ∧ b = .int .u64 52) (fun _ _ => 0)
  case atStart => exact ⟨rfl, rfl⟩
  case round =>
    obtain ⟨rfl, rfl⟩ := hrel
    go_wp2
    go_loop [9, 6] (fun a b => ∃ j : Nat, j ≤ s ∧ a = .int .u64 (j : Int) ∧ b = .int .u64 ((52 + j : Nat) : Int)) (fun a _ => s - (intOf a).toNat)
    case atStart => exact ⟨0, Nat.zero_le _, rfl, rfl⟩
    case round =>
      obtain ⟨j, hj, rfl, rfl⟩ := hrel
      rcases keep j hj with ⟨c, b, bj⟩ | c
      · obtain ⟨u, hu⟩ : ∃ u, 52 + j = u := ⟨_, rfl⟩
        have b1 := ups (a := j) (b := j + 1) (by omega) rfl
        have b2 := ups (a := u) (b := 52 + (j + 1)) (by omega) (by omega)
        rw [hu]
        have hid := Lib.hid (And.intro c hu)
        clear c hu keep hj tL tS hL eP eR es eH eM0 e1 tE0 eL r1 r2 r4 r5 hs0 hs hs1 hP0 tA tB tC tD tE
        go_wp2
        go_round
        case rel => exact ⟨j + 1, hid.out.1, rfl, rfl⟩
        case measure =>
          have := hid.out
          simp only [intOf]
          omega
      · subst c
        rw [hL]
        clear keep hj hL tL
        go_wp2
        go_ret2
        exact ⟨rfl, rfl⟩

set_option maxHeartbeats 4000000 in
theorem rof_f_c (n : Int) (m s s1 L L1 P R H M0 M1 W : Nat) (w : World) (hz : (n == 0) = false)
    (keep : ∀ j, j ≤ s → (j < s ∧ decide (9007199254740992 ≤ (m : Int) / 2 ^ j) = true ∧ (j : Int) ≤ 11) ∨ j = s)
    (tL : decide ((m : Int) < 4503599627370496) = false) (tS : decide (9007199254740992 ≤ (M0 : Int)) = false) (hs0 : 0 < s) (hs : (s : Int) ≤ 11) (hs1 : (s1 : Int) ≤ 11) (hL : 52 + s = L)
    (eP : IntKind.u64.wrap (2 ^ s) = (P : Int)) (hP0 : ¬ (P : Int) = 0) (eR : (m : Int) % (P : Int) = (R : Int)) (es : IntKind.u64.wrap ((s : Int) - 1) = (s1 : Int)) (eH : IntKind.u64.wrap (2 ^ s1) = (H : Int)) (eM0 : (m : Int) / 2 ^ s = (M0 : Int))
    (e1 : IntKind.u64.wrap ((M0 : Int) + 1) = (M1 : Int)) (tE0 : ((M0 : Int) == 9007199254740992) = false) (eL : IntKind.u64.wrap ((L : Int) + 1) = (L1 : Int))
    (hn : decide (n < 0) = false) (hm : sized n m false) (tA : ¬ H < R) (tB : ((R : Int) == (H : Int)) = true) (tC : 0 < R) (tD : ((M0 : Int) % 2 == 1) = false) (hW : placed false L M0 W) :
    Calls Try.prog 29 #[.int .i64 n] w fun e w' => e = .returned (.tuple #[.int .u64 (W : Int), .bool ((R : Int) == 0)]) ∧ w' = w := by
  obtain ⟨x1, x2, x3, x4, r1, r2, r3, r4, r5⟩ := hW
  rw [if_neg Bool.false_ne_true] at r4
  have hm' : IntKind.u64.wrap n = (m : Int) := hm
  clear hm
  go_enter Try.func29, Try.ntmps29
  go_wp2
  go_loop [5, 6] (fun a b => a = .int .u64 (m : Int) ∧ b = .int .u64 52) (fun _ _ => 0)
  case atStart => exact ⟨rfl, rfl⟩
  case round =>
    obtain ⟨rfl, rfl⟩ := hrel
    go_wp2
    go_loop [9, 6] (fun a b => ∃ j : Nat, j ≤ s ∧ a = .int .u64 (j : Int) ∧ b = .int .u64 ((52 + j : Nat) : Int)) (fun a _ => s - (intOf a).toNat)
    case atStart => exact ⟨0, Nat.zero_le _, rfl, rfl⟩
    case round =>
      obtain ⟨j, hj, rfl, rfl⟩ := hrel
      rcases keep j hj with ⟨c, b, bj⟩ | c
      · obtain ⟨u, hu⟩ : ∃ u, 52 + j = u := ⟨_, rfl⟩
        have b1 := ups (a := j) (b := j + 1) (by omega) rfl
        have b2 := ups (a := u) (b := 52 + (j + 1)) (by omega) (by omega)
        rw [hu]
        have hid := Lib.hid (And.intro c hu)
        clear c hu keep hj tL tS hL eP eR es eH eM0 e1 tE0 eL r1 r2 r3 r4 r5 hs0 hs hs1 hP0 tA tB tC tD
        go_wp2
        go_round
        case rel => exact ⟨j + 1, hid.out.1, rfl, rfl⟩
        case measure =>
          have := hid.out
          simp only [intOf]
          omega
      · subst c
        rw [hL]
        clear keep hj hL tL
        go_wp2
        go_ret2
        exact ⟨rfl, rfl⟩

set_option maxHeartbeats 4000000 in
theorem rof_f_d (n : Int) (m s s1 L L1 P R H M0 M1 W : Nat) (w : World) (hz : (n == 0) = false)
    (keep : ∀ j, j ≤ s → (j < s ∧ decide (9007199254740992 ≤ (m : Int) / 2 ^ j) = true ∧ (j : Int) ≤ 11) ∨ j = s)
    (tL : decide ((m : Int) < 4503599627370496) = false) (tS : decide (9007199254740992 ≤ (M0 : Int)) = false) (hs0 : 0 < s) (hs : (s : Int) ≤ 11) (hs1 : (s1 : Int) ≤ 11) (hL : 52 + s = L)
    (eP : IntKind.u64.wrap (2 ^ s) = (P : Int)) (hP0 : ¬ (P : Int) = 0) (eR : (m : Int) % (P : Int) = (R : Int)) (es : IntKind.u64.wrap ((s : Int) - 1) = (s1 : Int)) (eH : IntKind.u64.wrap (2 ^ s1) = (H : Int)) (eM0 : (m : Int) / 2 ^ s = (M0 : Int))
    (e1 : IntKind.u64.wrap ((M0 : Int) + 1) = (M1 : Int)) (tE0 : ((M0 : Int) == 9007199254740992) = false) (eL : IntKind.u64.wrap ((L : Int) + 1) = (L1 : Int))
    (hn : decide (n < 0) = false) (hm : sized n m false) (tA : ¬ H < R) (tB : ((R : Int) == (H : Int)) = false) (hW : placed false L M0 W) :
    Calls Try.prog 29 #[.int .i64 n] w fun e w' => e = .returned (.tuple #[.int .u64 (W : Int), .bool ((R : Int) == 0)]) ∧ w' = w := by
  obtain ⟨x1, x2, x3, x4, r1, r2, r3, r4, r5⟩ := hW
  rw [if_neg Bool.false_ne_true] at r4
  have hm' : IntKind.u64.wrap n = (m : Int) := hm
  clear hm
  go_enter Try.func29, Try.ntmps29
  go_wp2
  go_loop [5, 6] (fun a b => a = .int .u64 (m : Int) ∧ b = .int .u64 52) (fun _ _ => 0)
  case atStart => exact ⟨rfl, rfl⟩
  case round =>
    obtain ⟨rfl, rfl⟩ := hrel
    go_wp2
    go_loop [9, 6] (fun a b => ∃ j : Nat, j ≤ s ∧ a = .int .u64 (j : Int) ∧ b = .int .u64 ((52 + j : Nat) : Int)) (fun a _ => s - (intOf a).toNat)
    case atStart => exact ⟨0, Nat.zero_le _, rfl, rfl⟩
    case round =>
      obtain ⟨j, hj, rfl, rfl⟩ := hrel
      rcases keep j hj with ⟨c, b, bj⟩ | c
      · obtain ⟨u, hu⟩ : ∃ u, 52 + j = u := ⟨_, rfl⟩
        have b1 := ups (a := j) (b := j + 1) (by omega) rfl
        have b2 := ups (a := u) (b := 52 + (j + 1)) (by omega) (by omega)
        rw [hu]
        have hid := Lib.hid (And.intro c hu)
        clear c hu keep hj tL tS hL eP eR es eH eM0 e1 tE0 eL r1 r2 r3 r4 r5 hs0 hs hs1 hP0 tA tB
        go_wp2
        go_round
        case rel => exact ⟨j + 1, hid.out.1, rfl, rfl⟩
        case measure =>
          have := hid.out
          simp only [intOf]
          omega
      · subst c
        rw [hL]
        clear keep hj hL tL
        go_wp2
        go_ret2
        exact ⟨rfl, rfl⟩

set_option maxHeartbeats 4000000 in
theorem rof_t_a_f (n : Int) (m s s1 L L1 P R H M0 M1 W : Nat) (w : World) (hz : (n == 0) = false)
    (keep : ∀ j, j ≤ s → (j < s ∧ decide (9007199254740992 ≤ (m : Int) / 2 ^ j) = true ∧ (j : Int) ≤ 11) ∨ j = s)
    (tL : decide ((m : Int) < 4503599627370496) = false) (tS : decide (9007199254740992 ≤ (M0 : Int)) = false) (hs0 : 0 < s) (hs : (s : Int) ≤ 11) (hs1 : (s1 : Int) ≤ 11) (hL : 52 + s = L)
    (eP : IntKind.u64.wrap (2 ^ s) = (P : Int)) (hP0 : ¬ (P : Int) = 0) (eR : (m : Int) % (P : Int) = (R : Int)) (es : IntKind.u64.wrap ((s : Int) - 1) = (s1 : Int)) (eH : IntKind.u64.wrap (2 ^ s1) = (H : Int)) (eM0 : (m : Int) / 2 ^ s = (M0 : Int))
    (e1 : IntKind.u64.wrap ((M0 : Int) + 1) = (M1 : Int)) (tE0 : ((M0 : Int) == 9007199254740992) = false) (eL : IntKind.u64.wrap ((L : Int) + 1) = (L1 : Int))
    (hn : decide (n < 0) = true) (hm : sized n m true) (tA : H < R) (tE : ((M1 : Int) == 9007199254740992) = false) (hW : placed true L M1 W) :
    Calls Try.prog 29 #[.int .i64 n] w fun e w' => e = .returned (.tuple #[.int .u64 (W : Int), .bool ((R : Int) == 0)]) ∧ w' = w := by
  obtain ⟨x1, x2, x3, x4, r1, r2, r3, r4, r5⟩ := hW
  rw [if_pos rfl] at r4
  obtain ⟨q1, q2, q3, g1, g2, g3, g4⟩ := hm
  go_enter Try.func29, Try.ntmps29
  go_wp2
  go_loop [5, 6] (fun a b => a = .int .u64 (m : Int) ∧ b = .int .u64 52) (fun _ _ => 0)
  case atStart => exact ⟨rfl, rfl⟩
  case round =>
    obtain ⟨rfl, rfl⟩ := hrel
    go_wp2
    go_loop [9, 6] (fun a b => ∃ j : Nat, j ≤ s ∧ a = .int .u64 (j : Int) ∧ b = .int .u64 ((52 + j : Nat) : Int)) (fun a _ => s - (intOf a).toNat)
    case atStart => exact ⟨0, Nat.zero_le _, rfl, rfl⟩
    case round =>
      obtain ⟨j, hj, rfl, rfl⟩ := hrel
      rcases keep j hj with ⟨c, b, bj⟩ | c
      · obtain ⟨u, hu⟩ : ∃ u, 52 + j = u := ⟨_, rfl⟩
        have b1 := ups (a := j) (b := j + 1) (by omega) rfl
        have b2 := ups (a := u) (b := 52 + (j + 1)) (by omega) (by omega)
        rw [hu]
        have hid := Lib.hid (And.intro c hu)
        clear c hu keep hj tL tS hL eP eR es eH eM0 e1 tE0 eL r1 r2 r3 r4 r5 hs0 hs hs1 hP0 tA tE
        go_wp2
        go_round
        case rel => exact ⟨j + 1, hid.out.1, rfl, rfl⟩
        case measure =>
          have := hid.out
          simp only [intOf]
          omega
      · subst c
        rw [hL]
        clear keep hj hL tL
        go_wp2
        go_ret2
        exact ⟨rfl, rfl⟩

set_option maxHeartbeats 4000000 in
theorem rof_t_a_t (n : Int) (m s s1 L L1 P R H M0 M1 W : Nat) (w : World) (hz : (n == 0) = false)
    (keep : ∀ j, j ≤ s → (j < s ∧ decide (9007199254740992 ≤ (m : Int) / 2 ^ j) = true ∧ (j : Int) ≤ 11) ∨ j = s)
    (tL : decide ((m : Int) < 4503599627370496) = false) (tS : decide (9007199254740992 ≤ (M0 : Int)) = false) (hs0 : 0 < s) (hs : (s : Int) ≤ 11) (hs1 : (s1 : Int) ≤ 11) (hL : 52 + s = L)
    (eP : IntKind.u64.wrap (2 ^ s) = (P : Int)) (hP0 : ¬ (P : Int) = 0) (eR : (m : Int) % (P : Int) = (R : Int)) (es : IntKind.u64.wrap ((s : Int) - 1) = (s1 : Int)) (eH : IntKind.u64.wrap (2 ^ s1) = (H : Int)) (eM0 : (m : Int) / 2 ^ s = (M0 : Int))
    (e1 : IntKind.u64.wrap ((M0 : Int) + 1) = (M1 : Int)) (tE0 : ((M0 : Int) == 9007199254740992) = false) (eL : IntKind.u64.wrap ((L : Int) + 1) = (L1 : Int))
    (hn : decide (n < 0) = true) (hm : sized n m true) (tA : H < R) (tE : ((M1 : Int) == 9007199254740992) = true) (hW : placed1 true L1 W) :
    Calls Try.prog 29 #[.int .i64 n] w fun e w' => e = .returned (.tuple #[.int .u64 (W : Int), .bool ((R : Int) == 0)]) ∧ w' = w := by
  obtain ⟨x1, x2, x3, r1, r2, r4, r5⟩ := hW
  rw [if_pos rfl] at r4
  obtain ⟨q1, q2, q3, g1, g2, g3, g4⟩ := hm
  go_enter Try.func29, Try.ntmps29
  go_wp2
  go_loop [5, 6] (fun a b => a = .int .u64 (m : Int) ∧ b = .int .u64 52) (fun _ _ => 0)
  case atStart => exact ⟨rfl, rfl⟩
  case round =>
    obtain ⟨rfl, rfl⟩ := hrel
    go_wp2
    go_loop [9, 6] (fun a b => ∃ j : Nat, j ≤ s ∧ a = .int .u64 (j : Int) ∧ b = .int .u64 ((52 + j : Nat) : Int)) (fun a _ => s - (intOf a).toNat)
    case atStart => exact ⟨0, Nat.zero_le _, rfl, rfl⟩
    case round =>
      obtain ⟨j, hj, rfl, rfl⟩ := hrel
      rcases keep j hj with ⟨c, b, bj⟩ | c
      · obtain ⟨u, hu⟩ : ∃ u, 52 + j = u := ⟨_, rfl⟩
        have b1 := ups (a := j) (b := j + 1) (by omega) rfl
        have b2 := ups (a := u) (b := 52 + (j + 1)) (by omega) (by omega)
        rw [hu]
        have hid := Lib.hid (And.intro c hu)
        clear c hu keep hj tL tS hL eP eR es eH eM0 e1 tE0 eL r1 r2 r4 r5 hs0 hs hs1 hP0 tA tE
        go_wp2
        go_round
        case rel => exact ⟨j + 1, hid.out.1, rfl, rfl⟩
        case measure =>
          have := hid.out
          simp only [intOf]
          omega
      · subst c
        rw [hL]
        clear keep hj hL tL
        go_wp2
        go_ret2
        exact ⟨rfl, rfl⟩

set_option maxHeartbeats 4000000 in
theorem rof_t_b_f (n : Int) (m s s1 L L1 P R H M0 M1 W : Nat) (w : World) (hz : (n == 0) = false)
    (keep : ∀ j, j ≤ s → (j < s ∧ decide (9007199254740992 ≤ (m : Int) / 2 ^ j) = true ∧ (j : Int) ≤ 11) ∨ j = s)
    (tL : decide ((m : Int) < 4503599627370496) = false) (tS : decide (9007199254740992 ≤ (M0 : Int)) = false) (hs0 : 0 < s) (hs : (s : Int) ≤ 11) (hs1 : (s1 : Int) ≤ 11) (hL : 52 + s = L)
    (eP : IntKind.u64.wrap (2 ^ s) = (P : Int)) (hP0 : ¬ (P : Int) = 0) (eR : (m : Int) % (P : Int) = (R : Int)) (es : IntKind.u64.wrap ((s : Int) - 1) = (s1 : Int)) (eH : IntKind.u64.wrap (2 ^ s1) = (H : Int)) (eM0 : (m : Int) / 2 ^ s = (M0 : Int))
    (e1 : IntKind.u64.wrap ((M0 : Int) + 1) = (M1 : Int)) (tE0 : ((M0 : Int) == 9007199254740992) = false) (eL : IntKind.u64.wrap ((L : Int) + 1) = (L1 : Int))
    (hn : decide (n < 0) = true) (hm : sized n m true) (tA : ¬ H < R) (tB : ((R : Int) == (H : Int)) = true) (tC : 0 < R) (tD : ((M0 : Int) % 2 == 1) = true) (tE : ((M1 : Int) == 9007199254740992) = false) (hW : placed true L M1 W) :
    Calls Try.prog 29 #[.int .i64 n] w fun e w' => e = .returned (.tuple #[.int .u64 (W : Int), .bool ((R : Int) == 0)]) ∧ w' = w := by
  obtain ⟨x1, x2, x3, x4, r1, r2, r3, r4, r5⟩ := hW
  rw [if_pos rfl] at r4
  obtain ⟨q1, q2, q3, g1, g2, g3, g4⟩ := hm
  go_enter Try.func29, Try.ntmps29
  go_wp2
  go_loop [5, 6] (fun a b => a = .int .u64 (m : Int) ∧ b = .int .u64 52) (fun _ _ => 0)
  case atStart => exact ⟨rfl, rfl⟩
  case round =>
    obtain ⟨rfl, rfl⟩ := hrel
    go_wp2
    go_loop [9, 6] (fun a b => ∃ j : Nat, j ≤ s ∧ a = .int .u64 (j : Int) ∧ b = .int .u64 ((52 + j : Nat) : Int)) (fun a _ => s - (intOf a).toNat)
    case atStart => exact ⟨0, Nat.zero_le _, rfl, rfl⟩
    case round =>
      obtain ⟨j, hj, rfl, rfl⟩ := hrel
      rcases keep j hj with ⟨c, b, bj⟩ | c
      · obtain ⟨u, hu⟩ : ∃ u, 52 + j = u := ⟨_, rfl⟩
        have b1 := ups (a := j) (b := j + 1) (by omega) rfl
        have b2 := ups (a := u) (b := 52 + (j + 1)) (by omega) (by omega)
        rw [hu]
        have hid := Lib.hid (And.intro c hu)
        clear c hu keep hj tL tS hL eP eR es eH eM0 e1 tE0 eL r1 r2 r3 r4 r5 hs0 hs hs1 hP0 tA tB tC tD tE
        go_wp2
        go_round
        case rel => exact ⟨j + 1, hid.out.1, rfl, rfl⟩
        case measure =>
          have := hid.out
          simp only [intOf]
          omega
      · subst c
        rw [hL]
        clear keep hj hL tL
        go_wp2
        go_ret2
        exact ⟨rfl, rfl⟩

set_option maxHeartbeats 4000000 in
theorem rof_t_b_t (n : Int) (m s s1 L L1 P R H M0 M1 W : Nat) (w : World) (hz : (n == 0) = false)
    (keep : ∀ j, j ≤ s → (j < s ∧ decide (9007199254740992 ≤ (m : Int) / 2 ^ j) = true ∧ (j : Int) ≤ 11) ∨ j = s)
    (tL : decide ((m : Int) < 4503599627370496) = false) (tS : decide (9007199254740992 ≤ (M0 : Int)) = false) (hs0 : 0 < s) (hs : (s : Int) ≤ 11) (hs1 : (s1 : Int) ≤ 11) (hL : 52 + s = L)
    (eP : IntKind.u64.wrap (2 ^ s) = (P : Int)) (hP0 : ¬ (P : Int) = 0) (eR : (m : Int) % (P : Int) = (R : Int)) (es : IntKind.u64.wrap ((s : Int) - 1) = (s1 : Int)) (eH : IntKind.u64.wrap (2 ^ s1) = (H : Int)) (eM0 : (m : Int) / 2 ^ s = (M0 : Int))
    (e1 : IntKind.u64.wrap ((M0 : Int) + 1) = (M1 : Int)) (tE0 : ((M0 : Int) == 9007199254740992) = false) (eL : IntKind.u64.wrap ((L : Int) + 1) = (L1 : Int))
    (hn : decide (n < 0) = true) (hm : sized n m true) (tA : ¬ H < R) (tB : ((R : Int) == (H : Int)) = true) (tC : 0 < R) (tD : ((M0 : Int) % 2 == 1) = true) (tE : ((M1 : Int) == 9007199254740992) = true) (hW : placed1 true L1 W) :
    Calls Try.prog 29 #[.int .i64 n] w fun e w' => e = .returned (.tuple #[.int .u64 (W : Int), .bool ((R : Int) == 0)]) ∧ w' = w := by
  obtain ⟨x1, x2, x3, r1, r2, r4, r5⟩ := hW
  rw [if_pos rfl] at r4
  obtain ⟨q1, q2, q3, g1, g2, g3, g4⟩ := hm
  go_enter Try.func29, Try.ntmps29
  go_wp2
  go_loop [5, 6] (fun a b => a = .int .u64 (m : Int) ∧ b = .int .u64 52) (fun _ _ => 0)
  case atStart => exact ⟨rfl, rfl⟩
  case round =>
    obtain ⟨rfl, rfl⟩ := hrel
    go_wp2
    go_loop [9, 6] (fun a b => ∃ j : Nat, j ≤ s ∧ a = .int .u64 (j : Int) ∧ b = .int .u64 ((52 + j : Nat) : Int)) (fun a _ => s - (intOf a).toNat)
    case atStart => exact ⟨0, Nat.zero_le _, rfl, rfl⟩
    case round =>
      obtain ⟨j, hj, rfl, rfl⟩ := hrel
      rcases keep j hj with ⟨c, b, bj⟩ | c
      · obtain ⟨u, hu⟩ : ∃ u, 52 + j = u := ⟨_, rfl⟩
        have b1 := ups (a := j) (b := j + 1) (by omega) rfl
        have b2 := ups (a := u) (b := 52 + (j + 1)) (by omega) (by omega)
        rw [hu]
        have hid := Lib.hid (And.intro c hu)
        clear c hu keep hj tL tS hL eP eR es eH eM0 e1 tE0 eL r1 r2 r4 r5 hs0 hs hs1 hP0 tA tB tC tD tE
        go_wp2
        go_round
        case rel => exact ⟨j + 1, hid.out.1, rfl, rfl⟩
        case measure =>
          have := hid.out
          simp only [intOf]
          omega
      · subst c
        rw [hL]
        clear keep hj hL tL
        go_wp2
        go_ret2
        exact ⟨rfl, rfl⟩

set_option maxHeartbeats 4000000 in
theorem rof_t_c (n : Int) (m s s1 L L1 P R H M0 M1 W : Nat) (w : World) (hz : (n == 0) = false)
    (keep : ∀ j, j ≤ s → (j < s ∧ decide (9007199254740992 ≤ (m : Int) / 2 ^ j) = true ∧ (j : Int) ≤ 11) ∨ j = s)
    (tL : decide ((m : Int) < 4503599627370496) = false) (tS : decide (9007199254740992 ≤ (M0 : Int)) = false) (hs0 : 0 < s) (hs : (s : Int) ≤ 11) (hs1 : (s1 : Int) ≤ 11) (hL : 52 + s = L)
    (eP : IntKind.u64.wrap (2 ^ s) = (P : Int)) (hP0 : ¬ (P : Int) = 0) (eR : (m : Int) % (P : Int) = (R : Int)) (es : IntKind.u64.wrap ((s : Int) - 1) = (s1 : Int)) (eH : IntKind.u64.wrap (2 ^ s1) = (H : Int)) (eM0 : (m : Int) / 2 ^ s = (M0 : Int))
    (e1 : IntKind.u64.wrap ((M0 : Int) + 1) = (M1 : Int)) (tE0 : ((M0 : Int) == 9007199254740992) = false) (eL : IntKind.u64.wrap ((L : Int) + 1) = (L1 : Int))
    (hn : decide (n < 0) = true) (hm : sized n m true) (tA : ¬ H < R) (tB : ((R : Int) == (H : Int)) = true) (tC : 0 < R) (tD : ((M0 : Int) % 2 == 1) = false) (hW : placed true L M0 W) :
    Calls Try.prog 29 #[.int .i64 n] w fun e w' => e = .returned (.tuple #[.int .u64 (W : Int), .bool ((R : Int) == 0)]) ∧ w' = w := by
  obtain ⟨x1, x2, x3, x4, r1, r2, r3, r4, r5⟩ := hW
  rw [if_pos rfl] at r4
  obtain ⟨q1, q2, q3, g1, g2, g3, g4⟩ := hm
  go_enter Try.func29, Try.ntmps29
  go_wp2
  go_loop [5, 6] (fun a b => a = .int .u64 (m : Int) ∧ b = .int .u64 52) (fun _ _ => 0)
  case atStart => exact ⟨rfl, rfl⟩
  case round =>
    obtain ⟨rfl, rfl⟩ := hrel
    go_wp2
    go_loop [9, 6] (fun a b => ∃ j : Nat, j ≤ s ∧ a = .int .u64 (j : Int) ∧ b = .int .u64 ((52 + j : Nat) : Int)) (fun a _ => s - (intOf a).toNat)
    case atStart => exact ⟨0, Nat.zero_le _, rfl, rfl⟩
    case round =>
      obtain ⟨j, hj, rfl, rfl⟩ := hrel
      rcases keep j hj with ⟨c, b, bj⟩ | c
      · obtain ⟨u, hu⟩ : ∃ u, 52 + j = u := ⟨_, rfl⟩
        have b1 := ups (a := j) (b := j + 1) (by omega) rfl
        have b2 := ups (a := u) (b := 52 + (j + 1)) (by omega) (by omega)
        rw [hu]
        have hid := Lib.hid (And.intro c hu)
        clear c hu keep hj tL tS hL eP eR es eH eM0 e1 tE0 eL r1 r2 r3 r4 r5 hs0 hs hs1 hP0 tA tB tC tD
        go_wp2
        go_round
        case rel => exact ⟨j + 1, hid.out.1, rfl, rfl⟩
        case measure =>
          have := hid.out
          simp only [intOf]
          omega
      · subst c
        rw [hL]
        clear keep hj hL tL
        go_wp2
        go_ret2
        exact ⟨rfl, rfl⟩

set_option maxHeartbeats 4000000 in
theorem rof_t_d (n : Int) (m s s1 L L1 P R H M0 M1 W : Nat) (w : World) (hz : (n == 0) = false)
    (keep : ∀ j, j ≤ s → (j < s ∧ decide (9007199254740992 ≤ (m : Int) / 2 ^ j) = true ∧ (j : Int) ≤ 11) ∨ j = s)
    (tL : decide ((m : Int) < 4503599627370496) = false) (tS : decide (9007199254740992 ≤ (M0 : Int)) = false) (hs0 : 0 < s) (hs : (s : Int) ≤ 11) (hs1 : (s1 : Int) ≤ 11) (hL : 52 + s = L)
    (eP : IntKind.u64.wrap (2 ^ s) = (P : Int)) (hP0 : ¬ (P : Int) = 0) (eR : (m : Int) % (P : Int) = (R : Int)) (es : IntKind.u64.wrap ((s : Int) - 1) = (s1 : Int)) (eH : IntKind.u64.wrap (2 ^ s1) = (H : Int)) (eM0 : (m : Int) / 2 ^ s = (M0 : Int))
    (e1 : IntKind.u64.wrap ((M0 : Int) + 1) = (M1 : Int)) (tE0 : ((M0 : Int) == 9007199254740992) = false) (eL : IntKind.u64.wrap ((L : Int) + 1) = (L1 : Int))
    (hn : decide (n < 0) = true) (hm : sized n m true) (tA : ¬ H < R) (tB : ((R : Int) == (H : Int)) = false) (hW : placed true L M0 W) :
    Calls Try.prog 29 #[.int .i64 n] w fun e w' => e = .returned (.tuple #[.int .u64 (W : Int), .bool ((R : Int) == 0)]) ∧ w' = w := by
  obtain ⟨x1, x2, x3, x4, r1, r2, r3, r4, r5⟩ := hW
  rw [if_pos rfl] at r4
  obtain ⟨q1, q2, q3, g1, g2, g3, g4⟩ := hm
  go_enter Try.func29, Try.ntmps29
  go_wp2
  go_loop [5, 6] (fun a b => a = .int .u64 (m : Int) ∧ b = .int .u64 52) (fun _ _ => 0)
  case atStart => exact ⟨rfl, rfl⟩
  case round =>
    obtain ⟨rfl, rfl⟩ := hrel
    go_wp2
    go_loop [9, 6] (fun a b => ∃ j : Nat, j ≤ s ∧ a = .int .u64 (j : Int) ∧ b = .int .u64 ((52 + j : Nat) : Int)) (fun a _ => s - (intOf a).toNat)
    case atStart => exact ⟨0, Nat.zero_le _, rfl, rfl⟩
    case round =>
      obtain ⟨j, hj, rfl, rfl⟩ := hrel
      rcases keep j hj with ⟨c, b, bj⟩ | c
      · obtain ⟨u, hu⟩ : ∃ u, 52 + j = u := ⟨_, rfl⟩
        have b1 := ups (a := j) (b := j + 1) (by omega) rfl
        have b2 := ups (a := u) (b := 52 + (j + 1)) (by omega) (by omega)
        rw [hu]
        have hid := Lib.hid (And.intro c hu)
        clear c hu keep hj tL tS hL eP eR es eH eM0 e1 tE0 eL r1 r2 r3 r4 r5 hs0 hs hs1 hP0 tA tB
        go_wp2
        go_round
        case rel => exact ⟨j + 1, hid.out.1, rfl, rfl⟩
        case measure =>
          have := hid.out
          simp only [intOf]
          omega
      · subst c
        rw [hL]
        clear keep hj hL tL
        go_wp2
        go_ret2
        exact ⟨rfl, rfl⟩

end Go.Proofs.Ytagempkaophnaaa
