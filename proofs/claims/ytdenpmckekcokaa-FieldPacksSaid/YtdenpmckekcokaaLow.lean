/- The contracts of the small functions: of the program and of the document. -/
import Derived.Test.YtdenpmckekcokaaRows
import Derived.Test.YtdenpmckekcokaaNum
import Derived.Test.YtdenpmckekcokaaLen
import Derived.WalkKit
import Derived.WalkLawsBesides
import Derived.ProofKit
import Derived.IntWalk
import Derived.Lib.Hide
import Derived.Laws.BitsAllLaws
import Derived.Deep.QuietTactic
import Derived.BigQuiet
namespace Go.Proofs.Ytdenpmckekcokaa
open Go.ChangeShapes Go.WideShapes Go.ChangeAt Go.RowKit

theorem ret_int {k : IntKind} {a b : Int} (h : a = b) : Ending.returned (.int k a) = .returned (.int k b) := by rw [h]
theorem ret_bool {a b : Bool} (h : a = b) : Ending.returned (.bool a) = .returned (.bool b) := by rw [h]

theorem wf_bd {a : Int} (h : (Lit.int .i64 a).wf = true) : -9223372036854775808 ≤ a ∧ a ≤ 9223372036854775807 := by
  simp [Lit.wf, IntKind.min, IntKind.max, IntKind.signed, IntKind.bits] at h
  omega
theorem wf_ubd {a : Int} (h : (Lit.int .u64 a).wf = true) : 0 ≤ a ∧ a ≤ 18446744073709551615 := by
  simp [Lit.wf, IntKind.min, IntKind.max, IntKind.signed, IntKind.bits] at h
  omega

theorem wrap_nat {n : Nat} (h : n < 18446744073709551616) : IntKind.u64.wrap (n : Int) = (n : Int) := by rw [IntKind.wrap_u64]; omega
theorem pow_lt64 {k : Nat} (h : k < 64) : 2 ^ k < 18446744073709551616 := Nat.lt_of_lt_of_le (Nat.pow_lt_pow_right (by omega) h) (by decide)
theorem pow_cast (k : Nat) : (2 : Int) ^ k = ((2 ^ k : Nat) : Int) := by simp
theorem wrap_pow {k : Nat} (h : k < 64) : IntKind.u64.wrap (2 ^ k) = ((2 ^ k : Nat) : Int) := by rw [pow_cast]; exact wrap_nat (pow_lt64 h)

/-- may a field be? -/
def okF (f m : Int) : Bool := decide (0 ≤ f ∧ 1 ≤ m ∧ f + m ≤ 64)

theorem valid_any (f m : Int) (w : World) (h0 : -9223372036854775808 ≤ f) (h1 : f ≤ 9223372036854775807) (g0 : -9223372036854775808 ≤ m) (g1 : m ≤ 9223372036854775807) :
    Calls Try.prog 19 #[.int .i64 f, .int .i64 m] w fun e w' => e = .returned (.bool (okF f m)) ∧ w' = w := by
  unfold okF
  go_enter Try.func19, Try.ntmps19
  go_wp2
  all_goals go_ret
  all_goals refine ⟨ret_bool ?_, rfl⟩
  all_goals (first | (apply decide_eq_decide.2; omega) | (symm; simp; omega))

theorem may_any (f m : Int) (w : World) (h0 : -9223372036854775808 ≤ f) (h1 : f ≤ 9223372036854775807) (g0 : -9223372036854775808 ≤ m) (g1 : m ≤ 9223372036854775807) :
    Calls Try.prog 21 #[.int .i64 f, .int .i64 m] w fun e w' => e = .returned (.bool (okF f m)) ∧ w' = w := by
  unfold okF
  go_enter Try.func21, Try.ntmps21
  go_wp2
  all_goals go_ret
  all_goals refine ⟨ret_bool ?_, rfl⟩
  all_goals (first | (apply decide_eq_decide.2; omega) | (symm; simp; omega))

theorem ones_any (m : Nat) (w : World) (h1 : 1 ≤ m) (h2 : m ≤ 64) :
    Calls Try.prog 20 #[.int .i64 (m : Nat)] w fun e w' => e = .returned (.int .u64 ((2 ^ m - 1 : Nat) : Int)) ∧ w' = w := by
  go_enter Try.func20, Try.ntmps20
  go_wp2
  go_ret
  refine ⟨ret_int ?_, rfl⟩
  rw [IntKind.wrap_u64, IntKind.wrap_u64]
  have p := Nat.two_pow_pos m
  have q := pow_le64 h2
  have e : (2 : Int) ^ m = ((2 ^ m : Nat) : Int) := by simp
  rw [e]
  generalize 2 ^ m = P at *
  omega

theorem fits_any (v m : Nat) (w : World) (hv : v < 18446744073709551616) :
    Calls Try.prog 24 #[.int .u64 (v : Nat), .int .i64 (m : Nat)] w fun e w' => e = .returned (.bool (decide (v < 2 ^ m))) ∧ w' = w := by
  have l := len_fits (m := m) hv
  have c := fun w => len64_any v w (by omega) (by omega)
  rw [Int.toNat_natCast] at c
  generalize Lib.bitLen v = L at *
  go_enter Try.func24, Try.ntmps24
  go_wp2_with (go_at_call 30; refine (c _).mono ?_; rintro e w' ⟨rfl, hw⟩; rw [hw])
  go_ret
  exact ⟨rfl, rfl⟩

theorem bit_any (v i : Nat) (w : World) (h2 : i < 64) :
    Calls Try.prog 23 #[.int .u64 (v : Nat), .int .i64 (i : Nat)] w fun e w' => e = .returned (.bool (v.testBit i)) ∧ w' = w := by
  go_enter Try.func23, Try.ntmps23
  go_wp2
  go_ret
  refine ⟨ret_bool ?_, rfl⟩
  rw [Nat.testBit_eq_decide_div_mod_eq]
  have e : ((v : Int) / 2 ^ i) = ((v / 2 ^ i : Nat) : Int) := by simp
  rw [e]
  generalize v / 2 ^ i = q
  have e2 : ((q : Int)).tmod 2 = ((q % 2 : Nat) : Int) := by rw [Int.tmod_eq_emod_of_nonneg (by omega)]; omega
  rw [e2]
  by_cases c : q % 2 = 1
  · rw [c]; rfl
  · rw [decide_eq_false c]; have c' : q % 2 = 0 := by omega
    rw [c']; rfl

theorem with_any (v i : Nat) (b : Bool) (w : World) (hv : v < 18446744073709551616) (h2 : i < 64) :
    Calls Try.prog 22 #[.int .u64 (v : Nat), .int .i64 (i : Nat), .bool b] w fun e w' => e = .returned (.int .u64 (withV v i b : Nat)) ∧ w' = w := by
  have c := bit_any v i w h2
  have e : withV v i b = if v.testBit i = b then v else v ^^^ 2 ^ i := rfl
  generalize withV v i b = R at *
  generalize v.testBit i = t at *
  go_enter Try.func22, Try.ntmps22
  go_wp2_with (go_at_call 23; refine c.mono ?_; rintro e w' ⟨rfl, hw⟩; rw [hw])
  all_goals go_ret
  all_goals refine ⟨ret_int ?_, rfl⟩
  · rename_i hb
    rw [e, if_pos (by simpa using hb)]
  · rename_i hb
    rw [e, if_neg (by simpa using hb), wrap_pow h2, u64_xor_nat v (2 ^ i) hv (pow_lt64 h2)]


theorem okF_nat {f m : Nat} (h1 : 1 ≤ m) (h : f + m ≤ 64) : okF (f : Int) (m : Int) = true := decide_eq_true ⟨by omega, by omega, by omega⟩

theorem rfits_any (v m : Nat) (w : World) (hv : v < 18446744073709551616) (hm : m ≤ 64) :
    Calls Try.prog 25 #[.int .u64 (v : Nat), .int .i64 (m : Nat)] w fun e w' => e = .returned (.bool (decide (v < 2 ^ m))) ∧ w' = w := by
  obtain ⟨R, hR⟩ : ∃ R, decide (v < 2 ^ m) = R := ⟨_, rfl⟩
  rw [hR]
  have hidR := Lib.hid hR
  clear hR
  go_enter Try.func25, Try.ntmps25
  go_wp2
  go_loop [5] (fun i => ∃ k : Nat, m ≤ k ∧ k ≤ 64 ∧ i = .int .i64 (k : Nat) ∧ ∀ j, m ≤ j → j < k → v.testBit j = false) (fun i => 64 - (intOf i).toNat)
  case atStart => exact ⟨m, Nat.le_refl _, hm, rfl, fun j h1 h2 => by omega⟩
  case round =>
    obtain ⟨k, hk, hk2, rfl, hall⟩ := hrel
    by_cases c : k < 64
    · have b := fun w => bit_any v k w c
      cases t : v.testBit k
      · rw [t] at b
        have hid := Lib.hid hall
        clear hall
        go_wp2_with (go_at_call 23; refine (b _).mono ?_; rintro e w' ⟨rfl, hw⟩; rw [hw])
        go_round
        case rel =>
          refine ⟨k + 1, by omega, by omega, by go_num, fun j h1 h2 => ?_⟩
          by_cases d : j = k
          · rw [d, t]
          · exact hid.out j h1 (by omega)
        case measure => simp only [intOf]; omega
      · rw [t] at b
        have no : decide (v < 2 ^ m) = false := decide_eq_false fun h => by
          rw [high_bit h hk] at t; cases t
        have hR := hidR.out
        rw [no] at hR
        subst hR
        clear hall no
        go_wp2_with (go_at_call 23; refine (b _).mono ?_; rintro e w' ⟨rfl, hw⟩; rw [hw])
        go_ret
        exact ⟨rfl, rfl⟩
    · obtain rfl : k = 64 := by omega
      have hR := hidR.out
      rw [decide_eq_true (fits_bits hall hv)] at hR
      subst hR
      clear hall
      go_wp2
      go_ret
      exact ⟨rfl, rfl⟩

/-- what Get answers -/
def getR (w : Nat) (f m : Int) : Nat := if okF f m = true then getV w f.toNat m.toNat else 0
def getE (f m : Int) : Int := if okF f m = true then 0 else 2

theorem getR_ok {w f m : Nat} (h1 : 1 ≤ m) (h : f + m ≤ 64) : getR w (f : Int) (m : Int) = getV w f m := by unfold getR; rw [if_pos (okF_nat h1 h), Int.toNat_natCast, Int.toNat_natCast]
theorem getE_ok {f m : Nat} (h1 : 1 ≤ m) (h : f + m ≤ 64) : getE (f : Int) (m : Int) = 0 := by unfold getE; rw [if_pos (okF_nat h1 h)]

theorem okF_true {f m : Int} (h : okF f m = true) : ∃ F M : Nat, f = F ∧ m = M ∧ 1 ≤ M ∧ F + M ≤ 64 := by
  have := of_decide_eq_true h
  exact ⟨f.toNat, m.toNat, by omega, by omega, by omega, by omega⟩

theorem get_ok (v f m : Nat) (w : World) (hv : v < 18446744073709551616) (h1 : 1 ≤ m) (h : f + m ≤ 64) :
    Calls Try.prog 9 #[.int .u64 (v : Nat), .int .i64 (f : Nat), .int .i64 (m : Nat)] w fun e w' => e = .returned (.tuple #[.int .u64 (getV v f m : Nat), .int .i64 0]) ∧ ∃ q, w' = w.drewN q := by
  have a := fun w => valid_any f m w (by omega) (by omega) (by omega) (by omega)
  rw [okF_nat h1 h] at a
  have o := fun q => ones_any m (w.drewN q) h1 (by omega)
  have e1 : (v : Int) / 2 ^ f = ((v / 2 ^ f : Nat) : Int) := by simp
  have e2 : bits .and .u64 ((v / 2 ^ f : Nat) : Int) ((2 ^ m - 1 : Nat) : Int) = (getV v f m : Nat) :=
    u64_and_nat _ _ (Nat.lt_of_le_of_lt (Nat.div_le_self _ _) hv) (by have := pow_le64 (show m ≤ 64 by omega); have := Nat.two_pow_pos m; omega)
  generalize getV v f m = R at *
  generalize 2 ^ m - 1 = O at *
  generalize v / 2 ^ f = S at *
  go_enter Try.func9, Try.ntmps9
  go_wp2_with (go_at_call 19; refine (a _).mono ?_; rintro e w' ⟨rfl, hw⟩; rw [hw])
  go_quiet (first | (go_at_call 20; refine Calls.quiet_of_same (o _)))
  go_wp2
  go_ret2
  exact ⟨rfl, _, rfl⟩

theorem get_any (v : Nat) (f m : Int) (w : World) (hv : v < 18446744073709551616) (h0 : -9223372036854775808 ≤ f) (h1 : f ≤ 9223372036854775807) (g0 : -9223372036854775808 ≤ m) (g1 : m ≤ 9223372036854775807) :
    Calls Try.prog 9 #[.int .u64 (v : Nat), .int .i64 f, .int .i64 m] w fun e w' => e = .returned (.tuple #[.int .u64 (getR v f m : Nat), .int .i64 (getE f m)]) ∧ ∃ q, w' = w.drewN q := by
  cases c : okF f m
  · have a := fun w => valid_any f m w h0 h1 g0 g1
    unfold getR getE
    rw [c] at a ⊢
    simp only [if_false, Bool.false_eq_true]
    go_enter Try.func9, Try.ntmps9
    go_wp2_with (go_at_call 19; refine (a _).mono ?_; rintro e w' ⟨rfl, hw⟩; rw [hw])
    go_ret2
    exact ⟨rfl, 0, rfl⟩
  · obtain ⟨F, M, rfl, rfl, k1, k2⟩ := okF_true c
    rw [getR_ok k1 k2, getE_ok k1 k2]
    exact get_ok v F M w hv k1 k2

theorem rget_any (v : Nat) (f m : Int) (w : World) (hv : v < 18446744073709551616) (h0 : -9223372036854775808 ≤ f) (h1 : f ≤ 9223372036854775807) (g0 : -9223372036854775808 ≤ m) (g1 : m ≤ 9223372036854775807) :
    Calls Try.prog 10 #[.int .u64 (v : Nat), .int .i64 f, .int .i64 m] w fun e w' => e = .returned (.tuple #[.int .u64 (getR v f m : Nat), .int .i64 (getE f m)]) ∧ w' = w := by
  cases c : okF f m
  · have a := fun w => may_any f m w h0 h1 g0 g1
    unfold getR getE
    rw [c] at a ⊢
    simp only [if_false, Bool.false_eq_true]
    go_enter Try.func10, Try.ntmps10
    go_wp2_with (go_at_call 21; refine (a _).mono ?_; rintro e w' ⟨rfl, hw⟩; rw [hw])
    go_ret2
    exact ⟨rfl, rfl⟩
  · have a := fun w => may_any f m w h0 h1 g0 g1
    rw [c] at a
    obtain ⟨F, M, rfl, rfl, k1, k2⟩ := okF_true c
    rw [getR_ok k1 k2, getE_ok k1 k2]
    clear c h0 h1 g0 g1
    go_enter Try.func10, Try.ntmps10
    go_wp2_with (go_at_call 21; refine (a _).mono ?_; rintro e w' ⟨rfl, hw⟩; rw [hw])
    clear a
    go_loop [8, 9] (fun x i => ∃ k : Nat, k ≤ M ∧ x = .int .u64 (getV v F k : Nat) ∧ i = .int .i64 (k : Nat)) (fun _ i => M - (intOf i).toNat)
    case atStart => exact ⟨0, Nat.zero_le _, by rw [getV_zero]; rfl, rfl⟩
    case round =>
      obtain ⟨k, hk, rfl, rfl⟩ := hrel
      by_cases ck : k < M
      · have b := fun w => bit_any v (F + k) w (by omega)
        rw [Int.natCast_add] at b
        have lt : getV v F k < 18446744073709551616 := Nat.lt_of_lt_of_le (getV_lt v F k) (pow_le64 (by omega))
        have wi := fun w => with_any (getV v F k) k (v.testBit (F + k)) w lt (by omega)
        rw [getV_succ] at wi
        generalize hN : getV v F (k + 1) = N at *
        have hid := Lib.hid hN
        clear hN
        generalize v.testBit (F + k) = t at *
        generalize getV v F k = G at *
        go_wp2_with (first | (go_at_call 23; refine (b _).mono ?_; rintro e w' ⟨rfl, hw⟩; rw [hw]) | (go_at_call 22; refine (wi _).mono ?_; rintro e w' ⟨rfl, hw⟩; rw [hw]))
        go_round
        case rel => exact ⟨k + 1, by omega, by rw [hid.out], by go_num⟩
        case measure => simp only [intOf]; omega
      · obtain rfl : k = M := by omega
        go_wp2
        go_ret2
        exact ⟨rfl, rfl⟩

/-- what Set answers -/
def setR (w : Nat) (f m : Int) (v : Nat) : Nat := if okF f m = true then (if v < 2 ^ m.toNat then setV w f.toNat m.toNat v else 0) else 0
def setE (f m : Int) (v : Nat) : Int := if okF f m = true then (if v < 2 ^ m.toNat then 0 else 4) else 2

theorem setR_ok {w f m v : Nat} (h1 : 1 ≤ m) (h : f + m ≤ 64) (hv : v < 2 ^ m) : setR w (f : Int) (m : Int) v = setV w f m v := by unfold setR; rw [if_pos (okF_nat h1 h), Int.toNat_natCast, Int.toNat_natCast, if_pos hv]
theorem setE_ok {f m v : Nat} (h1 : 1 ≤ m) (h : f + m ≤ 64) (hv : v < 2 ^ m) : setE (f : Int) (m : Int) v = 0 := by unfold setE; rw [if_pos (okF_nat h1 h), Int.toNat_natCast, if_pos hv]
theorem setR_big {w f m v : Nat} (h1 : 1 ≤ m) (h : f + m ≤ 64) (hv : ¬ v < 2 ^ m) : setR w (f : Int) (m : Int) v = 0 := by unfold setR; rw [if_pos (okF_nat h1 h), Int.toNat_natCast, if_neg hv]
theorem setE_big {f m v : Nat} (h1 : 1 ≤ m) (h : f + m ≤ 64) (hv : ¬ v < 2 ^ m) : setE (f : Int) (m : Int) v = 4 := by unfold setE; rw [if_pos (okF_nat h1 h), Int.toNat_natCast, if_neg hv]
theorem setR_no {w v : Nat} {f m : Int} (c : okF f m = false) : setR w f m v = 0 := by unfold setR; rw [c]; rfl
theorem setE_no {v : Nat} {f m : Int} (c : okF f m = false) : setE f m v = 2 := by unfold setE; rw [c]; rfl

theorem set_ok (u f m v : Nat) (w : World) (hu : u < 18446744073709551616) (h1 : 1 ≤ m) (h : f + m ≤ 64) (hv : v < 2 ^ m) :
    Calls Try.prog 11 #[.int .u64 (u : Nat), .int .i64 (f : Nat), .int .i64 (m : Nat), .int .u64 (v : Nat)] w fun e w' => e = .returned (.tuple #[.int .u64 (setV u f m v : Nat), .int .i64 0]) ∧ ∃ q, w' = w.drewN q := by
  have a := fun w => valid_any f m w (by omega) (by omega) (by omega) (by omega)
  rw [okF_nat h1 h] at a
  have hv64 := Nat.lt_of_lt_of_le hv (pow_le64 (by omega : m ≤ 64))
  have ft := fun w => fits_any v m w hv64
  rw [decide_eq_true hv] at ft
  have o := fun q => ones_any m (w.drewN q) h1 (by omega)
  have e1 : IntKind.u64.wrap (((2 ^ m - 1 : Nat) : Int) * 2 ^ f) = (((2 ^ m - 1) * 2 ^ f : Nat) : Int) := by
    rw [pow_cast, ← Int.natCast_mul]; exact wrap_nat (mask_lt h)
  have e2 : bits .andNot .u64 (u : Int) (((2 ^ m - 1) * 2 ^ f : Nat) : Int) = ((u &&& (18446744073709551615 - (2 ^ m - 1) * 2 ^ f) : Nat) : Int) := u64_andNot_nat _ _ hu (mask_lt h)
  have e3 : IntKind.u64.wrap ((v : Int) * 2 ^ f) = ((v * 2 ^ f : Nat) : Int) := by
    rw [pow_cast, ← Int.natCast_mul]; exact wrap_nat (part_lt h hv)
  have e4 : bits .or .u64 ((u &&& (18446744073709551615 - (2 ^ m - 1) * 2 ^ f) : Nat) : Int) ((v * 2 ^ f : Nat) : Int) = (setV u f m v : Nat) :=
    u64_or_nat _ _ (Nat.lt_of_le_of_lt Nat.and_le_left hu) (part_lt h hv)
  generalize setV u f m v = R at *
  generalize u &&& (18446744073709551615 - (2 ^ m - 1) * 2 ^ f) = A at *
  generalize (2 ^ m - 1) * 2 ^ f = B at *
  generalize 2 ^ m - 1 = O at *
  generalize v * 2 ^ f = V at *
  clear hv
  go_enter Try.func11, Try.ntmps11
  go_wp2_with (first | (go_at_call 19; refine (a _).mono ?_; rintro e w' ⟨rfl, hw⟩; rw [hw]) | (go_at_call 24; refine (ft _).mono ?_; rintro e w' ⟨rfl, hw⟩; rw [hw]))
  go_quiet (first | (go_at_call 20; refine Calls.quiet_of_same (o _)))
  go_wp2
  go_ret2
  exact ⟨rfl, _, rfl⟩

theorem set_any (u : Nat) (f m : Int) (v : Nat) (w : World) (hu : u < 18446744073709551616) (hv : v < 18446744073709551616) (h0 : -9223372036854775808 ≤ f) (h1 : f ≤ 9223372036854775807) (g0 : -9223372036854775808 ≤ m) (g1 : m ≤ 9223372036854775807) :
    Calls Try.prog 11 #[.int .u64 (u : Nat), .int .i64 f, .int .i64 m, .int .u64 (v : Nat)] w fun e w' => e = .returned (.tuple #[.int .u64 (setR u f m v : Nat), .int .i64 (setE f m v)]) ∧ ∃ q, w' = w.drewN q := by
  have a := fun w => valid_any f m w h0 h1 g0 g1
  cases c : okF f m
  · rw [setR_no c, setE_no c]
    rw [c] at a
    go_enter Try.func11, Try.ntmps11
    go_wp2_with (go_at_call 19; refine (a _).mono ?_; rintro e w' ⟨rfl, hw⟩; rw [hw])
    go_ret2
    exact ⟨rfl, 0, rfl⟩
  · rw [c] at a
    obtain ⟨F, M, rfl, rfl, k1, k2⟩ := okF_true c
    by_cases d : v < 2 ^ M
    · rw [setR_ok k1 k2 d, setE_ok k1 k2 d]
      exact set_ok u F M v w hu k1 k2 d
    · rw [setR_big k1 k2 d, setE_big k1 k2 d]
      have ft := fun w => fits_any v M w hv
      rw [decide_eq_false d] at ft
      clear d c
      go_enter Try.func11, Try.ntmps11
      go_wp2_with (first | (go_at_call 19; refine (a _).mono ?_; rintro e w' ⟨rfl, hw⟩; rw [hw]) | (go_at_call 24; refine (ft _).mono ?_; rintro e w' ⟨rfl, hw⟩; rw [hw]))
      go_ret2
      exact ⟨rfl, 0, rfl⟩

theorem rset_any (u : Nat) (f m : Int) (v : Nat) (w : World) (hu : u < 18446744073709551616) (hv : v < 18446744073709551616) (h0 : -9223372036854775808 ≤ f) (h1 : f ≤ 9223372036854775807) (g0 : -9223372036854775808 ≤ m) (g1 : m ≤ 9223372036854775807) :
    Calls Try.prog 12 #[.int .u64 (u : Nat), .int .i64 f, .int .i64 m, .int .u64 (v : Nat)] w fun e w' => e = .returned (.tuple #[.int .u64 (setR u f m v : Nat), .int .i64 (setE f m v)]) ∧ w' = w := by
  have a := fun w => may_any f m w h0 h1 g0 g1
  cases c : okF f m
  · rw [setR_no c, setE_no c]
    rw [c] at a
    go_enter Try.func12, Try.ntmps12
    go_wp2_with (go_at_call 21; refine (a _).mono ?_; rintro e w' ⟨rfl, hw⟩; rw [hw])
    go_ret2
    exact ⟨rfl, rfl⟩
  · rw [c] at a
    obtain ⟨F, M, rfl, rfl, k1, k2⟩ := okF_true c
    have ft := fun w => rfits_any v M w hv (by omega)
    by_cases d : v < 2 ^ M
    · rw [setR_ok k1 k2 d, setE_ok k1 k2 d, ← stepV_all k2 d hu]
      rw [decide_eq_true d] at ft
      clear d c h0 h1 g0 g1
      go_enter Try.func12, Try.ntmps12
      go_wp2_with (first | (go_at_call 21; refine (a _).mono ?_; rintro e w' ⟨rfl, hw⟩; rw [hw]) | (go_at_call 25; refine (ft _).mono ?_; rintro e w' ⟨rfl, hw⟩; rw [hw]))
      clear a ft
      go_loop [0, 10] (fun x i => ∃ k : Nat, k ≤ M ∧ x = .int .u64 (stepV u F v k : Nat) ∧ i = .int .i64 (k : Nat)) (fun _ i => M - (intOf i).toNat)
      case atStart => exact ⟨0, Nat.zero_le _, rfl, rfl⟩
      case round =>
        obtain ⟨k, hk, rfl, rfl⟩ := hrel
        by_cases ck : k < M
        · have b := fun w => bit_any v k w (by omega)
          have wi := fun w => with_any (stepV u F v k) (F + k) (v.testBit k) w (stepV_lt hu (by omega)) (by omega)
          rw [Int.natCast_add] at wi
          have hN : withV (stepV u F v k) (F + k) (v.testBit k) = stepV u F v (k + 1) := rfl
          rw [hN] at wi
          clear hN
          generalize hN : stepV u F v (k + 1) = N at *
          have hid := Lib.hid hN
          clear hN
          generalize v.testBit k = t at *
          generalize stepV u F v k = G at *
          go_wp2_with (first | (go_at_call 23; refine (b _).mono ?_; rintro e w' ⟨rfl, hw⟩; rw [hw]) | (go_at_call 22; refine (wi _).mono ?_; rintro e w' ⟨rfl, hw⟩; rw [hw]))
          go_round
          case rel => exact ⟨k + 1, by omega, by rw [hid.out], by go_num⟩
          case measure => simp only [intOf]; omega
        · obtain rfl : k = M := by omega
          go_wp2
          go_ret2
          exact ⟨rfl, rfl⟩
    · rw [setR_big k1 k2 d, setE_big k1 k2 d]
      rw [decide_eq_false d] at ft
      clear d c
      go_enter Try.func12, Try.ntmps12
      go_wp2_with (first | (go_at_call 21; refine (a _).mono ?_; rintro e w' ⟨rfl, hw⟩; rw [hw]) | (go_at_call 25; refine (ft _).mono ?_; rintro e w' ⟨rfl, hw⟩; rw [hw]))
      go_ret2
      exact ⟨rfl, rfl⟩

end Go.Proofs.Ytdenpmckekcokaa
