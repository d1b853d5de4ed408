/- The contracts of the small functions: of the program and of the document. -/
import Derived.Test.YthokalcibjjihaaGreatDoorRows
import Derived.Test.YthokalcibjjihaaGreatDoorHNum
import Derived.Test.YthokalcibjjihaaGreatDoorHLen
import Derived.WalkKit
import Derived.WalkLawsBesides
import Derived.ProofKit
import Derived.IntWalk
import Derived.Lib.Hide
import Derived.Laws.BitsAllLaws
import Derived.Deep.QuietTactic
import Derived.BigQuiet
namespace Go.Proofs.YthokalcibjjihaaGreatDoor.hd
open Go.ChangeShapes Go.WideShapes Go.ChangeAt Go.RowKit

theorem ret_int {k : IntKind} {a b : Int} (h : a = b) : Ending.returned (.int k a) = .returned (.int k b) := by rw [h]
theorem ret_bool {a b : Bool} (h : a = b) : Ending.returned (.bool a) = .returned (.bool b) := by rw [h]

theorem wf_bd {a : Int} (h : (Lit.int .i64 a).wf = true) : -9223372036854775808 ≤ a ∧ a ≤ 9223372036854775807 := by
  simp [Lit.wf, IntKind.min, IntKind.max, IntKind.signed, IntKind.bits] at h
  omega
theorem wf_ubd {a : Int} (h : (Lit.int .u64 a).wf = true) : 0 ≤ a ∧ a ≤ 18446744073709551615 := by
  simp [Lit.wf, IntKind.min, IntKind.max, IntKind.signed, IntKind.bits] at h
  omega

theorem wrap_nat {n : Nat} (h : n < 18446744073709551616) : IntKind.u64.wrap (n : Int) = (n : Int) := by rw [IntKind.wrap_u64]; omega
theorem pow_lt64 {k : Nat} (h : k < 64) : 2 ^ k < 18446744073709551616 := Nat.lt_of_lt_of_le (Nat.pow_lt_pow_right (by omega) h) (by decide)
theorem pow_cast (k : Nat) : (2 : Int) ^ k = ((2 ^ k : Nat) : Int) := by simp
theorem wrap_pow {k : Nat} (h : k < 64) : IntKind.u64.wrap (2 ^ k) = ((2 ^ k : Nat) : Int) := by rw [pow_cast]; exact wrap_nat (pow_lt64 h)

/-- may a field be? -/
def okF (f m : Int) : Bool := decide (0 ≤ f ∧ 1 ≤ m ∧ f + m ≤ 64)

theorem valid_any (f m : Int) (w : World) (h0 : -9223372036854775808 ≤ f) (h1 : f ≤ 9223372036854775807) (g0 : -9223372036854775808 ≤ m) (g1 : m ≤ 9223372036854775807) :
    Calls Tryz.prog 141 #[.int .i64 f, .int .i64 m] w fun e w' => e = .returned (.bool (okF f m)) ∧ w' = w := by
  unfold okF
  go_enter Tryz.func141, Tryz.ntmps141
  go_wp2
  all_goals go_ret
  all_goals refine ⟨ret_bool ?_, rfl⟩
  all_goals (first | (apply decide_eq_decide.2; omega) | (symm; simp; omega))

theorem ones_any (m : Nat) (w : World) (h1 : 1 ≤ m) (h2 : m ≤ 64) :
    Calls Tryz.prog 140 #[.int .i64 (m : Nat)] w fun e w' => e = .returned (.int .u64 ((2 ^ m - 1 : Nat) : Int)) ∧ w' = w := by
  go_enter Tryz.func140, Tryz.ntmps140
  go_wp2
  go_ret
  refine ⟨ret_int ?_, rfl⟩
  rw [IntKind.wrap_u64, IntKind.wrap_u64]
  have p := Nat.two_pow_pos m
  have q := pow_le64 h2
  have e : (2 : Int) ^ m = ((2 ^ m : Nat) : Int) := by simp
  rw [e]
  generalize 2 ^ m = P at *
  omega

theorem fits_any (v m : Nat) (w : World) (hv : v < 18446744073709551616) :
    Calls Tryz.prog 138 #[.int .u64 (v : Nat), .int .i64 (m : Nat)] w fun e w' => e = .returned (.bool (decide (v < 2 ^ m))) ∧ w' = w := by
  have l := len_fits (m := m) hv
  have c := fun w => len64_any v w (by omega) (by omega)
  rw [Int.toNat_natCast] at c
  generalize Lib.bitLen v = L at *
  go_enter Tryz.func138, Tryz.ntmps138
  go_wp2_with (go_at_call 142; refine (c _).mono ?_; rintro e w' ⟨rfl, hw⟩; rw [hw])
  go_ret
  exact ⟨rfl, rfl⟩

theorem okF_nat {f m : Nat} (h1 : 1 ≤ m) (h : f + m ≤ 64) : okF (f : Int) (m : Int) = true := decide_eq_true ⟨by omega, by omega, by omega⟩

theorem okF_true {f m : Int} (h : okF f m = true) : ∃ F M : Nat, f = F ∧ m = M ∧ 1 ≤ M ∧ F + M ≤ 64 := by
  have := of_decide_eq_true h
  exact ⟨f.toNat, m.toNat, by omega, by omega, by omega, by omega⟩

end Go.Proofs.YthokalcibjjihaaGreatDoor.hd
