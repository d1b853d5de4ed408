/- The contracts of the small functions of the program. -/
import Derived.Test.YtebcmfggmlapdaaDoorMem
namespace Go.Proofs.YtebcmfggmlapdaaDoor
open Go.ChangeShapes Go.WideShapes Go.ChangeAt Go.RowKit

theorem len_any {p : Value} {n : Nat} {s : Value} {m : Bool} (w : World) (h : Hdr w p n s m) :
    Calls Tryd.prog 12 #[p] w fun e w' => e = .returned (.int .i64 (n : Nat)) ∧ w' = w := by
  rcases h with ⟨rfl, rfl, rfl, rfl⟩ | ⟨b, rfl, h1, h2, h3⟩
  · go_enter Tryd.func12, Tryd.ntmps12
    go_wp2
    go_ret
    exact ⟨rfl, rfl⟩
  · go_enter Tryd.func12, Tryd.ntmps12
    go_wp2
    go_ret
    exact ⟨rfl, rfl⟩

theorem held_any {p : Value} {n : Nat} {s : Value} {m : Bool} (w : World) (h : Hdr w p n s m) :
    Calls Tryd.prog 31 #[p] w fun e w' => e = .returned s ∧ w' = w := by
  rcases h with ⟨rfl, rfl, rfl, rfl⟩ | ⟨b, rfl, h1, h2, h3⟩
  · go_enter Tryd.func31, Tryd.ntmps31
    go_wp2
    go_ret
    exact ⟨rfl, rfl⟩
  · go_enter Tryd.func31, Tryd.ntmps31
    go_wp2
    go_ret
    exact ⟨rfl, rfl⟩

theorem exists_any {p : Value} {n : Nat} {s : Value} {m : Bool} (w : World) (h : Hdr w p n s m) :
    Calls Tryd.prog 32 #[p] w fun e w' => e = .returned (.bool m) ∧ w' = w := by
  rcases h with ⟨rfl, rfl, rfl, rfl⟩ | ⟨b, rfl, h1, h2, h3⟩
  · go_enter Tryd.func32, Tryd.ntmps32
    go_wp2
    go_ret
    exact ⟨rfl, rfl⟩
  · go_enter Tryd.func32, Tryd.ntmps32
    go_wp2
    go_ret
    exact ⟨rfl, rfl⟩

/-- is there a bit? -/
def there (n : Nat) (i : Int) : Bool := decide (0 ≤ i ∧ i < n)

theorem has_any {p : Value} {n : Nat} {s : Value} {m : Bool} (i : Int) (w : World) (h : Hdr w p n s m) :
    Calls Tryd.prog 33 #[p, .int .i64 i] w fun e w' => e = .returned (.bool (there n i)) ∧ w' = w := by
  have c := len_any w h
  clear h
  by_cases h0 : 0 ≤ i
  · have e : there n i = decide (i < (n : Int)) := by unfold there; simp [h0]
    rw [e]
    have d : decide (0 ≤ i) = true := decide_eq_true h0
    go_enter Tryd.func33, Tryd.ntmps33
    go_wp2_with (go_at_call 12; refine c.mono ?_; rintro e w' ⟨rfl, hw⟩; rw [hw])
    go_ret
    exact ⟨rfl, rfl⟩
  · have e : there n i = false := decide_eq_false (by omega)
    rw [e]
    have d : decide (0 ≤ i) = false := decide_eq_false h0
    clear c
    go_enter Tryd.func33, Tryd.ntmps33
    go_wp2
    go_ret
    exact ⟨rfl, rfl⟩

theorem ones_any (m : Nat) (w : World) (h2 : m ≤ 64) :
    Calls Tryd.prog 29 #[.int .i64 (m : Nat)] w fun e w' => e = .returned (.int .u64 ((2 ^ m - 1 : Nat) : Int)) ∧ w' = w := by
  go_enter Tryd.func29, Tryd.ntmps29
  go_wp2
  go_ret
  refine ⟨ret_int ?_, rfl⟩
  rw [IntKind.wrap_u64, IntKind.wrap_u64]
  have p := Nat.two_pow_pos m
  have q : 2 ^ m ≤ 18446744073709551616 := Nat.le_trans (Nat.pow_le_pow_right (by decide) h2) (Nat.le_refl (2 ^ 64))
  have e : (2 : Int) ^ m = ((2 ^ m : Nat) : Int) := by simp
  rw [e]
  generalize 2 ^ m = P at *
  omega

/-- is the bit 1? -/
def getB (n : Nat) (f : Nat → Bool) (i : Int) : Bool := there n i && f i.toNat

theorem get_no {p : Value} {n : Nat} {s : Value} {m : Bool} (i : Int) (w : World) (h : Hdr w p n s m) (no : there n i = false) :
    Calls Tryd.prog 23 #[p, .int .i64 i] w fun e w' => e = .returned (.bool false) ∧ w' = w := by
  have c := has_any i w h
  rw [no] at c
  clear h no
  go_enter Tryd.func23, Tryd.ntmps23
  go_wp2_with (go_at_call 33; refine c.mono ?_; rintro e w' ⟨rfl, hw⟩; rw [hw])
  go_ret
  exact ⟨rfl, rfl⟩

theorem u64_and_nat (a b : Nat) (ha : a < 18446744073709551616) (hb : b < 18446744073709551616) : bits .and .u64 (a : Int) (b : Int) = ((a &&& b : Nat) : Int) := by
  have hx : a &&& b < 2 ^ 64 := Nat.and_lt_two_pow _ (by omega)
  have h1 : (BitVec.ofInt 64 (a : Int)).toNat = a := by
    rw [BitVec.ofInt_natCast, BitVec.toNat_ofNat]; exact Nat.mod_eq_of_lt (by omega)
  have h2 : (BitVec.ofInt 64 (b : Int)).toNat = b := by
    rw [BitVec.ofInt_natCast, BitVec.toNat_ofNat]; exact Nat.mod_eq_of_lt (by omega)
  show IntKind.u64.wrap ((BitVec.ofInt 64 (a : Int) &&& BitVec.ofInt 64 (b : Int)).toNat : Int) = _
  rw [BitVec.toNat_and, h1, h2, IntKind.wrap_u64]
  omega
theorem u64_or_nat (a b : Nat) (ha : a < 18446744073709551616) (hb : b < 18446744073709551616) : bits .or .u64 (a : Int) (b : Int) = ((a ||| b : Nat) : Int) := by
  have hx : a ||| b < 2 ^ 64 := Nat.or_lt_two_pow (by omega) (by omega)
  have h1 : (BitVec.ofInt 64 (a : Int)).toNat = a := by
    rw [BitVec.ofInt_natCast, BitVec.toNat_ofNat]; exact Nat.mod_eq_of_lt (by omega)
  have h2 : (BitVec.ofInt 64 (b : Int)).toNat = b := by
    rw [BitVec.ofInt_natCast, BitVec.toNat_ofNat]; exact Nat.mod_eq_of_lt (by omega)
  show IntKind.u64.wrap ((BitVec.ofInt 64 (a : Int) ||| BitVec.ofInt 64 (b : Int)).toNat : Int) = _
  rw [BitVec.toNat_or, h1, h2, IntKind.wrap_u64]
  omega
theorem u64_xor_nat (a b : Nat) (ha : a < 18446744073709551616) (hb : b < 18446744073709551616) : bits .xor .u64 (a : Int) (b : Int) = ((a ^^^ b : Nat) : Int) := by
  have hx : a ^^^ b < 2 ^ 64 := Nat.xor_lt_two_pow (by omega) (by omega)
  have h1 : (BitVec.ofInt 64 (a : Int)).toNat = a := by
    rw [BitVec.ofInt_natCast, BitVec.toNat_ofNat]; exact Nat.mod_eq_of_lt (by omega)
  have h2 : (BitVec.ofInt 64 (b : Int)).toNat = b := by
    rw [BitVec.ofInt_natCast, BitVec.toNat_ofNat]; exact Nat.mod_eq_of_lt (by omega)
  show IntKind.u64.wrap ((BitVec.ofInt 64 (a : Int) ^^^ BitVec.ofInt 64 (b : Int)).toNat : Int) = _
  rw [BitVec.toNat_xor, h1, h2, IntKind.wrap_u64]
  omega
theorem u64_andNot_nat (a b : Nat) (ha : a < 18446744073709551616) (hb : b < 18446744073709551616) : bits .andNot .u64 (a : Int) (b : Int) = ((minus a b : Nat) : Int) := by
  have hx : minus a b < 2 ^ 64 := Nat.and_lt_two_pow _ (by omega)
  have h1 : (BitVec.ofInt 64 (a : Int)).toNat = a := by
    rw [BitVec.ofInt_natCast, BitVec.toNat_ofNat]; exact Nat.mod_eq_of_lt (by omega)
  have h2 : (BitVec.ofInt 64 (b : Int)).toNat = b := by
    rw [BitVec.ofInt_natCast, BitVec.toNat_ofNat]; exact Nat.mod_eq_of_lt (by omega)
  have h3 : (BitVec.ofInt 64 (a : Int) &&& ~~~ BitVec.ofInt 64 (b : Int)).toNat = minus a b := by
    rw [BitVec.toNat_and, BitVec.toNat_not, h1, h2]
    unfold minus
    congr 1
  show IntKind.u64.wrap ((BitVec.ofInt 64 (a : Int) &&& ~~~ BitVec.ofInt 64 (b : Int)).toNat : Int) = _
  rw [h3, IntKind.wrap_u64]
  omega

theorem wrap64_nat {k : Nat} (h : k ≤ 1000000000) : wrap64 (k : Int) = (k : Int) := IntWalk.wrap64_in _ ⟨by omega, by omega⟩
theorem bit_int (x i : Nat) : ((x : Int) / 2 ^ i) = ((x / 2 ^ i : Nat) : Int) := by simp
theorem bit_is (f : Nat → Bool) (i : Nat) : W f (i / 64) / 2 ^ (i % 64) &&& 1 = if f i then 1 else 0 := by
  rw [Nat.and_one_is_mod]
  have h := bit_W f (i / 64) (i % 64)
  rw [Nat.testBit_eq_decide_div_mod_eq, decide_eq_true (by omega : i % 64 < 64), Bool.true_and] at h
  have e : 64 * (i / 64) + i % 64 = i := by omega
  rw [e] at h
  cases hf : f i
  · rw [hf] at h
    have := of_decide_eq_false h
    simp; omega
  · rw [hf] at h
    have := of_decide_eq_true h
    simpa using this

theorem quo64 (i : Nat) : Int.tdiv (i : Int) 64 = ((i / 64 : Nat) : Int) := by
  rw [Int.tdiv_eq_ediv_of_nonneg (by omega)]; omega
theorem rem64 (i : Nat) : Int.tmod (i : Int) 64 = ((i % 64 : Nat) : Int) := by
  rw [Int.tmod_eq_emod_of_nonneg (by omega)]; omega
theorem idx {i n : Nat} (hi : i < n) (hn : n ≤ 65536) : i / 64 < nw n ∧ i % 64 < 64 ∧ wrap64 ((i / 64 : Nat) : Int) = ((i / 64 : Nat) : Int) ∧ ((i / 64 : Nat) : Int) < ((nw n : Nat) : Int) ∧ (0 : Int) ≤ ((i / 64 : Nat) : Int) := by
  have h : i / 64 < nw n := by unfold nw; omega
  exact ⟨h, by omega, wrap64_nat (by omega), by omega, by omega⟩

theorem get_yes {b g ca n : Nat} {f : Nat → Bool} (i : Nat) (w : World) (h : RowIs w b g ca n f) (hi : i < n) :
    Calls Tryd.prog 23 #[.pointer (some ⟨b, 0, none⟩), .int .i64 (i : Nat)] w fun e w' => e = .returned (.bool (f i)) ∧ w' = w := by
  have hn := h.1
  have c := has_any i w h.hdr
  rw [show there n (i : Int) = true from decide_eq_true ⟨by omega, by omega⟩] at c
  obtain ⟨h0, h1, h2⟩ := h.head
  obtain ⟨hk, h64, wK, kI, k0⟩ := idx hi hn
  obtain ⟨h3, _⟩ := h.word hk
  have e0 := quo64 i
  have e1 := rem64 i
  have e2 := bit_int (W f (i / 64)) (i % 64)
  have e3 : bits .and .u64 ((W f (i / 64) / 2 ^ (i % 64) : Nat) : Int) 1 = _ := u64_and_nat (W f (i / 64) / 2 ^ (i % 64)) 1 (Nat.lt_of_le_of_lt (Nat.div_le_self _ _) (W_lt f _)) (by decide)
  rw [bit_is] at e3
  generalize f i = t at *
  generalize W f (i / 64) / 2 ^ (i % 64) = Q at *
  generalize W f (i / 64) = R at *
  generalize i / 64 = K at *
  generalize i % 64 = J at *
  generalize nw n = N at *
  clear h hi hn
  cases t
  all_goals simp only [Bool.false_eq_true, if_false, if_true, Int.ofNat_zero, Int.ofNat_one] at e3
  · go_enter Tryd.func23, Tryd.ntmps23
    go_wp2_with (go_at_call 33; refine c.mono ?_; rintro e w' ⟨rfl, hw⟩; rw [hw])
    go_ret
    exact ⟨rfl, rfl⟩
  · go_enter Tryd.func23, Tryd.ntmps23
    go_wp2_with (go_at_call 33; refine c.mono ?_; rintro e w' ⟨rfl, hw⟩; rw [hw])
    go_ret
    exact ⟨rfl, rfl⟩

theorem get_any {b g ca n : Nat} {f : Nat → Bool} (i : Int) (w : World) (h : RowIs w b g ca n f) :
    Calls Tryd.prog 23 #[.pointer (some ⟨b, 0, none⟩), .int .i64 i] w fun e w' => e = .returned (.bool (getB n f i)) ∧ w' = w := by
  unfold getB
  cases c : there n i
  · exact get_no i w h.hdr c
  · have := of_decide_eq_true c
    obtain ⟨k, rfl⟩ : ∃ k : Nat, i = k := ⟨i.toNat, by omega⟩
    exact get_yes k w h (by omega)

end Go.Proofs.YtebcmfggmlapdaaDoor
