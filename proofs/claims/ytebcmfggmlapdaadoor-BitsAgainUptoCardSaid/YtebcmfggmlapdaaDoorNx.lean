/- The first bit of a kind, by words: numbers alone. -/
import Derived.Test.YtebcmfggmlapdaaDoorNb
namespace Go.Proofs.YtebcmfggmlapdaaDoor

/-- what is found in word k -/
def fd (f : Nat → Bool) (n m : Nat) (is : Bool) (k : Nat) : Nat := if k = m / 64 then W (after (sel f n is) m) k else W (sel f n is) k

theorem fd_lt (f : Nat → Bool) (n m : Nat) (is : Bool) (k : Nat) : fd f n m is k < 18446744073709551616 := by
  unfold fd
  split <;> exact W_lt _ _

theorem fd_eq {f : Nat → Bool} {n m : Nat} {is : Bool} {k : Nat} (h : m / 64 ≤ k) : fd f n m is k = W (after (sel f n is) m) k := by
  unfold fd
  split
  · rfl
  · exact (W_after_beyond _ _ _ (by omega)).symm

/-- where Next looks -/
def start (x : Int) : Nat := x.toNat

/-- the first bit -/
def nxt (f : Nat → Bool) (n m : Nat) (is : Bool) : Option Nat := first (sel f n is) (n - m) m

theorem zero_bits {f : Nat → Bool} {k : Nat} (h : W f k = 0) {j : Nat} (hj : j < 64) : f (64 * k + j) = false := by
  have := bit_W f k j
  rw [h, Nat.zero_testBit, decide_eq_true hj, Bool.true_and] at this
  exact this.symm

theorem fd_zero {f : Nat → Bool} {n m : Nat} {is : Bool} {k q : Nat} (h : fd f n m is k = 0) (hk : m / 64 ≤ k) (hq : q / 64 = k) (hm : m ≤ q) : sel f n is q = false := by
  rw [fd_eq hk] at h
  have := zero_bits h (show q % 64 < 64 by omega)
  rw [show 64 * k + q % 64 = q by omega] at this
  unfold after at this
  rw [decide_eq_true hm, Bool.true_and] at this
  exact this

theorem nxt_none {f : Nat → Bool} {n m : Nat} {is : Bool} (h : ∀ k, m / 64 ≤ k → k < nw n → fd f n m is k = 0) : nxt f n m is = none :=
  first_none fun q h1 h2 => fd_zero (h (q / 64) (Nat.div_le_div_right h1) (by unfold nw; omega)) (Nat.div_le_div_right h1) rfl h1

theorem nxt_some {f : Nat → Bool} {n m : Nat} {is : Bool} {k : Nat} (h0 : fd f n m is k ≠ 0) (hk : m / 64 ≤ k) (h : ∀ j, m / 64 ≤ j → j < k → fd f n m is j = 0) :
    nxt f n m is = some (64 * k + Lib.ctz 64 (fd f n m is k)) := by
  obtain ⟨c1, c2, c3⟩ := ctz_bit _ h0 (fd_lt f n m is k)
  rw [fd_eq hk] at c1 c2 c3 ⊢
  generalize Lib.ctz 64 (W (after (sel f n is) m) k) = c at *
  rw [bit_W, decide_eq_true c1, Bool.true_and] at c2
  unfold after at c2
  rw [Bool.and_eq_true] at c2
  obtain ⟨a1, a2⟩ := c2
  have a1 := of_decide_eq_true a1
  have a3 : 64 * k + c < n := by
    have := a2
    unfold sel at this
    rw [Bool.and_eq_true] at this
    exact of_decide_eq_true this.1
  refine first_some a1 (by omega) a2 fun q q1 q2 => ?_
  by_cases e : q / 64 = k
  · have := c3 (q % 64) (by omega)
    rw [bit_W, decide_eq_true (by omega), Bool.true_and, show 64 * k + q % 64 = q by omega] at this
    unfold after at this
    rw [decide_eq_true q1, Bool.true_and] at this
    exact this
  · exact fd_zero (h (q / 64) (Nat.div_le_div_right q1) (by omega)) (Nat.div_le_div_right q1) rfl q1

/-- what Next answers -/
def nxA : Option Nat → Int | some a => (a : Nat) | none => 0

end Go.Proofs.YtebcmfggmlapdaaDoor
