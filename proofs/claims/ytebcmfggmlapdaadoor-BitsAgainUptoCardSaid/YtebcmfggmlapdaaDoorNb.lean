/- Rows of bits as numbers: words, counts, first bits. Nothing of the program. -/
import Derived.Lib.TrailingZeros
namespace Go.Proofs.YtebcmfggmlapdaaDoor

/-- the number whose lowest m bits are f -/
def wd (f : Nat → Bool) : Nat → Nat
  | 0 => 0
  | m + 1 => wd f m + if f m then 2 ^ m else 0

theorem wd_lt (f : Nat → Bool) : ∀ m, wd f m < 2 ^ m
  | 0 => by simp [wd]
  | m + 1 => by
    have := wd_lt f m
    unfold wd
    rw [Nat.pow_succ]
    split <;> omega

theorem bit_wd (f : Nat → Bool) : ∀ m j, (wd f m).testBit j = (decide (j < m) && f j)
  | 0, j => by simp [wd]
  | m + 1, j => by
    have h := wd_lt f m
    unfold wd
    cases hm : f m
    · simp only [Bool.false_eq_true, if_false, Nat.add_zero]
      rw [bit_wd f m j]
      by_cases c : j = m
      · subst c; simp [hm]
      · have : decide (j < m + 1) = decide (j < m) := decide_eq_decide.2 (by omega)
        rw [this]
    · simp only [if_true]
      rw [Nat.add_comm]
      rcases Nat.lt_trichotomy j m with c | c | c
      · rw [Nat.testBit_two_pow_add_gt c, bit_wd f m j]
        simp [c, (by omega : j < m + 1)]
      · subst c
        rw [Nat.testBit_two_pow_add_eq, bit_wd f j j]
        simp [hm]
      · rw [Nat.testBit_lt_two_pow]
        · simp [show ¬ j < m + 1 by omega]
        · calc 2 ^ m + wd f m < 2 ^ m + 2 ^ m := by omega
            _ = 2 ^ (m + 1) := by rw [Nat.pow_succ]; omega
            _ ≤ 2 ^ j := Nat.pow_le_pow_right (by decide) c

theorem wd_congr {f g : Nat → Bool} : ∀ {m : Nat}, (∀ j, j < m → f j = g j) → wd f m = wd g m
  | 0, _ => rfl
  | m + 1, h => by
    unfold wd
    rw [wd_congr (m := m) fun j hj => h j (by omega), h m (by omega)]

theorem wd_zero {f : Nat → Bool} {m : Nat} (h : ∀ j, j < m → f j = false) : wd f m = 0 := by
  apply Nat.eq_of_testBit_eq
  intro i
  rw [bit_wd, Nat.zero_testBit]
  by_cases c : i < m
  · rw [h i c, Bool.and_false]
  · simp [c]

/-- word k of a row -/
def W (f : Nat → Bool) (k : Nat) : Nat := wd (fun j => f (64 * k + j)) 64

theorem W_lt (f : Nat → Bool) (k : Nat) : W f k < 18446744073709551616 := wd_lt _ 64
theorem bit_W (f : Nat → Bool) (k j : Nat) : (W f k).testBit j = (decide (j < 64) && f (64 * k + j)) := bit_wd _ _ _
theorem W_congr {f g : Nat → Bool} {k : Nat} (h : ∀ j, j < 64 → f (64 * k + j) = g (64 * k + j)) : W f k = W g k := wd_congr h
theorem W_none (k : Nat) : W (fun _ => false) k = 0 := wd_zero fun _ _ => rfl

/-- how many words -/
def nw (n : Nat) : Nat := (n + 63) / 64

/-- a row's bits beyond its last are 0 -/
def Fits (n : Nat) (f : Nat → Bool) : Prop := ∀ i, n ≤ i → f i = false

/-- a bit set -/
def upd (f : Nat → Bool) (i : Nat) (b : Bool) : Nat → Bool := fun j => if j = i then b else f j

theorem fits_none (n : Nat) : Fits n fun _ => false := fun _ _ => rfl
theorem fits_upd {n i : Nat} {f : Nat → Bool} (h : Fits n f) (hi : i < n) (b : Bool) : Fits n (upd f i b) := fun j hj => by
  unfold upd
  rw [if_neg (by omega)]
  exact h j hj

theorem W_upd_other (f : Nat → Bool) (i k : Nat) (b : Bool) (h : k ≠ i / 64) : W (upd f i b) k = W f k :=
  W_congr fun j hj => by unfold upd; rw [if_neg (by omega)]

theorem W_or (f : Nat → Bool) (i : Nat) : W f (i / 64) ||| 2 ^ (i % 64) = W (upd f i true) (i / 64) := by
  apply Nat.eq_of_testBit_eq
  intro j
  rw [Nat.testBit_or, bit_W, bit_W, Nat.testBit_two_pow]
  unfold upd
  by_cases c : j < 64
  · by_cases e : 64 * (i / 64) + j = i
    · rw [if_pos e]
      have : i % 64 = j := by omega
      simp [c, this]
    · rw [if_neg e]
      have : ¬ i % 64 = j := by omega
      simp [this]
  · have : ¬ i % 64 = j := by omega
    simp [c, this]

theorem two_lt {k : Nat} (h : k < 64) : 2 ^ k < 18446744073709551616 :=
  Nat.lt_of_lt_of_le (Nat.pow_lt_pow_right (by decide) h) (Nat.le_refl (2 ^ 64))

/-- a word less another -/
def minus (a b : Nat) : Nat := a &&& (18446744073709551615 - b)

theorem bit_minus (a b j : Nat) (hb : b < 18446744073709551616) : (minus a b).testBit j = (a.testBit j && (decide (j < 64) && !b.testBit j)) := by
  unfold minus
  rw [Nat.testBit_and]
  have e : 18446744073709551615 - b = 2 ^ 64 - (b + 1) := by omega
  rw [e, Nat.testBit_two_pow_sub_succ hb]

theorem W_minus (f g : Nat → Bool) (k : Nat) : minus (W f k) (W g k) = W (fun i => f i && !g i) k := by
  apply Nat.eq_of_testBit_eq
  intro j
  rw [bit_minus _ _ _ (W_lt g k), bit_W, bit_W, bit_W]
  by_cases c : j < 64 <;> simp [c]

theorem W_minus_bit (f : Nat → Bool) (i : Nat) : minus (W f (i / 64)) (2 ^ (i % 64)) = W (upd f i false) (i / 64) := by
  have hp := two_lt (show i % 64 < 64 by omega)
  apply Nat.eq_of_testBit_eq
  intro j
  rw [bit_minus _ _ _ hp, bit_W, bit_W, Nat.testBit_two_pow]
  unfold upd
  by_cases c : j < 64
  · by_cases e : 64 * (i / 64) + j = i
    · rw [if_pos e]
      have : i % 64 = j := by omega
      simp [this]
    · rw [if_neg e]
      have : ¬ i % 64 = j := by omega
      simp [c, this]
  · simp [c]

/-- what Next looks for: bits of the kind, of the row -/
def sel (f : Nat → Bool) (n : Nat) (is : Bool) : Nat → Bool := fun p => decide (p < n) && (f p == is)
/-- from a bit on -/
def after (f : Nat → Bool) (m : Nat) : Nat → Bool := fun p => decide (m ≤ p) && f p

/-- the mask of a word -/
def mask (n k : Nat) (is : Bool) : Nat := if is then 0 else 2 ^ min (n - 64 * k) 64 - 1

theorem mask_lt (n k : Nat) (is : Bool) : mask n k is < 18446744073709551616 := by
  unfold mask
  split
  · omega
  · have : 2 ^ min (n - 64 * k) 64 ≤ 2 ^ 64 := Nat.pow_le_pow_right (by decide) (by omega)
    omega

theorem W_mask {f : Nat → Bool} {n : Nat} (h : Fits n f) (k : Nat) (is : Bool) : W f k ^^^ mask n k is = W (sel f n is) k := by
  apply Nat.eq_of_testBit_eq
  intro j
  rw [Nat.testBit_xor, bit_W, bit_W]
  unfold mask sel
  cases is
  · simp only [Bool.false_eq_true, if_false, Nat.testBit_two_pow_sub_one]
    by_cases c : j < 64
    · by_cases d : 64 * k + j < n
      · have : j < min (n - 64 * k) 64 := by omega
        simp [c, d, this]
      · have : ¬ j < min (n - 64 * k) 64 := by omega
        rw [h _ (by omega)]
        simp [d, this]
    · have : ¬ j < min (n - 64 * k) 64 := by omega
      simp [c, this]
  · simp only [if_true, Nat.zero_testBit, Bool.xor_false]
    by_cases d : 64 * k + j < n
    · simp [d]
    · rw [h _ (by omega)]
      simp

theorem W_after (f : Nat → Bool) (m : Nat) : minus (W f (m / 64)) (2 ^ (m % 64) - 1) = W (after f m) (m / 64) := by
  have hp : 2 ^ (m % 64) - 1 < 18446744073709551616 := by
    have := two_lt (show m % 64 < 64 by omega)
    omega
  apply Nat.eq_of_testBit_eq
  intro j
  rw [bit_minus _ _ _ hp, bit_W, bit_W, Nat.testBit_two_pow_sub_one]
  unfold after
  by_cases c : j < 64
  · by_cases e : j < m % 64
    · have : ¬ m ≤ 64 * (m / 64) + j := by omega
      simp [e, this]
    · have : m ≤ 64 * (m / 64) + j := by omega
      simp [c, e, this]
  · simp [c]

theorem W_after_beyond (f : Nat → Bool) (m k : Nat) (h : m / 64 < k) : W (after f m) k = W f k :=
  W_congr fun j _ => by
    unfold after
    rw [decide_eq_true (by omega), Bool.true_and]

/-- the first place, of so many, where h holds -/
def first (h : Nat → Bool) : Nat → Nat → Option Nat
  | 0, _ => none
  | c + 1, p => if h p then some p else first h c (p + 1)

theorem first_none {h : Nat → Bool} : ∀ {c p : Nat}, (∀ q, p ≤ q → q < p + c → h q = false) → first h c p = none
  | 0, _, _ => rfl
  | c + 1, p, k => by
    unfold first
    rw [k p (by omega) (by omega)]
    simp only [Bool.false_eq_true, if_false]
    exact first_none fun q h1 h2 => k q (by omega) (by omega)

theorem first_some {h : Nat → Bool} : ∀ {c p a : Nat}, p ≤ a → a < p + c → h a = true → (∀ q, p ≤ q → q < a → h q = false) → first h c p = some a
  | 0, _, _, h1, h2, _, _ => by omega
  | c + 1, p, a, h1, h2, h3, k => by
    unfold first
    by_cases e : p = a
    · subst e; rw [h3]; simp
    · rw [k p (by omega) (by omega)]
      simp only [Bool.false_eq_true, if_false]
      exact first_some (by omega) (by omega) h3 fun q h1 h2 => k q (by omega) (by omega)

theorem first_cases (h : Nat → Bool) : ∀ (c p : Nat), (first h c p = none ∧ ∀ q, p ≤ q → q < p + c → h q = false) ∨ ∃ a, first h c p = some a ∧ p ≤ a ∧ a < p + c ∧ h a = true ∧ ∀ q, p ≤ q → q < a → h q = false
  | 0, p => Or.inl ⟨rfl, fun q h1 h2 => by omega⟩
  | c + 1, p => by
    unfold first
    cases hp : h p
    · simp only [Bool.false_eq_true, if_false]
      rcases first_cases h c (p + 1) with ⟨h1, h2⟩ | ⟨a, h1, h2, h3, h4, h5⟩
      · refine Or.inl ⟨h1, fun q q1 q2 => ?_⟩
        by_cases e : p = q
        · subst e; exact hp
        · exact h2 q (by omega) (by omega)
      · refine Or.inr ⟨a, h1, by omega, by omega, h4, fun q q1 q2 => ?_⟩
        by_cases e : p = q
        · subst e; exact hp
        · exact h5 q (by omega) (by omega)
    · simp only [if_true]
      exact Or.inr ⟨p, rfl, Nat.le_refl _, by omega, hp, fun q h1 h2 => by omega⟩

/-- the lowest bit of a word that is not 0 -/
theorem ctz_bit (x : Nat) (h0 : x ≠ 0) (h : x < 18446744073709551616) : Lib.ctz 64 x < 64 ∧ x.testBit (Lib.ctz 64 x) = true ∧ ∀ j, j < Lib.ctz 64 x → x.testBit j = false := by
  obtain ⟨m, hm, hk⟩ := Lib.ctzFrom_spec 64 x (by omega) h
  have e : Lib.ctz 64 x = Lib.ctzFrom 64 x := by simp [Lib.ctz, h0]
  rw [e]
  generalize Lib.ctzFrom 64 x = k at *
  refine ⟨hk, ?_, fun j hj => ?_⟩
  · rw [hm, Nat.mul_comm, Nat.testBit_mul_two_pow]
    simp
  · rw [hm, Nat.mul_comm, Nat.testBit_mul_two_pow]
    simp [show ¬ k ≤ j by omega]

/-- how many of the lowest m bits are 1 -/
def cnt (f : Nat → Bool) : Nat → Nat
  | 0 => 0
  | m + 1 => cnt f m + if f m then 1 else 0

theorem cnt_le (f : Nat → Bool) : ∀ m, cnt f m ≤ m
  | 0 => Nat.le_refl _
  | m + 1 => by
    have := cnt_le f m
    unfold cnt
    split <;> omega

theorem cnt_congr {f g : Nat → Bool} : ∀ {m : Nat}, (∀ j, j < m → f j = g j) → cnt f m = cnt g m
  | 0, _ => rfl
  | m + 1, h => by
    unfold cnt
    rw [cnt_congr (m := m) fun j hj => h j (by omega), h m (by omega)]

theorem cnt_add (f : Nat → Bool) (a : Nat) : ∀ b, cnt f (a + b) = cnt f a + cnt (fun j => f (a + j)) b
  | 0 => rfl
  | b + 1 => by
    show cnt f (a + b) + _ = cnt f a + (cnt (fun j => f (a + j)) b + _)
    rw [cnt_add f a b, Nat.add_assoc]
    rfl

theorem cnt_fits {n : Nat} {f : Nat → Bool} (h : Fits n f) : ∀ {m : Nat}, n ≤ m → cnt f m = cnt f n := fun {m} hm => by
  obtain ⟨b, rfl⟩ : ∃ b, m = n + b := ⟨m - n, by omega⟩
  rw [cnt_add]
  have : ∀ b, cnt (fun j => f (n + j)) b = 0 := fun b => by
    induction b with
    | zero => rfl
    | succ b ih => unfold cnt; rw [ih]; simp [h (n + b) (by omega)]
  rw [this, Nat.add_zero]

theorem cnt_none (m : Nat) : cnt (fun _ => false) m = 0 := by
  induction m with
  | zero => rfl
  | succ m ih => unfold cnt; rw [ih]; simp

/-- the bits of a number, counted -/
def pc (x m : Nat) : Nat := cnt (fun j => x.testBit j) m

theorem pc_W (f : Nat → Bool) (k : Nat) : pc (W f k) 64 = cnt (fun j => f (64 * k + j)) 64 :=
  cnt_congr fun j hj => by rw [bit_W, decide_eq_true hj, Bool.true_and]

end Go.Proofs.YtebcmfggmlapdaaDoor
