/- Rows of bits as numbers: words, counts, first bits. Nothing of the program. -/
import Derived.Lib.TrailingZeros
import Derived.Test.YtjgjomojcocegaaDoorRows
import Derived.WalkKit
import Derived.WalkLawsBesides
import Derived.ProofKit
import Derived.IntWalk
import Derived.Lib.Hide
import Derived.Laws.BitsAllLaws
import Derived.Deep.QuietTactic
import Derived.BigQuiet
import Derived.OpenShut
import Derived.ChangeSlices
import Derived.OwnWalk
import Derived.OneCell
import Derived.Carry
import Derived.Deep.RegionHeld3
import Derived.Deep.AppendLies
import Derived.Lib.SliceRun
import Derived.Deep.LoopGhost
import Derived.Lib.Walk
import Derived.Deep.RegionLaw
namespace Go.Proofs.YtjgjomojcocegaaDoor.bt

/-- the number whose lowest m bits are f -/
def wd (f : Nat → Bool) : Nat → Nat
  | 0 => 0
  | m + 1 => wd f m + if f m then 2 ^ m else 0

theorem wd_lt (f : Nat → Bool) : ∀ m, wd f m < 2 ^ m
  | 0 => by simp [wd]
  | m + 1 => by
    have := wd_lt f m
    unfold wd
    rw [Nat.pow_succ]
    split <;> omega

theorem bit_wd (f : Nat → Bool) : ∀ m j, (wd f m).testBit j = (decide (j < m) && f j)
  | 0, j => by simp [wd]
  | m + 1, j => by
    have h := wd_lt f m
    unfold wd
    cases hm : f m
    · simp only [Bool.false_eq_true, if_false, Nat.add_zero]
      rw [bit_wd f m j]
      by_cases c : j = m
      · subst c; simp [hm]
      · have : decide (j < m + 1) = decide (j < m) := decide_eq_decide.2 (by omega)
        rw [this]
    · simp only [if_true]
      rw [Nat.add_comm]
      rcases Nat.lt_trichotomy j m with c | c | c
      · rw [Nat.testBit_two_pow_add_gt c, bit_wd f m j]
        simp [c, (by omega : j < m + 1)]
      · subst c
        rw [Nat.testBit_two_pow_add_eq, bit_wd f j j]
        simp [hm]
      · rw [Nat.testBit_lt_two_pow]
        · simp [show ¬ j < m + 1 by omega]
        · calc 2 ^ m + wd f m < 2 ^ m + 2 ^ m := by omega
            _ = 2 ^ (m + 1) := by rw [Nat.pow_succ]; omega
            _ ≤ 2 ^ j := Nat.pow_le_pow_right (by decide) c

theorem wd_congr {f g : Nat → Bool} : ∀ {m : Nat}, (∀ j, j < m → f j = g j) → wd f m = wd g m
  | 0, _ => rfl
  | m + 1, h => by
    unfold wd
    rw [wd_congr (m := m) fun j hj => h j (by omega), h m (by omega)]

theorem wd_zero {f : Nat → Bool} {m : Nat} (h : ∀ j, j < m → f j = false) : wd f m = 0 := by
  apply Nat.eq_of_testBit_eq
  intro i
  rw [bit_wd, Nat.zero_testBit]
  by_cases c : i < m
  · rw [h i c, Bool.and_false]
  · simp [c]

/-- word k of a row -/
def W (f : Nat → Bool) (k : Nat) : Nat := wd (fun j => f (64 * k + j)) 64

theorem W_lt (f : Nat → Bool) (k : Nat) : W f k < 18446744073709551616 := wd_lt _ 64
theorem bit_W (f : Nat → Bool) (k j : Nat) : (W f k).testBit j = (decide (j < 64) && f (64 * k + j)) := bit_wd _ _ _
theorem W_congr {f g : Nat → Bool} {k : Nat} (h : ∀ j, j < 64 → f (64 * k + j) = g (64 * k + j)) : W f k = W g k := wd_congr h
theorem W_none (k : Nat) : W (fun _ => false) k = 0 := wd_zero fun _ _ => rfl

/-- how many words -/
def nw (n : Nat) : Nat := (n + 63) / 64

/-- a row's bits beyond its last are 0 -/
def Fits (n : Nat) (f : Nat → Bool) : Prop := ∀ i, n ≤ i → f i = false

/-- a bit set -/
def upd (f : Nat → Bool) (i : Nat) (b : Bool) : Nat → Bool := fun j => if j = i then b else f j

theorem fits_none (n : Nat) : Fits n fun _ => false := fun _ _ => rfl
theorem fits_upd {n i : Nat} {f : Nat → Bool} (h : Fits n f) (hi : i < n) (b : Bool) : Fits n (upd f i b) := fun j hj => by
  unfold upd
  rw [if_neg (by omega)]
  exact h j hj

theorem W_upd_other (f : Nat → Bool) (i k : Nat) (b : Bool) (h : k ≠ i / 64) : W (upd f i b) k = W f k :=
  W_congr fun j hj => by unfold upd; rw [if_neg (by omega)]

theorem W_or (f : Nat → Bool) (i : Nat) : W f (i / 64) ||| 2 ^ (i % 64) = W (upd f i true) (i / 64) := by
  apply Nat.eq_of_testBit_eq
  intro j
  rw [Nat.testBit_or, bit_W, bit_W, Nat.testBit_two_pow]
  unfold upd
  by_cases c : j < 64
  · by_cases e : 64 * (i / 64) + j = i
    · rw [if_pos e]
      have : i % 64 = j := by omega
      simp [c, this]
    · rw [if_neg e]
      have : ¬ i % 64 = j := by omega
      simp [this]
  · have : ¬ i % 64 = j := by omega
    simp [c, this]

theorem two_lt {k : Nat} (h : k < 64) : 2 ^ k < 18446744073709551616 :=
  Nat.lt_of_lt_of_le (Nat.pow_lt_pow_right (by decide) h) (Nat.le_refl (2 ^ 64))

/-- a word less another -/
def minus (a b : Nat) : Nat := a &&& (18446744073709551615 - b)

theorem bit_minus (a b j : Nat) (hb : b < 18446744073709551616) : (minus a b).testBit j = (a.testBit j && (decide (j < 64) && !b.testBit j)) := by
  unfold minus
  rw [Nat.testBit_and]
  have e : 18446744073709551615 - b = 2 ^ 64 - (b + 1) := by omega
  rw [e, Nat.testBit_two_pow_sub_succ hb]

theorem W_minus (f g : Nat → Bool) (k : Nat) : minus (W f k) (W g k) = W (fun i => f i && !g i) k := by
  apply Nat.eq_of_testBit_eq
  intro j
  rw [bit_minus _ _ _ (W_lt g k), bit_W, bit_W, bit_W]
  by_cases c : j < 64 <;> simp [c]

theorem W_minus_bit (f : Nat → Bool) (i : Nat) : minus (W f (i / 64)) (2 ^ (i % 64)) = W (upd f i false) (i / 64) := by
  have hp := two_lt (show i % 64 < 64 by omega)
  apply Nat.eq_of_testBit_eq
  intro j
  rw [bit_minus _ _ _ hp, bit_W, bit_W, Nat.testBit_two_pow]
  unfold upd
  by_cases c : j < 64
  · by_cases e : 64 * (i / 64) + j = i
    · rw [if_pos e]
      have : i % 64 = j := by omega
      simp [this]
    · rw [if_neg e]
      have : ¬ i % 64 = j := by omega
      simp [c, this]
  · simp [c]

/-- what Next looks for: bits of the kind, of the row -/
def sel (f : Nat → Bool) (n : Nat) (is : Bool) : Nat → Bool := fun p => decide (p < n) && (f p == is)
/-- from a bit on -/
def after (f : Nat → Bool) (m : Nat) : Nat → Bool := fun p => decide (m ≤ p) && f p

/-- the mask of a word -/
def mask (n k : Nat) (is : Bool) : Nat := if is then 0 else 2 ^ min (n - 64 * k) 64 - 1

theorem mask_lt (n k : Nat) (is : Bool) : mask n k is < 18446744073709551616 := by
  unfold mask
  split
  · omega
  · have : 2 ^ min (n - 64 * k) 64 ≤ 2 ^ 64 := Nat.pow_le_pow_right (by decide) (by omega)
    omega

theorem W_mask {f : Nat → Bool} {n : Nat} (h : Fits n f) (k : Nat) (is : Bool) : W f k ^^^ mask n k is = W (sel f n is) k := by
  apply Nat.eq_of_testBit_eq
  intro j
  rw [Nat.testBit_xor, bit_W, bit_W]
  unfold mask sel
  cases is
  · simp only [Bool.false_eq_true, if_false, Nat.testBit_two_pow_sub_one]
    by_cases c : j < 64
    · by_cases d : 64 * k + j < n
      · have : j < min (n - 64 * k) 64 := by omega
        simp [c, d, this]
      · have : ¬ j < min (n - 64 * k) 64 := by omega
        rw [h _ (by omega)]
        simp [d, this]
    · have : ¬ j < min (n - 64 * k) 64 := by omega
      simp [c, this]
  · simp only [if_true, Nat.zero_testBit, Bool.xor_false]
    by_cases d : 64 * k + j < n
    · simp [d]
    · rw [h _ (by omega)]
      simp

theorem W_after (f : Nat → Bool) (m : Nat) : minus (W f (m / 64)) (2 ^ (m % 64) - 1) = W (after f m) (m / 64) := by
  have hp : 2 ^ (m % 64) - 1 < 18446744073709551616 := by
    have := two_lt (show m % 64 < 64 by omega)
    omega
  apply Nat.eq_of_testBit_eq
  intro j
  rw [bit_minus _ _ _ hp, bit_W, bit_W, Nat.testBit_two_pow_sub_one]
  unfold after
  by_cases c : j < 64
  · by_cases e : j < m % 64
    · have : ¬ m ≤ 64 * (m / 64) + j := by omega
      simp [e, this]
    · have : m ≤ 64 * (m / 64) + j := by omega
      simp [c, e, this]
  · simp [c]

theorem W_after_beyond (f : Nat → Bool) (m k : Nat) (h : m / 64 < k) : W (after f m) k = W f k :=
  W_congr fun j _ => by
    unfold after
    rw [decide_eq_true (by omega), Bool.true_and]

/-- the first place, of so many, where h holds -/
def first (h : Nat → Bool) : Nat → Nat → Option Nat
  | 0, _ => none
  | c + 1, p => if h p then some p else first h c (p + 1)

theorem first_none {h : Nat → Bool} : ∀ {c p : Nat}, (∀ q, p ≤ q → q < p + c → h q = false) → first h c p = none
  | 0, _, _ => rfl
  | c + 1, p, k => by
    unfold first
    rw [k p (by omega) (by omega)]
    simp only [Bool.false_eq_true, if_false]
    exact first_none fun q h1 h2 => k q (by omega) (by omega)

theorem first_some {h : Nat → Bool} : ∀ {c p a : Nat}, p ≤ a → a < p + c → h a = true → (∀ q, p ≤ q → q < a → h q = false) → first h c p = some a
  | 0, _, _, h1, h2, _, _ => by omega
  | c + 1, p, a, h1, h2, h3, k => by
    unfold first
    by_cases e : p = a
    · subst e; rw [h3]; simp
    · rw [k p (by omega) (by omega)]
      simp only [Bool.false_eq_true, if_false]
      exact first_some (by omega) (by omega) h3 fun q h1 h2 => k q (by omega) (by omega)

theorem first_cases (h : Nat → Bool) : ∀ (c p : Nat), (first h c p = none ∧ ∀ q, p ≤ q → q < p + c → h q = false) ∨ ∃ a, first h c p = some a ∧ p ≤ a ∧ a < p + c ∧ h a = true ∧ ∀ q, p ≤ q → q < a → h q = false
  | 0, p => Or.inl ⟨rfl, fun q h1 h2 => by omega⟩
  | c + 1, p => by
    unfold first
    cases hp : h p
    · simp only [Bool.false_eq_true, if_false]
      rcases first_cases h c (p + 1) with ⟨h1, h2⟩ | ⟨a, h1, h2, h3, h4, h5⟩
      · refine Or.inl ⟨h1, fun q q1 q2 => ?_⟩
        by_cases e : p = q
        · subst e; exact hp
        · exact h2 q (by omega) (by omega)
      · refine Or.inr ⟨a, h1, by omega, by omega, h4, fun q q1 q2 => ?_⟩
        by_cases e : p = q
        · subst e; exact hp
        · exact h5 q (by omega) (by omega)
    · simp only [if_true]
      exact Or.inr ⟨p, rfl, Nat.le_refl _, by omega, hp, fun q h1 h2 => by omega⟩

/-- the lowest bit of a word that is not 0 -/
theorem ctz_bit (x : Nat) (h0 : x ≠ 0) (h : x < 18446744073709551616) : Lib.ctz 64 x < 64 ∧ x.testBit (Lib.ctz 64 x) = true ∧ ∀ j, j < Lib.ctz 64 x → x.testBit j = false := by
  obtain ⟨m, hm, hk⟩ := Lib.ctzFrom_spec 64 x (by omega) h
  have e : Lib.ctz 64 x = Lib.ctzFrom 64 x := by simp [Lib.ctz, h0]
  rw [e]
  generalize Lib.ctzFrom 64 x = k at *
  refine ⟨hk, ?_, fun j hj => ?_⟩
  · rw [hm, Nat.mul_comm, Nat.testBit_mul_two_pow]
    simp
  · rw [hm, Nat.mul_comm, Nat.testBit_mul_two_pow]
    simp [show ¬ k ≤ j by omega]

/-- how many of the lowest m bits are 1 -/
def cnt (f : Nat → Bool) : Nat → Nat
  | 0 => 0
  | m + 1 => cnt f m + if f m then 1 else 0

theorem cnt_le (f : Nat → Bool) : ∀ m, cnt f m ≤ m
  | 0 => Nat.le_refl _
  | m + 1 => by
    have := cnt_le f m
    unfold cnt
    split <;> omega

theorem cnt_congr {f g : Nat → Bool} : ∀ {m : Nat}, (∀ j, j < m → f j = g j) → cnt f m = cnt g m
  | 0, _ => rfl
  | m + 1, h => by
    unfold cnt
    rw [cnt_congr (m := m) fun j hj => h j (by omega), h m (by omega)]

theorem cnt_add (f : Nat → Bool) (a : Nat) : ∀ b, cnt f (a + b) = cnt f a + cnt (fun j => f (a + j)) b
  | 0 => rfl
  | b + 1 => by
    show cnt f (a + b) + _ = cnt f a + (cnt (fun j => f (a + j)) b + _)
    rw [cnt_add f a b, Nat.add_assoc]
    rfl

theorem cnt_fits {n : Nat} {f : Nat → Bool} (h : Fits n f) : ∀ {m : Nat}, n ≤ m → cnt f m = cnt f n := fun {m} hm => by
  obtain ⟨b, rfl⟩ : ∃ b, m = n + b := ⟨m - n, by omega⟩
  rw [cnt_add]
  have : ∀ b, cnt (fun j => f (n + j)) b = 0 := fun b => by
    induction b with
    | zero => rfl
    | succ b ih => unfold cnt; rw [ih]; simp [h (n + b) (by omega)]
  rw [this, Nat.add_zero]

theorem cnt_none (m : Nat) : cnt (fun _ => false) m = 0 := by
  induction m with
  | zero => rfl
  | succ m ih => unfold cnt; rw [ih]; simp

/-- the bits of a number, counted -/
def pc (x m : Nat) : Nat := cnt (fun j => x.testBit j) m

theorem pc_W (f : Nat → Bool) (k : Nat) : pc (W f k) 64 = cnt (fun j => f (64 * k + j)) 64 :=
  cnt_congr fun j hj => by rw [bit_W, decide_eq_true hj, Bool.true_and]

end Go.Proofs.YtjgjomojcocegaaDoor.bt

/- The bits of a word, counted side by side: numbers alone. -/
namespace Go.Proofs.YtjgjomojcocegaaDoor.bt

/-- a byte, n times over -/
def rep (a : Nat) : Nat → Nat
  | 0 => 0
  | n + 1 => a + 256 * rep a n

/-- a byte's worth by h, over n bytes -/
def each (h : Nat → Nat) : Nat → Nat → Nat
  | 0, _ => 0
  | n + 1, x => h (x % 256) + 256 * each h n (x / 256)

theorem and_split (x y : Nat) : x &&& y = (x % 256 &&& y % 256) + 256 * (x / 256 &&& y / 256) := by
  have h1 : (x &&& y) % 256 = (x % 256 &&& y % 256) := Nat.and_mod_two_pow (n := 8)
  have h2 : (x &&& y) / 256 = (x / 256 &&& y / 256) := Nat.and_div_two_pow (n := 8)
  rw [← h1, ← h2]
  generalize x &&& y = z
  omega

theorem and_rep (x a n : Nat) (ha : a < 256) : x &&& rep a (n + 1) = (x % 256 &&& a) + 256 * (x / 256 &&& rep a n) := by
  rw [and_split]
  have h1 : rep a (n + 1) % 256 = a := by show (a + 256 * rep a n) % 256 = a; omega
  have h2 : rep a (n + 1) / 256 = rep a n := by show (a + 256 * rep a n) / 256 = rep a n; omega
  rw [h1, h2]

theorem each_le {h : Nat → Nat} {c : Nat} (hc : c < 256) (H : ∀ b, b < 256 → h b ≤ c) : ∀ n x, each h n x ≤ rep c n
  | 0, _ => Nat.le_refl _
  | n + 1, x => by
    have := each_le hc H n (x / 256)
    have := H (x % 256) (by omega)
    unfold each rep
    omega

def p1 (b : Nat) : Nat := (b / 2 &&& 85) + (b &&& 85)
def p2 (b : Nat) : Nat := (b / 4 &&& 51) + (b &&& 51)
def p3 (b : Nat) : Nat := (b / 16 + b) &&& 15

theorem p1_at : ∀ b, b < 256 → ∀ t, t < 2 → (b / 2 + 128 * t) &&& 85 = b / 2 &&& 85 := by decide +kernel
theorem p2_at : ∀ b, b < 256 → ∀ t, t < 4 → (b / 4 + 64 * t) &&& 51 = b / 4 &&& 51 := by decide +kernel

theorem step1 : ∀ n x, (x / 2 &&& rep 85 n) + (x &&& rep 85 n) = each p1 n x
  | 0, x => by simp [rep, each]
  | n + 1, x => by
    have ih := step1 n (x / 256)
    rw [and_rep _ _ _ (by decide), and_rep _ _ _ (by decide)]
    have e1 : x / 2 / 256 = x / 256 / 2 := by omega
    have e2 : x / 2 % 256 = x % 256 / 2 + 128 * (x / 256 % 2) := by omega
    rw [e1, e2, p1_at _ (by omega) _ (by omega)]
    unfold each
    rw [← ih]
    unfold p1
    omega

theorem step2 : ∀ n x, (x / 4 &&& rep 51 n) + (x &&& rep 51 n) = each p2 n x
  | 0, x => by simp [rep, each]
  | n + 1, x => by
    have ih := step2 n (x / 256)
    rw [and_rep _ _ _ (by decide), and_rep _ _ _ (by decide)]
    have e1 : x / 4 / 256 = x / 256 / 4 := by omega
    have e2 : x / 4 % 256 = x % 256 / 4 + 64 * (x / 256 % 4) := by omega
    rw [e1, e2, p2_at _ (by omega) _ (by omega)]
    unfold each
    rw [← ih]
    unfold p2
    omega

/-- bytes whose halves are at most 4 -/
def low4 : Nat → Nat → Prop
  | 0, x => x = 0
  | n + 1, x => x % 16 ≤ 4 ∧ x / 16 % 16 ≤ 4 ∧ low4 n (x / 256)

theorem p3_at : ∀ b, b < 256 → ∀ t, t < 5 → b % 16 ≤ 4 → b / 16 ≤ 4 → (b / 16 + b + 16 * t) &&& 15 = (b / 16 + b) &&& 15 := by decide +kernel

theorem step3 : ∀ n x, low4 n x → (x / 16 + x) &&& rep 15 n = each p3 n x
  | 0, x, _ => by simp [rep, each]
  | n + 1, x, h => by
    obtain ⟨h1, h2, h3⟩ := h
    have ih := step3 n (x / 256) h3
    have hq : each p3 (n + 1) x = p3 (x % 256) + 256 * each p3 n (x / 256) := rfl
    rw [and_rep _ _ _ (by decide)]
    have h4 : x / 256 % 16 ≤ 4 := by
      cases n with
      | zero => have k : x / 256 = 0 := h3; rw [k]; decide
      | succ n => exact h3.1
    have a0 : x = x % 256 + 256 * (x / 256) := by omega
    have a1 : x % 256 % 16 ≤ 4 := by omega
    have a2 : x % 256 / 16 ≤ 4 := by omega
    have a3 : x % 256 < 256 := by omega
    have e3 : x / 16 = x % 256 / 16 + 16 * (x / 256 % 16) + 256 * (x / 256 / 16) := by omega
    generalize x % 256 = b at *
    generalize x / 256 = y at *
    have a4 : b / 16 + b + 16 * (y % 16) < 256 := by omega
    have e4 : x / 16 + x = (b / 16 + b + 16 * (y % 16)) + 256 * (y / 16 + y) := by omega
    have e1 : (x / 16 + x) / 256 = y / 16 + y := by omega
    have e2 : (x / 16 + x) % 256 = b / 16 + b + 16 * (y % 16) := by omega
    have e5 : each p3 (n + 1) x = p3 b + 256 * each p3 n y := hq
    rw [e1, e2, ih, p3_at _ a3 _ (by omega) a1 a2, e5]
    rfl

theorem each_each {g h : Nat → Nat} (H : ∀ b, b < 256 → h b < 256) : ∀ n x, each g n (each h n x) = each (fun b => g (h b)) n x
  | 0, _ => rfl
  | n + 1, x => by
    have := H (x % 256) (by omega)
    have e1 : each h (n + 1) x % 256 = h (x % 256) := by show (h (x % 256) + 256 * each h n (x / 256)) % 256 = _; omega
    have e2 : each h (n + 1) x / 256 = each h n (x / 256) := by show (h (x % 256) + 256 * each h n (x / 256)) / 256 = _; omega
    show g (each h (n + 1) x % 256) + 256 * each g n (each h (n + 1) x / 256) = _
    rw [e1, e2, each_each H n]
    rfl

theorem low4_each {h : Nat → Nat} (H : ∀ b, b < 256 → h b < 256 ∧ h b % 16 ≤ 4 ∧ h b / 16 ≤ 4) : ∀ n x, low4 n (each h n x)
  | 0, _ => rfl
  | n + 1, x => by
    obtain ⟨h1, h2, h3⟩ := H (x % 256) (by omega)
    have e0 : each h (n + 1) x = h (x % 256) + 256 * each h n (x / 256) := rfl
    have e1 : each h (n + 1) x / 256 = each h n (x / 256) := by omega
    refine ⟨by omega, by omega, ?_⟩
    rw [e1]
    exact low4_each H n _

/-- a byte's bits, counted -/
def p4 (b : Nat) : Nat := b % 2 + b / 2 % 2 + b / 4 % 2 + b / 8 % 2 + b / 16 % 2 + b / 32 % 2 + b / 64 % 2 + b / 128 % 2

theorem p1_lt : ∀ b, b < 256 → p1 b < 256 := by decide +kernel
theorem p21 : ∀ b, b < 256 → p2 (p1 b) < 256 ∧ p2 (p1 b) % 16 ≤ 4 ∧ p2 (p1 b) / 16 ≤ 4 := by decide +kernel
theorem p321 : ∀ b, b < 256 → p3 (p2 (p1 b)) = p4 b := by decide +kernel

theorem each_congr {g h : Nat → Nat} (H : ∀ b, b < 256 → g b = h b) : ∀ n x, each g n x = each h n x
  | 0, _ => rfl
  | n + 1, x => by unfold each; rw [H _ (by omega), each_congr H n]

/-- the first three steps -/
theorem three (x y z : Nat) (h1 : (x / 2 &&& rep 85 8) + (x &&& rep 85 8) = y) (h2 : (y / 4 &&& rep 51 8) + (y &&& rep 51 8) = z) : (z / 16 + z) &&& rep 15 8 = each p4 8 x := by
  rw [step1] at h1
  rw [step2] at h2
  subst h1
  rw [each_each p1_lt] at h2
  subst h2
  rw [step3 8 _ (low4_each p21 8 x), each_each fun b hb => (p21 b hb).1]
  exact each_congr p321 8 x

theorem p4_le (b : Nat) : p4 b ≤ 8 := by unfold p4; omega

theorem pc_byte (b m : Nat) : pc b (8 + m) = p4 (b % 256) + pc (b / 256) m := by
  unfold pc
  rw [cnt_add]
  have e1 : cnt (fun j => b.testBit j) 8 = p4 (b % 256) := by
    have k : ∀ j, (if b.testBit j = true then 1 else 0) = b / 2 ^ j % 2 := fun j => by
      rw [Nat.testBit_eq_decide_div_mod_eq]
      by_cases c : b / 2 ^ j % 2 = 1
      · simp [c]
      · simp [c]; omega
    simp only [cnt, k]
    unfold p4
    omega
  have e2 : cnt (fun j => b.testBit (8 + j)) m = cnt (fun j => (b / 256).testBit j) m := cnt_congr fun j _ => by
    have : b / 256 = b / 2 ^ 8 := rfl
    rw [this, Nat.testBit_div_two_pow, Nat.add_comm]
  rw [e1, e2]

/-- the last three steps -/
theorem last (x : Nat) (y1 y2 y3 : Nat) (h1 : each p4 8 x + each p4 8 x / 256 = y1) (h2 : y1 + y1 / 65536 = y2) (h3 : y2 + y2 / 4294967296 = y3) :
    y1 < 18446744073709551616 ∧ y2 < 18446744073709551616 ∧ y3 < 18446744073709551616 ∧ y3 % 128 = pc x 64 := by
  have e : pc x 64 = p4 (x % 256) + (p4 (x / 256 % 256) + (p4 (x / 256 / 256 % 256) + (p4 (x / 256 / 256 / 256 % 256) + (p4 (x / 256 / 256 / 256 / 256 % 256) + (p4 (x / 256 / 256 / 256 / 256 / 256 % 256) + (p4 (x / 256 / 256 / 256 / 256 / 256 / 256 % 256) + (p4 (x / 256 / 256 / 256 / 256 / 256 / 256 / 256 % 256)))))))) := by
    rw [show 64 = 8 + (8 + (8 + (8 + (8 + (8 + (8 + (8 + 0))))))) from rfl]
    simp only [pc_byte]
    rfl
  rw [e]
  simp only [each] at h1
  have b0 := p4_le (x % 256)
  have b1 := p4_le (x / 256 % 256)
  have b2 := p4_le (x / 256 / 256 % 256)
  have b3 := p4_le (x / 256 / 256 / 256 % 256)
  have b4 := p4_le (x / 256 / 256 / 256 / 256 % 256)
  have b5 := p4_le (x / 256 / 256 / 256 / 256 / 256 % 256)
  have b6 := p4_le (x / 256 / 256 / 256 / 256 / 256 / 256 % 256)
  have b7 := p4_le (x / 256 / 256 / 256 / 256 / 256 / 256 / 256 % 256)
  generalize p4 (x % 256) = a0 at *
  generalize p4 (x / 256 % 256) = a1 at *
  generalize p4 (x / 256 / 256 % 256) = a2 at *
  generalize p4 (x / 256 / 256 / 256 % 256) = a3 at *
  generalize p4 (x / 256 / 256 / 256 / 256 % 256) = a4 at *
  generalize p4 (x / 256 / 256 / 256 / 256 / 256 % 256) = a5 at *
  generalize p4 (x / 256 / 256 / 256 / 256 / 256 / 256 % 256) = a6 at *
  generalize p4 (x / 256 / 256 / 256 / 256 / 256 / 256 / 256 % 256) = a7 at *
  have k1 : y1 = (a0 + a1) + 256 * (a1 + a2) + 65536 * (a2 + a3) + 16777216 * (a3 + a4) + 4294967296 * (a4 + a5) + 1099511627776 * (a5 + a6) + 281474976710656 * (a6 + a7) + 72057594037927936 * a7 := by omega
  clear h1
  have k2 : y2 = (a0 + a1 + a2 + a3) + 256 * (a1 + a2 + a3 + a4) + 65536 * (a2 + a3 + a4 + a5) + 16777216 * (a3 + a4 + a5 + a6) + 4294967296 * (a4 + a5 + a6 + a7) + 1099511627776 * (a5 + a6 + a7) + 281474976710656 * (a6 + a7) + 72057594037927936 * a7 := by omega
  clear h2
  have k3 : y3 = (a0 + a1 + a2 + a3 + a4 + a5 + a6 + a7) + 256 * (a1 + a2 + a3 + a4 + a5 + a6 + a7) + 65536 * (a2 + a3 + a4 + a5 + a6 + a7) + 16777216 * (a3 + a4 + a5 + a6 + a7) + 4294967296 * (a4 + a5 + a6 + a7) + 1099511627776 * (a5 + a6 + a7) + 281474976710656 * (a6 + a7) + 72057594037927936 * a7 := by omega
  clear h3
  refine ⟨by omega, by omega, by omega, by omega⟩

end Go.Proofs.YtjgjomojcocegaaDoor.bt

/- Rows of bits in memory: what a row is, what stays when another one is written. -/
namespace Go.Proofs.YtjgjomojcocegaaDoor.bt
open Go.ChangeShapes Go.WideShapes Go.ChangeAt Go.RowKit

theorem ret_int {k : IntKind} {a b : Int} (h : a = b) : Ending.returned (.int k a) = .returned (.int k b) := by rw [h]
theorem ret_bool {a b : Bool} (h : a = b) : Ending.returned (.bool a) = .returned (.bool b) := by rw [h]

/-- all that lay there lies as it lay -/
def Bel (w w' : World) : Prop := Below w.heap.size w w'

theorem Bel.refl (w : World) : Bel w w := Below.refl _ _
theorem Bel.trans {a b c : World} (h : Bel a b) (k : Bel b c) : Bel a c := Below.trans h (k.mono h.size)
theorem Bel.drewN (w : World) (n : Nat) : Bel w (w.drewN n) := ⟨rfl, rfl, rfl, Nat.le_refl _, fun _ _ => rfl⟩
theorem Bel.then_drewN {w w' : World} (h : Bel w w') (n : Nat) : Bel w (w'.drewN n) := h.trans (Bel.drewN w' n)
theorem Bel.drew {w w' : World} (h : Bel w w') : Bel w w'.drew := Below.drew h
theorem Bel.alloc {w w' : World} (h : Bel w w') (o : Obj) : Bel w (w'.alloc o) := Below.alloc h h.size o
theorem Bel.of_eq {w w' : World} (h : w' = w) : Bel w w' := h ▸ Bel.refl _

/-- all that lay there lies as it lay, but for block g -/
def But (g : Nat) (w w' : World) : Prop :=
  w'.os = w.os ∧ w'.tape = w.tape ∧ w'.output = w.output ∧ w.heap.size ≤ w'.heap.size ∧ ∀ k, k < w.heap.size → k ≠ g → w'.heap[k]? = w.heap[k]?

theorem But.refl (g : Nat) (w : World) : But g w w := ⟨rfl, rfl, rfl, Nat.le_refl _, fun _ _ _ => rfl⟩
theorem But.trans {g : Nat} {a b c : World} (h : But g a b) (k : But g b c) : But g a c :=
  ⟨k.1.trans h.1, k.2.1.trans h.2.1, k.2.2.1.trans h.2.2.1, Nat.le_trans h.2.2.2.1 k.2.2.2.1, fun i hi hg => (k.2.2.2.2 i (Nat.lt_of_lt_of_le hi h.2.2.2.1) hg).trans (h.2.2.2.2 i hi hg)⟩
theorem Bel.but {w w' : World} (h : Bel w w') (g : Nat) : But g w w' := ⟨h.os, h.tape, h.output, h.size, fun k hk _ => h.block k hk⟩
theorem But.set {g : Nat} {w w' : World} (h : But g w w') (o : Nat) (u : Value) : But g w (w'.setCell ⟨g, o, none⟩ u) :=
  h.trans ⟨rfl, rfl, rfl, by simp [World.setCell], fun k _ hg => Below.heap_setCell _ _ _ _ hg⟩
theorem But.below {g n : Nat} {w0 w w' : World} (h : Below n w0 w) (k : But g w w') (hg : n ≤ g) (hn : n ≤ w.heap.size) : Below n w0 w' :=
  h.trans ⟨k.1, k.2.1, k.2.2.1, k.2.2.2.1, fun i hi => k.2.2.2.2 i (by omega) (by omega)⟩
theorem Bel.below {n : Nat} {w0 w w' : World} (h : Below n w0 w) (k : Bel w w') (hn : n ≤ w.heap.size) : Below n w0 w' := h.trans (Below.mono k hn)

theorem block_lt {w : World} {g : Nat} {o : Obj} (h : w.heap[g]? = some o) : g < w.heap.size := by
  by_cases c : g < w.heap.size
  · exact c
  · rw [Array.getElem?_eq_none (by omega)] at h; cases h

theorem cell_block {w : World} {a : Addr} {v : Value} (h : w.cell? a = some v) : a.block < w.heap.size ∧ a.spot = none := by
  unfold World.cell? at h
  by_cases c : a.block < w.heap.size
  · refine ⟨c, ?_⟩
    split at h
    · split at h
      · cases h
      · rename_i hs
        cases hh : a.spot
        · rfl
        · rw [hh] at hs; exact absurd rfl hs
    · cases h
  · have e : w.heap[a.block]? = none := by rw [Array.getElem?_eq_none_iff]; omega
    rw [e] at h; cases h

theorem cell_bel {w w' : World} (g : Bel w w') {a : Addr} {v : Value} (h : w.cell? a = some v) : w'.cell? a = some v := by
  rw [Below.cell g (cell_block h).1, h]
theorem cell_but {w w' : World} {g : Nat} (k : But g w w') {a : Addr} {v : Value} (h : w.cell? a = some v) (hg : a.block ≠ g) : w'.cell? a = some v := by
  rw [World.cell?_of_block (k.2.2.2.2 _ (cell_block h).1 hg), h]

/-- a slice of cells -/
def Row (w : World) (v : Value) (n : Nat) (x : Nat → Value) : Prop :=
  (n = 0 ∧ ∃ p cap, v = .slice p 0 cap) ∨
  ∃ b off cap, v = .slice (some ⟨b, off, none⟩) n cap ∧ 1 ≤ n ∧ n ≤ cap ∧ cap ≤ 9223372036854775807 ∧ ∀ j, j < n → w.cell? ⟨b, off + j, none⟩ = some (x j)

/-- a slice of words -/
def Words (w : World) (v : Value) (n : Nat) (g : Nat → Nat) : Prop := Row w v n fun j => .int .u64 (g j : Nat)
/-- a slice of truths, in a block of truths -/
def Bools (w : World) (v : Value) (n : Nat) (f : Nat → Bool) : Prop :=
  (n = 0 ∧ ∃ p cap, v = .slice p 0 cap) ∨
  ∃ b cap cs, v = .slice (some ⟨b, 0, none⟩) n cap ∧ 1 ≤ n ∧ n ≤ cap ∧ cap ≤ 9223372036854775807 ∧ w.heap[b]? = some (.cells cs 4 (0, 0)) ∧ ∀ j, j < n → cs[j]? = some (.bool (f j))

theorem Row.bel {w w' : World} {v : Value} {n : Nat} {x : Nat → Value} (h : Row w v n x) (g : Bel w w') : Row w' v n x := by
  rcases h with h | ⟨b, off, cap, h1, h2, h3, h4, h5⟩
  · exact Or.inl h
  · exact Or.inr ⟨b, off, cap, h1, h2, h3, h4, fun j hj => cell_bel g (h5 j hj)⟩
theorem Words.bel {w w' : World} {v : Value} {n : Nat} {g : Nat → Nat} (h : Words w v n g) (k : Bel w w') : Words w' v n g := Row.bel h k
theorem Row.slice {w : World} {v : Value} {n : Nat} {x : Nat → Value} (h : Row w v n x) : ∃ p cap, v = .slice p n cap := by
  rcases h with ⟨rfl, p, cap, rfl⟩ | ⟨b, off, cap, rfl, _⟩ <;> exact ⟨_, _, rfl⟩
theorem Bools.bel {w w' : World} {v : Value} {n : Nat} {f : Nat → Bool} (h : Bools w v n f) (k : Bel w w') : Bools w' v n f := by
  rcases h with h | ⟨b, cap, cs, h1, h2, h3, h4, h5, h6⟩
  · exact Or.inl h
  · exact Or.inr ⟨b, cap, cs, h1, h2, h3, h4, (k.block _ (block_lt h5)).trans h5, h6⟩
theorem Bools.slice {w : World} {v : Value} {n : Nat} {f : Nat → Bool} (h : Bools w v n f) : ∃ p cap, v = .slice p n cap := by
  rcases h with ⟨rfl, p, cap, rfl⟩ | ⟨b, cap, cs, rfl, _⟩ <;> exact ⟨_, _, rfl⟩
theorem Bools.row {w : World} {v : Value} {n : Nat} {f : Nat → Bool} (h : Bools w v n f) : Row w v n fun j => .bool (f j) := by
  rcases h with h | ⟨b, cap, cs, h1, h2, h3, h4, h5, h6⟩
  · exact Or.inl h
  · exact Or.inr ⟨b, 0, cap, h1, h2, h3, h4, fun j hj => by rw [Nat.zero_add, cell_of_row _ _ _ _ _ _ h5]; exact h6 j hj⟩
theorem Bools.congr {w : World} {v : Value} {n : Nat} {f g : Nat → Bool} (h : Bools w v n f) (k : ∀ j, j < n → f j = g j) : Bools w v n g := by
  rcases h with h | ⟨b, cap, cs, h1, h2, h3, h4, h5, h6⟩
  · exact Or.inl h
  · exact Or.inr ⟨b, cap, cs, h1, h2, h3, h4, h5, fun j hj => by rw [h6 j hj, k j hj]⟩

/-- a row of bits: its block, its words' block and room -/
def RowIs (w : World) (b g ca n : Nat) (f : Nat → Bool) : Prop :=
  n ≤ 65536 ∧ Fits n f ∧ nw n ≤ ca ∧ w.heap[b]? = some (.cells #[.int .i64 (n : Nat), .slice (some ⟨g, 0, none⟩) (nw n) ca, .bool true] 92 (0, 0)) ∧
  ∃ cs, w.heap[g]? = some (.cells cs 89 (0, 0)) ∧ ∀ k, k < nw n → cs[k]? = some (.int .u64 (W f k : Nat))

/-- a block of words -/
def WordsAt (w : World) (g : Nat) : Prop := ∃ cs, w.heap[g]? = some (.cells cs 89 (0, 0))

theorem WordsAt.bel {w w' : World} {g : Nat} (h : WordsAt w g) (k : Bel w w') : WordsAt w' g := by
  obtain ⟨cs, h⟩ := h
  exact ⟨cs, (k.block _ (block_lt h)).trans h⟩

section
variable {w w' : World} {b g ca n : Nat} {f : Nat → Bool}

theorem RowIs.head (h : RowIs w b g ca n f) : w.cell? ⟨b, 0, none⟩ = some (.int .i64 (n : Nat)) ∧ w.cell? ⟨b, 1, none⟩ = some (.slice (some ⟨g, 0, none⟩) (nw n) ca) ∧ w.cell? ⟨b, 2, none⟩ = some (.bool true) := by
  obtain ⟨_, _, _, h, _⟩ := h
  exact ⟨cell_of_row _ _ 0 _ _ _ h, cell_of_row _ _ 1 _ _ _ h, cell_of_row _ _ 2 _ _ _ h⟩

theorem RowIs.word (h : RowIs w b g ca n f) {k : Nat} (hk : k < nw n) : w.cell? ⟨g, k, none⟩ = some (.int .u64 (W f k : Nat)) ∧ w.frozen? ⟨g, k, none⟩ = false := by
  obtain ⟨_, _, _, _, cs, hc, hw⟩ := h
  refine ⟨by rw [cell_of_row _ _ k _ _ _ hc]; exact hw k hk, by simp [World.frozen?, hc]⟩

theorem RowIs.bel (h : RowIs w b g ca n f) (k : Bel w w') : RowIs w' b g ca n f := by
  obtain ⟨h1, h2, h0, h3, cs, h4, h5⟩ := h
  exact ⟨h1, h2, h0, (k.block _ (block_lt h3)).trans h3, cs, (k.block _ (block_lt h4)).trans h4, h5⟩

theorem RowIs.at (h : RowIs w b g ca n f) : WordsAt w g := by
  obtain ⟨h1, h2, _, h3, cs, h4, _⟩ := h
  exact ⟨cs, h4⟩

theorem RowIs.ne (h : RowIs w b g ca n f) {g' : Nat} (h' : WordsAt w g') : b ≠ g' := by
  obtain ⟨_, _, _, h3, _⟩ := h
  obtain ⟨cs', h4⟩ := h'
  rintro rfl
  rw [h3] at h4
  cases h4

theorem RowIs.but {g' : Nat} (h : RowIs w b g ca n f) (k : But g' w w') (h' : WordsAt w g') (hg : g ≠ g') : RowIs w' b g ca n f := by
  have hb := h.ne h'
  obtain ⟨h1, h2, h0, h3, cs, h4, h5⟩ := h
  exact ⟨h1, h2, h0, (k.2.2.2.2 _ (block_lt h3) hb).trans h3, cs, (k.2.2.2.2 _ (block_lt h4) hg).trans h4, h5⟩

theorem Bools.but {v : Value} {m g' : Nat} {q : Nat → Bool} (h : Bools w v m q) (k : But g' w w') (h' : WordsAt w g') : Bools w' v m q := by
  rcases h with h | ⟨b, cap, cs, h1, h2, h3, h4, h5, h6⟩
  · exact Or.inl h
  · refine Or.inr ⟨b, cap, cs, h1, h2, h3, h4, (k.2.2.2.2 _ (block_lt h5) ?_).trans h5, h6⟩
    rintro rfl
    obtain ⟨cs', h'⟩ := h'
    rw [h5] at h'
    cases h'

/-- one word written -/
theorem RowIs.put {f' : Nat → Bool} {k : Nat} (h : RowIs w b g ca n f) (hk : k < nw n) (hf : Fits n f') (ho : ∀ j, j < nw n → j ≠ k → W f' j = W f j) : RowIs (w.setCell ⟨g, k, none⟩ (.int .u64 (W f' k : Nat))) b g ca n f' := by
  have hb := h.ne h.at
  obtain ⟨h1, h2, h0, h3, cs, h4, h6⟩ := h
  refine ⟨h1, hf, h0, by rw [Below.heap_setCell _ _ _ _ hb]; exact h3, cs.setIfInBounds k (.int .u64 (W f' k : Nat)), ?_, fun j hj => ?_⟩
  · simp [World.setCell, Array.getElem?_modify, h4]
  · have hs := (Array.getElem?_eq_some_iff.1 (h6 j hj)).1
    by_cases c : j = k
    · subst c
      rw [Array.getElem?_setIfInBounds]
      simp [hs]
    · rw [Array.getElem?_setIfInBounds, if_neg (fun e => c e.symm), h6 j hj, ho j hj c]
end

/-- a row, or none: its pointer, its number of bits, its words, is it one -/
def Hdr (w : World) (p : Value) (n : Nat) (s : Value) (m : Bool) : Prop :=
  (p = .pointer none ∧ n = 0 ∧ s = .slice none 0 0 ∧ m = false) ∨
  ∃ b, p = .pointer (some ⟨b, 0, none⟩) ∧ w.cell? ⟨b, 0, none⟩ = some (.int .i64 (n : Nat)) ∧ w.cell? ⟨b, 1, none⟩ = some s ∧ w.cell? ⟨b, 2, none⟩ = some (.bool m)

theorem RowIs.hdr {w : World} {b g ca n : Nat} {f : Nat → Bool} (h : RowIs w b g ca n f) : Hdr w (.pointer (some ⟨b, 0, none⟩)) n (.slice (some ⟨g, 0, none⟩) (nw n) ca) true :=
  Or.inr ⟨b, rfl, h.head.1, h.head.2.1, h.head.2.2⟩
theorem hdr_nil (w : World) : Hdr w (.pointer none) 0 (.slice none 0 0) false := Or.inl ⟨rfl, rfl, rfl, rfl⟩
theorem Hdr.bel {w w' : World} {p : Value} {n : Nat} {s : Value} {m : Bool} (h : Hdr w p n s m) (k : Bel w w') : Hdr w' p n s m := by
  rcases h with h | ⟨b, h1, h2, h3, h4⟩
  · exact Or.inl h
  · exact Or.inr ⟨b, h1, cell_bel k h2, cell_bel k h3, cell_bel k h4⟩

end Go.Proofs.YtjgjomojcocegaaDoor.bt

/- The contracts of the small functions of the program. -/
namespace Go.Proofs.YtjgjomojcocegaaDoor.bt
open Go.ChangeShapes Go.WideShapes Go.ChangeAt Go.RowKit

theorem len_any {p : Value} {n : Nat} {s : Value} {m : Bool} (w : World) (h : Hdr w p n s m) :
    Calls Tryd.prog 21 #[p] w fun e w' => e = .returned (.int .i64 (n : Nat)) ∧ w' = w := by
  rcases h with ⟨rfl, rfl, rfl, rfl⟩ | ⟨b, rfl, h1, h2, h3⟩
  · go_enter Tryd.func21, Tryd.ntmps21
    go_wp2
    go_ret
    exact ⟨rfl, rfl⟩
  · go_enter Tryd.func21, Tryd.ntmps21
    go_wp2
    go_ret
    exact ⟨rfl, rfl⟩

theorem held_any {p : Value} {n : Nat} {s : Value} {m : Bool} (w : World) (h : Hdr w p n s m) :
    Calls Tryd.prog 44 #[p] w fun e w' => e = .returned s ∧ w' = w := by
  rcases h with ⟨rfl, rfl, rfl, rfl⟩ | ⟨b, rfl, h1, h2, h3⟩
  · go_enter Tryd.func44, Tryd.ntmps44
    go_wp2
    go_ret
    exact ⟨rfl, rfl⟩
  · go_enter Tryd.func44, Tryd.ntmps44
    go_wp2
    go_ret
    exact ⟨rfl, rfl⟩

theorem exists_any {p : Value} {n : Nat} {s : Value} {m : Bool} (w : World) (h : Hdr w p n s m) :
    Calls Tryd.prog 60 #[p] w fun e w' => e = .returned (.bool m) ∧ w' = w := by
  rcases h with ⟨rfl, rfl, rfl, rfl⟩ | ⟨b, rfl, h1, h2, h3⟩
  · go_enter Tryd.func60, Tryd.ntmps60
    go_wp2
    go_ret
    exact ⟨rfl, rfl⟩
  · go_enter Tryd.func60, Tryd.ntmps60
    go_wp2
    go_ret
    exact ⟨rfl, rfl⟩

/-- is there a bit? -/
def there (n : Nat) (i : Int) : Bool := decide (0 ≤ i ∧ i < n)

theorem has_any {p : Value} {n : Nat} {s : Value} {m : Bool} (i : Int) (w : World) (h : Hdr w p n s m) :
    Calls Tryd.prog 43 #[p, .int .i64 i] w fun e w' => e = .returned (.bool (there n i)) ∧ w' = w := by
  have c := len_any w h
  clear h
  by_cases h0 : 0 ≤ i
  · have e : there n i = decide (i < (n : Int)) := by unfold there; simp [h0]
    rw [e]
    have d : decide (0 ≤ i) = true := decide_eq_true h0
    go_enter Tryd.func43, Tryd.ntmps43
    go_wp2_with (go_at_call 21; refine c.mono ?_; rintro e w' ⟨rfl, hw⟩; rw [hw])
    go_ret
    exact ⟨rfl, rfl⟩
  · have e : there n i = false := decide_eq_false (by omega)
    rw [e]
    have d : decide (0 ≤ i) = false := decide_eq_false h0
    clear c
    go_enter Tryd.func43, Tryd.ntmps43
    go_wp2
    go_ret
    exact ⟨rfl, rfl⟩

theorem ones_any (m : Nat) (w : World) (h2 : m ≤ 64) :
    Calls Tryd.prog 65 #[.int .i64 (m : Nat)] w fun e w' => e = .returned (.int .u64 ((2 ^ m - 1 : Nat) : Int)) ∧ w' = w := by
  go_enter Tryd.func65, Tryd.ntmps65
  go_wp2
  go_ret
  refine ⟨ret_int ?_, rfl⟩
  rw [IntKind.wrap_u64, IntKind.wrap_u64]
  have p := Nat.two_pow_pos m
  have q : 2 ^ m ≤ 18446744073709551616 := Nat.le_trans (Nat.pow_le_pow_right (by decide) h2) (Nat.le_refl (2 ^ 64))
  have e : (2 : Int) ^ m = ((2 ^ m : Nat) : Int) := by simp
  rw [e]
  generalize 2 ^ m = P at *
  omega

/-- is the bit 1? -/
def getB (n : Nat) (f : Nat → Bool) (i : Int) : Bool := there n i && f i.toNat

theorem get_no {p : Value} {n : Nat} {s : Value} {m : Bool} (i : Int) (w : World) (h : Hdr w p n s m) (no : there n i = false) :
    Calls Tryd.prog 15 #[p, .int .i64 i] w fun e w' => e = .returned (.bool false) ∧ w' = w := by
  have c := has_any i w h
  rw [no] at c
  clear h no
  go_enter Tryd.func15, Tryd.ntmps15
  go_wp2_with (go_at_call 43; refine c.mono ?_; rintro e w' ⟨rfl, hw⟩; rw [hw])
  go_ret
  exact ⟨rfl, rfl⟩

theorem u64_and_nat (a b : Nat) (ha : a < 18446744073709551616) (hb : b < 18446744073709551616) : bits .and .u64 (a : Int) (b : Int) = ((a &&& b : Nat) : Int) := by
  have hx : a &&& b < 2 ^ 64 := Nat.and_lt_two_pow _ (by omega)
  have h1 : (BitVec.ofInt 64 (a : Int)).toNat = a := by
    rw [BitVec.ofInt_natCast, BitVec.toNat_ofNat]; exact Nat.mod_eq_of_lt (by omega)
  have h2 : (BitVec.ofInt 64 (b : Int)).toNat = b := by
    rw [BitVec.ofInt_natCast, BitVec.toNat_ofNat]; exact Nat.mod_eq_of_lt (by omega)
  show IntKind.u64.wrap ((BitVec.ofInt 64 (a : Int) &&& BitVec.ofInt 64 (b : Int)).toNat : Int) = _
  rw [BitVec.toNat_and, h1, h2, IntKind.wrap_u64]
  omega
theorem u64_or_nat (a b : Nat) (ha : a < 18446744073709551616) (hb : b < 18446744073709551616) : bits .or .u64 (a : Int) (b : Int) = ((a ||| b : Nat) : Int) := by
  have hx : a ||| b < 2 ^ 64 := Nat.or_lt_two_pow (by omega) (by omega)
  have h1 : (BitVec.ofInt 64 (a : Int)).toNat = a := by
    rw [BitVec.ofInt_natCast, BitVec.toNat_ofNat]; exact Nat.mod_eq_of_lt (by omega)
  have h2 : (BitVec.ofInt 64 (b : Int)).toNat = b := by
    rw [BitVec.ofInt_natCast, BitVec.toNat_ofNat]; exact Nat.mod_eq_of_lt (by omega)
  show IntKind.u64.wrap ((BitVec.ofInt 64 (a : Int) ||| BitVec.ofInt 64 (b : Int)).toNat : Int) = _
  rw [BitVec.toNat_or, h1, h2, IntKind.wrap_u64]
  omega
theorem u64_xor_nat (a b : Nat) (ha : a < 18446744073709551616) (hb : b < 18446744073709551616) : bits .xor .u64 (a : Int) (b : Int) = ((a ^^^ b : Nat) : Int) := by
  have hx : a ^^^ b < 2 ^ 64 := Nat.xor_lt_two_pow (by omega) (by omega)
  have h1 : (BitVec.ofInt 64 (a : Int)).toNat = a := by
    rw [BitVec.ofInt_natCast, BitVec.toNat_ofNat]; exact Nat.mod_eq_of_lt (by omega)
  have h2 : (BitVec.ofInt 64 (b : Int)).toNat = b := by
    rw [BitVec.ofInt_natCast, BitVec.toNat_ofNat]; exact Nat.mod_eq_of_lt (by omega)
  show IntKind.u64.wrap ((BitVec.ofInt 64 (a : Int) ^^^ BitVec.ofInt 64 (b : Int)).toNat : Int) = _
  rw [BitVec.toNat_xor, h1, h2, IntKind.wrap_u64]
  omega
theorem u64_andNot_nat (a b : Nat) (ha : a < 18446744073709551616) (hb : b < 18446744073709551616) : bits .andNot .u64 (a : Int) (b : Int) = ((minus a b : Nat) : Int) := by
  have hx : minus a b < 2 ^ 64 := Nat.and_lt_two_pow _ (by omega)
  have h1 : (BitVec.ofInt 64 (a : Int)).toNat = a := by
    rw [BitVec.ofInt_natCast, BitVec.toNat_ofNat]; exact Nat.mod_eq_of_lt (by omega)
  have h2 : (BitVec.ofInt 64 (b : Int)).toNat = b := by
    rw [BitVec.ofInt_natCast, BitVec.toNat_ofNat]; exact Nat.mod_eq_of_lt (by omega)
  have h3 : (BitVec.ofInt 64 (a : Int) &&& ~~~ BitVec.ofInt 64 (b : Int)).toNat = minus a b := by
    rw [BitVec.toNat_and, BitVec.toNat_not, h1, h2]
    unfold minus
    congr 1
  show IntKind.u64.wrap ((BitVec.ofInt 64 (a : Int) &&& ~~~ BitVec.ofInt 64 (b : Int)).toNat : Int) = _
  rw [h3, IntKind.wrap_u64]
  omega

theorem wrap64_nat {k : Nat} (h : k ≤ 1000000000) : wrap64 (k : Int) = (k : Int) := IntWalk.wrap64_in _ ⟨by omega, by omega⟩
theorem bit_int (x i : Nat) : ((x : Int) / 2 ^ i) = ((x / 2 ^ i : Nat) : Int) := by simp
theorem bit_is (f : Nat → Bool) (i : Nat) : W f (i / 64) / 2 ^ (i % 64) &&& 1 = if f i then 1 else 0 := by
  rw [Nat.and_one_is_mod]
  have h := bit_W f (i / 64) (i % 64)
  rw [Nat.testBit_eq_decide_div_mod_eq, decide_eq_true (by omega : i % 64 < 64), Bool.true_and] at h
  have e : 64 * (i / 64) + i % 64 = i := by omega
  rw [e] at h
  cases hf : f i
  · rw [hf] at h
    have := of_decide_eq_false h
    simp; omega
  · rw [hf] at h
    have := of_decide_eq_true h
    simpa using this

theorem quo64 (i : Nat) : Int.tdiv (i : Int) 64 = ((i / 64 : Nat) : Int) := by
  rw [Int.tdiv_eq_ediv_of_nonneg (by omega)]; omega
theorem rem64 (i : Nat) : Int.tmod (i : Int) 64 = ((i % 64 : Nat) : Int) := by
  rw [Int.tmod_eq_emod_of_nonneg (by omega)]; omega
theorem idx {i n : Nat} (hi : i < n) (hn : n ≤ 65536) : i / 64 < nw n ∧ i % 64 < 64 ∧ wrap64 ((i / 64 : Nat) : Int) = ((i / 64 : Nat) : Int) ∧ ((i / 64 : Nat) : Int) < ((nw n : Nat) : Int) ∧ (0 : Int) ≤ ((i / 64 : Nat) : Int) := by
  have h : i / 64 < nw n := by unfold nw; omega
  exact ⟨h, by omega, wrap64_nat (by omega), by omega, by omega⟩

theorem get_yes {b g ca n : Nat} {f : Nat → Bool} (i : Nat) (w : World) (h : RowIs w b g ca n f) (hi : i < n) :
    Calls Tryd.prog 15 #[.pointer (some ⟨b, 0, none⟩), .int .i64 (i : Nat)] w fun e w' => e = .returned (.bool (f i)) ∧ w' = w := by
  have hn := h.1
  have c := has_any i w h.hdr
  rw [show there n (i : Int) = true from decide_eq_true ⟨by omega, by omega⟩] at c
  obtain ⟨h0, h1, h2⟩ := h.head
  obtain ⟨hk, h64, wK, kI, k0⟩ := idx hi hn
  obtain ⟨h3, _⟩ := h.word hk
  have e0 := quo64 i
  have e1 := rem64 i
  have e2 := bit_int (W f (i / 64)) (i % 64)
  have e3 : bits .and .u64 ((W f (i / 64) / 2 ^ (i % 64) : Nat) : Int) 1 = _ := u64_and_nat (W f (i / 64) / 2 ^ (i % 64)) 1 (Nat.lt_of_le_of_lt (Nat.div_le_self _ _) (W_lt f _)) (by decide)
  rw [bit_is] at e3
  generalize f i = t at *
  generalize W f (i / 64) / 2 ^ (i % 64) = Q at *
  generalize W f (i / 64) = R at *
  generalize i / 64 = K at *
  generalize i % 64 = J at *
  generalize nw n = N at *
  clear h hi hn
  cases t
  all_goals simp only [Bool.false_eq_true, if_false, if_true, Int.ofNat_zero, Int.ofNat_one] at e3
  · go_enter Tryd.func15, Tryd.ntmps15
    go_wp2_with (go_at_call 43; refine c.mono ?_; rintro e w' ⟨rfl, hw⟩; rw [hw])
    go_ret
    exact ⟨rfl, rfl⟩
  · go_enter Tryd.func15, Tryd.ntmps15
    go_wp2_with (go_at_call 43; refine c.mono ?_; rintro e w' ⟨rfl, hw⟩; rw [hw])
    go_ret
    exact ⟨rfl, rfl⟩

theorem get_any {b g ca n : Nat} {f : Nat → Bool} (i : Int) (w : World) (h : RowIs w b g ca n f) :
    Calls Tryd.prog 15 #[.pointer (some ⟨b, 0, none⟩), .int .i64 i] w fun e w' => e = .returned (.bool (getB n f i)) ∧ w' = w := by
  unfold getB
  cases c : there n i
  · exact get_no i w h.hdr c
  · have := of_decide_eq_true c
    obtain ⟨k, rfl⟩ : ∃ k : Nat, i = k := ⟨i.toNat, by omega⟩
    exact get_yes k w h (by omega)

end Go.Proofs.YtjgjomojcocegaaDoor.bt

/- New, Set, Clear of the program. -/
namespace Go.Proofs.YtjgjomojcocegaaDoor.bt
open Go.ChangeShapes Go.WideShapes Go.ChangeAt Go.RowKit

theorem set_none {p : Value} {n : Nat} {s : Value} (i : Int) (is : Bool) (w : World) (h : Hdr w p n s false) :
    Calls Tryd.prog 49 #[p, .int .i64 i, .bool is] w fun e w' => e = .returned (.int .i64 1) ∧ w' = w := by
  have c := exists_any w h
  clear h
  go_enter Tryd.func49, Tryd.ntmps49
  go_wp2_with (go_at_call 60; refine c.mono ?_; rintro e w' ⟨rfl, hw⟩; rw [hw])
  go_ret
  exact ⟨rfl, rfl⟩

theorem set_out {p : Value} {n : Nat} {s : Value} (i : Int) (is : Bool) (w : World) (h : Hdr w p n s true) (no : there n i = false) :
    Calls Tryd.prog 49 #[p, .int .i64 i, .bool is] w fun e w' => e = .returned (.int .i64 2) ∧ w' = w := by
  have c := exists_any w h
  have d := has_any i w h
  rw [no] at d
  clear h no
  go_enter Tryd.func49, Tryd.ntmps49
  go_wp2_with (first | (go_at_call 60; refine c.mono ?_; rintro e w' ⟨rfl, hw⟩; rw [hw]) | (go_at_call 43; refine d.mono ?_; rintro e w' ⟨rfl, hw⟩; rw [hw]))
  go_ret
  exact ⟨rfl, rfl⟩

theorem wrap_pow {k : Nat} (h : k < 64) : IntKind.u64.wrap (2 ^ k) = ((2 ^ k : Nat) : Int) := by
  have := two_lt h
  have e : (2 : Int) ^ k = ((2 ^ k : Nat) : Int) := by simp
  rw [e, IntKind.wrap_u64]
  generalize 2 ^ k = P at *
  omega

theorem set_in {b g ca n : Nat} {f : Nat → Bool} (i : Nat) (is : Bool) (w : World) (h : RowIs w b g ca n f) (hi : i < n) :
    Calls Tryd.prog 49 #[.pointer (some ⟨b, 0, none⟩), .int .i64 (i : Nat), .bool is] w fun e w' => e = .returned (.int .i64 0) ∧ w' = w.setCell ⟨g, i / 64, none⟩ (.int .u64 (W (upd f i is) (i / 64) : Nat)) := by
  have hn := h.1
  have c := exists_any w h.hdr
  have d := has_any i w h.hdr
  rw [show there n (i : Int) = true from decide_eq_true ⟨by omega, by omega⟩] at d
  obtain ⟨h0, h1, h2⟩ := h.head
  obtain ⟨hk, h64, wK, kI, k0⟩ := idx hi hn
  obtain ⟨h3, h4⟩ := h.word hk
  have e0 := quo64 i
  have e1 := rem64 i
  have e2 := wrap_pow h64
  have e3 := u64_or_nat (W f (i / 64)) (2 ^ (i % 64)) (W_lt f _) (two_lt h64)
  rw [W_or] at e3
  have e4 := u64_andNot_nat (W f (i / 64)) (2 ^ (i % 64)) (W_lt f _) (two_lt h64)
  rw [W_minus_bit] at e4
  clear h hi hn
  cases is
  all_goals
    generalize W (upd f i true) (i / 64) = R1 at *
    generalize W (upd f i false) (i / 64) = R0 at *
    generalize W f (i / 64) = R at *
    generalize 2 ^ (i % 64) = Q at *
    generalize i / 64 = K at *
    generalize i % 64 = J at *
    generalize nw n = N at *
  · go_enter Tryd.func49, Tryd.ntmps49
    go_wp2_with (first | (go_at_call 60; refine c.mono ?_; rintro e w' ⟨rfl, hw⟩; rw [hw]) | (go_at_call 43; refine d.mono ?_; rintro e w' ⟨rfl, hw⟩; rw [hw]))
    go_ret
    exact ⟨rfl, rfl⟩
  · go_enter Tryd.func49, Tryd.ntmps49
    go_wp2_with (first | (go_at_call 60; refine c.mono ?_; rintro e w' ⟨rfl, hw⟩; rw [hw]) | (go_at_call 43; refine d.mono ?_; rintro e w' ⟨rfl, hw⟩; rw [hw]))
    go_ret
    exact ⟨rfl, rfl⟩

/-- what Set answers, and does -/
def setE (n : Nat) (i : Int) : Int := if there n i then 0 else 2
def setF (n : Nat) (f : Nat → Bool) (i : Int) (is : Bool) : Nat → Bool := if there n i then upd f i.toNat is else f

theorem fits_set {n : Nat} {f : Nat → Bool} (h : Fits n f) (i : Int) (is : Bool) : Fits n (setF n f i is) := by
  unfold setF
  split
  · rename_i c
    have := of_decide_eq_true c
    exact fits_upd h (by omega) is
  · exact h

theorem set_any {b g ca n : Nat} {f : Nat → Bool} (i : Int) (is : Bool) (w : World) (h : RowIs w b g ca n f) :
    Calls Tryd.prog 49 #[.pointer (some ⟨b, 0, none⟩), .int .i64 i, .bool is] w fun e w' => e = .returned (.int .i64 (setE n i)) ∧ RowIs w' b g ca n (setF n f i is) ∧ But g w w' := by
  unfold setE setF
  cases c : there n i
  · refine (set_out i is w h.hdr c).mono ?_
    rintro e w' ⟨rfl, rfl⟩
    exact ⟨rfl, h, But.refl _ _⟩
  · have := of_decide_eq_true c
    obtain ⟨k, rfl⟩ : ∃ k : Nat, i = k := ⟨i.toNat, by omega⟩
    have hk : k < n := by omega
    refine (set_in k is w h hk).mono ?_
    rintro e w' ⟨rfl, rfl⟩
    rw [Int.toNat_natCast]
    exact ⟨rfl, h.put (idx hk h.1).1 (fits_upd h.2.1 hk is) fun j hj hne => W_upd_other f k j is hne, (But.refl _ _).set _ _⟩

theorem info53 : (Tryd.prog.info? 89).map (fun i => (i.zero, i.size, i.bytes)) = some (some (.int .u64 0), 1, 8) := by kernel_rfl

theorem two_blocks (w : World) (a b : Obj) : ((w.alloc a).alloc b).heap[w.heap.size]? = some a ∧ ((w.alloc a).alloc b).heap[w.heap.size + 1]? = some b := by
  have s1 : (w.alloc a).heap.size = w.heap.size + 1 := by show (w.heap.push a).size = _; simp
  refine ⟨?_, ?_⟩
  · rw [Below.heap_alloc _ _ _ (by omega)]; exact heap_alloc_new w a
  · rw [← s1]; exact heap_alloc_new _ b

/-- New: a row of its own -/
def NewRow (n : Nat) (f : Nat → Bool) (w : World) (e : Ending) (w' : World) : Prop :=
  ∃ b g ca, e = .returned (.tuple #[.pointer (some ⟨b, 0, none⟩), .int .i64 0]) ∧ RowIs w' b g ca n f ∧ w.heap.size ≤ g ∧ w.heap.size ≤ b ∧ Bel w w'

theorem new_bad (x : Int) (w : World) (h : x < 0 ∨ 65536 < x) :
    Calls Tryd.prog 20 #[.int .i64 x] w fun e w' => e = .returned (.tuple #[.pointer none, .int .i64 2]) ∧ w' = w := by
  by_cases c : x < 0
  · have d : decide (x < 0) = true := decide_eq_true c
    go_enter Tryd.func20, Tryd.ntmps20
    go_wp2
    go_ret2
    exact ⟨rfl, rfl⟩
  · have d : decide (x < 0) = false := decide_eq_false c
    have d2 : decide (65536 < x) = true := decide_eq_true (by omega)
    go_enter Tryd.func20, Tryd.ntmps20
    go_wp2
    go_ret2
    exact ⟨rfl, rfl⟩

theorem row_new (w w1 : World) (n : Nat) (hn : n ≤ 65536) (h : w1.ownsRow w.heap.size 89 1 (.slice (some ⟨w.heap.size, 0, none⟩) (nw n) (nw n)) (nw n) (madeCells (Value.int .u64 0).cells (nw n * 1)).toList) (hg : w.grownBy w1 none) :
    RowIs (w1.alloc (.cells #[.int .i64 (n : Nat), .slice (some ⟨w.heap.size, 0, none⟩) (nw n) (nw n), .bool true] 92)) w1.heap.size w.heap.size (nw n) n (fun _ => false) ∧
      Bel w (w1.alloc (.cells #[.int .i64 (n : Nat), .slice (some ⟨w.heap.size, 0, none⟩) (nw n) (nw n), .bool true] 92)) := by
  have hb : Bel w w1 := (Bel.refl w).grown hg (Nat.le_refl _) (fun k e => by cases e)
  obtain ⟨hl, h⟩ := h
  rcases h with ⟨h, _⟩ | ⟨g, cap, cur, hv, _, hc, hle, _, hs, ht⟩
  · cases h
  · cases hv
    refine ⟨⟨hn, fits_none n, Nat.le_refl _, heap_alloc_new _ _, cur, ?_, fun k hk => ?_⟩, hb.alloc _⟩
    · rw [Below.heap_alloc _ _ _ (block_lt hc)]; exact hc
    · rw [W_none]
      have hz : (madeCells (Value.int .u64 0).cells (nw n * 1)).toList[k]? = some (.int .u64 0) := by
        show (madeCells #[Value.int .u64 0] (nw n * 1)).toList[k]? = _
        rw [toList_madeCells_one, List.getElem?_replicate, if_pos (by omega)]
      rw [← ht, List.getElem?_take] at hz
      simpa [hk] using hz

theorem new_ok (n : Nat) (hn : n ≤ 65536) (w : World) : Calls Tryd.prog 20 #[.int .i64 (n : Nat)] w (NewRow n (fun _ => false) w) := by
  obtain ⟨i0, hi, hz0, hz1, hz2⟩ := info_parts info53
  have fin := fun w1 h hg => row_new w w1 n hn h hg
  have hq : ((n : Int) + 64 - 1) / 64 = ((nw n : Nat) : Int) := by unfold nw; omega
  have hw : nw n ≤ 65536 := by unfold nw; omega
  have b2 : i0.bytes * nw n ≤ 281474976710656 := by rw [hz2]; omega
  have b3 : nw n ≤ maxLen := by unfold maxLen; omega
  have d1 : decide ((n : Int) < 0) = false := decide_eq_false (by omega)
  have d2 : decide (65536 < (n : Int)) = false := decide_eq_false (by omega)
  generalize nw n = N at *
  have hq := Lib.hid hq
  go_enter Tryd.func20, Tryd.ntmps20
  go_wp2_with (at_make; (refine wpList_make_full _ rfl _ _ _ rfl w.heap.size 89 i0 _ 1 Tryd.underlying90 hi hz0 hz1 .i64 .i64 _ _ N rfl rfl hq.out hq.out b2 b3 (Nat.le_refl _) ?_; intro w1 hown hgrow))
  go_ret2
  exact ⟨w1.heap.size, w.heap.size, N, rfl, (fin w1 hown hgrow).1, Nat.le_refl _, hgrow.size, (fin w1 hown hgrow).2⟩

end Go.Proofs.YtjgjomojcocegaaDoor.bt

/- Clear, Words, Copy of the program. -/
namespace Go.Proofs.YtjgjomojcocegaaDoor.bt
open Go.ChangeShapes Go.WideShapes Go.ChangeAt Go.RowKit

theorem blk_setCells (g : Nat) (t : TypeId) : ∀ (vs : List Value) (o : Nat) (w : World) (cs : Array Value), w.heap[g]? = some (.cells cs t (0, 0)) →
    ∃ cs', (w.setCells g o vs).heap[g]? = some (.cells cs' t (0, 0)) ∧ cs'.size = cs.size ∧ But g w (w.setCells g o vs) ∧ ∀ j, j < cs.size → cs'[j]? = if o ≤ j ∧ j < o + vs.length then vs[j - o]? else cs[j]?
  | [], o, w, cs, h => ⟨cs, h, rfl, But.refl _ _, fun j hj => by rw [if_neg (by simp)]⟩
  | v :: r, o, w, cs, h => by
    have h1 : (w.setCell ⟨g, o, none⟩ v).heap[g]? = some (.cells (cs.setIfInBounds o v) t (0, 0)) := by
      simp [World.setCell, Array.getElem?_modify, h]
    obtain ⟨cs', k1, k2, k3, k4⟩ := blk_setCells g t r (o + 1) _ _ h1
    refine ⟨cs', k1, by rw [k2]; simp, (((But.refl g w).set o v).trans k3), fun j hj => ?_⟩
    rw [k4 j (by simp; exact hj)]
    by_cases c : o = j
    · subst c
      rw [if_neg (by omega), if_pos (by simp), Array.getElem?_setIfInBounds]
      simp [hj]
    · rw [Array.getElem?_setIfInBounds, if_neg c]
      by_cases d : o + 1 ≤ j ∧ j < o + 1 + r.length
      · rw [if_pos d, if_pos (by simp; omega)]
        obtain ⟨m, rfl⟩ : ∃ m, j = o + 1 + m := ⟨j - (o + 1), by omega⟩
        rw [show o + 1 + m - (o + 1) = m by omega, show o + 1 + m - o = m + 1 by omega]
        rfl
      · rw [if_neg d, if_neg (by simp; omega)]

theorem row_clear {w : World} {b g ca n : Nat} {f : Nat → Bool} (h : RowIs w b g ca n f) :
    RowIs (w.setCells g 0 (List.replicate (nw n) (.int .u64 0))) b g ca n (fun _ => false) ∧ But g w (w.setCells g 0 (List.replicate (nw n) (.int .u64 0))) := by
  have hb := h.ne h.at
  obtain ⟨h1, h2, h0, h3, cs, h4, h6⟩ := h
  obtain ⟨cs', k1, k2, k3, k4⟩ := blk_setCells g 89 (List.replicate (nw n) (.int .u64 0)) 0 w cs h4
  refine ⟨⟨h1, fits_none n, h0, (k3.2.2.2.2 _ (block_lt h3) hb).trans h3, cs', k1, fun k hk => ?_⟩, k3⟩
  have hs := (Array.getElem?_eq_some_iff.1 (h6 k hk)).1
  rw [k4 k hs, if_pos (by simp; exact hk), W_none]
  simp [hk]

theorem clear_nil (w : World) (ty : TypeId) : (Builtin.clear_ #[90] ty #[.slice none 0 0]).run Tryd.prog w = .ok (.tuple #[]) w := by
  simp [Builtin.clear_, run_underlying Tryd.underlying90]
theorem clear_zero (w : World) (ty : TypeId) (a : Option Addr) (c : Nat) : (Builtin.clear_ #[90] ty #[.slice a 0 c]).run Tryd.prog w = .ok (.tuple #[]) w := by
  cases a <;> simp [Builtin.clear_, run_underlying Tryd.underlying90]
theorem q51 (w : World) (a : Option Addr) (n c n' c' : Nat) : (binOp .eql 90 (.slice a n c) (.slice none n' c')).run Tryd.prog w = .ok (.bool a.isNone) w := Lib.run_eql_slice_nil w _ _ a n c n' c' Tryd.underlying90

theorem clear_none {p : Value} {n : Nat} {m : Bool} (w : World) (h : Hdr w p n (.slice none 0 0) m) :
    Calls Tryd.prog 19 #[p] w fun e w' => e = .returned (.tuple #[]) ∧ w' = w := by
  have c := held_any w h
  have z := clear_nil
  clear h
  go_enter Tryd.func19, Tryd.ntmps19
  go_wp2_with (go_at_call 44; refine c.mono ?_; rintro e w' ⟨rfl, hw⟩; rw [hw])
  go_end0
  exact ⟨rfl, rfl⟩

theorem clear_any {b g ca n : Nat} {f : Nat → Bool} (w : World) (h : RowIs w b g ca n f) :
    Calls Tryd.prog 19 #[.pointer (some ⟨b, 0, none⟩)] w fun e w' => e = .returned (.tuple #[]) ∧ RowIs w' b g ca n (fun _ => false) ∧ But g w w' := by
  have c := held_any w h.hdr
  by_cases h0 : nw n = 0
  · have r := row_clear h
    have z := clear_zero
    rw [h0] at r c
    clear h
    go_enter Tryd.func19, Tryd.ntmps19
    go_wp2_with (go_at_call 44; refine c.mono ?_; rintro e w' ⟨rfl, hw⟩; rw [hw])
    go_end0
    exact ⟨rfl, r⟩
  · have r := row_clear h
    have hcl : ∀ ty, (Builtin.clear_ #[90] ty #[.slice (some ⟨g, 0, none⟩) (nw n) ca]).run Tryd.prog w = .ok (.tuple #[]) (w.setCells g 0 (List.replicate (nw n) (.int .u64 0))) :=
      fun ty => Lib.run_clear_slice w _ _ ty _ Tryd.underlying90 Tryd.zeroValue89 rfl rfl g 0 _ _ (by omega) (fun j hj => by rw [Nat.zero_add, (h.word hj).1]; rfl) (fun j hj => by rw [Nat.zero_add]; exact (h.word hj).2)
    clear h
    generalize w.setCells g 0 (List.replicate (nw n) (.int .u64 0)) = w2 at *
    generalize nw n = N at *
    go_enter Tryd.func19, Tryd.ntmps19
    go_wp2_with (go_at_call 44; refine c.mono ?_; rintro e w' ⟨rfl, hw⟩; rw [hw])
    go_end0
    exact ⟨rfl, r⟩

/-- a slice of words of one's own: its block -/
def OwnWords (w : World) (v : Value) (B n : Nat) (x : Nat → Nat) : Prop := w.ownsRow B 89 1 v n ((List.range n).map fun k => Value.int .u64 (x k : Nat))

theorem OwnWords.words {w : World} {v : Value} {B n : Nat} {x : Nat → Nat} (h : OwnWords w v B n x) : Words w v n x := by
  rcases h.2 with ⟨rfl, rfl⟩ | ⟨G, cap, cur, rfl, _, hg, hn, hc, _, _⟩
  · exact Or.inl ⟨rfl, none, 0, rfl⟩
  · by_cases c : n = 0
    · subst c; exact Or.inl ⟨rfl, _, _, rfl⟩
    · refine Or.inr ⟨G, 0, cap, rfl, by omega, hn, by unfold maxLen at hc; omega, fun j hj => ?_⟩
      have := World.ownsRow.cells h (g := G) rfl j (Value.int .u64 ((x j : Nat) : Int)) (by
        rw [List.getElem?_map, List.getElem?_range hj]; rfl)
      have hadd : (⟨G, 0, none⟩ : Addr).add j = ⟨G, 0 + j, none⟩ := by unfold Addr.add; split <;> simp_all
      rw [hadd] at this
      exact this

set_option maxHeartbeats 2000000 in
set_option maxRecDepth 100000 in
theorem clone_any {b g ca n : Nat} {f : Nat → Bool} (w : World) (h : RowIs w b g ca n f) :
    Calls Tryd.prog 79 #[.slice (some ⟨g, 0, none⟩) (nw n) ca] w fun e w' => ∃ v, e = .returned v ∧ OwnWords w' v w.heap.size (nw n) (W f) ∧ v ≠ .slice none 0 0 ∧ Bel w w' := by
  obtain ⟨i0, hi, hz0, hz1, hz2⟩ := info_parts info53
  have hn : nw n ≤ 65536 := by have := h.1; unfold nw; omega
  have cells : ∀ k, k < nw n → (w.alloc (.cells #[] 89)).cell? ⟨g, k, none⟩ = some (.int .u64 (W f k : Nat)) := fun k hk => cell_bel ((Bel.refl w).alloc _) (h.word hk).1
  have q := q51
  have hx := Lib.hid cells
  have hx2 : ∀ k, k < nw n → ((List.range (nw n)).map fun k => Value.int .u64 (W f k : Nat))[k]? = some (.int .u64 (W f k : Nat)) := fun k hk => by
    rw [List.getElem?_map, List.getElem?_range hk]; rfl
  have hx3 := Lib.hid hx2
  clear cells h hx2
  generalize nw n = N at *
  generalize W f = F at *
  unfold OwnWords
  go_enter Tryd.func79, Tryd.ntmps79
  go_wp2_with (at_builtin; refine wpList_append_own _ rfl _ _ 90 rfl w.heap.size 89 i0 (.int .u64 0) 1 8 Tryd.underlying90 hi hz0 hz1 hz2 rfl (by decide) _ _ _ rfl (World.ownsRow_made w #[] 0 (Nat.le_refl _) (Nat.zero_le _) rfl) ⟨g, 0, none⟩ N ca ((List.range N).map fun k => Value.int .u64 (F k : Nat)) rfl ?qc1 ?qc2 ?qc3 ?qc4 ?qc5 ?qc6 ?_)
  case qc1 => simp
  case qc2 =>
    intro j u hj
    have hjn : j < N := by
      have := (List.getElem?_eq_some_iff.1 hj).1
      simpa using this
    rw [hx3.out j hjn] at hj
    have hadd : (⟨g, 0, none⟩ : Addr).add j = ⟨g, j, none⟩ := by unfold Addr.add; split <;> simp_all
    rw [hadd, ← hj]
    exact hx.out j hjn
  case qc3 => intro u hu; obtain ⟨x, _, rfl⟩ := List.mem_map.1 hu; rfl
  case qc4 => unfold maxLen; omega
  case qc5 => omega
  case qc6 => simp
  intro v' w1 hown hgrow hnil
  go_wp2
  go_ret
  refine ⟨v', rfl, by simpa using hown, hnil, ?_⟩
  exact ((Bel.refl w).alloc _).grown hgrow (by simp) (by intro k hk; simp [Value.ownBlock] at hk; omega)

theorem words_none (w : World) (p : Value) (h : Hdr w p 0 (.slice none 0 0) false) :
    Calls Tryd.prog 61 #[p] w fun e w' => e = .returned (.slice none 0 0) ∧ w' = w := by
  have c := held_any w h
  have d : Calls Tryd.prog 79 #[.slice none 0 0] w fun e w' => e = .returned (.slice none 0 0) ∧ w' = w := by
    have q := q51
    go_enter Tryd.func79, Tryd.ntmps79
    go_wp2
    go_ret
    exact ⟨rfl, rfl⟩
  clear h
  go_enter Tryd.func61, Tryd.ntmps61
  go_wp2_with (first | (go_at_call 44; refine c.mono ?_; rintro e w' ⟨rfl, hw⟩; rw [hw]) | (go_at_call 79; refine d.mono ?_; rintro e w' ⟨rfl, hw⟩; rw [hw]))
  go_ret
  exact ⟨rfl, rfl⟩

theorem words_any {b g ca n : Nat} {f : Nat → Bool} (w : World) (h : RowIs w b g ca n f) :
    Calls Tryd.prog 61 #[.pointer (some ⟨b, 0, none⟩)] w fun e w' => ∃ v, e = .returned v ∧ OwnWords w' v w.heap.size (nw n) (W f) ∧ v ≠ .slice none 0 0 ∧ Bel w w' := by
  have c := held_any w h.hdr
  have d := clone_any w h
  clear h
  generalize nw n = N at *
  generalize W f = F at *
  go_enter Tryd.func61, Tryd.ntmps61
  go_wp2_with (first | (go_at_call 44; refine c.mono ?_; rintro e w' ⟨rfl, hw⟩; rw [hw]) | (go_at_call 79; refine d.mono ?_; rintro e w' ⟨v, rfl, h1, h2, h3⟩))
  go_ret
  exact ⟨v, rfl, h1, h2, h3⟩

end Go.Proofs.YtjgjomojcocegaaDoor.bt

/- Count of the program, with the library's count of a word's bits. -/
namespace Go.Proofs.YtjgjomojcocegaaDoor.bt
open Go.ChangeShapes Go.WideShapes Go.ChangeAt Go.RowKit

theorem i64_and_nat (a b : Nat) (ha : a < 9223372036854775808) (hb : b < 9223372036854775808) : bits .and .i64 (a : Int) (b : Int) = ((a &&& b : Nat) : Int) := by
  have hx : a &&& b < 2 ^ 63 := Nat.and_lt_two_pow _ (by omega)
  have h1 : (BitVec.ofInt 64 (a : Int)).toNat = a := by
    rw [BitVec.ofInt_natCast, BitVec.toNat_ofNat]; exact Nat.mod_eq_of_lt (by omega)
  have h2 : (BitVec.ofInt 64 (b : Int)).toNat = b := by
    rw [BitVec.ofInt_natCast, BitVec.toNat_ofNat]; exact Nat.mod_eq_of_lt (by omega)
  show IntKind.i64.wrap ((BitVec.ofInt 64 (a : Int) &&& BitVec.ofInt 64 (b : Int)).toNat : Int) = _
  rw [BitVec.toNat_and, h1, h2]
  simp [IntKind.wrap, IntKind.signed, IntKind.bits]
  omega

theorem wrap_nat {n : Nat} (h : n < 18446744073709551616) : IntKind.u64.wrap (n : Int) = (n : Int) := by rw [IntKind.wrap_u64]; omega
theorem wrap_add {a b c : Nat} (h : a + b = c) (hc : c < 18446744073709551616) : IntKind.u64.wrap ((a : Int) + (b : Int)) = (c : Int) := by
  subst h; rw [← Int.natCast_add]; exact wrap_nat hc

theorem rep55 : rep 85 8 = 6148914691236517205 := rfl
theorem rep33 : rep 51 8 = 3689348814741910323 := rfl
theorem rep0f : rep 15 8 = 1085102592571150095 := rfl

theorem and_le_right (a b : Nat) : a &&& b ≤ b := Nat.and_le_right

set_option maxRecDepth 100000 in
theorem ones_count (x : Nat) (hx : x < 18446744073709551616) (w : World) :
    Calls Tryd.prog 48 #[.int .u64 (x : Nat)] w fun e w' => e = .returned (.int .i64 (pc x 64 : Nat)) ∧ w' = w := by
  obtain ⟨A1, hA1⟩ : ∃ A1, x / 2 &&& rep 85 8 = A1 := ⟨_, rfl⟩
  obtain ⟨A2, hA2⟩ : ∃ A2, x &&& rep 85 8 = A2 := ⟨_, rfl⟩
  obtain ⟨Y, hY⟩ : ∃ Y, A1 + A2 = Y := ⟨_, rfl⟩
  obtain ⟨B1, hB1⟩ : ∃ B1, Y / 4 &&& rep 51 8 = B1 := ⟨_, rfl⟩
  obtain ⟨B2, hB2⟩ : ∃ B2, Y &&& rep 51 8 = B2 := ⟨_, rfl⟩
  obtain ⟨Z, hZ⟩ : ∃ Z, B1 + B2 = Z := ⟨_, rfl⟩
  obtain ⟨C, hC⟩ : ∃ C, Z / 16 + Z = C := ⟨_, rfl⟩
  obtain ⟨U, hU⟩ : ∃ U, C &&& rep 15 8 = U := ⟨_, rfl⟩
  obtain ⟨y1, hy1⟩ : ∃ y1, U + U / 256 = y1 := ⟨_, rfl⟩
  obtain ⟨y2, hy2⟩ : ∃ y2, y1 + y1 / 65536 = y2 := ⟨_, rfl⟩
  obtain ⟨y3, hy3⟩ : ∃ y3, y2 + y2 / 4294967296 = y3 := ⟨_, rfl⟩
  have t := three x Y Z (by rw [hA1, hA2, hY]) (by rw [hB1, hB2, hZ])
  rw [hC, hU] at t
  obtain ⟨l1, l2, l3, l4⟩ := last x y1 y2 y3 (by rw [← t, hy1]) hy2 hy3
  have a1 : A1 ≤ 6148914691236517205 := by rw [← hA1, ← rep55]; exact and_le_right _ _
  have a2 : A2 ≤ 6148914691236517205 := by rw [← hA2, ← rep55]; exact and_le_right _ _
  have b1 : B1 ≤ 3689348814741910323 := by rw [← hB1, ← rep33]; exact and_le_right _ _
  have b2 : B2 ≤ 3689348814741910323 := by rw [← hB2, ← rep33]; exact and_le_right _ _
  have u1 : U ≤ 1085102592571150095 := by rw [← hU, ← rep0f]; exact and_le_right _ _
  have q3 : y3 < 9223372036854775808 := by omega
  rw [rep55] at hA1 hA2
  rw [rep33] at hB1 hB2
  rw [rep0f] at hU
  have e1 : bits .and .u64 ((x : Int) / 2) 6148914691236517205 = (A1 : Int) := by
    rw [← hA1]; exact u64_and_nat (x / 2) 6148914691236517205 (by omega) (by decide)
  have e2 : bits .and .u64 (x : Int) 6148914691236517205 = (A2 : Int) := by
    rw [← hA2]; exact u64_and_nat x 6148914691236517205 (by omega) (by decide)
  have e3 := wrap_add hY (by omega)
  have e4 : bits .and .u64 ((Y : Int) / 4) 3689348814741910323 = (B1 : Int) := by
    rw [← hB1]; exact u64_and_nat (Y / 4) 3689348814741910323 (by omega) (by decide)
  have e5 : bits .and .u64 (Y : Int) 3689348814741910323 = (B2 : Int) := by
    rw [← hB2]; exact u64_and_nat Y 3689348814741910323 (by omega) (by decide)
  have e6 := wrap_add hZ (by omega)
  have e7 : IntKind.u64.wrap ((Z : Int) / 16 + (Z : Int)) = (C : Int) := wrap_add (a := Z / 16) hC (by omega)
  have e8 : bits .and .u64 (C : Int) 1085102592571150095 = (U : Int) := by
    rw [← hU]; exact u64_and_nat C 1085102592571150095 (by omega) (by decide)
  have e9 : IntKind.u64.wrap ((U : Int) + (U : Int) / 256) = (y1 : Int) := wrap_add (b := U / 256) hy1 (by omega)
  have e10 : IntKind.u64.wrap ((y1 : Int) + (y1 : Int) / 65536) = (y2 : Int) := wrap_add (b := y1 / 65536) hy2 (by omega)
  have e11 : IntKind.u64.wrap ((y2 : Int) + (y2 : Int) / 4294967296) = (y3 : Int) := wrap_add (b := y2 / 4294967296) hy3 (by omega)
  have e12 : bits .and .i64 (y3 : Int) 127 = ((pc x 64 : Nat) : Int) := by
    rw [← l4, ← Nat.and_two_pow_sub_one_eq_mod y3 7]
    exact i64_and_nat y3 127 q3 (by decide)
  have e13 : wrap64 (y3 : Int) = (y3 : Int) := IntWalk.wrap64_in _ ⟨by omega, by omega⟩
  generalize pc x 64 = R at *
  clear hA1 hA2 hY hB1 hB2 hZ hC hU hy1 hy2 hy3 t l1 l2 l3 l4 a1 a2 b1 b2 u1 q3 hx
  go_enter Tryd.func48, Tryd.ntmps48
  go_wp2
  go_ret
  exact ⟨rfl, rfl⟩

theorem count_none {p : Value} {n : Nat} {m : Bool} (w : World) (h : Hdr w p n (.slice none 0 0) m) :
    Calls Tryd.prog 26 #[p] w fun e w' => e = .returned (.int .i64 0) ∧ w' = w := by
  have c := held_any w h
  clear h
  go_enter Tryd.func26, Tryd.ntmps26
  go_wp2_with (go_at_call 44; refine c.mono ?_; rintro e w' ⟨rfl, hw⟩; rw [hw])
  go_loop [3, 9] (fun a i => a = .int .i64 0 ∧ i = .int .i64 0) (fun _ _ => 0)
  case atStart => exact ⟨rfl, rfl⟩
  case round =>
    obtain ⟨rfl, rfl⟩ := hrel
    go_wp2
    go_ret
    exact ⟨rfl, rfl⟩

theorem cnt_word (f : Nat → Bool) (k : Nat) : cnt f (64 * (k + 1)) = cnt f (64 * k) + pc (W f k) 64 := by
  rw [pc_W, ← cnt_add]; rfl

theorem count_any {b g ca n : Nat} {f : Nat → Bool} (w : World) (h : RowIs w b g ca n f) :
    Calls Tryd.prog 26 #[.pointer (some ⟨b, 0, none⟩)] w fun e w' => e = .returned (.int .i64 (cnt f n : Nat)) ∧ w' = w := by
  have c := held_any w h.hdr
  have hcs := fun k hk => (h.word (k := k) hk).1
  have hn : nw n ≤ 65536 := by have := h.1; unfold nw; omega
  have he : cnt f (64 * nw n) = cnt f n := cnt_fits h.2.1 (by unfold nw; omega)
  rw [← he]
  have h0 : cnt f (64 * 0) = 0 := rfl
  clear h he
  generalize nw n = N at *
  go_enter Tryd.func26, Tryd.ntmps26
  go_wp2_with (go_at_call 44; refine c.mono ?_; rintro e w' ⟨rfl, hw⟩; rw [hw])
  go_loop [3, 9] (fun a i => ∃ k : Nat, k ≤ N ∧ a = .int .i64 (cnt f (64 * k) : Nat) ∧ i = .int .i64 (k : Nat)) (fun _ i => N - (intOf i).toNat)
  case atStart => exact ⟨0, Nat.zero_le _, rfl, rfl⟩
  case round =>
    obtain ⟨k, hk, rfl, rfl⟩ := hrel
    by_cases ck : k < N
    · have cw := hcs k ck
      have o := fun w => ones_count (W f k) (W_lt f k) w
      have s := cnt_word f k
      have l1 := cnt_le f (64 * k)
      have l2 : pc (W f k) 64 ≤ 64 := cnt_le _ 64
      have hs := Lib.hid s
      clear s hcs c
      generalize W f k = R at *
      generalize cnt f (64 * k) = A at *
      generalize hP : pc R 64 = P at *
      clear hP
      have hs2 := Lib.hid l1
      go_wp2_with (go_at_call 48; refine (o _).mono ?_; rintro e w' ⟨rfl, hw⟩; rw [hw])
      go_round
      case rel => exact ⟨k + 1, by omega, by rw [hs.out]; go_num, by go_num⟩
      case measure => simp only [intOf]; omega
    · obtain rfl : k = N := by omega
      clear hcs c
      go_wp2
      go_ret
      exact ⟨rfl, rfl⟩

end Go.Proofs.YtjgjomojcocegaaDoor.bt

/- The library's count of trailing zeros, over the table that its text lays. -/
namespace Go.Proofs.YtjgjomojcocegaaDoor.bt
open Go.ChangeShapes Go.WideShapes Go.ChangeAt Go.RowKit

/-- the table in its variable -/
def TabAt (w : World) : Prop := ∀ j, j < 64 → w.cell? ⟨0, j, none⟩ = some (.int .u8 (Lib.deBruijn64tab.getD j 0 : Nat))

theorem TabAt.bel {w w' : World} (h : TabAt w) (k : Bel w w') : TabAt w' := fun j hj => cell_bel k (h j hj)
theorem TabAt.but {w w' : World} {g : Nat} (h : TabAt w) (k : But g w w') (hg : g ≠ 0) : TabAt w' := fun j hj => cell_but k (h j hj) (fun e => hg e.symm)

theorem tz_key (x a : Nat) (hx : x < 18446744073709551616) (hx0 : x ≠ 0) (hlow : x &&& (18446744073709551616 - x) = a) :
    IntKind.u64.wrap (bits .and .u64 (x : Int) (IntKind.u64.wrap (-(x : Int))) * 285870213051353865) / 288230376151711744 = ((a * 285870213051353865 % 18446744073709551616 / 288230376151711744 : Nat) : Int) := by
  have e1 : IntKind.u64.wrap (-(x : Int)) = ((18446744073709551616 - x : Nat) : Int) := by rw [IntKind.wrap_u64]; omega
  rw [e1, u64_and_nat x _ hx (by omega), hlow, IntKind.wrap_u64]
  omega

theorem tz_core (x k ix : Nat) (w : World) (hx0 : ((x : Int) == 0) = false)
    (key : IntKind.u64.wrap (bits .and .u64 (x : Int) (IntKind.u64.wrap (-(x : Int))) * 285870213051353865) / 288230376151711744 = (ix : Int))
    (hi : ix < 64) (hk : k < 64) (hcell : w.cell? ⟨0, ix, none⟩ = some (.int .u8 (k : Nat))) :
    Calls Tryd.prog 66 #[.int .u64 (x : Nat)] w fun e w' => e = .returned (.int .i64 (k : Nat)) ∧ w' = w := by
  go_enter Tryd.func66, Tryd.ntmps66
  go_wp2_with (simp only [key])
  go_ret
  exact ⟨rfl, rfl⟩

theorem tz_any (x : Nat) (hx : x < 18446744073709551616) (h0 : x ≠ 0) (w : World) (hT : TabAt w) :
    Calls Tryd.prog 66 #[.int .u64 (x : Nat)] w fun e w' => e = .returned (.int .i64 (Lib.ctz 64 x : Nat)) ∧ w' = w := by
  obtain ⟨hlow, hk⟩ := Lib.lowest_bit 64 x h0 hx
  obtain ⟨hi, htab⟩ := Lib.deBruijn64_at _ hk
  have hcell := hT _ hi
  rw [htab] at hcell
  exact tz_core x _ _ w (by simp; omega) (tz_key x _ hx h0 hlow) hi hk hcell

end Go.Proofs.YtjgjomojcocegaaDoor.bt

/- The first bit of a kind, by words: numbers alone. -/
namespace Go.Proofs.YtjgjomojcocegaaDoor.bt

/-- what is found in word k -/
def fd (f : Nat → Bool) (n m : Nat) (is : Bool) (k : Nat) : Nat := if k = m / 64 then W (after (sel f n is) m) k else W (sel f n is) k

theorem fd_lt (f : Nat → Bool) (n m : Nat) (is : Bool) (k : Nat) : fd f n m is k < 18446744073709551616 := by
  unfold fd
  split <;> exact W_lt _ _

theorem fd_eq {f : Nat → Bool} {n m : Nat} {is : Bool} {k : Nat} (h : m / 64 ≤ k) : fd f n m is k = W (after (sel f n is) m) k := by
  unfold fd
  split
  · rfl
  · exact (W_after_beyond _ _ _ (by omega)).symm

/-- where Next looks -/
def start (x : Int) : Nat := x.toNat

/-- the first bit -/
def nxt (f : Nat → Bool) (n m : Nat) (is : Bool) : Option Nat := first (sel f n is) (n - m) m

theorem zero_bits {f : Nat → Bool} {k : Nat} (h : W f k = 0) {j : Nat} (hj : j < 64) : f (64 * k + j) = false := by
  have := bit_W f k j
  rw [h, Nat.zero_testBit, decide_eq_true hj, Bool.true_and] at this
  exact this.symm

theorem fd_zero {f : Nat → Bool} {n m : Nat} {is : Bool} {k q : Nat} (h : fd f n m is k = 0) (hk : m / 64 ≤ k) (hq : q / 64 = k) (hm : m ≤ q) : sel f n is q = false := by
  rw [fd_eq hk] at h
  have := zero_bits h (show q % 64 < 64 by omega)
  rw [show 64 * k + q % 64 = q by omega] at this
  unfold after at this
  rw [decide_eq_true hm, Bool.true_and] at this
  exact this

theorem nxt_none {f : Nat → Bool} {n m : Nat} {is : Bool} (h : ∀ k, m / 64 ≤ k → k < nw n → fd f n m is k = 0) : nxt f n m is = none :=
  first_none fun q h1 h2 => fd_zero (h (q / 64) (Nat.div_le_div_right h1) (by unfold nw; omega)) (Nat.div_le_div_right h1) rfl h1

theorem nxt_some {f : Nat → Bool} {n m : Nat} {is : Bool} {k : Nat} (h0 : fd f n m is k ≠ 0) (hk : m / 64 ≤ k) (h : ∀ j, m / 64 ≤ j → j < k → fd f n m is j = 0) :
    nxt f n m is = some (64 * k + Lib.ctz 64 (fd f n m is k)) := by
  obtain ⟨c1, c2, c3⟩ := ctz_bit _ h0 (fd_lt f n m is k)
  rw [fd_eq hk] at c1 c2 c3 ⊢
  generalize Lib.ctz 64 (W (after (sel f n is) m) k) = c at *
  rw [bit_W, decide_eq_true c1, Bool.true_and] at c2
  unfold after at c2
  rw [Bool.and_eq_true] at c2
  obtain ⟨a1, a2⟩ := c2
  have a1 := of_decide_eq_true a1
  have a3 : 64 * k + c < n := by
    have := a2
    unfold sel at this
    rw [Bool.and_eq_true] at this
    exact of_decide_eq_true this.1
  refine first_some a1 (by omega) a2 fun q q1 q2 => ?_
  by_cases e : q / 64 = k
  · have := c3 (q % 64) (by omega)
    rw [bit_W, decide_eq_true (by omega), Bool.true_and, show 64 * k + q % 64 = q by omega] at this
    unfold after at this
    rw [decide_eq_true q1, Bool.true_and] at this
    exact this
  · exact fd_zero (h (q / 64) (Nat.div_le_div_right q1) (by omega)) (Nat.div_le_div_right q1) rfl q1

/-- what Next answers -/
def nxA : Option Nat → Int | some a => (a : Nat) | none => 0

end Go.Proofs.YtjgjomojcocegaaDoor.bt

/- Copy of the program's rows. -/
namespace Go.Proofs.YtjgjomojcocegaaDoor.bt
open Go.ChangeShapes Go.WideShapes Go.ChangeAt Go.RowKit

theorem copy_none {p : Value} {n : Nat} {s : Value} (w : World) (h : Hdr w p n s false) :
    Calls Tryd.prog 38 #[p] w fun e w' => e = .returned (.pointer none) ∧ w' = w := by
  have c := exists_any w h
  clear h
  go_enter Tryd.func38, Tryd.ntmps38
  go_wp2_with (go_at_call 60; refine c.mono ?_; rintro e w' ⟨rfl, hw⟩; rw [hw])
  go_ret
  exact ⟨rfl, rfl⟩

theorem row_copy {w1 : World} {B n : Nat} {f : Nat → Bool} {v : Value} (hn : n ≤ 65536) (hf : Fits n f) (h : OwnWords w1 v B (nw n) (W f)) (hne : v ≠ .slice none 0 0) :
    ∃ g ca, v = .slice (some ⟨g, 0, none⟩) (nw n) ca ∧ B ≤ g ∧ RowIs (w1.alloc (.cells #[.int .i64 (n : Nat), v, .bool true] 92)) w1.heap.size g ca n f := by
  have hc := h
  rcases h.2 with ⟨h, _⟩ | ⟨g, cap, cur, rfl, hB, hg, hle, _, hs, ht⟩
  · exact absurd h hne
  · refine ⟨g, cap, rfl, hB, hn, hf, hle, heap_alloc_new _ _, cur, ?_, fun k hk => ?_⟩
    · rw [Below.heap_alloc _ _ _ (block_lt hg)]; exact hg
    · have hz : ((List.range (nw n)).map fun k => Value.int .u64 (W f k : Nat))[k]? = some (.int .u64 (W f k : Nat)) := by
        rw [List.getElem?_map, List.getElem?_range hk]; rfl
      rw [← ht, List.getElem?_take] at hz
      simpa [hk] using hz

theorem copy_any {b g ca n : Nat} {f : Nat → Bool} (w : World) (h : RowIs w b g ca n f) :
    Calls Tryd.prog 38 #[.pointer (some ⟨b, 0, none⟩)] w fun e w' => ∃ b2 g2 ca2, e = .returned (.pointer (some ⟨b2, 0, none⟩)) ∧ RowIs w' b2 g2 ca2 n f ∧ w.heap.size ≤ g2 ∧ w.heap.size ≤ b2 ∧ Bel w w' := by
  have c := exists_any w h.hdr
  have hd : (w.drew).cell? ⟨b, 0, none⟩ = some (.int .i64 (n : Nat)) := h.head.1
  have wd := words_any w.drew (h.bel (Bel.refl w).drew)
  have fin := fun (w1 : World) (v : Value) (h1 : OwnWords w1 v w.heap.size (nw n) (W f)) h2 => row_copy h.1 h.2.1 h1 h2
  obtain ⟨h0, _, _⟩ := h.head
  have h0' : ∀ w', Bel w w' → w'.cell? ⟨b, 0, none⟩ = some (.int .i64 (n : Nat)) := fun w' k => cell_bel k h0
  clear h
  generalize OwnWords = O at *
  go_enter Tryd.func38, Tryd.ntmps38
  go_wp2_with (go_at_call 60; ((with_reducible refine c.mono ?_); rintro e w' ⟨rfl, hw⟩; rw [hw]))
  clear c
  go_region_law (first | (go_simp; go_at_call 61; refine wd.mono ?_; rintro e w' ⟨v, rfl, k1, k2, k3⟩; have hc := h0' _ (Bel.trans (Bel.refl w).drew k3); obtain ⟨g2, ca2, rfl, r1, r2⟩ := fin _ _ k1 k2))
  all_goals go_wp2
  all_goals go_ret
  all_goals
    exact ⟨_, g2, ca2, rfl, r2, r1, k3.size, (Bel.trans (Bel.refl w).drew k3).alloc _⟩

end Go.Proofs.YtjgjomojcocegaaDoor.bt
