/- The bits of a word, counted side by side: numbers alone. -/
import Derived.Test.YtebcmfggmlapdaaDoorNb
namespace Go.Proofs.YtebcmfggmlapdaaDoor

/-- a byte, n times over -/
def rep (a : Nat) : Nat → Nat
  | 0 => 0
  | n + 1 => a + 256 * rep a n

/-- a byte's worth by h, over n bytes -/
def each (h : Nat → Nat) : Nat → Nat → Nat
  | 0, _ => 0
  | n + 1, x => h (x % 256) + 256 * each h n (x / 256)

theorem and_split (x y : Nat) : x &&& y = (x % 256 &&& y % 256) + 256 * (x / 256 &&& y / 256) := by
  have h1 : (x &&& y) % 256 = (x % 256 &&& y % 256) := Nat.and_mod_two_pow (n := 8)
  have h2 : (x &&& y) / 256 = (x / 256 &&& y / 256) := Nat.and_div_two_pow (n := 8)
  rw [← h1, ← h2]
  generalize x &&& y = z
  omega

theorem and_rep (x a n : Nat) (ha : a < 256) : x &&& rep a (n + 1) = (x % 256 &&& a) + 256 * (x / 256 &&& rep a n) := by
  rw [and_split]
  have h1 : rep a (n + 1) % 256 = a := by show (a + 256 * rep a n) % 256 = a; omega
  have h2 : rep a (n + 1) / 256 = rep a n := by show (a + 256 * rep a n) / 256 = rep a n; omega
  rw [h1, h2]

theorem each_le {h : Nat → Nat} {c : Nat} (hc : c < 256) (H : ∀ b, b < 256 → h b ≤ c) : ∀ n x, each h n x ≤ rep c n
  | 0, _ => Nat.le_refl _
  | n + 1, x => by
    have := each_le hc H n (x / 256)
    have := H (x % 256) (by omega)
    unfold each rep
    omega

def p1 (b : Nat) : Nat := (b / 2 &&& 85) + (b &&& 85)
def p2 (b : Nat) : Nat := (b / 4 &&& 51) + (b &&& 51)
def p3 (b : Nat) : Nat := (b / 16 + b) &&& 15

theorem p1_at : ∀ b, b < 256 → ∀ t, t < 2 → (b / 2 + 128 * t) &&& 85 = b / 2 &&& 85 := by decide +kernel
theorem p2_at : ∀ b, b < 256 → ∀ t, t < 4 → (b / 4 + 64 * t) &&& 51 = b / 4 &&& 51 := by decide +kernel

theorem step1 : ∀ n x, (x / 2 &&& rep 85 n) + (x &&& rep 85 n) = each p1 n x
  | 0, x => by simp [rep, each]
  | n + 1, x => by
    have ih := step1 n (x / 256)
    rw [and_rep _ _ _ (by decide), and_rep _ _ _ (by decide)]
    have e1 : x / 2 / 256 = x / 256 / 2 := by omega
    have e2 : x / 2 % 256 = x % 256 / 2 + 128 * (x / 256 % 2) := by omega
    rw [e1, e2, p1_at _ (by omega) _ (by omega)]
    unfold each
    rw [← ih]
    unfold p1
    omega

theorem step2 : ∀ n x, (x / 4 &&& rep 51 n) + (x &&& rep 51 n) = each p2 n x
  | 0, x => by simp [rep, each]
  | n + 1, x => by
    have ih := step2 n (x / 256)
    rw [and_rep _ _ _ (by decide), and_rep _ _ _ (by decide)]
    have e1 : x / 4 / 256 = x / 256 / 4 := by omega
    have e2 : x / 4 % 256 = x % 256 / 4 + 64 * (x / 256 % 4) := by omega
    rw [e1, e2, p2_at _ (by omega) _ (by omega)]
    unfold each
    rw [← ih]
    unfold p2
    omega

/-- bytes whose halves are at most 4 -/
def low4 : Nat → Nat → Prop
  | 0, x => x = 0
  | n + 1, x => x % 16 ≤ 4 ∧ x / 16 % 16 ≤ 4 ∧ low4 n (x / 256)

theorem p3_at : ∀ b, b < 256 → ∀ t, t < 5 → b % 16 ≤ 4 → b / 16 ≤ 4 → (b / 16 + b + 16 * t) &&& 15 = (b / 16 + b) &&& 15 := by decide +kernel

theorem step3 : ∀ n x, low4 n x → (x / 16 + x) &&& rep 15 n = each p3 n x
  | 0, x, _ => by simp [rep, each]
  | n + 1, x, h => by
    obtain ⟨h1, h2, h3⟩ := h
    have ih := step3 n (x / 256) h3
    have hq : each p3 (n + 1) x = p3 (x % 256) + 256 * each p3 n (x / 256) := rfl
    rw [and_rep _ _ _ (by decide)]
    have h4 : x / 256 % 16 ≤ 4 := by
      cases n with
      | zero => have k : x / 256 = 0 := h3; rw [k]; decide
      | succ n => exact h3.1
    have a0 : x = x % 256 + 256 * (x / 256) := by omega
    have a1 : x % 256 % 16 ≤ 4 := by omega
    have a2 : x % 256 / 16 ≤ 4 := by omega
    have a3 : x % 256 < 256 := by omega
    have e3 : x / 16 = x % 256 / 16 + 16 * (x / 256 % 16) + 256 * (x / 256 / 16) := by omega
    generalize x % 256 = b at *
    generalize x / 256 = y at *
    have a4 : b / 16 + b + 16 * (y % 16) < 256 := by omega
    have e4 : x / 16 + x = (b / 16 + b + 16 * (y % 16)) + 256 * (y / 16 + y) := by omega
    have e1 : (x / 16 + x) / 256 = y / 16 + y := by omega
    have e2 : (x / 16 + x) % 256 = b / 16 + b + 16 * (y % 16) := by omega
    have e5 : each p3 (n + 1) x = p3 b + 256 * each p3 n y := hq
    rw [e1, e2, ih, p3_at _ a3 _ (by omega) a1 a2, e5]
    rfl

theorem each_each {g h : Nat → Nat} (H : ∀ b, b < 256 → h b < 256) : ∀ n x, each g n (each h n x) = each (fun b => g (h b)) n x
  | 0, _ => rfl
  | n + 1, x => by
    have := H (x % 256) (by omega)
    have e1 : each h (n + 1) x % 256 = h (x % 256) := by show (h (x % 256) + 256 * each h n (x / 256)) % 256 = _; omega
    have e2 : each h (n + 1) x / 256 = each h n (x / 256) := by show (h (x % 256) + 256 * each h n (x / 256)) / 256 = _; omega
    show g (each h (n + 1) x % 256) + 256 * each g n (each h (n + 1) x / 256) = _
    rw [e1, e2, each_each H n]
    rfl

theorem low4_each {h : Nat → Nat} (H : ∀ b, b < 256 → h b < 256 ∧ h b % 16 ≤ 4 ∧ h b / 16 ≤ 4) : ∀ n x, low4 n (each h n x)
  | 0, _ => rfl
  | n + 1, x => by
    obtain ⟨h1, h2, h3⟩ := H (x % 256) (by omega)
    have e0 : each h (n + 1) x = h (x % 256) + 256 * each h n (x / 256) := rfl
    have e1 : each h (n + 1) x / 256 = each h n (x / 256) := by omega
    refine ⟨by omega, by omega, ?_⟩
    rw [e1]
    exact low4_each H n _

/-- a byte's bits, counted -/
def p4 (b : Nat) : Nat := b % 2 + b / 2 % 2 + b / 4 % 2 + b / 8 % 2 + b / 16 % 2 + b / 32 % 2 + b / 64 % 2 + b / 128 % 2

theorem p1_lt : ∀ b, b < 256 → p1 b < 256 := by decide +kernel
theorem p21 : ∀ b, b < 256 → p2 (p1 b) < 256 ∧ p2 (p1 b) % 16 ≤ 4 ∧ p2 (p1 b) / 16 ≤ 4 := by decide +kernel
theorem p321 : ∀ b, b < 256 → p3 (p2 (p1 b)) = p4 b := by decide +kernel

theorem each_congr {g h : Nat → Nat} (H : ∀ b, b < 256 → g b = h b) : ∀ n x, each g n x = each h n x
  | 0, _ => rfl
  | n + 1, x => by unfold each; rw [H _ (by omega), each_congr H n]

/-- the first three steps -/
theorem three (x y z : Nat) (h1 : (x / 2 &&& rep 85 8) + (x &&& rep 85 8) = y) (h2 : (y / 4 &&& rep 51 8) + (y &&& rep 51 8) = z) : (z / 16 + z) &&& rep 15 8 = each p4 8 x := by
  rw [step1] at h1
  rw [step2] at h2
  subst h1
  rw [each_each p1_lt] at h2
  subst h2
  rw [step3 8 _ (low4_each p21 8 x), each_each fun b hb => (p21 b hb).1]
  exact each_congr p321 8 x

theorem p4_le (b : Nat) : p4 b ≤ 8 := by unfold p4; omega

theorem pc_byte (b m : Nat) : pc b (8 + m) = p4 (b % 256) + pc (b / 256) m := by
  unfold pc
  rw [cnt_add]
  have e1 : cnt (fun j => b.testBit j) 8 = p4 (b % 256) := by
    have k : ∀ j, (if b.testBit j = true then 1 else 0) = b / 2 ^ j % 2 := fun j => by
      rw [Nat.testBit_eq_decide_div_mod_eq]
      by_cases c : b / 2 ^ j % 2 = 1
      · simp [c]
      · simp [c]; omega
    simp only [cnt, k]
    unfold p4
    omega
  have e2 : cnt (fun j => b.testBit (8 + j)) m = cnt (fun j => (b / 256).testBit j) m := cnt_congr fun j _ => by
    have : b / 256 = b / 2 ^ 8 := rfl
    rw [this, Nat.testBit_div_two_pow, Nat.add_comm]
  rw [e1, e2]

/-- the last three steps -/
theorem last (x : Nat) (y1 y2 y3 : Nat) (h1 : each p4 8 x + each p4 8 x / 256 = y1) (h2 : y1 + y1 / 65536 = y2) (h3 : y2 + y2 / 4294967296 = y3) :
    y1 < 18446744073709551616 ∧ y2 < 18446744073709551616 ∧ y3 < 18446744073709551616 ∧ y3 % 128 = pc x 64 := by
  have e : pc x 64 = p4 (x % 256) + (p4 (x / 256 % 256) + (p4 (x / 256 / 256 % 256) + (p4 (x / 256 / 256 / 256 % 256) + (p4 (x / 256 / 256 / 256 / 256 % 256) + (p4 (x / 256 / 256 / 256 / 256 / 256 % 256) + (p4 (x / 256 / 256 / 256 / 256 / 256 / 256 % 256) + (p4 (x / 256 / 256 / 256 / 256 / 256 / 256 / 256 % 256)))))))) := by
    rw [show 64 = 8 + (8 + (8 + (8 + (8 + (8 + (8 + (8 + 0))))))) from rfl]
    simp only [pc_byte]
    rfl
  rw [e]
  simp only [each] at h1
  have b0 := p4_le (x % 256)
  have b1 := p4_le (x / 256 % 256)
  have b2 := p4_le (x / 256 / 256 % 256)
  have b3 := p4_le (x / 256 / 256 / 256 % 256)
  have b4 := p4_le (x / 256 / 256 / 256 / 256 % 256)
  have b5 := p4_le (x / 256 / 256 / 256 / 256 / 256 % 256)
  have b6 := p4_le (x / 256 / 256 / 256 / 256 / 256 / 256 % 256)
  have b7 := p4_le (x / 256 / 256 / 256 / 256 / 256 / 256 / 256 % 256)
  generalize p4 (x % 256) = a0 at *
  generalize p4 (x / 256 % 256) = a1 at *
  generalize p4 (x / 256 / 256 % 256) = a2 at *
  generalize p4 (x / 256 / 256 / 256 % 256) = a3 at *
  generalize p4 (x / 256 / 256 / 256 / 256 % 256) = a4 at *
  generalize p4 (x / 256 / 256 / 256 / 256 / 256 % 256) = a5 at *
  generalize p4 (x / 256 / 256 / 256 / 256 / 256 / 256 % 256) = a6 at *
  generalize p4 (x / 256 / 256 / 256 / 256 / 256 / 256 / 256 % 256) = a7 at *
  have k1 : y1 = (a0 + a1) + 256 * (a1 + a2) + 65536 * (a2 + a3) + 16777216 * (a3 + a4) + 4294967296 * (a4 + a5) + 1099511627776 * (a5 + a6) + 281474976710656 * (a6 + a7) + 72057594037927936 * a7 := by omega
  clear h1
  have k2 : y2 = (a0 + a1 + a2 + a3) + 256 * (a1 + a2 + a3 + a4) + 65536 * (a2 + a3 + a4 + a5) + 16777216 * (a3 + a4 + a5 + a6) + 4294967296 * (a4 + a5 + a6 + a7) + 1099511627776 * (a5 + a6 + a7) + 281474976710656 * (a6 + a7) + 72057594037927936 * a7 := by omega
  clear h2
  have k3 : y3 = (a0 + a1 + a2 + a3 + a4 + a5 + a6 + a7) + 256 * (a1 + a2 + a3 + a4 + a5 + a6 + a7) + 65536 * (a2 + a3 + a4 + a5 + a6 + a7) + 16777216 * (a3 + a4 + a5 + a6 + a7) + 4294967296 * (a4 + a5 + a6 + a7) + 1099511627776 * (a5 + a6 + a7) + 281474976710656 * (a6 + a7) + 72057594037927936 * a7 := by omega
  clear h3
  refine ⟨by omega, by omega, by omega, by omega⟩

end Go.Proofs.YtebcmfggmlapdaaDoor
