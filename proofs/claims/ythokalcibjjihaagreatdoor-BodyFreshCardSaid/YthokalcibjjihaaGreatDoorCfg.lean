/- Configurations as numbers: which are valid; slots, pages, regions. Nothing of the program. -/
import Derived.Test.YthokalcibjjihaaGreatDoorCl
namespace Go.Proofs.YthokalcibjjihaaGreatDoor

structure Cf where
  n : Nat
  F : Nat → Int
  page : Int
  m : Nat
  Q : Nat → Int
  Tr : Nat → Int
  Cp : Nat → Int
  As : Nat → Int
  wk : Int
  gr : Int
  gn : Int

namespace Cf
/-- the greatest class -/
def great (c : Cf) : Int := c.F (c.n - 1)
/-- may a tenant be? -/
def tenOk (c : Cf) (i : Nat) : Prop := (c.great ≤ c.Q i ∧ c.Q i ≤ 4096) ∧ (1 ≤ c.Tr i ∧ c.Tr i ≤ 1048576) ∧ (1 ≤ c.Cp i ∧ c.Cp i ≤ 1024) ∧ (0 ≤ c.As i ∧ c.As i ≤ 1024)
instance (c : Cf) (i : Nat) : Decidable (c.tenOk i) := by unfold tenOk; infer_instance
/-- may a configuration be, but for its tenants? -/
def topOk (c : Cf) : Prop := Valid c.n c.F ∧ (c.great ≤ c.page ∧ c.page ≤ 64) ∧ (1 ≤ c.m ∧ c.m ≤ 8) ∧ (0 ≤ c.wk ∧ c.wk ≤ 8) ∧ (1 ≤ c.gr ∧ c.gr ≤ 64) ∧ (1 ≤ c.gn ∧ c.gn ≤ 2147483648)
instance (c : Cf) : Decidable c.topOk := by unfold topOk; infer_instance
def tensOk (c : Cf) (m : Nat) : Prop := ∀ i, i < m → c.tenOk i
instance (c : Cf) (m : Nat) : Decidable (c.tensOk m) := by unfold tensOk; infer_instance
def ok (c : Cf) : Prop := c.topOk ∧ c.tensOk c.m
instance (c : Cf) : Decidable c.ok := by unfold ok; infer_instance

/-- what Check answers -/
def checkC (c : Cf) : Int := if c.ok then 0 else 2
theorem checkC_ok {c : Cf} (h : c.ok) : c.checkC = 0 := if_pos h
theorem checkC_no {c : Cf} (h : ¬ c.ok) : c.checkC = 2 := if_neg h

/-- is there such a class of such a tenant? -/
def has (c : Cf) (t k : Int) : Prop := c.ok ∧ (0 ≤ t ∧ t < c.m) ∧ (0 ≤ k ∧ k < c.n)
instance (c : Cf) (t k : Int) : Decidable (c.has t k) := by unfold has; infer_instance

def slots (c : Cf) (t k : Nat) : Int := c.Q t / c.F k
def each (c : Cf) (k : Nat) : Int := c.page / c.F k
def pages (c : Cf) (t k : Nat) : Int := (c.slots t k + c.each k - 1) / c.each k
end Cf

def sumTo (f : Nat → Int) : Nat → Int
  | 0 => 0
  | k + 1 => sumTo f k + f k

namespace Cf
def region (c : Cf) (t : Nat) : Int := sumTo (fun k => c.pages t k * c.page) c.n
def base (c : Cf) (t : Nat) : Int := sumTo (fun i => c.region i) t
end Cf

theorem sumTo_bd {f : Nat → Int} {B : Int} : ∀ {n : Nat}, (∀ k, k < n → 0 ≤ f k ∧ f k ≤ B) → 0 ≤ sumTo f n ∧ sumTo f n ≤ n * B
  | 0, _ => ⟨Int.le_refl 0, by show (0 : Int) ≤ ((0 : Nat) : Int) * B; simp⟩
  | n + 1, h => by
    have a := sumTo_bd (n := n) fun k hk => h k (by omega)
    have b := h n (by omega)
    have e : ((n + 1 : Nat) : Int) * B = n * B + B := by rw [Int.natCast_add, Int.add_mul]; simp
    rw [e]
    show 0 ≤ sumTo f n + f n ∧ sumTo f n + f n ≤ n * B + B
    omega
theorem sumTo_mono {f g : Nat → Int} : ∀ {n : Nat}, (∀ k, k < n → f k ≤ g k) → sumTo f n ≤ sumTo g n
  | 0, _ => Int.le_refl 0
  | n + 1, h => by
    have a := sumTo_mono (n := n) fun k hk => h k (by omega)
    have b := h n (by omega)
    show sumTo f n + f n ≤ sumTo g n + g n
    omega
theorem sumTo_congr {f g : Nat → Int} : ∀ {n : Nat}, (∀ k, k < n → f k = g k) → sumTo f n = sumTo g n
  | 0, _ => rfl
  | n + 1, h => by
    show sumTo f n + f n = sumTo g n + g n
    rw [sumTo_congr (n := n) fun k hk => h k (by omega), h n (by omega)]

theorem div_bd {a b : Int} (hb : 0 < b) : a / b * b ≤ a ∧ a < a / b * b + b := by
  have h1 := Int.mul_ediv_add_emod a b
  have h2 := Int.emod_nonneg a (show b ≠ 0 by omega)
  have h3 := Int.emod_lt_of_pos a hb
  rw [Int.mul_comm] at h1
  omega

/-- the least number of pages -/
theorem ceil_bd {s e : Int} (he : 0 < e) : s ≤ (s + e - 1) / e * e ∧ ((s + e - 1) / e - 1) * e < s := by
  have h := div_bd (a := s + e - 1) he
  rw [Int.sub_mul, Int.one_mul]
  omega
theorem ceil_eq {s e p : Int} (he : 0 < e) (h1 : s ≤ p * e) (h2 : (p - 1) * e < s) : (s + e - 1) / e = p := by
  obtain ⟨a, b⟩ := ceil_bd (s := s) he
  generalize (s + e - 1) / e = q at *
  by_cases c : q < p
  · have := Int.mul_le_mul_of_nonneg_right (show q ≤ p - 1 by omega) (show 0 ≤ e by omega)
    omega
  · by_cases d : p < q
    · have := Int.mul_le_mul_of_nonneg_right (show p ≤ q - 1 by omega) (show 0 ≤ e by omega)
      omega
    · omega
/-- fewer pages are too few -/
theorem ceil_lt {s e p : Int} (he : 0 < e) : p * e < s ↔ p < (s + e - 1) / e := by
  obtain ⟨a, b⟩ := ceil_bd (s := s) he
  generalize (s + e - 1) / e = q at *
  constructor
  · intro h
    by_cases c : p < q
    · exact c
    · have := Int.mul_le_mul_of_nonneg_right (show q ≤ p by omega) (show 0 ≤ e by omega)
      omega
  · intro h
    have := Int.mul_le_mul_of_nonneg_right (show p ≤ q - 1 by omega) (show 0 ≤ e by omega)
    omega

namespace Cf
variable {c : Cf}
theorem ok_n (h : c.ok) : 1 ≤ c.n ∧ c.n ≤ 8 := ⟨h.1.1.1, h.1.1.2.1⟩
theorem ok_m (h : c.ok) : 1 ≤ c.m ∧ c.m ≤ 8 := h.1.2.2.1
theorem ok_F (h : c.ok) {k : Nat} (hk : k < c.n) : 2 ≤ c.F k ∧ c.F k ≤ 64 ∧ c.F k ≤ c.great := by
  have a := h.1.1.2.2 k hk
  exact ⟨a.1, a.2.1, okTo_mono' h.1.1.2.2 (by omega) (by have := (ok_n h).1; omega)⟩
theorem ok_great (h : c.ok) : 2 ≤ c.great ∧ c.great ≤ 64 := by
  have := ok_F h (k := c.n - 1) (by have := (ok_n h).1; omega)
  exact ⟨this.1, this.2.1⟩
theorem ok_page (h : c.ok) : 2 ≤ c.page ∧ c.page ≤ 64 ∧ c.great ≤ c.page := by
  have := ok_great h
  have := h.1.2.1
  omega
theorem ok_Q (h : c.ok) {t : Nat} (ht : t < c.m) : 2 ≤ c.Q t ∧ c.Q t ≤ 4096 ∧ c.great ≤ c.Q t := by
  have := ok_great h
  have := (h.2 t ht).1
  omega

theorem each_bd (h : c.ok) {k : Nat} (hk : k < c.n) : 1 ≤ c.each k ∧ c.each k ≤ 64 ∧ c.each k * c.F k ≤ c.page ∧ c.page < c.each k * c.F k + c.F k := by
  obtain ⟨f1, f2, f3⟩ := ok_F h hk
  obtain ⟨p1, p2, p3⟩ := ok_page h
  have d := div_bd (a := c.page) (b := c.F k) (by omega)
  have u : c.page / c.F k ≤ c.page := Int.ediv_le_self _ (by omega)
  have l : 1 ≤ c.page / c.F k := by rw [Int.le_ediv_iff_mul_le (by omega)]; omega
  exact ⟨l, Int.le_trans u p2, d.1, d.2⟩
theorem slots_bd (h : c.ok) {t k : Nat} (ht : t < c.m) (hk : k < c.n) : 1 ≤ c.slots t k ∧ c.slots t k ≤ 4096 ∧ c.slots t k * c.F k ≤ c.Q t ∧ c.Q t < c.slots t k * c.F k + c.F k := by
  obtain ⟨f1, f2, f3⟩ := ok_F h hk
  obtain ⟨p1, p2, p3⟩ := ok_Q h ht
  have d := div_bd (a := c.Q t) (b := c.F k) (by omega)
  have u : c.Q t / c.F k ≤ c.Q t := Int.ediv_le_self _ (by omega)
  have l : 1 ≤ c.Q t / c.F k := by rw [Int.le_ediv_iff_mul_le (by omega)]; omega
  exact ⟨l, Int.le_trans u p2, d.1, d.2⟩
theorem pages_bd (h : c.ok) {t k : Nat} (ht : t < c.m) (hk : k < c.n) : 1 ≤ c.pages t k ∧ c.pages t k ≤ 4096 ∧ c.slots t k ≤ c.pages t k * c.each k ∧ (c.pages t k - 1) * c.each k < c.slots t k := by
  obtain ⟨e1, e2, _, _⟩ := each_bd h hk
  obtain ⟨s1, s2, _, _⟩ := slots_bd h ht hk
  obtain ⟨a, b⟩ := ceil_bd (s := c.slots t k) (e := c.each k) (by omega)
  refine ⟨?_, ?_, a, b⟩
  · exact (ceil_lt (s := c.slots t k) (e := c.each k) (p := 0) (by omega)).1 (by omega)
  · by_cases x : c.pages t k ≤ 4096
    · exact x
    · have := Int.mul_le_mul (show (4096 : Int) ≤ c.pages t k - 1 by omega) e1 (by omega) (by omega)
      change (c.pages t k - 1) * c.each k < _ at b
      omega
theorem words_bd (h : c.ok) {t k : Nat} (ht : t < c.m) (hk : k < c.n) : 0 ≤ c.pages t k * c.page ∧ c.pages t k * c.page ≤ 262144 := by
  obtain ⟨p1, p2, _, _⟩ := pages_bd h ht hk
  obtain ⟨g1, g2, _⟩ := ok_page h
  exact ⟨Int.mul_nonneg (by omega) (by omega), Int.mul_le_mul p2 g2 (by omega) (by omega)⟩
theorem region_to (h : c.ok) {t : Nat} (ht : t < c.m) {j : Nat} (hj : j ≤ c.n) : 0 ≤ sumTo (fun k => c.pages t k * c.page) j ∧ sumTo (fun k => c.pages t k * c.page) j ≤ 2097152 := by
  have a := sumTo_bd (f := fun k => c.pages t k * c.page) (B := 262144) (n := j) fun k hk => words_bd h ht (by omega)
  have := (ok_n h).2
  omega
theorem region_bd (h : c.ok) {t : Nat} (ht : t < c.m) : 0 ≤ c.region t ∧ c.region t ≤ 2097152 := region_to h ht (Nat.le_refl _)
theorem base_bd (h : c.ok) {t : Nat} (ht : t ≤ c.m) : 0 ≤ c.base t ∧ c.base t ≤ 16777216 := by
  have a := sumTo_bd (f := fun i => c.region i) (B := 2097152) (n := t) fun k hk => region_bd h (by omega)
  have := (ok_m h).2
  change 0 ≤ sumTo (fun i => c.region i) t ∧ sumTo (fun i => c.region i) t ≤ 16777216
  omega
theorem base_succ (c : Cf) (t : Nat) : c.base (t + 1) = c.base t + c.region t := rfl
end Cf

end Go.Proofs.YthokalcibjjihaaGreatDoor
