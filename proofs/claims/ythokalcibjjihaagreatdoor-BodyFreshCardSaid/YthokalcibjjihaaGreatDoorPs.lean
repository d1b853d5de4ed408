/- A tenant's slots, as numbers of its configuration: nothing of the program. -/
import Derived.Test.YthokalcibjjihaaGreatDoorCfg
import Derived.Test.YthokalcibjjihaaGreatDoorPn
namespace Go.Proofs.YthokalcibjjihaaGreatDoor

namespace Cf
/-- the numbers of a tenant's plan -/
def pl (c : Cf) (t : Nat) : Pl := { n := c.n, s := fun k => (c.slots t k).toNat, e := fun k => (c.each k).toNat, p := fun k => (c.pages t k).toNat, f := fun k => (c.F k).toNat, g := c.page.toNat }

variable {c : Cf} {t : Nat}
theorem pl_cast (ok : c.ok) (ht : t < c.m) {k : Nat} (hk : k < c.n) :
    (((c.pl t).s k : Nat) : Int) = c.slots t k ∧ (((c.pl t).e k : Nat) : Int) = c.each k ∧ (((c.pl t).p k : Nat) : Int) = c.pages t k ∧ (((c.pl t).f k : Nat) : Int) = c.F k ∧ (((c.pl t).g : Nat) : Int) = c.page := by
  obtain ⟨f1, f2, _⟩ := ok_F ok hk
  obtain ⟨p1, p2, _⟩ := ok_page ok
  obtain ⟨e1, _⟩ := each_bd ok hk
  obtain ⟨s1, _⟩ := slots_bd ok ht hk
  obtain ⟨z1, _⟩ := pages_bd ok ht hk
  exact ⟨Int.toNat_of_nonneg (by omega), Int.toNat_of_nonneg (by omega), Int.toNat_of_nonneg (by omega), Int.toNat_of_nonneg (by omega), Int.toNat_of_nonneg (by omega)⟩

theorem pl_good (ok : c.ok) (ht : t < c.m) : (c.pl t).Good := by
  have cast := fun k (hk : k < c.n) => pl_cast ok ht hk
  have hF := fun k (hk : k < c.n) => ok_F ok hk
  have hP := ok_page ok
  have hE := fun k (hk : k < c.n) => each_bd ok hk
  have hS := fun k (hk : k < c.n) => slots_bd ok ht hk
  have hZ := fun k (hk : k < c.n) => pages_bd ok ht hk
  refine ⟨(ok_n ok).1, ?_, fun k hk => ?_, fun k hk => ?_, fun k hk => ?_, fun k hk => ?_, fun k hk => ?_, fun k hk => ?_, fun k hk => ?_, fun k hk => ?_⟩
  · show 1 ≤ c.page.toNat
    omega
  all_goals
    obtain ⟨c1, c2, c3, c4, c5⟩ := cast k hk
    obtain ⟨f1, f2, _⟩ := hF k hk
    obtain ⟨e1, e2, e3, e4⟩ := hE k hk
    obtain ⟨s1, s2, s3, s4⟩ := hS k hk
    obtain ⟨z1, z2, z3, z4⟩ := hZ k hk
  · omega
  · omega
  · omega
  · omega
  · rw [← c2, ← c4, ← c5] at e3
    exact Int.ofNat_le.1 (by rw [Int.natCast_mul]; exact e3)
  · rw [← c1, ← c2, ← c3] at z3
    exact Int.ofNat_le.1 (by rw [Int.natCast_mul]; exact z3)
  · rw [← c1, ← c2, ← c3] at z4
    refine Int.ofNat_lt.1 ?_
    rw [Int.natCast_mul, Int.natCast_sub (by omega)]
    exact z4
  · rw [← c2, ← c4, ← c5] at e4
    refine Int.ofNat_lt.1 ?_
    rw [Int.natCast_add, Int.natCast_mul]
    exact e4

/-- a sum of numbers that are none below 0 -/
theorem sum_cast {f : Nat → Int} {g : Nat → Nat} : ∀ {n : Nat}, (∀ k, k < n → ((g k : Nat) : Int) = f k) → ((sumN g n : Nat) : Int) = sumTo f n
  | 0, _ => rfl
  | n + 1, h => by
    show ((sumN g n + g n : Nat) : Int) = sumTo f n + f n
    rw [Int.natCast_add, sum_cast (n := n) fun k hk => h k (by omega), h n (by omega)]
theorem sum_mul {f : Nat → Int} {g : Int} : ∀ n : Nat, sumTo (fun k => f k * g) n = sumTo f n * g
  | 0 => by show (0 : Int) = 0 * g; rw [Int.zero_mul]
  | n + 1 => by
    show sumTo (fun k => f k * g) n + f n * g = (sumTo f n + f n) * g
    rw [sum_mul n, Int.add_mul]
/-- a region's words -/
theorem pl_W (ok : c.ok) (ht : t < c.m) : (((c.pl t).W : Nat) : Int) = c.region t := by
  have e : (((c.pl t).T : Nat) : Int) = sumTo (c.pages t) c.n := sum_cast fun k hk => (pl_cast ok ht hk).2.2.1
  have g : (((c.pl t).g : Nat) : Int) = c.page := Int.toNat_of_nonneg (by have := ok_page ok; omega)
  unfold Pl.W
  rw [Int.natCast_mul, e, g]
  exact (sum_mul c.n).symm
/-- how great it may be -/
theorem pl_le (ok : c.ok) (ht : t < c.m) {k : Nat} (hk : k < c.n) : (c.pl t).s k ≤ 4096 ∧ (c.pl t).e k ≤ 64 ∧ (c.pl t).p k ≤ 4096 ∧ (c.pl t).f k ≤ 64 ∧ (c.pl t).g ≤ 64 := by
  obtain ⟨c1, c2, c3, c4, c5⟩ := pl_cast ok ht hk
  have := (ok_F ok hk).2.1
  have := (ok_page ok).2.1
  have := (each_bd ok hk).2.1
  have := (slots_bd ok ht hk).2.1
  have := (pages_bd ok ht hk).2.1
  omega
theorem sumN_bd {f : Nat → Nat} {B : Nat} : ∀ {n : Nat}, (∀ k, k < n → f k ≤ B) → sumN f n ≤ n * B
  | 0, _ => Nat.zero_le _
  | n + 1, h => by
    have a := sumN_bd (n := n) fun k hk => h k (by omega)
    have b := h n (by omega)
    rw [Nat.add_mul, Nat.one_mul]
    show sumN f n + f n ≤ _
    omega
theorem pl_S (ok : c.ok) (ht : t < c.m) : (c.pl t).S ≤ 32768 ∧ (c.pl t).T ≤ 32768 ∧ (c.pl t).W ≤ 2097152 := by
  have a : (c.pl t).S ≤ c.n * 4096 := sumN_bd fun k hk => (pl_le ok ht hk).1
  have b : (c.pl t).T ≤ c.n * 4096 := sumN_bd fun k hk => (pl_le ok ht hk).2.2.1
  have d := (ok_n ok).2
  have e := (region_bd ok ht).2
  have f := pl_W ok ht
  omega
end Cf

end Go.Proofs.YthokalcibjjihaaGreatDoor
