/- At, Words of the program's plans; plans that are none. -/
import Derived.Test.YtjgjomojcocegaaDoorPj
namespace Go.Proofs.YtjgjomojcocegaaDoor
open Go.ChangeShapes Go.WideShapes Go.ChangeAt Go.RowKit Go.Deep Go.Shelf

namespace Pl
variable {P : Pl}
theorem at_yes (h : P.Good) {k x r A : Nat} (hk : k < P.n) (hr : r < min (P.e k) (P.s k - x * P.e k)) (hA : (P.po k + x) * P.g + r * P.f k = A) :
    P.fo k + x * P.e k + r < P.S ∧ P.ad (P.fo k + x * P.e k + r) = A := by
  have a := sl_at h hk (x := x) (r := r) (by omega) (by omega)
  have b := fo_S (P := P) hk (show x * P.e k + r < P.s k by omega)
  rw [Nat.add_assoc]
  exact ⟨b, by rw [a.2.2.1]; exact hA⟩
theorem at_page (h : P.Good) {i A : Nat} (hi : i < P.S) (e : P.ad i = A) : A / P.g < P.T := by
  rw [← e, (ad_page h hi).1]
  exact pg_lt h hi
theorem at_no (h : P.Good) {i A k x : Nat} (hi : i < P.S) (e : P.ad i = A) (hk : k < P.n) (hx : x < P.p k) (hq : A / P.g = P.po k + x) :
    A % P.g % P.f k = 0 ∧ A % P.g / P.f k < min (P.e k) (P.s k - x * P.e k) := by
  obtain ⟨k', j, hk', hj, rfl⟩ := slot_of hi
  have a := (ad_page h hi).1
  rw [e, hq, pg_at hk' hj] at a
  have d := div_lt h hk' hj
  have b1 := pcl_at hk hx
  have b2 := pcl_at hk' d
  rw [a, b2] at b1
  subst b1
  have ex : x = j / P.e k' := by omega
  have c := ad_at hk' hj
  rw [e] at c
  have m := Nat.div_add_mod A P.g
  rw [hq, a] at m
  have B : A % P.g = j % P.e k' * P.f k' := by
    rw [Nat.mul_comm] at m
    omega
  have f1 := h.f2 k' hk'
  rw [B]
  refine ⟨Nat.mul_mod_left _ _, ?_⟩
  rw [Nat.mul_div_cancel _ (by omega), ex]
  have g1 := Nat.div_add_mod j (P.e k')
  have g2 := Nat.mod_lt j (h.e1 k' hk')
  rw [Nat.mul_comm] at g1
  omega
end Pl

theorem atR_no {P : Pl} {a r e : Int} (hA : AtR P a r e) (h : ∀ i : Nat, i < P.S → (P.ad i : Int) ≠ a) : r = 0 ∧ e = 7 := by
  rcases hA with ⟨i, h1, h2, _⟩ | ⟨_, h2⟩
  · exact absurd h2 (h i h1)
  · exact h2
theorem atR_yes {P : Pl} {a r e : Int} (hG : P.Good) (hA : AtR P a r e) {i : Nat} (hi : i < P.S) (h : (P.ad i : Int) = a) : r = i ∧ e = 0 := by
  rcases hA with ⟨j, h1, h2, h3, h4⟩ | ⟨h1, _⟩
  · have := Pl.ad_inj hG hi h1 (by omega)
    exact ⟨by rw [h3, this], h4⟩
  · exact absurd h (h1 i hi)

end Go.Proofs.YtjgjomojcocegaaDoor
