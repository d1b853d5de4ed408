/- Classes as numbers: which are valid, and which class a number of words has. Nothing of the program. -/
import Derived.Test.YthokalcibjjihaaGreatDoorRows
namespace Go.Proofs.YthokalcibjjihaaGreatDoor

/-- the first n numbers may be -/
def okTo (F : Nat → Int) (n : Nat) : Prop := ∀ j, j < n → 2 ≤ F j ∧ F j ≤ 64 ∧ (0 < j → F (j - 1) < F j)
instance (F : Nat → Int) (n : Nat) : Decidable (okTo F n) := by unfold okTo; infer_instance

/-- valid classes -/
def Valid (n : Nat) (F : Nat → Int) : Prop := 1 ≤ n ∧ n ≤ 8 ∧ okTo F n
instance (n : Nat) (F : Nat → Int) : Decidable (Valid n F) := by unfold Valid; infer_instance

/-- what Check answers -/
def checkV (n : Nat) (F : Nat → Int) : Int := if Valid n F then 0 else 2

/-- the number ahead of place k -/
def bef (F : Nat → Int) : Nat → Int
  | 0 => 1
  | k + 1 => F k

theorem okTo_zero (F : Nat → Int) : okTo F 0 := fun _ h => by omega
theorem okTo_le {F : Nat → Int} {k n : Nat} (h : okTo F n) (hk : k ≤ n) : okTo F k := fun j hj => h j (by omega)
theorem bef_pos {F : Nat → Int} {k : Nat} (h : okTo F k) : 1 ≤ bef F k ∧ bef F k ≤ 64 := by
  cases k with
  | zero => exact ⟨Int.le_refl 1, (by omega : (1 : Int) ≤ 64)⟩
  | succ k => have := h k (by omega); exact ⟨(by omega : 1 ≤ F k), this.2.1⟩
theorem okTo_succ {F : Nat → Int} {k : Nat} (h : okTo F k) (h1 : bef F k < F k) (h2 : F k ≤ 64) : okTo F (k + 1) := by
  intro j hj
  by_cases c : j < k
  · exact h j c
  · obtain rfl : j = k := by omega
    have p := bef_pos h
    refine ⟨by omega, h2, fun c0 => ?_⟩
    cases j with
    | zero => omega
    | succ j => exact h1
theorem okTo_fail {F : Nat → Int} {k n : Nat} (hk : k < n) (h : ¬(bef F k < F k ∧ F k ≤ 64)) : ¬ okTo F n := by
  intro o
  refine h ⟨?_, (o k hk).2.1⟩
  have := o k hk
  cases k with
  | zero => show (1 : Int) < F 0; omega
  | succ k => exact this.2.2 (by omega)
theorem okTo_mono {F : Nat → Int} {n : Nat} (h : okTo F n) : ∀ {j : Nat} (i : Nat), i < j → j < n → F i < F j
  | 0, i, hi, _ => by omega
  | j + 1, i, hi, hj => by
    have st := (h (j + 1) hj).2.2 (by omega)
    rw [Nat.add_sub_cancel] at st
    by_cases c : i < j
    · have := okTo_mono h i c (by omega); omega
    · obtain rfl : i = j := by omega
      exact st
theorem okTo_mono' {F : Nat → Int} {n : Nat} (h : okTo F n) {i j : Nat} (hi : i ≤ j) (hj : j < n) : F i ≤ F j := by
  by_cases c : i = j
  · rw [c]; exact Int.le_refl _
  · exact Int.le_of_lt (okTo_mono h i (by omega) hj)

theorem checkV_ok {n : Nat} {F : Nat → Int} (h : Valid n F) : checkV n F = 0 := if_pos h
theorem checkV_no {n : Nat} {F : Nat → Int} (h : ¬ Valid n F) : checkV n F = 2 := if_neg h

/-- how many of the first n numbers lie ahead of the class of so many words -/
def cls (F : Nat → Int) (u : Int) : Nat → Nat
  | 0 => 0
  | n + 1 => if cls F u n < n then cls F u n else if u ≤ F n then n else n + 1

theorem cls_spec (F : Nat → Int) (u : Int) : ∀ n, cls F u n ≤ n ∧ (∀ i, i < cls F u n → F i < u) ∧ (cls F u n < n → u ≤ F (cls F u n))
  | 0 => ⟨Nat.le_refl _, fun i h => absurd h (Nat.not_lt_zero _), fun h => absurd h (Nat.lt_irrefl _)⟩
  | n + 1 => by
    obtain ⟨a, b, c⟩ := cls_spec F u n
    have e0 : cls F u (n + 1) = if cls F u n < n then cls F u n else if u ≤ F n then n else n + 1 := rfl
    rw [e0]
    by_cases h : cls F u n < n
    · rw [if_pos h]; exact ⟨by omega, b, fun _ => c h⟩
    · rw [if_neg h]
      have e : cls F u n = n := by omega
      rw [e] at b
      by_cases k : u ≤ F n
      · rw [if_pos k]; exact ⟨by omega, b, fun _ => k⟩
      · rw [if_neg k]
        refine ⟨Nat.le_refl _, fun i hi => ?_, fun hh => absurd hh (Nat.lt_irrefl _)⟩
        by_cases d : i < n
        · exact b i d
        · obtain rfl : i = n := by omega
          omega

theorem cls_eq {F : Nat → Int} {u : Int} {n k : Nat} (h1 : k ≤ n) (h2 : ∀ i, i < k → F i < u) (h3 : k < n → u ≤ F k) : cls F u n = k := by
  obtain ⟨a, b, c⟩ := cls_spec F u n
  by_cases x : cls F u n < k
  · have := h2 _ x
    have := c (by omega)
    omega
  · by_cases y : k < cls F u n
    · have := b k y
      have := h3 (by omega)
      omega
    · omega

/-- is there a class of so many words? -/
def fits (n : Nat) (F : Nat → Int) (u : Int) : Prop := Valid n F ∧ 1 ≤ u ∧ cls F u n < n
instance (n : Nat) (F : Nat → Int) (u : Int) : Decidable (fits n F u) := by unfold fits; infer_instance

def ofE (n : Nat) (F : Nat → Int) (u : Int) : Int := if Valid n F then (if fits n F u then 0 else 50) else 2
def ofN (n : Nat) (F : Nat → Int) (u : Int) : Nat := if fits n F u then cls F u n else 0
def roundV (n : Nat) (F : Nat → Int) (u : Int) : Int := if fits n F u then F (cls F u n) else 0
def wasteV (n : Nat) (F : Nat → Int) (u : Int) : Int := if fits n F u then F (cls F u n) - u else 0

theorem of_bad {n : Nat} {F : Nat → Int} {u : Int} (h : ¬ Valid n F) : ofE n F u = 2 ∧ ofN n F u = 0 ∧ roundV n F u = 0 ∧ wasteV n F u = 0 :=
  ⟨if_neg h, if_neg fun x => h x.1, if_neg fun x => h x.1, if_neg fun x => h x.1⟩
theorem of_none {n : Nat} {F : Nat → Int} {u : Int} (h : Valid n F) (k : ¬ fits n F u) : ofE n F u = 50 ∧ ofN n F u = 0 ∧ roundV n F u = 0 ∧ wasteV n F u = 0 :=
  ⟨by unfold ofE; rw [if_pos h, if_neg k], if_neg k, if_neg k, if_neg k⟩
theorem of_fits {n : Nat} {F : Nat → Int} {u : Int} (k : fits n F u) : ofE n F u = 0 ∧ ofN n F u = cls F u n ∧ roundV n F u = F (cls F u n) ∧ wasteV n F u = F (cls F u n) - u :=
  ⟨by unfold ofE; rw [if_pos k.1, if_pos k], if_pos k, if_pos k, if_pos k⟩
theorem fits_of {n : Nat} {F : Nat → Int} {u : Int} (h : ofE n F u = 0) : fits n F u := by
  by_cases a : Valid n F
  · by_cases b : fits n F u
    · exact b
    · rw [(of_none a b).1] at h; omega
  · rw [(of_bad a).1] at h; omega

end Go.Proofs.YthokalcibjjihaaGreatDoor
