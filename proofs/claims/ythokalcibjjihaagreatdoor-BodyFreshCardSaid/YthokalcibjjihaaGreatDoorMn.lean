/- Memories as rows of words: what the document answers. Nothing of the program. (The second half of layer 7's Wd, which for a seat with layer 10's Ex is to be taken without its first lines, Exc to Avoid.) -/
import Derived.Lib.ItoaNum
namespace Go.Proofs.YthokalcibjjihaaGreatDoor

/-! What the document answers. -/
/-- is there such an address? -/
def inE (R : List (List Nat)) (t a : Int) : Int := if t < 0 ∨ (R.length : Int) ≤ t then 2 else if a < 0 ∨ ((R.getD t.toNat []).length : Int) ≤ a then 4 else 0
/-- the word there -/
def loadR (R : List (List Nat)) (t a : Int) : Nat := if inE R t a = 0 then (R.getD t.toNat []).getD a.toNat 0 else 0
/-- one word turned -/
def setR (R : List (List Nat)) (t a u : Nat) : List (List Nat) := R.set t ((R.getD t []).set a u)
def storeR (R : List (List Nat)) (t a : Int) (u : Nat) : List (List Nat) := if inE R t a = 0 then setR R t.toNat a.toNat u else R
/-- may these words be zeroed? -/
def zeroE (R : List (List Nat)) (t a n : Int) : Int := if t < 0 ∨ (R.length : Int) ≤ t then 2 else if a < 0 ∨ n < 0 ∨ ((R.getD t.toNat []).length : Int) < a ∨ ((R.getD t.toNat []).length : Int) - a < n then 4 else 0
/-- some words turned to 0 -/
def wipe (R : List (List Nat)) (t a : Nat) : Nat → List (List Nat)
  | 0 => R
  | n + 1 => setR (wipe R t a n) t (a + n) 0
def zeroR (R : List (List Nat)) (t a n : Int) : List (List Nat) := if zeroE R t a n = 0 then wipe R t.toNat a.toNat n.toNat else R

theorem inE_ok {R : List (List Nat)} {t a : Int} (h : inE R t a = 0) : ∃ (t' a' : Nat) (l : List Nat) (u : Nat), t = t' ∧ a = a' ∧ R[t']? = some l ∧ l[a']? = some u ∧ R.getD t' [] = l ∧ l.getD a' 0 = u := by
  unfold inE at h
  split at h
  · cases h
  · split at h
    · cases h
    · rename_i h1 h2
      have e1 : t.toNat < R.length := by omega
      have e2 : R.getD t.toNat [] = R[t.toNat] := by rw [List.getD_eq_getElem?_getD, List.getElem?_eq_getElem e1]; rfl
      rw [e2] at h2
      have e3 : a.toNat < (R[t.toNat]).length := by omega
      exact ⟨t.toNat, a.toNat, R[t.toNat], R[t.toNat][a.toNat], by omega, by omega, List.getElem?_eq_getElem e1, List.getElem?_eq_getElem e3, e2, by rw [List.getD_eq_getElem?_getD, List.getElem?_eq_getElem e3]; rfl⟩

theorem setR_len (R : List (List Nat)) (t a u : Nat) : (setR R t a u).length = R.length := List.length_set
theorem wipe_len (R : List (List Nat)) (t a : Nat) : ∀ n, (wipe R t a n).length = R.length
  | 0 => rfl
  | n + 1 => by show (setR (wipe R t a n) t (a + n) 0).length = _; rw [setR_len, wipe_len R t a n]
theorem setR_row (R : List (List Nat)) (t a u i : Nat) : ((setR R t a u).getD i []).length = (R.getD i []).length := by
  unfold setR
  simp only [List.getD_eq_getElem?_getD, List.getElem?_set]
  by_cases h : t = i
  · subst h
    by_cases k : t < R.length
    · rw [if_pos rfl, if_pos k]; simp
    · rw [if_pos rfl, if_neg k, List.getElem?_eq_none (by omega)]
  · rw [if_neg h]
theorem wipe_row (R : List (List Nat)) (t a i : Nat) : ∀ n, ((wipe R t a n).getD i []).length = (R.getD i []).length
  | 0 => rfl
  | n + 1 => by show ((setR (wipe R t a n) t (a + n) 0).getD i []).length = _; rw [setR_row, wipe_row R t a i n]

end Go.Proofs.YthokalcibjjihaaGreatDoor
