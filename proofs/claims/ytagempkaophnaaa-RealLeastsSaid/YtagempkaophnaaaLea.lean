/- The least of words: one of them, whatever their order. -/
import Derived.Test.YtagempkaophnaaaKeep
import Derived.Test.YtagempkaophnaaaEdge
namespace Go.Proofs.Ytagempkaophnaaa
open Go.ChangeShapes Go.WideShapes Go.ChangeAt Go.RowKit

theorem rk_le_nan {a : Nat} (h : a < 18446744073709551616) : rk (canonN a) ≤ 9221120237041090560 := by
  cases n : nanN a
  · rw [canon_not n]
    have h2 := of_decide_eq_false n
    unfold rk
    split
    · omega
    · unfold rung at h2; omega
  · rw [canon_nan n]; decide

/-- the least is one of them -/
theorem least_is {f : Nat → Nat} (hf : ∀ j, f j < 18446744073709551616) : ∀ n, ∃ j, j < n + 1 ∧ canonN (f j) = leastN f (n + 1) := by
  intro n
  induction n with
  | zero =>
    refine ⟨0, by omega, ?_⟩
    show canonN (f 0) = if cmpN (f 0) 9221120237041090560 < 0 then f 0 else 9221120237041090560
    cases h : nanN (f 0)
    · rw [canon_not h]
      by_cases c : cmpN (f 0) 9221120237041090560 < 0
      · rw [if_pos c]
      · exfalso
        have h2 := of_decide_eq_false h
        apply c
        unfold cmpN
        rw [canon_not h, cmpI_lt]
        · omega
        · rw [show rk (canonN 9221120237041090560) = 9221120237041090560 by decide]
          have := hf 0
          unfold rk
          split
          · omega
          · unfold rung at h2; omega
    · rw [canon_nan h, if_neg (cmpN_nan (by omega) h)]
  | succ n ih =>
    obtain ⟨j, hj, e⟩ := ih
    show ∃ j, j < n + 1 + 1 ∧ canonN (f j) = if cmpN (f (n + 1)) (leastN f (n + 1)) < 0 then f (n + 1) else leastN f (n + 1)
    by_cases c : cmpN (f (n + 1)) (leastN f (n + 1)) < 0
    · rw [if_pos c]
      refine ⟨n + 1, by omega, ?_⟩
      cases h : nanN (f (n + 1))
      · exact canon_not h
      · exact absurd c (cmpN_nan (leastN_lt hf _) h)
    · rw [if_neg c]; exact ⟨j, by omega, e⟩

/-- two lists with the same words have the same least -/
theorem least_same {f g : Nat → Nat} (hf : ∀ j, f j < 18446744073709551616) (hg : ∀ j, g j < 18446744073709551616) {n : Nat} (hn : 1 ≤ n)
    (h1 : ∀ j, j < n → ∃ i, i < n ∧ f i = g j) (h2 : ∀ j, j < n → ∃ i, i < n ∧ g i = f j) : leastN g n = leastN f n := by
  obtain ⟨m, rfl⟩ : ∃ m, n = m + 1 := ⟨n - 1, by omega⟩
  have le : ∀ {f g : Nat → Nat}, (∀ j, g j < 18446744073709551616) → (∀ j, j < m + 1 → ∃ i, i < m + 1 ∧ f i = g j) → rk (canonN (leastN f (m + 1))) ≤ rk (canonN (leastN g (m + 1))) := by
    intro f g hg h
    obtain ⟨j, hj, e⟩ := least_is hg m
    obtain ⟨i, hi, e2⟩ := h j hj
    rw [leastN_canon hg, ← e, ← e2]
    exact least_ahead (m + 1) i hi
  have a := le hg h1
  have b := le hf h2
  rw [leastN_canon hf, leastN_canon hg] at a b
  exact (rk_inj (leastN_lt hg _) (leastN_lt hf _)).1 (by omega)

/-- the words from the k-th on, then those ahead of it -/
def turned (f : Nat → Nat) (n k : Nat) (j : Nat) : Nat := if j < n - k then f (k + j) else f (j - (n - k))

theorem turned_lt {f : Nat → Nat} (hf : ∀ j, f j < 18446744073709551616) (n k j : Nat) : turned f n k j < 18446744073709551616 := by
  unfold turned; split <;> exact hf _

theorem least_turned {f : Nat → Nat} (hf : ∀ j, f j < 18446744073709551616) {n k : Nat} (hn : 1 ≤ n) (hk : k < n) : leastN (turned f n k) n = leastN f n := by
  refine least_same hf (turned_lt hf n k) hn ?_ ?_
  · intro j hj
    unfold turned
    by_cases c : j < n - k
    · rw [if_pos c]; exact ⟨k + j, by omega, rfl⟩
    · rw [if_neg c]; exact ⟨j - (n - k), by omega, rfl⟩
  · intro j hj
    by_cases c : k ≤ j
    · refine ⟨j - k, by omega, ?_⟩
      unfold turned
      rw [if_pos (by omega)]; congr 1; omega
    · refine ⟨j + (n - k), by omega, ?_⟩
      unfold turned
      rw [if_neg (by omega)]; congr 1; omega

/-- is a canonical word among the first? -/
def thereN (f : Nat → Nat) (W : Nat) : Nat → Bool
  | 0 => false
  | k + 1 => thereN f W k || ((canonN (f k) : Int) == (W : Int))

theorem there_of {f : Nat → Nat} {W j : Nat} (h : canonN (f j) = W) : ∀ n, j < n → thereN f W n = true := by
  intro n
  induction n with
  | zero => intro h; omega
  | succ n ih =>
    intro hj
    show (thereN f W n || _) = true
    by_cases c : j = n
    · rw [c] at h; rw [h]; simp
    · rw [ih (by omega)]; rfl

theorem there_least {f : Nat → Nat} (hf : ∀ j, f j < 18446744073709551616) {n : Nat} (hn : 1 ≤ n) : thereN f (leastN f n) n = true := by
  obtain ⟨m, rfl⟩ : ∃ m, n = m + 1 := ⟨n - 1, by omega⟩
  obtain ⟨j, hj, e⟩ := least_is hf m
  exact there_of e _ hj

end Go.Proofs.Ytagempkaophnaaa
