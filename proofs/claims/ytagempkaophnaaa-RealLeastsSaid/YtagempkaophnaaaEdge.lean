/- Sums with NaNs, infinities and zeros: what they must be. -/
import Derived.Test.YtagempkaophnaaaFacts
namespace Go.Proofs.Ytagempkaophnaaa
open Go.ChangeShapes Go.WideShapes Go.ChangeAt Go.RowKit

/-- how many of the first -/
def count (P : Nat → Bool) : Nat → Nat
  | 0 => 0
  | k + 1 => count P k + (P k).toNat

theorem count_le (P : Nat → Bool) (k : Nat) : count P k ≤ k := by
  induction k with
  | zero => exact Nat.le_refl 0
  | succ k ih => unfold count; have : (P k).toNat ≤ 1 := Bool.toNat_le (P k); omega

def isNan (f : Nat → Nat) (j : Nat) : Bool := kindN (f j) == 0
def isUp (f : Nat → Nat) (j : Nat) : Bool := (kindN (f j) == 1) && !(sgn (f j))
def isDown (f : Nat → Nat) (j : Nat) : Bool := (kindN (f j) == 1) && sgn (f j)
def isZero (f : Nat → Nat) (j : Nat) : Bool := kindN (f j) == 4
def isMinus (f : Nat → Nat) (j : Nat) : Bool := (kindN (f j) == 4) && sgn (f j)

/-- not too great -/
def modest (x : Nat) : Prop := 9218868437227405312 ≤ rung x ∨ rung x < 8664925683060834304

theorem kind_one (a : Nat) : (kindN a == 1) = decide (rung a = 9218868437227405312) := by
  unfold kindN
  by_cases h : rung a = 9218868437227405312
  · rw [if_neg (by omega), if_neg (by omega), if_neg (by omega), if_pos h, decide_eq_true h]; rfl
  · rw [decide_eq_false h, if_neg h]
    split
    · rfl
    split
    · rfl
    split <;> rfl

theorem inf_up {x : Nat} (hx : x < 18446744073709551616) (h : rung x = 9218868437227405312) (s : sgn x = false) : x = 9218868437227405312 := by
  rw [← wd_of hx, h, s]; rfl
theorem inf_down {x : Nat} (hx : x < 18446744073709551616) (h : rung x = 9218868437227405312) (s : sgn x = true) : x = 18442240474082181120 := by
  rw [← wd_of hx, h, s]; rfl

/-- the state of a sum -/
structure State (N U D k s : Nat) : Prop where
  lt : s < 18446744073709551616
  nan : 0 < N ∨ (0 < U ∧ 0 < D) → nanN s = true
  up : N = 0 → 0 < U → D = 0 → s = 9218868437227405312
  down : N = 0 → U = 0 → 0 < D → s = 18442240474082181120
  fin : N = 0 → U = 0 → D = 0 → rung s ≤ (1924 + k) * 4503599627370496

theorem abs_sv (x : Nat) : (sv x).natAbs = val (rung x) := by unfold sv; split <;> simp

theorem wd_small {z : Bool} {k R : Nat} (hk : k ≤ 100) (hb : R ≤ (1924 + (k + 1)) * 4503599627370496) : wd z (min R 9218868437227405312) < 18446744073709551616 ∧ rung (wd z (min R 9218868437227405312)) ≤ (1924 + (k + 1)) * 4503599627370496 := by
  have lR : R ≤ 9119789245425254400 := by omega
  have hmin : min R 9218868437227405312 = R := Nat.min_eq_left (Nat.le_trans lR (by omega))
  rw [hmin]
  refine ⟨?_, ?_⟩
  · unfold wd; split <;> omega
  · rw [rung_wd z (Nat.lt_of_le_of_lt lR (by omega))]; exact hb

theorem plus_fin {x y k : Nat} (hk : k ≤ 100) (hx : rung x ≤ (1924 + k) * 4503599627370496) (hy : rung y ≤ 1924 * 4503599627370496) :
    addN x y < 18446744073709551616 ∧ rung (addN x y) ≤ (1924 + (k + 1)) * 4503599627370496 := by
  have e : addN x y = plus x y := by
    unfold addN; rw [add_fin (by omega) (by omega)]
  have vx : val (rung x) ≤ 2 ^ (1923 + k + 52) := by
    have := val_le hx
    rw [show 1924 + k = 1923 + k + 1 by omega, val_pow] at this; exact this
  have vy : val (rung y) ≤ 2 ^ (1923 + k + 52) := by
    have := val_le (Nat.le_trans hy (show 1924 * 4503599627370496 ≤ (1924 + k) * 4503599627370496 by omega))
    rw [show 1924 + k = 1923 + k + 1 by omega, val_pow] at this; exact this
  have t : (sv x + sv y).natAbs ≤ 2 ^ (1923 + (k + 1) + 52) := by
    have h1 : (sv x + sv y).natAbs ≤ (sv x).natAbs + (sv y).natAbs := Int.natAbs_add_le _ _
    rw [abs_sv, abs_sv] at h1
    have h2 : 2 ^ (1923 + (k + 1) + 52) = 2 ^ (1923 + k + 52) * 2 := by
      rw [show 1923 + (k + 1) + 52 = (1923 + k + 52) + 1 by omega, Nat.pow_succ]
    rw [h2]
    generalize 2 ^ (1923 + k + 52) = P at *
    omega
  have r := rungOf_mono t
  rw [rungOf_pow, show 1923 + (k + 1) + 1 = 1924 + (k + 1) by omega] at r
  rw [e]
  unfold plus
  generalize rungOf (sv x + sv y).natAbs = R at *
  generalize (if sv x + sv y = 0 then sgn x && sgn y else decide (sv x + sv y < 0)) = z
  exact wd_small hk r

theorem addN_lt (x y : Nat) : addN x y < 18446744073709551616 := by
  unfold addN
  split
  · rename_i r h; exact floatBits_lt h
  · omega

theorem state_step {N U D k s x : Nat} (hk : k ≤ 100) (h : State N U D k s) (hx : x < 18446744073709551616) (hm : modest x) :
    State (N + (kindN x == 0).toNat) (U + ((kindN x == 1) && !(sgn x)).toNat) (D + ((kindN x == 1) && sgn x).toNat) (k + 1) (addN s x) := by
  rw [kind_nan, kind_one]
  cases n : nanN x
  · have n' := of_decide_eq_false n
    rw [show (false).toNat = 0 from rfl, Nat.add_zero]
    by_cases i : rung x = 9218868437227405312
    · rw [decide_eq_true i, Bool.true_and, Bool.true_and]
      cases sx : sgn x
      · have ex := inf_up hx i sx
        rw [show (!false).toNat = 1 from rfl, show (false).toNat = 0 from rfl, Nat.add_zero]
        refine ⟨addN_lt _ _, ?_, ?_, ?_, ?_⟩
        · intro c
          by_cases c2 : 0 < N ∨ (0 < U ∧ 0 < D)
          · rw [add_nan (Or.inl (h.nan c2))]; exact nan_is
          · have d := h.down (by omega) (by omega) (by omega)
            rw [d, ex]; decide +kernel
        · intro a _ c
          by_cases u : 0 < U
          · rw [h.up a u c, ex]; decide +kernel
          · have r := h.fin a (by omega) c
            unfold addN
            rw [add_fin_inf (by omega) i, sx]; rfl
        · intro _ a _; omega
        · intro _ a _; omega
      · have ex := inf_down hx i sx
        rw [show (!true).toNat = 0 from rfl, show (true).toNat = 1 from rfl, Nat.add_zero]
        refine ⟨addN_lt _ _, ?_, ?_, ?_, ?_⟩
        · intro c
          by_cases c2 : 0 < N ∨ (0 < U ∧ 0 < D)
          · rw [add_nan (Or.inl (h.nan c2))]; exact nan_is
          · have d := h.up (by omega) (by omega) (by omega)
            rw [d, ex]; decide +kernel
        · intro _ _ a; omega
        · intro a c _
          by_cases u : 0 < D
          · rw [h.down a c u, ex]; decide +kernel
          · have r := h.fin a c (by omega)
            unfold addN
            rw [add_fin_inf (by omega) i, sx]; rfl
        · intro _ _ a; omega
    · rw [decide_eq_false i, Bool.false_and, Bool.false_and, show (false).toNat = 0 from rfl, Nat.add_zero, Nat.add_zero]
      have fx : rung x < 9218868437227405312 := by omega
      have lx : rung x ≤ 1924 * 4503599627370496 := by rcases hm with m | m <;> omega
      refine ⟨addN_lt _ _, ?_, ?_, ?_, ?_⟩
      · intro c
        rw [add_nan (Or.inl (h.nan c))]; exact nan_is
      · intro a b c
        rw [h.up a b c]
        unfold addN
        rw [add_inf_fin (by decide) fx]; rfl
      · intro a b c
        rw [h.down a b c]
        unfold addN
        rw [add_inf_fin (by decide) fx]; rfl
      · intro a b c
        exact (plus_fin hk (h.fin a b c) lx).2
  · have i : ¬ rung x = 9218868437227405312 := by have := of_decide_eq_true n; omega
    rw [decide_eq_false i, Bool.false_and, Bool.false_and, show (true).toNat = 1 from rfl, show (false).toNat = 0 from rfl, Nat.add_zero, Nat.add_zero]
    refine ⟨addN_lt _ _, ?_, ?_, ?_, ?_⟩
    · intro _; rw [add_nan (Or.inr n)]; exact nan_is
    · intro a; omega
    · intro a; omega
    · intro a; omega

theorem state_one {x : Nat} (hx : x < 18446744073709551616) (hm : modest x) : State (0 + (kindN x == 0).toNat) (0 + ((kindN x == 1) && !(sgn x)).toNat) (0 + ((kindN x == 1) && sgn x).toNat) 0 x := by
  rw [kind_nan, kind_one]
  cases n : nanN x
  · have n' := of_decide_eq_false n
    by_cases i : rung x = 9218868437227405312
    · rw [decide_eq_true i, Bool.true_and, Bool.true_and]
      cases sx : sgn x
      · refine ⟨hx, ?_, fun _ _ _ => inf_up hx i sx, ?_, ?_⟩
        · intro c; exact absurd c (by decide)
        · intro _ a; exact absurd a (by decide)
        · intro _ a; exact absurd a (by decide)
      · refine ⟨hx, ?_, ?_, fun _ _ _ => inf_down hx i sx, ?_⟩
        · intro c; exact absurd c (by decide)
        · intro _ a; exact absurd a (by decide)
        · intro _ _ a; exact absurd a (by decide)
    · rw [decide_eq_false i, Bool.false_and, Bool.false_and]
      refine ⟨hx, ?_, ?_, ?_, ?_⟩
      · intro c; exact absurd c (by decide)
      · intro _ a; exact absurd a (by decide)
      · intro _ _ a; exact absurd a (by decide)
      · intro _ _ _; rcases hm with m | m <;> omega
  · refine ⟨hx, fun _ => n, ?_, ?_, ?_⟩
    · intro a; exact absurd a (by decide)
    · intro a; exact absurd a (by decide)
    · intro a; exact absurd a (by decide)

theorem state_all {f : Nat → Nat} (hf : ∀ j, f j < 18446744073709551616) {n : Nat} (hn : n ≤ 100) (hm : ∀ j, j < n + 1 → modest (f j)) :
    ∀ k, k ≤ n → State (count (isNan f) (k + 1)) (count (isUp f) (k + 1)) (count (isDown f) (k + 1)) k (sumTo f k) := by
  intro k
  induction k with
  | zero => intro _; exact state_one (hf 0) (hm 0 (by omega))
  | succ k ih =>
    intro hk
    exact state_step (by omega) (ih (by omega)) (hf (k + 1)) (hm (k + 1) (by omega))

theorem zero_word {x : Nat} (hx : x < 18446744073709551616) (h : (kindN x == 4) = true) : x = if sgn x = true then 9223372036854775808 else 0 := by
  rw [kind_four] at h
  have h' := of_decide_eq_true h
  have := wd_of hx
  rw [h'] at this
  rw [← this]
  cases sgn x <;> rfl

/-- a sum of zeros alone -/
theorem zeros_all {f : Nat → Nat} (hf : ∀ j, f j < 18446744073709551616) : ∀ k, count (isZero f) (k + 1) = k + 1 → sumTo f k = if count (isMinus f) (k + 1) = k + 1 then 9223372036854775808 else 0 := by
  intro k
  induction k with
  | zero =>
    intro h
    have z : (kindN (f 0) == 4) = true := by
      have h' : 0 + (isZero f 0).toNat = 1 := h
      unfold isZero at h'
      cases c : (kindN (f 0) == 4)
      · rw [c] at h'; exact absurd h' (by decide)
      · rfl
    show f 0 = if 0 + (isMinus f 0).toNat = 1 then _ else _
    unfold isMinus
    rw [z, Bool.true_and]
    have := zero_word (hf 0) z
    cases s : sgn (f 0)
    · rw [s] at this; exact this
    · rw [s] at this; exact this
  | succ k ih =>
    intro h
    have l := count_le (isZero f) (k + 1)
    have h' : count (isZero f) (k + 1) + (isZero f (k + 1)).toNat = k + 1 + 1 := h
    have t : (isZero f (k + 1)).toNat ≤ 1 := Bool.toNat_le _
    have z : (kindN (f (k + 1)) == 4) = true := by
      cases c : (kindN (f (k + 1)) == 4)
      · rw [show isZero f (k + 1) = (kindN (f (k + 1)) == 4) from rfl, c] at h'
        have : (false).toNat = 0 := rfl
        omega
      · rfl
    have e := ih (by omega)
    show addN (sumTo f k) (f (k + 1)) = if count (isMinus f) (k + 1) + (isMinus f (k + 1)).toNat = k + 1 + 1 then _ else _
    rw [e]
    have m := count_le (isMinus f) (k + 1)
    have zw := zero_word (hf (k + 1)) z
    have hz : isMinus f (k + 1) = sgn (f (k + 1)) := by unfold isMinus; rw [z]; rfl
    rw [hz]
    cases s : sgn (f (k + 1))
    · rw [s] at zw
      rw [zw, show (false).toNat = 0 from rfl, if_neg (show ¬ count (isMinus f) (k + 1) + 0 = k + 1 + 1 by omega)]
      split <;> decide +kernel
    · rw [s] at zw
      rw [zw, show (true).toNat = 1 from rfl]
      by_cases c : count (isMinus f) (k + 1) = k + 1
      · rw [if_pos c, if_pos (show count (isMinus f) (k + 1) + 1 = k + 1 + 1 by omega), if_pos rfl]; decide +kernel
      · rw [if_neg c, if_neg (show ¬ count (isMinus f) (k + 1) + 1 = k + 1 + 1 by omega), if_pos rfl]; decide +kernel

/-- none stands ahead of the least -/
theorem least_ahead {f : Nat → Nat} : ∀ n j, j < n → rk (canonN (leastN f n)) ≤ rk (canonN (f j)) := by
  intro n
  induction n with
  | zero => intro j h; omega
  | succ n ih =>
    intro j h
    show rk (canonN (if cmpN (f n) (leastN f n) < 0 then f n else leastN f n)) ≤ _
    by_cases c : cmpN (f n) (leastN f n) < 0
    · rw [if_pos c]
      by_cases e : j = n
      · rw [e]; exact Int.le_refl _
      · have a := ih j (by omega)
        unfold cmpN cmpI at c
        by_cases d : rk (canonN (f n)) < rk (canonN (leastN f n))
        · omega
        · rw [if_neg d] at c; split at c <;> omega
    · rw [if_neg c]
      by_cases e : j = n
      · rw [e]
        unfold cmpN cmpI at c
        by_cases d : rk (canonN (f n)) < rk (canonN (leastN f n))
        · rw [if_pos d] at c; omega
        · omega
      · exact ih j (by omega)

theorem least_cmp {f : Nat → Nat} {n j : Nat} (h : j < n) : cmpN (leastN f n) (f j) ≤ 0 := by
  have a := least_ahead (f := f) n j h
  unfold cmpN cmpI
  split
  · omega
  · rw [if_neg (by omega)]; omega

end Go.Proofs.Ytagempkaophnaaa
