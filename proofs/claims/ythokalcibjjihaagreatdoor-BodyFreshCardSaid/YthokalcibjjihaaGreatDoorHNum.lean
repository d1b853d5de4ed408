/- Fields of a word as natural numbers, bit by bit: nothing of the program. -/
import Derived.Lib.ItoaNum
namespace Go.Proofs.YthokalcibjjihaaGreatDoor.hd

/-- the value of a field -/
def getV (w f m : Nat) : Nat := (w / 2 ^ f) &&& (2 ^ m - 1)
/-- the word with a value in a field -/
def setV (w f m v : Nat) : Nat := (w &&& (18446744073709551615 - (2 ^ m - 1) * 2 ^ f)) ||| (v * 2 ^ f)
/-- the word with a bit -/
def withV (w i : Nat) (b : Bool) : Nat := if w.testBit i = b then w else w ^^^ 2 ^ i

theorem pow_le64 {k : Nat} (h : k ≤ 64) : 2 ^ k ≤ 18446744073709551616 := Nat.le_trans (Nat.pow_le_pow_right (by omega) h) (by decide)

theorem mask_lt {f m : Nat} (h : f + m ≤ 64) : (2 ^ m - 1) * 2 ^ f < 18446744073709551616 := by
  have h1 : (2 ^ m - 1) * 2 ^ f < 2 ^ m * 2 ^ f := Nat.mul_lt_mul_of_pos_right (by have := Nat.two_pow_pos m; omega) (Nat.two_pow_pos f)
  rw [← Nat.pow_add] at h1
  exact Nat.lt_of_lt_of_le h1 (pow_le64 (by omega))

theorem part_lt {f m v : Nat} (h : f + m ≤ 64) (hv : v < 2 ^ m) : v * 2 ^ f < 18446744073709551616 := by
  have h1 : v * 2 ^ f < 2 ^ m * 2 ^ f := Nat.mul_lt_mul_of_pos_right hv (Nat.two_pow_pos f)
  rw [← Nat.pow_add] at h1
  exact Nat.lt_of_lt_of_le h1 (pow_le64 (by omega))

theorem getV_bit (w f m i : Nat) : (getV w f m).testBit i = (decide (i < m) && w.testBit (f + i)) := by
  unfold getV
  rw [Nat.testBit_and, Nat.testBit_div_two_pow, Nat.testBit_two_pow_sub_one, Nat.add_comm i f, Bool.and_comm]

theorem getV_lt (w f m : Nat) : getV w f m < 2 ^ m := by
  unfold getV
  exact Nat.and_lt_two_pow _ (by have := Nat.two_pow_pos m; omega)

theorem shl_bit (v f i : Nat) : (v * 2 ^ f).testBit i = (decide (f ≤ i) && v.testBit (i - f)) := by
  rw [← Nat.shiftLeft_eq, Nat.testBit_shiftLeft]

theorem high_bit {v m i : Nat} (h : v < 2 ^ m) (hi : m ≤ i) : v.testBit i = false :=
  Nat.testBit_lt_two_pow (Nat.lt_of_lt_of_le h (Nat.pow_le_pow_right (by omega) hi))

theorem setV_bit {w f m v : Nat} (hf : f + m ≤ 64) (hv : v < 2 ^ m) (hw : w < 18446744073709551616) (i : Nat) :
    (setV w f m v).testBit i = if f ≤ i ∧ i < f + m then v.testBit (i - f) else w.testBit i := by
  unfold setV
  have e : 18446744073709551615 - (2 ^ m - 1) * 2 ^ f = 2 ^ 64 - ((2 ^ m - 1) * 2 ^ f + 1) := by
    have : (2 : Nat) ^ 64 = 18446744073709551616 := by decide
    omega
  rw [Nat.testBit_or, Nat.testBit_and, e, Nat.testBit_two_pow_sub_succ (mask_lt hf), shl_bit, shl_bit, Nat.testBit_two_pow_sub_one]
  by_cases c : f ≤ i ∧ i < f + m
  · rw [if_pos c, decide_eq_true c.1, decide_eq_true (by omega : i - f < m)]
    simp
  · rw [if_neg c]
    by_cases c1 : f ≤ i
    · rw [decide_eq_true c1, decide_eq_false (by omega : ¬ i - f < m), high_bit hv (by omega)]
      by_cases c2 : i < 64
      · simp [c2]
      · rw [high_bit (show w < 2 ^ 64 from hw) (by omega)]; simp
    · rw [decide_eq_false c1]
      simp
      intro _; omega

theorem setV_lt {w f m v : Nat} (hf : f + m ≤ 64) (hv : v < 2 ^ m) (hw : w < 18446744073709551616) : setV w f m v < 18446744073709551616 := by
  refine (Nat.lt_pow_two_of_testBit (n := 64) _ fun i hi => ?_)
  rw [setV_bit hf hv hw, if_neg (by omega)]
  exact high_bit (show w < 2 ^ 64 from hw) hi

theorem get_set {w f m v : Nat} (hf : f + m ≤ 64) (hv : v < 2 ^ m) (hw : w < 18446744073709551616) : getV (setV w f m v) f m = v := by
  refine Nat.eq_of_testBit_eq fun i => ?_
  rw [getV_bit, setV_bit hf hv hw]
  by_cases c : i < m
  · rw [decide_eq_true c, if_pos (by omega), Nat.add_sub_cancel_left, Bool.true_and]
  · rw [decide_eq_false c, Bool.false_and, high_bit (i := i) hv (by omega)]

theorem get_apart {w f m v f2 m2 : Nat} (hf : f + m ≤ 64) (hv : v < 2 ^ m) (hw : w < 18446744073709551616) (h : f2 + m2 ≤ f ∨ f + m ≤ f2) : getV (setV w f m v) f2 m2 = getV w f2 m2 := by
  refine Nat.eq_of_testBit_eq fun i => ?_
  rw [getV_bit, getV_bit]
  by_cases c : i < m2
  · rw [setV_bit hf hv hw, if_neg (by omega)]
  · rw [decide_eq_false c, Bool.false_and, Bool.false_and]

theorem set_twice {w f m v v2 : Nat} (hf : f + m ≤ 64) (hv : v < 2 ^ m) (hv2 : v2 < 2 ^ m) (hw : w < 18446744073709551616) : setV (setV w f m v) f m v2 = setV w f m v2 := by
  refine Nat.eq_of_testBit_eq fun i => ?_
  rw [setV_bit hf hv2 (setV_lt hf hv hw), setV_bit hf hv hw, setV_bit hf hv2 hw]
  split <;> rfl

theorem set_turn {w f m v f2 m2 v2 : Nat} (hf : f + m ≤ 64) (hv : v < 2 ^ m) (hf2 : f2 + m2 ≤ 64) (hv2 : v2 < 2 ^ m2) (hw : w < 18446744073709551616) (h : f2 + m2 ≤ f ∨ f + m ≤ f2) :
    setV (setV w f m v) f2 m2 v2 = setV (setV w f2 m2 v2) f m v := by
  refine Nat.eq_of_testBit_eq fun i => ?_
  rw [setV_bit hf2 hv2 (setV_lt hf hv hw), setV_bit hf hv hw, setV_bit hf hv (setV_lt hf2 hv2 hw), setV_bit hf2 hv2 hw]
  split
  · rw [if_neg (by omega)]
  · rfl

theorem withV_bit (w i : Nat) (b : Bool) (j : Nat) : (withV w i b).testBit j = if j = i then b else w.testBit j := by
  unfold withV
  by_cases c : w.testBit i = b
  · rw [if_pos c]
    by_cases d : j = i
    · rw [if_pos d, d, c]
    · rw [if_neg d]
  · rw [if_neg c, Nat.testBit_xor, Nat.testBit_two_pow]
    by_cases d : j = i
    · subst d
      rw [if_pos rfl, decide_eq_true rfl]
      cases hb : w.testBit j <;> cases b <;> simp_all
    · rw [if_neg d, decide_eq_false (fun e => d e.symm), Bool.xor_false]

theorem withV_lt {w i : Nat} (b : Bool) (hw : w < 18446744073709551616) (hi : i < 64) : withV w i b < 18446744073709551616 := by
  refine (Nat.lt_pow_two_of_testBit (n := 64) _ fun j hj => ?_)
  rw [withV_bit, if_neg (by omega)]
  exact high_bit (show w < 2 ^ 64 from hw) hj

theorem getV_zero (w f : Nat) : getV w f 0 = 0 := by unfold getV; rw [Nat.pow_zero, Nat.sub_self, Nat.and_zero]
theorem getV_succ (w f k : Nat) : withV (getV w f k) k (w.testBit (f + k)) = getV w f (k + 1) := by
  refine Nat.eq_of_testBit_eq fun i => ?_
  rw [withV_bit, getV_bit, getV_bit]
  by_cases d : i = k
  · subst d; rw [if_pos rfl, decide_eq_true (by omega : i < i + 1), Bool.true_and]
  · rw [if_neg d]
    by_cases c : i < k
    · rw [decide_eq_true c, decide_eq_true (by omega : i < k + 1)]
    · rw [decide_eq_false c, decide_eq_false (by omega : ¬ i < k + 1)]

/-- the word behind the first bits -/
def stepV (w f v : Nat) : Nat → Nat
  | 0 => w
  | k + 1 => withV (stepV w f v k) (f + k) (v.testBit k)

theorem stepV_bit (w f v k i : Nat) : (stepV w f v k).testBit i = if f ≤ i ∧ i < f + k then v.testBit (i - f) else w.testBit i := by
  induction k with
  | zero => rw [if_neg (by omega)]; rfl
  | succ k ih =>
    show (withV (stepV w f v k) (f + k) (v.testBit k)).testBit i = _
    rw [withV_bit, ih]
    by_cases d : i = f + k
    · rw [if_pos d, if_pos (by omega), d, Nat.add_sub_cancel_left]
    · rw [if_neg d]
      by_cases c : f ≤ i ∧ i < f + k
      · rw [if_pos c, if_pos (by omega)]
      · rw [if_neg c, if_neg (by omega)]

theorem stepV_lt {w f v k : Nat} (hw : w < 18446744073709551616) (h : f + k ≤ 64) : stepV w f v k < 18446744073709551616 := by
  refine (Nat.lt_pow_two_of_testBit (n := 64) _ fun j hj => ?_)
  rw [stepV_bit, if_neg (by omega)]
  exact high_bit (show w < 2 ^ 64 from hw) hj

theorem stepV_all {w f m v : Nat} (hf : f + m ≤ 64) (hv : v < 2 ^ m) (hw : w < 18446744073709551616) : stepV w f v m = setV w f m v := by
  refine Nat.eq_of_testBit_eq fun i => ?_
  rw [stepV_bit, setV_bit hf hv hw]

/-- are all the bits from one on 0? -/
theorem fits_bits {v m : Nat} (h : ∀ i, m ≤ i → i < 64 → v.testBit i = false) (hv : v < 18446744073709551616) : v < 2 ^ m := by
  refine Nat.lt_pow_two_of_testBit _ fun i hi => ?_
  by_cases c : i < 64
  · exact h i hi c
  · exact high_bit (show v < 2 ^ 64 from hv) (by omega)

theorem len_fits {v m : Nat} (hv : v < 18446744073709551616) : Lib.bitLen v ≤ m ↔ v < 2 ^ m := by
  constructor
  · intro h
    by_cases z : v = 0
    · subst z; exact Nat.two_pow_pos m
    · exact Nat.lt_of_lt_of_le (Lib.bitLenAux_bounds 64 v hv z).2.2 (Nat.pow_le_pow_right (by omega) h)
  · intro h
    by_cases z : v = 0
    · subst z; show Lib.bitLenAux 64 0 ≤ m; rw [Lib.bitLenAux_zero]; exact Nat.zero_le _
    · have b := Lib.bitLenAux_bounds 64 v hv z
      by_cases c : m < Lib.bitLen v
      · exfalso
        have : 2 ^ m ≤ 2 ^ (Lib.bitLen v - 1) := Nat.pow_le_pow_right (by omega) (by omega)
        exact absurd h (Nat.not_lt.2 (Nat.le_trans this b.2.1))
      · omega

/-! Widths, one behind the other. -/

/-- where a field begins -/
def start (F : Nat → Int) : Nat → Nat
  | 0 => 0
  | k + 1 => start F k + (F k).toNat

/-- the first widths are valid -/
def okTo (F : Nat → Int) (k : Nat) : Prop := ∀ i, i < k → 1 ≤ F i ∧ (start F i : Int) + F i ≤ 64

theorem okTo_succ {F : Nat → Int} {k : Nat} (h : okTo F k) (h1 : 1 ≤ F k) (h2 : (start F k : Int) + F k ≤ 64) : okTo F (k + 1) := by
  intro i hi
  by_cases c : i = k
  · subst c; exact ⟨h1, h2⟩
  · exact h i (by omega)
theorem okTo_le {F : Nat → Int} {k n : Nat} (h : okTo F n) (hk : k ≤ n) : okTo F k := fun i hi => h i (by omega)
theorem start_le {F : Nat → Int} {k : Nat} (h : okTo F k) : start F k ≤ 64 := by
  cases k with
  | zero => exact Nat.zero_le _
  | succ k => have := h k (by omega); show start F k + (F k).toNat ≤ 64; omega
theorem start_ge {F : Nat → Int} {k : Nat} (h : okTo F k) : k ≤ start F k := by
  induction k with
  | zero => exact Nat.zero_le _
  | succ k ih => have := ih (okTo_le h (by omega)); have := h k (by omega); show k + 1 ≤ start F k + (F k).toNat; omega
theorem start_mono {F : Nat → Int} {i n : Nat} (hi : i < n) : start F i + (F i).toNat ≤ start F n := by
  induction n with
  | zero => omega
  | succ n ih =>
    show _ ≤ start F n + (F n).toNat
    by_cases c : i = n
    · subst c; exact Nat.le_refl _
    · have := ih (by omega); omega

/-- the first values fit -/
def fitTo (F : Nat → Int) (g : Nat → Nat) (k : Nat) : Prop := ∀ i, i < k → g i < 2 ^ (F i).toNat

theorem fitTo_le {F : Nat → Int} {g : Nat → Nat} {k n : Nat} (h : fitTo F g n) (hk : k ≤ n) : fitTo F g k := fun i hi => h i (by omega)
theorem fitTo_succ {F : Nat → Int} {g : Nat → Nat} {k : Nat} (h : fitTo F g k) (h1 : g k < 2 ^ (F k).toNat) : fitTo F g (k + 1) := by
  intro i hi
  by_cases c : i = k
  · subst c; exact h1
  · exact h i (by omega)

/-- the word of the first values -/
def packTo (F : Nat → Int) (g : Nat → Nat) : Nat → Nat
  | 0 => 0
  | k + 1 => setV (packTo F g k) (start F k) (F k).toNat (g k)

theorem ok_nat {F : Nat → Int} {k : Nat} (h : okTo F (k + 1)) : start F k + (F k).toNat ≤ 64 := by have := h k (by omega); omega

theorem packTo_lt {F : Nat → Int} {g : Nat → Nat} {k : Nat} (h : okTo F k) (hg : fitTo F g k) : packTo F g k < 2 ^ start F k := by
  induction k with
  | zero => exact Nat.two_pow_pos _
  | succ k ih =>
    have h1 := ih (okTo_le h (by omega)) (fitTo_le hg (by omega))
    have h2 := Nat.lt_of_lt_of_le h1 (pow_le64 (start_le (okTo_le h (by omega))))
    refine Nat.lt_pow_two_of_testBit _ fun i hi => ?_
    have hi' : start F k + (F k).toNat ≤ i := hi
    show (setV (packTo F g k) (start F k) (F k).toNat (g k)).testBit i = false
    rw [setV_bit (ok_nat h) (hg k (by omega)) h2, if_neg (by omega)]
    exact high_bit h1 (by omega)

theorem pack_step {u s m v : Nat} (hf : s + m ≤ 64) (hv : v < 2 ^ m) (hu : u < 2 ^ s) : u ||| (v * 2 ^ s) = setV u s m v := by
  have hu' := Nat.lt_of_lt_of_le hu (pow_le64 (by omega : s ≤ 64))
  refine Nat.eq_of_testBit_eq fun i => ?_
  rw [Nat.testBit_or, shl_bit, setV_bit hf hv hu']
  by_cases c1 : s ≤ i
  · rw [decide_eq_true c1, high_bit hu c1, Bool.false_or, Bool.true_and]
    by_cases c : i < s + m
    · rw [if_pos ⟨c1, c⟩]
    · rw [if_neg (by omega), high_bit hv (by omega)]
  · rw [decide_eq_false c1, if_neg (by omega), Bool.false_and, Bool.or_false]

/-- what was packed is read again -/
theorem get_pack {F : Nat → Int} {g : Nat → Nat} {n : Nat} (h : okTo F n) (hg : fitTo F g n) {i : Nat} (hi : i < n) : getV (packTo F g n) (start F i) (F i).toNat = g i := by
  induction n with
  | zero => omega
  | succ n ih =>
    have hl := Nat.lt_of_lt_of_le (packTo_lt (okTo_le h (Nat.le_succ n)) (fitTo_le hg (Nat.le_succ n))) (pow_le64 (start_le (okTo_le h (Nat.le_succ n))))
    show getV (setV (packTo F g n) (start F n) (F n).toNat (g n)) _ _ = _
    by_cases c : i = n
    · subst c; exact get_set (ok_nat h) (hg i hi) hl
    · rw [get_apart (ok_nat h) (hg n (by omega)) hl (Or.inl (start_mono (by omega)))]
      exact ih (okTo_le h (Nat.le_succ n)) (fitTo_le hg (Nat.le_succ n)) (by omega)

theorem fit_get (F : Nat → Int) (w n : Nat) : fitTo F (fun i => getV w (start F i) (F i).toNat) n := fun _ _ => getV_lt _ _ _

theorem mod_bit (w s i : Nat) : (w % 2 ^ s).testBit i = (decide (i < s) && w.testBit i) := Nat.testBit_mod_two_pow w s i

/-- what was read is packed again -/
theorem pack_get {F : Nat → Int} {w n : Nat} (h : okTo F n) (hw : w < 18446744073709551616) : packTo F (fun i => getV w (start F i) (F i).toNat) n = w % 2 ^ start F n := by
  induction n with
  | zero => show 0 = w % 2 ^ 0; rw [Nat.pow_zero, Nat.mod_one]
  | succ n ih =>
    have hm : w % 2 ^ start F n < 18446744073709551616 := Nat.lt_of_le_of_lt (Nat.mod_le _ _) hw
    show setV (packTo F (fun i => getV w (start F i) (F i).toNat) n) (start F n) (F n).toNat (getV w (start F n) (F n).toNat) = _
    rw [ih (okTo_le h (Nat.le_succ n))]
    refine Nat.eq_of_testBit_eq fun i => ?_
    rw [setV_bit (ok_nat h) (getV_lt _ _ _) hm, mod_bit, mod_bit]
    show _ = (decide (i < start F n + (F n).toNat) && w.testBit i)
    by_cases c : start F n ≤ i ∧ i < start F n + (F n).toNat
    · rw [if_pos c, getV_bit, decide_eq_true c.2, decide_eq_true (by omega : i - start F n < (F n).toNat), Nat.add_sub_cancel' c.1]
    · rw [if_neg c]
      by_cases d : i < start F n
      · rw [decide_eq_true d, decide_eq_true (by omega : i < start F n + (F n).toNat)]
      · rw [decide_eq_false d, decide_eq_false (by omega : ¬ i < start F n + (F n).toNat)]

/-- the word whose first fields are set to 0 -/
def zeroTo (F : Nat → Int) (w : Nat) : Nat → Nat
  | 0 => w
  | k + 1 => setV (zeroTo F w k) (start F k) (F k).toNat 0

theorem zeroTo_lt {F : Nat → Int} {w k : Nat} (h : okTo F k) (hw : w < 18446744073709551616) : zeroTo F w k < 18446744073709551616 := by
  induction k with
  | zero => exact hw
  | succ k ih => exact setV_lt (ok_nat h) (Nat.two_pow_pos _) (ih (okTo_le h (Nat.le_succ k)))

theorem zeroTo_bit {F : Nat → Int} {w k : Nat} (h : okTo F k) (hw : w < 18446744073709551616) (i : Nat) : (zeroTo F w k).testBit i = (decide (start F k ≤ i) && w.testBit i) := by
  induction k with
  | zero => show w.testBit i = (decide (0 ≤ i) && w.testBit i); rw [decide_eq_true (Nat.zero_le _), Bool.true_and]
  | succ k ih =>
    have h' := okTo_le h (Nat.le_succ k)
    show (setV (zeroTo F w k) (start F k) (F k).toNat 0).testBit i = (decide (start F k + (F k).toNat ≤ i) && w.testBit i)
    rw [setV_bit (ok_nat h) (Nat.two_pow_pos _) (zeroTo_lt h' hw), ih h', Nat.zero_testBit]
    by_cases c : start F k ≤ i ∧ i < start F k + (F k).toNat
    · rw [if_pos c, decide_eq_false (by omega : ¬ start F k + (F k).toNat ≤ i), Bool.false_and]
    · rw [if_neg c]
      by_cases d : start F k ≤ i
      · rw [decide_eq_true d, decide_eq_true (by omega : start F k + (F k).toNat ≤ i)]
      · rw [decide_eq_false d, decide_eq_false (by omega : ¬ start F k + (F k).toNat ≤ i)]

theorem zeroTo_all {F : Nat → Int} {w n : Nat} (h : okTo F n) (hw : w < 18446744073709551616) (hl : w < 2 ^ start F n) : zeroTo F w n = 0 := by
  refine Nat.eq_of_testBit_eq fun i => ?_
  rw [zeroTo_bit h hw, Nat.zero_testBit]
  by_cases d : start F n ≤ i
  · rw [high_bit hl d, Bool.and_false]
  · rw [decide_eq_false d, Bool.false_and]

end Go.Proofs.YthokalcibjjihaaGreatDoor.hd
