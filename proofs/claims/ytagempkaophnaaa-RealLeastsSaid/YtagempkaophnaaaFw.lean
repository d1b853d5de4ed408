/- Words of float64: what reading, writing, adding and comparing them is, in rungs. -/
import Derived.Test.YtagempkaophnaaaFl
namespace Go.Proofs.Ytagempkaophnaaa
open Ieee

/-- the sign of a word -/
def sgn (w : Nat) : Bool := w / 9223372036854775808 % 2 == 1

/-- the bits below the sign -/
def rung (w : Nat) : Nat := w % 9223372036854775808

/-- rung of the infinities -/
theorem top_lt : (9218868437227405312 : Nat) < 9223372036854775808 := by omega

/-- a number with a sign -/
def sv (w : Nat) : Int := if sgn w then -(val (rung w) : Int) else (val (rung w) : Int)

/-- the word of a sign and a rung -/
def wd (s : Bool) (r : Nat) : Nat := if s then 9223372036854775808 + r else r

theorem sgn_wd (s : Bool) {r : Nat} (h : r < 9223372036854775808) : sgn (wd s r) = s := by
  unfold sgn wd
  cases s
  · simp only [Bool.false_eq_true, if_false]
    rw [Nat.div_eq_of_lt h]; rfl
  · simp only [if_true]
    rw [show (9223372036854775808 + r) / 9223372036854775808 = 1 by omega]; rfl

theorem rung_wd (s : Bool) {r : Nat} (h : r < 9223372036854775808) : rung (wd s r) = r := by
  unfold rung wd
  cases s
  · simp only [Bool.false_eq_true, if_false]; omega
  · simp only [if_true]; omega

theorem wd_of {w : Nat} (h : w < 18446744073709551616) : wd (sgn w) (rung w) = w := by
  unfold wd sgn rung
  by_cases c : w < 9223372036854775808
  · rw [Nat.div_eq_of_lt c]; simp; omega
  · rw [show w / 9223372036854775808 = 1 by omega]; simp; omega

theorem rung_lt (w : Nat) : rung w < 9223372036854775808 := Nat.mod_lt _ (by omega)

/-- a word is told by its sign and its rung -/
theorem eq_of_parts {a b : Nat} (ha : a < 18446744073709551616) (hb : b < 18446744073709551616) (h1 : sgn a = sgn b) (h2 : rung a = rung b) : a = b := by
  rw [← wd_of ha, ← wd_of hb, h1, h2]

theorem f_word (s : Bool) (r : Nat) : double.word s r = wd s r := rfl
theorem f_binade : double.binade = 4503599627370496 := rfl
theorem f_inf : double.infRung = 9218868437227405312 := rfl
theorem f_sign : double.signWeight = 9223372036854775808 := rfl
theorem f_least : double.leastPlace = -1074 := rfl

theorem read_fin {w : Nat} (h : rung w < 9218868437227405312) : ∃ (m : Nat) (p : Int), double.read w = .number (sgn w) m p ∧ -1074 ≤ p ∧ m * 2 ^ (p + 1074).toNat = val (rung w) := by
  have he : double.read w = if rung w < 4503599627370496 then .number (sgn w) (rung w) (-1074) else if rung w < 9218868437227405312 then .number (sgn w) (4503599627370496 + rung w % 4503599627370496) (-1074 + ((rung w / 4503599627370496 - 1 : Nat) : Int)) else if rung w = 9218868437227405312 then .infinity (sgn w) else .nan (sgn w) (rung w - 9218868437227405312) := rfl
  rw [he]
  by_cases c : rung w < 4503599627370496
  · rw [if_pos c]
    refine ⟨_, _, rfl, by omega, ?_⟩
    unfold val; rw [if_pos c]
    rw [show ((-1074 : Int) + 1074).toNat = 0 by omega]; omega
  · rw [if_neg c, if_pos h]
    refine ⟨_, _, rfl, by omega, ?_⟩
    unfold val; rw [if_neg c]
    generalize rung w / 4503599627370496 - 1 = k
    rw [show ((-1074 : Int) + (k : Nat) + 1074).toNat = k by omega]

theorem read_inf {w : Nat} (h : rung w = 9218868437227405312) : double.read w = .infinity (sgn w) := by
  have he : double.read w = if rung w < 4503599627370496 then .number (sgn w) (rung w) (-1074) else if rung w < 9218868437227405312 then .number (sgn w) (4503599627370496 + rung w % 4503599627370496) (-1074 + ((rung w / 4503599627370496 - 1 : Nat) : Int)) else if rung w = 9218868437227405312 then .infinity (sgn w) else .nan (sgn w) (rung w - 9218868437227405312) := rfl
  rw [he, if_neg (by omega), if_neg (by omega), if_pos h]

theorem read_nan {w : Nat} (h : 9218868437227405312 < rung w) : ∃ f, double.read w = .nan (sgn w) f := by
  have he : double.read w = if rung w < 4503599627370496 then .number (sgn w) (rung w) (-1074) else if rung w < 9218868437227405312 then .number (sgn w) (4503599627370496 + rung w % 4503599627370496) (-1074 + ((rung w / 4503599627370496 - 1 : Nat) : Int)) else if rung w = 9218868437227405312 then .infinity (sgn w) else .nan (sgn w) (rung w - 9218868437227405312) := rfl
  rw [he, if_neg (by omega), if_neg (by omega), if_neg (by omega)]
  exact ⟨_, rfl⟩

theorem more_at (g r l : Nat) : (decide (g < 2 * r) || (g == 2 * r && l % 2 == 1)).toNat = if g < 2 * r ∨ (g = 2 * r ∧ l % 2 = 1) then 1 else 0 := by
  by_cases c : g < 2 * r ∨ (g = 2 * r ∧ l % 2 = 1)
  · rw [if_pos c]
    have : (decide (g < 2 * r) || (g == 2 * r && l % 2 == 1)) = true := by
      simpa using c
    rw [this]; rfl
  · rw [if_neg c]
    have : (decide (g < 2 * r) || (g == 2 * r && l % 2 == 1)) = false := by
      cases hh : (decide (g < 2 * r) || (g == 2 * r && l % 2 == 1)) with
      | false => rfl
      | true => exact absurd (by simpa using hh) c
    rw [this]; rfl

/-- rounding a number that is a whole number of units -/
theorem nearest_at (neg : Bool) (mag : Nat) (place : Int) (hp : -1074 ≤ place) : double.nearest neg mag place = wd neg (min (rungOf (mag * 2 ^ (place + 1074).toNat)) 9218868437227405312) := by
  unfold Format.nearest
  by_cases z : mag = 0
  · rw [if_pos z, z, Nat.zero_mul]
    show wd neg 0 = wd neg (min (rungOf 0) 9218868437227405312)
    rw [show rungOf 0 = 0 from rfl]; rfl
  · rw [if_neg z]
    obtain ⟨p, hpp⟩ : ∃ p : Nat, place = (p : Int) - 1074 := ⟨(place + 1074).toNat, by omega⟩
    subst hpp
    rw [show ((p : Int) - 1074 + 1074).toNat = p by omega]
    have hlog : (mag * 2 ^ p).log2 = mag.log2 + p := by
      have z2 : mag * 2 ^ p ≠ 0 := Nat.mul_ne_zero z (by have := Nat.two_pow_pos p; omega)
      refine (Nat.log2_eq_iff z2).2 ⟨?_, ?_⟩
      · rw [Nat.pow_add]; exact Nat.mul_le_mul_right _ (Nat.log2_self_le z)
      · rw [show mag.log2 + p + 1 = (mag.log2 + 1) + p by omega, Nat.pow_add]
        exact Nat.mul_lt_mul_of_pos_right Nat.lt_log2_self (Nat.two_pow_pos p)
    unfold rungOf
    rw [hlog]
    show wd neg (min _ _) = wd neg (min _ _)
    rw [f_least, f_binade, f_inf]
    show wd neg (min ((max ((p : Int) - 1074 + (mag.log2 : Int) - (52 : Nat)) (-1074) - -1074).toNat * 4503599627370496 + Toward.even.cut neg (mag <<< ((p : Int) - 1074 - max ((p : Int) - 1074 + (mag.log2 : Int) - (52 : Nat)) (-1074)).toNat) (max ((p : Int) - 1074 + (mag.log2 : Int) - (52 : Nat)) (-1074) - ((p : Int) - 1074)).toNat) 9218868437227405312) = _
    generalize hL : mag.log2 = L
    have e1 : (max ((p : Int) - 1074 + (L : Int) - (52 : Nat)) (-1074) - -1074).toNat = L + p - 52 := by omega
    have e2 : ((p : Int) - 1074 - max ((p : Int) - 1074 + (L : Int) - (52 : Nat)) (-1074)).toNat = p - (L + p - 52) := by omega
    have e3 : (max ((p : Int) - 1074 + (L : Int) - (52 : Nat)) (-1074) - ((p : Int) - 1074)).toNat = (L + p - 52) - p := by omega
    rw [e1, e2, e3]
    congr 3
    by_cases c : L + p - 52 ≤ p
    · rw [show L + p - 52 - p = 0 by omega, Nat.shiftLeft_eq]
      have hN : mag * 2 ^ p = (mag * 2 ^ (p - (L + p - 52))) * 2 ^ (L + p - 52) := by
        rw [Nat.mul_assoc, ← Nat.pow_add]; congr 2; omega
      rw [hN, near_exact]
      unfold Toward.cut
      generalize mag * 2 ^ (p - (L + p - 52)) = n
      dsimp only
      rw [Nat.zero_min]
      simp [Nat.mod_one]
    · rw [show p - (L + p - 52) = 0 by omega]
      obtain ⟨d, hd⟩ : ∃ d, L + p - 52 = p + d := ⟨L + p - 52 - p, by omega⟩
      rw [hd, show p + d - p = d by omega, Nat.shiftLeft_eq, Nat.pow_zero, Nat.mul_one]
      unfold Toward.cut near
      dsimp only
      rw [hL, show min d (L + 2) = d by omega, Nat.shiftLeft_eq, Nat.one_mul]
      have pp := Nat.two_pow_pos p
      rw [Nat.add_comm p d, Nat.pow_add, Nat.mul_div_mul_right _ _ pp, Nat.mul_mod_mul_right]
      congr 1
      have k1 : (2 ^ d * 2 ^ p < 2 * (mag % 2 ^ d * 2 ^ p)) ↔ (2 ^ d < 2 * (mag % 2 ^ d)) := by
        rw [← Nat.mul_assoc]; exact Nat.mul_lt_mul_right pp
      have k2 : (2 ^ d * 2 ^ p = 2 * (mag % 2 ^ d * 2 ^ p)) ↔ (2 ^ d = 2 * (mag % 2 ^ d)) := by
        rw [← Nat.mul_assoc]; exact Nat.mul_left_inj (by omega)
      simp only [k1, k2]
      exact more_at _ _ _

/-- adding -/
theorem sv_signed {w m : Nat} {p base : Int} (hb : -1074 ≤ base) (hp : base ≤ p) (h : m * 2 ^ (p + 1074).toNat = val (rung w)) :
    signed (sgn w) m (p - base).toNat * ((2 ^ (base + 1074).toNat : Nat) : Int) = sv w := by
  have e : (m <<< (p - base).toNat) * 2 ^ (base + 1074).toNat = val (rung w) := by
    rw [Nat.shiftLeft_eq, Nat.mul_assoc, ← Nat.pow_add, ← h]
    congr 2; omega
  unfold signed sv
  split
  · rw [Int.neg_mul, ← Int.natCast_mul, e]
  · rw [← Int.natCast_mul, e]

/-- the sum of two numbers -/
def plus (x y : Nat) : Nat := wd (if sv x + sv y = 0 then sgn x && sgn y else sv x + sv y < 0) (min (rungOf (sv x + sv y).natAbs) 9218868437227405312)

theorem add_fin {x y : Nat} (hx : rung x < 9218868437227405312) (hy : rung y < 9218868437227405312) : double.add x y = some (plus x y) := by
  obtain ⟨m, i, rx, li, vx⟩ := read_fin hx
  obtain ⟨n, j, ry, lj, vy⟩ := read_fin hy
  unfold Format.add
  rw [rx, ry]
  have hb : -1074 ≤ min i j := by omega
  have sx := sv_signed hb (Int.min_le_left i j) vx
  have sy := sv_signed hb (Int.min_le_right i j) vy
  show some (double.nearest _ _ _) = _
  rw [nearest_at _ _ _ hb]
  generalize signed (sgn x) m (i - min i j).toNat = a at *
  generalize signed (sgn y) n (j - min i j).toNat = b at *
  have hpos := Nat.two_pow_pos (min i j + 1074).toNat
  generalize 2 ^ (min i j + 1074).toNat = q at *
  have hs : (a + b) * (q : Int) = sv x + sv y := by rw [Int.add_mul, sx, sy]
  have hn : (a + b).natAbs * q = (sv x + sv y).natAbs := by rw [← hs, Int.natAbs_mul]; rfl
  have hz : (a + b = 0) ↔ (sv x + sv y = 0) := by
    rw [← hs]
    constructor
    · intro h; rw [h, Int.zero_mul]
    · intro h; rcases Int.mul_eq_zero.1 h with h | h <;> omega
  have hl : (a + b < 0) ↔ (sv x + sv y < 0) := by
    rw [← hs]
    constructor
    · intro h; exact Int.mul_neg_of_neg_of_pos h (by omega)
    · intro h
      by_cases c : a + b < 0
      · exact c
      · have := Int.mul_nonneg (Int.not_lt.1 c) (show (0 : Int) ≤ q by omega)
        omega
  rw [hn]
  unfold plus
  congr 2
  by_cases c : a + b = 0
  · rw [if_pos c, if_pos (hz.1 c)]
  · rw [if_neg c, if_neg (fun h => c (hz.2 h))]
    exact decide_eq_decide.2 hl

theorem add_nan_left {x y : Nat} (hx : 9218868437227405312 < rung x) : double.add x y = none := by
  obtain ⟨f, r⟩ := read_nan hx
  unfold Format.add; rw [r]; rfl

theorem add_nan_right {x y : Nat} (hy : 9218868437227405312 < rung y) : double.add x y = none := by
  obtain ⟨f, r⟩ := read_nan hy
  unfold Format.add; rw [r]
  cases double.read x <;> rfl

theorem add_inf_inf {x y : Nat} (hx : rung x = 9218868437227405312) (hy : rung y = 9218868437227405312) : double.add x y = if sgn x = sgn y then some (wd (sgn x) 9218868437227405312) else none := by
  unfold Format.add; rw [read_inf hx, read_inf hy]
  show Option.map _ (if _ then _ else _) = _
  split <;> rfl

theorem add_inf_fin {x y : Nat} (hx : rung x = 9218868437227405312) (hy : rung y < 9218868437227405312) : double.add x y = some (wd (sgn x) 9218868437227405312) := by
  obtain ⟨m, i, rx, _, _⟩ := read_fin hy
  unfold Format.add; rw [read_inf hx, rx]; rfl

theorem add_fin_inf {x y : Nat} (hx : rung x < 9218868437227405312) (hy : rung y = 9218868437227405312) : double.add x y = some (wd (sgn y) 9218868437227405312) := by
  obtain ⟨m, i, rx, _, _⟩ := read_fin hx
  unfold Format.add; rw [read_inf hy, rx]; rfl

/-- the place in the order of numbers -/
def key (w : Nat) : Int := if sgn w then -(rung w : Int) else (rung w : Int)

theorem order_nan_left {x y : Nat} (hx : 9218868437227405312 < rung x) : double.order x y = none := by
  obtain ⟨f, r⟩ := read_nan hx
  unfold Format.order; rw [r]; rfl

theorem order_nan_right {x y : Nat} (hy : 9218868437227405312 < rung y) : double.order x y = none := by
  obtain ⟨f, r⟩ := read_nan hy
  unfold Format.order; rw [r]
  cases double.read x <;> rfl

theorem cmp_congr {a b c d : Int} (h1 : a < b ↔ c < d) (h2 : b < a ↔ d < c) : compare a b = compare c d := by
  rcases Int.lt_trichotomy a b with h | h | h
  · rw [Int.compare_eq_lt.2 h, Int.compare_eq_lt.2 (h1.1 h)]
  · have : c = d := by omega
    rw [h, this, Int.compare_eq_eq.2 rfl, Int.compare_eq_eq.2 rfl]
  · rw [Int.compare_eq_gt.2 h, Int.compare_eq_gt.2 (h2.1 h)]

theorem sv_lt_key {x y : Nat} (h : sv x < sv y) : key x < key y := by
  unfold sv key at *
  rcases Nat.lt_trichotomy (rung x) (rung y) with c | c | c
  · have := val_mono c
    generalize sgn x = s at *; generalize sgn y = t at *; cases s <;> cases t <;> simp only [if_true, if_false, Bool.false_eq_true] at h ⊢ <;> omega
  · rw [c] at h ⊢
    have hz : val (rung y) = 0 ↔ rung y = 0 := ⟨fun h => by have := val_inj (h.trans val_zero.symm); exact this, fun h => by rw [h]; rfl⟩
    generalize sgn x = s at *; generalize sgn y = t at *; cases s <;> cases t <;> simp only [if_true, if_false, Bool.false_eq_true] at h ⊢ <;> omega
  · have := val_mono c
    generalize sgn x = s at *; generalize sgn y = t at *; cases s <;> cases t <;> simp only [if_true, if_false, Bool.false_eq_true] at h ⊢ <;> omega

theorem key_lt_sv {x y : Nat} (h : key x < key y) : sv x < sv y := by
  unfold sv key at *
  rcases Nat.lt_trichotomy (rung x) (rung y) with c | c | c
  · have := val_mono c
    generalize sgn x = s at *; generalize sgn y = t at *; cases s <;> cases t <;> simp only [if_true, if_false, Bool.false_eq_true] at h ⊢ <;> omega
  · rw [c] at h ⊢
    have hz : 0 < rung y → 0 < val (rung y) := val_pos
    generalize sgn x = s at *; generalize sgn y = t at *; cases s <;> cases t <;> simp only [if_true, if_false, Bool.false_eq_true] at h ⊢ <;> omega
  · have := val_mono c
    generalize sgn x = s at *; generalize sgn y = t at *; cases s <;> cases t <;> simp only [if_true, if_false, Bool.false_eq_true] at h ⊢ <;> omega

theorem sv_lt {x y : Nat} : sv x < sv y ↔ key x < key y := ⟨sv_lt_key, key_lt_sv⟩

theorem order_at {x y : Nat} (hx : rung x ≤ 9218868437227405312) (hy : rung y ≤ 9218868437227405312) : double.order x y = some (compare (key x) (key y)) := by
  unfold Format.order
  by_cases cx : rung x < 9218868437227405312
  · obtain ⟨m, i, rx, li, vx⟩ := read_fin cx
    by_cases cy : rung y < 9218868437227405312
    · obtain ⟨n, j, ry, lj, vy⟩ := read_fin cy
      rw [rx, ry]
      have hb : -1074 ≤ min i j := by omega
      have sx := sv_signed hb (Int.min_le_left i j) vx
      have sy := sv_signed hb (Int.min_le_right i j) vy
      show some (compare _ _) = _
      generalize signed (sgn x) m (i - min i j).toNat = a at *
      generalize signed (sgn y) n (j - min i j).toNat = b at *
      have hpos := Nat.two_pow_pos (min i j + 1074).toNat
      generalize 2 ^ (min i j + 1074).toNat = q at *
      congr 1
      have hq : (0 : Int) < q := by omega
      refine cmp_congr ?_ ?_
      · rw [← sv_lt, ← sx, ← sy]; exact (Int.mul_lt_mul_right hq).symm
      · rw [← sv_lt, ← sx, ← sy]; exact (Int.mul_lt_mul_right hq).symm
    · have ey : rung y = 9218868437227405312 := by omega
      rw [rx, read_inf ey]
      show some (if sgn y = true then Ordering.gt else Ordering.lt) = _
      unfold key; rw [ey]
      congr 1
      split
      · refine (Int.compare_eq_gt.2 ?_).symm
        split <;> omega
      · refine (Int.compare_eq_lt.2 ?_).symm
        split <;> omega
  · have ex : rung x = 9218868437227405312 := by omega
    by_cases cy : rung y < 9218868437227405312
    · obtain ⟨n, j, ry, lj, vy⟩ := read_fin cy
      rw [ry, read_inf ex]
      show some (if sgn x = true then Ordering.lt else Ordering.gt) = _
      unfold key; rw [ex]
      congr 1
      split
      · refine (Int.compare_eq_lt.2 ?_).symm
        split <;> omega
      · refine (Int.compare_eq_gt.2 ?_).symm
        split <;> omega
    · have ey : rung y = 9218868437227405312 := by omega
      rw [read_inf ex, read_inf ey]
      unfold key; rw [ex, ey]
      cases sgn x <;> cases sgn y <;> rfl

end Go.Proofs.Ytagempkaophnaaa
