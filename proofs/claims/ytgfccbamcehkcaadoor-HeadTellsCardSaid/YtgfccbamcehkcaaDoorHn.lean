/- Heads and their words, as numbers: nothing of the program. -/
import Derived.Test.YtgfccbamcehkcaaDoorNum
namespace Go.Proofs.YtgfccbamcehkcaaDoor

/-- may a head be? -/
def okH (c r n : Int) : Bool := decide (0 ≤ c ∧ c ≤ 7 ∧ 0 ≤ r ∧ 0 ≤ n ∧ r + n ≤ 63)
/-- its word -/
def wordN (c r n : Nat) : Nat := 14339461213547659264 + c * 281474976710656 + r * 4294967296 + n * 65536
def cOf (w : Nat) : Nat := w / 281474976710656 % 256
def rOf (w : Nat) : Nat := w / 4294967296 % 65536
def nOf (w : Nat) : Nat := w / 65536 % 65536
/-- is it the word of a head? -/
def isW (w : Nat) : Bool := okH (cOf w) (rOf w) (nOf w) && decide (wordN (cOf w) (rOf w) (nOf w) = w)

/-- what Put answers -/
def putR (c r n : Int) : Nat := if okH c r n = true then wordN c.toNat r.toNat n.toNat else 0
def putE (c r n : Int) : Int := if okH c r n = true then 0 else 2
/-- what Get answers -/
def gC (w : Nat) : Nat := if isW w = true then cOf w else 0
def gR (w : Nat) : Nat := if isW w = true then rOf w else 0
def gN (w : Nat) : Nat := if isW w = true then nOf w else 0
def gE (w : Nat) : Int := if isW w = true then 0 else 5
/-- what Need, and Field, answer -/
def needR (c r n : Int) : Int := if okH c r n = true then r + n + 1 else 0
def inF (c r n i : Int) : Bool := okH c r n && decide (0 ≤ i ∧ i < r + n)
def fieldR (c r n i : Int) : Bool := inF c r n i && decide (i < r)
def fieldE (c r n i : Int) : Int := if okH c r n = true then (if inF c r n i = true then 0 else 110) else 2

theorem okH_true {c r n : Int} (h : okH c r n = true) : ∃ C R N : Nat, c = C ∧ r = R ∧ n = N ∧ C ≤ 7 ∧ R + N ≤ 63 := by
  have := of_decide_eq_true h
  exact ⟨c.toNat, r.toNat, n.toNat, by omega, by omega, by omega, by omega, by omega⟩
theorem okH_nat {C R N : Nat} (h1 : C ≤ 7) (h2 : R + N ≤ 63) : okH (C : Int) (R : Int) (N : Int) = true := decide_eq_true ⟨by omega, by omega, by omega, by omega, by omega⟩

theorem cOf_word {C R N : Nat} (h1 : C ≤ 7) (h2 : R + N ≤ 63) : cOf (wordN C R N) = C := by unfold cOf wordN; omega
theorem rOf_word {C R N : Nat} (_ : C ≤ 7) (h2 : R + N ≤ 63) : rOf (wordN C R N) = R := by unfold rOf wordN; omega
theorem nOf_word {C R N : Nat} (_ : C ≤ 7) (h2 : R + N ≤ 63) : nOf (wordN C R N) = N := by unfold nOf wordN; omega
theorem word_lt {C R N : Nat} (h1 : C ≤ 7) (h2 : R + N ≤ 63) : wordN C R N < 18446744073709551616 := by unfold wordN; omega
theorem word_pos (C R N : Nat) : 0 < wordN C R N := by unfold wordN; omega
theorem isW_word {C R N : Nat} (h1 : C ≤ 7) (h2 : R + N ≤ 63) : isW (wordN C R N) = true := by
  unfold isW
  rw [cOf_word h1 h2, rOf_word h1 h2, nOf_word h1 h2, okH_nat h1 h2, decide_eq_true rfl, Bool.true_and]
theorem isW_true {w : Nat} (h : isW w = true) : cOf w ≤ 7 ∧ rOf w + nOf w ≤ 63 ∧ wordN (cOf w) (rOf w) (nOf w) = w := by
  unfold isW at h
  rw [Bool.and_eq_true] at h
  have h1 := of_decide_eq_true h.1
  exact ⟨by omega, by omega, of_decide_eq_true h.2⟩
theorem parts_lt (w : Nat) : cOf w < 256 ∧ rOf w < 65536 ∧ nOf w < 65536 := ⟨Nat.mod_lt _ (by omega), Nat.mod_lt _ (by omega), Nat.mod_lt _ (by omega)⟩

theorem putR_ok {C R N : Nat} (h1 : C ≤ 7) (h2 : R + N ≤ 63) : putR C R N = wordN C R N := by
  unfold putR; rw [if_pos (okH_nat h1 h2), Int.toNat_natCast, Int.toNat_natCast, Int.toNat_natCast]
theorem putE_ok {c r n : Int} (h : okH c r n = true) : putE c r n = 0 := by unfold putE; rw [if_pos h]
theorem putR_no {c r n : Int} (h : okH c r n = false) : putR c r n = 0 := by unfold putR; rw [h]; rfl
theorem putE_no {c r n : Int} (h : okH c r n = false) : putE c r n = 2 := by unfold putE; rw [h]; rfl
theorem putR_lt (c r n : Int) : putR c r n < 18446744073709551616 := by
  cases h : okH c r n
  · rw [putR_no h]; decide
  · obtain ⟨C, R, N, rfl, rfl, rfl, h1, h2⟩ := okH_true h
    rw [putR_ok h1 h2]; exact word_lt h1 h2

/-- what was put again: the word itself, or no word of a head -/
theorem isW_put (w : Nat) : isW w = (okH (cOf w) (rOf w) (nOf w) && decide (putR (cOf w) (rOf w) (nOf w) = w)) := by
  unfold isW
  cases h : okH (cOf w) (rOf w) (nOf w)
  · rw [Bool.false_and, Bool.false_and]
  · have h1 := of_decide_eq_true h
    rw [putR_ok (by omega) (by omega)]

/-! The bits of a word that are fixed. -/
theorem low_zero {w : Nat} (h : isW w = true) : w % 65536 = 0 := by
  obtain ⟨h1, h2, h3⟩ := isW_true h
  unfold wordN at h3; omega
theorem high_mark {w : Nat} (h : isW w = true) : w / 72057594037927936 = 199 := by
  obtain ⟨h1, h2, h3⟩ := isW_true h
  unfold wordN at h3; omega

theorem low_bit {w k : Nat} (h : w % 65536 = 0) (hk : k < 16) : w.testBit k = false := by
  have e := Nat.testBit_mod_two_pow w 16 k
  rw [show w % 2 ^ 16 = 0 from h, Nat.zero_testBit, decide_eq_true hk, Bool.true_and] at e
  exact e.symm
theorem high_bit8 {w k : Nat} (h : w / 72057594037927936 = 199) : w.testBit (56 + k) = (199 : Nat).testBit k := by
  have e := Nat.testBit_div_two_pow (i := k) w (n := 56)
  rw [show w / 2 ^ 56 = 199 from h] at e
  rw [e, Nat.add_comm]

/-- a word of a head with one of those bits turned is none's -/
theorem flip_no {w k : Nat} (h : isW w = true) (hk : k < 16 ∨ (56 ≤ k ∧ k < 64)) : isW (w ^^^ 2 ^ k) = false := by
  cases c : isW (w ^^^ 2 ^ k)
  · rfl
  · exfalso
    have x : (w ^^^ 2 ^ k).testBit k = w.testBit k := by
      rcases hk with hk | ⟨hk, _⟩
      · rw [low_bit (low_zero c) hk, low_bit (low_zero h) hk]
      · obtain ⟨j, rfl⟩ : ∃ j, k = 56 + j := ⟨k - 56, by omega⟩
        rw [high_bit8 (high_mark c), high_bit8 (high_mark h)]
    rw [Nat.testBit_xor, Nat.testBit_two_pow_self] at x
    revert x; cases w.testBit k <;> decide

/-! The widths. -/
def hF (j : Nat) : Int := ([16, 16, 16, 8, 8] : List Int).getD j 0
theorem hF_b (j : Nat) : -9223372036854775808 ≤ hF j ∧ hF j ≤ 9223372036854775807 := by
  match j with
  | 0 | 1 | 2 | 3 | 4 => exact ⟨by decide, by decide⟩
  | j + 5 => exact ⟨show (-9223372036854775808 : Int) ≤ 0 by omega, show (0 : Int) ≤ 9223372036854775807 by omega⟩
theorem hF_ok : okTo hF 5 := by
  intro i hi
  match i, hi with
  | 0, _ | 1, _ | 2, _ | 3, _ | 4, _ => exact ⟨by decide, by decide⟩
theorem hF_end : start hF 5 = 64 := by decide

theorem pack_add {u s m v : Nat} (hf : s + m ≤ 64) (hv : v < 2 ^ m) (hu : u < 2 ^ s) : setV u s m v = u + v * 2 ^ s := by
  rw [← pack_step hf hv hu, Nat.or_comm, Nat.mul_comm, ← Nat.two_pow_add_eq_or_of_lt hu, Nat.add_comm]

theorem packs {g : Nat → Nat} (h0 : g 0 = 0) (h1 : g 1 ≤ 63) (h2 : g 2 ≤ 63) (h3 : g 3 ≤ 7) (h4 : g 4 = 199) : fitTo hF g 5 ∧ packTo hF g 5 = wordN (g 3) (g 2) (g 1) := by
  have ft : fitTo hF g 5 := by
    intro i hi
    match i, hi with
    | 0, _ => show g 0 < 65536; omega
    | 1, _ => show g 1 < 65536; omega
    | 2, _ => show g 2 < 65536; omega
    | 3, _ => show g 3 < 256; omega
    | 4, _ => show g 4 < 256; omega
  have e : ∀ k, k < 5 → packTo hF g (k + 1) = packTo hF g k + g k * 2 ^ start hF k := fun k hk => by
    show setV _ _ _ _ = _
    exact pack_add (ok_nat (okTo_le hF_ok (by omega))) (ft k hk) (packTo_lt (okTo_le hF_ok (by omega)) (fitTo_le ft (by omega)))
  refine ⟨ft, ?_⟩
  rw [e 4 (by omega), e 3 (by omega), e 2 (by omega), e 1 (by omega), e 0 (by omega)]
  show 0 + g 0 * 1 + g 1 * 65536 + g 2 * 4294967296 + g 3 * 281474976710656 + g 4 * 72057594037927936 = _
  unfold wordN
  omega

theorem getV_mod (w f m : Nat) : getV w f m = w / 2 ^ f % 2 ^ m := by unfold getV; rw [Nat.and_two_pow_sub_one_eq_mod]
theorem un_n (w : Nat) : getV w (start hF 1) (hF 1).toNat = nOf w := by rw [getV_mod]; rfl
theorem un_r (w : Nat) : getV w (start hF 2) (hF 2).toNat = rOf w := by rw [getV_mod]; rfl
theorem un_c (w : Nat) : getV w (start hF 3) (hF 3).toNat = cOf w := by rw [getV_mod]; rfl

end Go.Proofs.YtgfccbamcehkcaaDoor
