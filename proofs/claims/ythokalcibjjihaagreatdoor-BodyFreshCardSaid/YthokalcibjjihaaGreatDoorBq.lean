/- Bodies as numbers: what the document answers of objects in slots. Nothing of the program. -/
import Derived.Test.YthokalcibjjihaaGreatDoorPn
import Derived.Test.YthokalcibjjihaaGreatDoorHf
import Derived.Test.YthokalcibjjihaaGreatDoorMn
namespace Go.Proofs.YthokalcibjjihaaGreatDoor
open hd

/-- the word at an address of a tenant's region -/
def wdAt (R : List (List Nat)) (t a : Nat) : Nat := (R.getD t []).getD a 0
theorem wd_set {R : List (List Nat)} {t a u : Nat} (ht : t < R.length) (ha : a < (R.getD t []).length) (b : Nat) : wdAt (setR R t a u) t b = if b = a then u else wdAt R t b := by
  have e : R.getD t [] = R[t] := by rw [List.getD_eq_getElem?_getD, List.getElem?_eq_getElem ht]; rfl
  unfold wdAt setR
  rw [e] at ha ⊢
  have e2 : (R.set t (R[t].set a u)).getD t [] = R[t].set a u := by
    rw [List.getD_eq_getElem?_getD, List.getElem?_set_self ht]
    rfl
  rw [e2]
  by_cases c : b = a
  · subst c
    rw [if_pos rfl, List.getD_eq_getElem?_getD, List.getElem?_set_self ha]
    rfl
  · rw [if_neg c, List.getD_eq_getElem?_getD, List.getD_eq_getElem?_getD, List.getElem?_set_ne (fun h => c h.symm)]
theorem wd_wipe {R : List (List Nat)} {t a : Nat} (ht : t < R.length) (b : Nat) : ∀ {n : Nat}, a + n ≤ (R.getD t []).length → wdAt (wipe R t a n) t b = if a ≤ b ∧ b < a + n then 0 else wdAt R t b
  | 0, _ => by rw [if_neg (by omega)]; rfl
  | n + 1, h => by
    show wdAt (setR (wipe R t a n) t (a + n) 0) t b = _
    rw [wd_set (by rw [wipe_len]; exact ht) (by rw [wipe_row]; omega), wd_wipe ht b (n := n) (by omega)]
    by_cases c : b = a + n
    · rw [if_pos c, if_pos (by omega)]
    · rw [if_neg c]
      by_cases d : a ≤ b ∧ b < a + n
      · rw [if_pos d, if_pos (by omega)]
      · rw [if_neg d, if_neg (by omega)]
theorem wd_other {R : List (List Nat)} {t s a u : Nat} (h : s ≠ t) (b : Nat) : wdAt (setR R t a u) s b = wdAt R s b := by
  have e : (R.set t ((R.getD t []).set a u)).getD s [] = R.getD s [] := by
    rw [List.getD_eq_getElem?_getD, List.getElem?_set_ne (fun e => h e.symm), ← List.getD_eq_getElem?_getD]
  unfold wdAt setR
  rw [e]

namespace Pl
variable (P : Pl) (R : List (List Nat)) (t : Nat)
/-- is there such a slot? -/
def isS (s : Int) : Bool := decide (0 ≤ s ∧ s < P.S)
/-- may a head lie in a slot? -/
def liesB (s : Nat) (c r n : Int) : Bool := okH c r n && decide (c = P.cls s) && decide (r + n + 1 ≤ P.sz s)
/-- a slot's word -/
def slW (s i : Nat) : Nat := wdAt R t (P.ad s + i)
/-- has it an object? -/
def hasO (s : Nat) : Bool := isW (P.slW R t s 0) && P.liesB s (cOf (P.slW R t s 0)) (rOf (P.slW R t s 0)) (nOf (P.slW R t s 0))
/-- what Head answers -/
def hdE (s : Int) : Int := if P.isS s = true then (if P.hasO R t s.toNat = true then 0 else 5) else 2
def hdC (s : Int) : Nat := if P.hdE R t s = 0 then cOf (P.slW R t s.toNat 0) else 0
def hdR (s : Int) : Nat := if P.hdE R t s = 0 then rOf (P.slW R t s.toNat 0) else 0
def hdN (s : Int) : Nat := if P.hdE R t s = 0 then nOf (P.slW R t s.toNat 0) else 0
/-- what Wipe, and Make, answer, and leave -/
def wpE (s : Int) : Int := if P.isS s = true then 0 else 2
def wpM (s : Int) : List (List Nat) := if P.isS s = true then wipe R t (P.ad s.toNat) (P.sz s.toNat) else R
def mkE (s c r n : Int) : Int := if P.isS s = true ∧ P.liesB s.toNat c r n = true then (if P.hdE R t s = 0 then 8 else 0) else 2
def mkM (s c r n : Int) : List (List Nat) := if P.mkE R t s c r n = 0 then setR (wipe R t (P.ad s.toNat) (P.sz s.toNat)) t (P.ad s.toNat) (putR c r n) else R
/-- which field, and of which kind -/
def fdE (s i : Int) (ref : Bool) : Int := if P.hdE R t s = 0 then (if (decide (0 ≤ i ∧ i < P.hdR R t s + P.hdN R t s) && (decide (i < P.hdR R t s) == ref)) = true then 0 else 110) else P.hdE R t s
/-- what Ref, Word, SetRef, SetWord answer, and leave -/
def rfE (s i : Int) : Int := if P.fdE R t s i true = 0 then (if P.S < P.slW R t s.toNat (1 + i.toNat) then 5 else 0) else P.fdE R t s i true
def rfR (s i : Int) : Int := if P.rfE R t s i = 0 then (P.slW R t s.toNat (1 + i.toNat) : Int) - 1 else 0
def wdE (s i : Int) : Int := P.fdE R t s i false
def wdR (s i : Int) : Nat := if P.wdE R t s i = 0 then P.slW R t s.toNat (1 + i.toNat) else 0
def srE (s i tq : Int) : Int := if P.isS s = true ∧ -1 ≤ tq ∧ tq < P.S then P.fdE R t s i true else 2
def srM (s i tq : Int) : List (List Nat) := if P.srE R t s i tq = 0 then setR R t (P.ad s.toNat + 1 + i.toNat) (tq + 1).toNat else R
def swM (s i : Int) (u : Nat) : List (List Nat) := if P.wdE R t s i = 0 then setR R t (P.ad s.toNat + 1 + i.toNat) u else R
/-- all references, and all words -/
def refs (s : Int) : List Int := (List.range (P.hdR R t s)).map fun (i : Nat) => P.rfR R t s (i : Int)
def refsE (s : Int) : Int := if P.hdE R t s = 0 then (if ∀ i, i < P.hdR R t s → P.slW R t s.toNat (1 + i) ≤ P.S then 0 else 5) else P.hdE R t s
def wordsL (s : Int) : List Nat := (List.range (P.hdN R t s)).map fun (i : Nat) => P.slW R t s.toNat (1 + P.hdR R t s + i)

variable {P R t}
theorem hd_ok {s : Int} (h : P.hdE R t s = 0) : P.isS s = true ∧ P.hasO R t s.toNat = true := by
  unfold hdE at h
  by_cases a : P.isS s = true
  · rw [if_pos a] at h
    by_cases b : P.hasO R t s.toNat = true
    · exact ⟨a, b⟩
    · rw [if_neg b] at h; cases h
  · rw [if_neg a] at h; cases h
theorem hd_bounds {s : Int} (h : P.hdE R t s = 0) : P.hdR R t s + P.hdN R t s + 1 ≤ P.sz s.toNat ∧ P.hdC R t s = P.cls s.toNat := by
  obtain ⟨_, b⟩ := hd_ok h
  unfold hasO liesB at b
  simp only [Bool.and_eq_true, decide_eq_true_eq] at b
  unfold hdR hdN hdC
  rw [if_pos h, if_pos h, if_pos h]
  omega
end Pl

end Go.Proofs.YthokalcibjjihaaGreatDoor

/- Bodies as numbers: what Make, Wipe and the fields leave. Nothing of the program. -/
namespace Go.Proofs.YthokalcibjjihaaGreatDoor
open hd
namespace Pl
variable {P : Pl} {R : List (List Nat)} {t : Nat}

/-- a region that is the plan's -/
def Reg (P : Pl) (R : List (List Nat)) (t : Nat) : Prop := t < R.length ∧ (R.getD t []).length = P.W
theorem Reg.set (h : P.Reg R t) (a u : Nat) : P.Reg (setR R t a u) t := ⟨by rw [setR_len]; exact h.1, by rw [setR_row]; exact h.2⟩
theorem Reg.wipe (h : P.Reg R t) (a n : Nat) : P.Reg (wipe R t a n) t := ⟨by rw [wipe_len]; exact h.1, by rw [wipe_row]; exact h.2⟩

/-- words of two slots lie apart -/
theorem ad_apart (g : P.Good) {s s' i j : Nat} (hs : s < P.S) (hs' : s' < P.S) (hne : s' ≠ s) (hi : i < P.sz s') (hj : j < P.sz s) : P.ad s' + i ≠ P.ad s + j := by
  by_cases c : s' < s
  · have := ad_lt g c hs
    omega
  · have := ad_lt g (show s < s' by omega) hs'
    omega
theorem sl_in (g : P.Good) {s i : Nat} (hs : s < P.S) (hi : i < P.sz s) : P.ad s + i < P.W := by
  have := ad_words g hs
  omega
/-- a word of a slot turned -/
theorem sl_set (g : P.Good) (h : P.Reg R t) {s j u : Nat} (hs : s < P.S) (hj : j < P.sz s) : (∀ i, P.slW (setR R t (P.ad s + j) u) t s i = if i = j then u else P.slW R t s i) ∧
    ∀ s' i, s' < P.S → s' ≠ s → i < P.sz s' → P.slW (setR R t (P.ad s + j) u) t s' i = P.slW R t s' i := by
  have hin := sl_in g hs hj
  refine ⟨fun i => ?_, fun s' i hs' hne hi => ?_⟩
  · unfold slW
    rw [wd_set h.1 (by rw [h.2]; exact hin)]
    by_cases c : i = j
    · rw [if_pos (by omega), if_pos c]
    · rw [if_neg (by omega), if_neg c]
  · unfold slW
    rw [wd_set h.1 (by rw [h.2]; exact hin), if_neg (ad_apart g hs hs' hne hi hj)]
/-- a slot's words turned tq 0 -/
theorem sl_wipe (g : P.Good) (h : P.Reg R t) {s : Nat} (hs : s < P.S) : (∀ i, i < P.sz s → P.slW (wipe R t (P.ad s) (P.sz s)) t s i = 0) ∧
    ∀ s' i, s' < P.S → s' ≠ s → i < P.sz s' → P.slW (wipe R t (P.ad s) (P.sz s)) t s' i = P.slW R t s' i := by
  have hw := ad_words g hs
  refine ⟨fun i hi => ?_, fun s' i hs' hne hi => ?_⟩
  · unfold slW
    rw [wd_wipe h.1 _ (by rw [h.2]; exact hw), if_pos (by omega)]
  · unfold slW
    rw [wd_wipe h.1 _ (by rw [h.2]; exact hw), if_neg]
    intro x
    have := ad_apart g hs hs' hne hi (show P.ad s' + i - P.ad s < P.sz s by omega)
    omega

theorem isS_nat {s : Nat} (h : s < P.S) : P.isS (s : Int) = true := decide_eq_true ⟨by omega, by omega⟩
/-- an object is told by the slot's first word alone -/
theorem hd_of {R' : List (List Nat)} {s : Nat} (e : P.slW R' t s 0 = P.slW R t s 0) : P.hdE R' t s = P.hdE R t s ∧ P.hdC R' t s = P.hdC R t s ∧ P.hdR R' t s = P.hdR R t s ∧ P.hdN R' t s = P.hdN R t s := by
  have a : P.hdE R' t s = P.hdE R t s := by unfold hdE hasO; rw [Int.toNat_natCast, e]
  unfold hdC hdR hdN
  rw [a, Int.toNat_natCast, e]
  exact ⟨rfl, rfl, rfl, rfl⟩
/-- a head that was made -/
theorem hd_made {s C r n : Nat} (hs : s < P.S) (hl : P.liesB s C r n = true) (e : P.slW R t s 0 = putR C r n) : P.hdE R t s = 0 ∧ P.hdC R t s = C ∧ P.hdR R t s = r ∧ P.hdN R t s = n := by
  have hl' := hl
  unfold liesB at hl
  simp only [Bool.and_eq_true] at hl
  obtain ⟨C', r', n', e1, e2, e3, h1, h2⟩ := okH_true hl.1.1
  obtain rfl : C = C' := by omega
  obtain rfl : r = r' := by omega
  obtain rfl : n = n' := by omega
  rw [putR_ok h1 h2] at e
  have a : P.hdE R t s = 0 := by
    unfold hdE hasO
    rw [if_pos (isS_nat hs), Int.toNat_natCast, e, isW_word h1 h2, cOf_word h1 h2, rOf_word h1 h2, nOf_word h1 h2, hl']
    rfl
  unfold hdC hdR hdN
  rw [if_pos a, if_pos a, if_pos a, Int.toNat_natCast, e, cOf_word h1 h2, rOf_word h1 h2, nOf_word h1 h2]
  exact ⟨a, rfl, rfl, rfl⟩

/-- Make: what is there -/
theorem made_there (g : P.Good) (h : P.Reg R t) {s C r n : Nat} (hm : P.mkE R t s C r n = 0) : s < P.S ∧ P.liesB s C r n = true ∧
    (P.slW (P.mkM R t s C r n) t s 0 = putR C r n ∧ ∀ i, 0 < i → i < P.sz s → P.slW (P.mkM R t s C r n) t s i = 0) ∧
    ∀ s' i, s' < P.S → s' ≠ s → i < P.sz s' → P.slW (P.mkM R t s C r n) t s' i = P.slW R t s' i := by
  have hm' := hm
  unfold mkE at hm
  by_cases c : P.isS s = true ∧ P.liesB (s : Int).toNat C r n = true
  · rw [Int.toNat_natCast] at c
    have hs : s < P.S := by have := of_decide_eq_true c.1; omega
    have z2 := (ad_bd g hs).2.2
    obtain ⟨w1, w2⟩ := sl_wipe g h hs
    obtain ⟨s1, s2⟩ := sl_set (u := putR C r n) g (h.wipe (P.ad s) (P.sz s)) hs (show 0 < P.sz s by omega)
    have eM : P.mkM R t s C r n = setR (wipe R t (P.ad s) (P.sz s)) t (P.ad s + 0) (putR C r n) := by
      unfold mkM; rw [if_pos hm', Int.toNat_natCast, Nat.add_zero]
    refine ⟨hs, c.2, ⟨?_, fun i hi hiz => ?_⟩, fun s' i hs' hne hi => ?_⟩
    · rw [eM, s1, if_pos rfl]
    · rw [eM, s1, if_neg (by omega), w1 i hiz]
    · rw [eM, s2 s' i hs' hne hi, w2 s' i hs' hne hi]
  · rw [if_neg c] at hm; cases hm
/-- behind Make: as many references as were asked for, all none; as many words, all 0 -/
theorem made_fresh (g : P.Good) (h : P.Reg R t) {s C r n : Nat} (hm : P.mkE R t s C r n = 0) : P.hdE (P.mkM R t s C r n) t s = 0 ∧ P.hdR (P.mkM R t s C r n) t s = r ∧ P.hdN (P.mkM R t s C r n) t s = n ∧
    P.refsE (P.mkM R t s C r n) t s = 0 ∧ P.refs (P.mkM R t s C r n) t s = List.replicate r (-1) ∧ P.wordsL (P.mkM R t s C r n) t s = List.replicate n 0 := by
  obtain ⟨hs, hl, ⟨h0, hz⟩, _⟩ := made_there g h hm
  obtain ⟨a1, a2, a3, a4⟩ := hd_made hs hl h0
  have hb := hd_bounds a1
  rw [a3, a4, Int.toNat_natCast] at hb
  have zr : ∀ i, i < r → P.slW (P.mkM R t s C r n) t s (1 + i) = 0 := fun i hi => hz _ (by omega) (by omega)
  refine ⟨a1, a3, a4, ?_, ?_, ?_⟩
  · unfold refsE
    rw [if_pos a1, a3, Int.toNat_natCast, if_pos]
    intro i hi
    rw [zr i hi]
    exact Nat.zero_le _
  · unfold refs
    rw [a3]
    refine List.ext_getElem (by simp) fun i h1 h2 => ?_
    have hi : i < r := by simpa using h1
    rw [List.getElem_map, List.getElem_range, List.getElem_replicate]
    have f1 : P.fdE (P.mkM R t s C r n) t s (i : Int) true = 0 := by
      unfold fdE
      rw [if_pos a1, a3, a4, if_pos]
      simp
      omega
    have f2 : P.rfE (P.mkM R t s C r n) t s (i : Int) = 0 := by
      unfold rfE
      rw [if_pos f1, Int.toNat_natCast, Int.toNat_natCast, zr i hi, if_neg (by omega)]
    unfold rfR
    rw [if_pos f2, Int.toNat_natCast, Int.toNat_natCast, zr i hi]
    rfl
  · unfold wordsL
    rw [a4, a3]
    refine List.ext_getElem (by simp) fun i h1 h2 => ?_
    have hi : i < n := by simpa using h1
    rw [List.getElem_map, List.getElem_range, List.getElem_replicate, Int.toNat_natCast]
    exact hz _ (by omega) (by omega)
end Pl
end Go.Proofs.YthokalcibjjihaaGreatDoor

/- Bodies as numbers: what is set is read again; what was wiped. Nothing of the program. -/
namespace Go.Proofs.YthokalcibjjihaaGreatDoor
open hd
namespace Pl
variable {P : Pl} {R : List (List Nat)} {t : Nat}

theorem isS_of {s : Int} (h : P.isS s = true) : ∃ S : Nat, s = S ∧ S < P.S := by
  have := of_decide_eq_true h
  exact ⟨s.toNat, by omega, by omega⟩
/-- a field that is there -/
theorem fd_ok {s i : Int} {ref : Bool} (h : P.fdE R t s i ref = 0) : ∃ S I : Nat, s = S ∧ i = I ∧ S < P.S ∧ P.hdE R t s = 0 ∧ I < P.hdR R t s + P.hdN R t s ∧ 1 + I < P.sz S ∧ decide (I < P.hdR R t s) = ref := by
  unfold fdE at h
  by_cases a : P.hdE R t s = 0
  · rw [if_pos a] at h
    by_cases b : (decide (0 ≤ i ∧ i < P.hdR R t s + P.hdN R t s) && (decide (i < P.hdR R t s) == ref)) = true
    · rw [Bool.and_eq_true] at b
      have b1 := of_decide_eq_true b.1
      have b2 : decide (i < P.hdR R t s) = ref := by simpa using b.2
      obtain ⟨S, rfl, hS⟩ := isS_of (hd_ok a).1
      obtain ⟨I, rfl⟩ : ∃ I : Nat, i = I := ⟨i.toNat, by omega⟩
      have hb := hd_bounds a
      rw [Int.toNat_natCast] at hb
      refine ⟨S, I, rfl, rfl, hS, a, by omega, by omega, ?_⟩
      rw [← b2]
      exact decide_eq_decide.2 (by omega)
    · rw [if_neg b] at h; cases h
  · rw [if_neg a] at h; exact absurd h a
/-- no field is both a reference and a word -/
theorem fd_one {s i : Int} (h : P.fdE R t s i true = 0) : P.fdE R t s i false = 110 := by
  obtain ⟨S, I, rfl, rfl, hS, a, b, c, d⟩ := fd_ok h
  unfold fdE
  rw [if_pos a, if_neg]
  intro x
  rw [Bool.and_eq_true] at x
  have x2 : decide ((I : Int) < P.hdR R t S) = false := by simpa using x.2
  have d1 := of_decide_eq_true d
  have x3 := of_decide_eq_false x2
  omega
theorem fd_two {s i : Int} (h : P.fdE R t s i false = 0) : P.fdE R t s i true = 110 := by
  obtain ⟨S, I, rfl, rfl, hS, a, b, c, d⟩ := fd_ok h
  unfold fdE
  rw [if_pos a, if_neg]
  intro x
  rw [Bool.and_eq_true] at x
  have x2 : decide ((I : Int) < P.hdR R t S) = true := by simpa using x.2
  have d1 := of_decide_eq_false d
  have x3 := of_decide_eq_true x2
  omega
theorem fd_of {R' : List (List Nat)} {s : Nat} (e : P.slW R' t s 0 = P.slW R t s 0) (i : Int) (ref : Bool) : P.fdE R' t s i ref = P.fdE R t s i ref := by
  obtain ⟨a, _, b, c⟩ := hd_of (P := P) (t := t) (R := R) (R' := R') (s := s) e
  unfold fdE
  rw [a, b, c]

/-- a field's word turned: what is there -/
theorem set_there (g : P.Good) (h : P.Reg R t) {s I u : Nat} (hs : s < P.S) (hI : 1 + I < P.sz s) :
    P.slW (setR R t (P.ad s + 1 + I) u) t s 0 = P.slW R t s 0 ∧ (∀ i, P.slW (setR R t (P.ad s + 1 + I) u) t s (1 + i) = if i = I then u else P.slW R t s (1 + i)) ∧
    ∀ s' i, s' < P.S → s' ≠ s → i < P.sz s' → P.slW (setR R t (P.ad s + 1 + I) u) t s' i = P.slW R t s' i := by
  obtain ⟨s1, s2⟩ := sl_set (u := u) g h hs hI
  rw [← Nat.add_assoc] at s1 s2
  refine ⟨by rw [s1, if_neg (by omega)], fun i => ?_, s2⟩
  rw [s1]
  by_cases c : i = I
  · rw [if_pos (by omega), if_pos c]
  · rw [if_neg (by omega), if_neg c]
/-- SetRef, then Ref -/
theorem ref_set (g : P.Good) (h : P.Reg R t) {s i tq : Int} (hm : P.srE R t s i tq = 0) (h1 : -1 ≤ tq) (h2 : tq < P.S) : P.rfE (P.srM R t s i tq) t s i = 0 ∧ P.rfR (P.srM R t s i tq) t s i = tq ∧ P.wdE (P.srM R t s i tq) t s i = 110 := by
  have hm' := hm
  unfold srE at hm
  by_cases c : P.isS s = true ∧ -1 ≤ tq ∧ tq < P.S
  · rw [if_pos c] at hm
    obtain ⟨S, I, rfl, rfl, hS, a, b, c, d⟩ := fd_ok hm
    obtain ⟨s0, s1, _⟩ := set_there (u := (tq + 1).toNat) g h hS c
    have eM : P.srM R t S I tq = setR R t (P.ad S + 1 + I) (tq + 1).toNat := by unfold srM; rw [if_pos hm', Int.toNat_natCast, Int.toNat_natCast]
    rw [← eM] at s0 s1
    have f1 : P.fdE (P.srM R t S I tq) t S I true = 0 := by rw [fd_of s0]; exact hm
    have f2 : P.rfE (P.srM R t S I tq) t S I = 0 := by
      unfold rfE
      rw [if_pos f1, Int.toNat_natCast, Int.toNat_natCast, s1, if_pos rfl, if_neg (by omega)]
    refine ⟨f2, ?_, ?_⟩
    · unfold rfR
      rw [if_pos f2, Int.toNat_natCast, Int.toNat_natCast, s1, if_pos rfl]
      omega
    · unfold wdE
      rw [fd_of s0]
      exact fd_one hm
  · rw [if_neg c] at hm; cases hm
/-- SetWord, then Word -/
theorem word_set (g : P.Good) (h : P.Reg R t) {s i : Int} {u : Nat} (hm : P.wdE R t s i = 0) : P.wdE (P.swM R t s i u) t s i = 0 ∧ P.wdR (P.swM R t s i u) t s i = u ∧ P.fdE (P.swM R t s i u) t s i true = 110 := by
  have hm' := hm
  unfold wdE at hm
  obtain ⟨S, I, rfl, rfl, hS, a, b, c, d⟩ := fd_ok hm
  obtain ⟨s0, s1, _⟩ := set_there (u := u) g h hS c
  have eM : P.swM R t S I u = setR R t (P.ad S + 1 + I) u := by unfold swM; rw [if_pos hm', Int.toNat_natCast, Int.toNat_natCast]
  rw [← eM] at s0 s1
  have f1 : P.wdE (P.swM R t S I u) t S I = 0 := by unfold wdE; rw [fd_of s0]; exact hm
  refine ⟨f1, ?_, ?_⟩
  · unfold wdR
    rw [if_pos f1, Int.toNat_natCast, Int.toNat_natCast, s1, if_pos rfl]
  · rw [fd_of s0]
    exact fd_two hm

theorem isW_zero : isW 0 = false := by decide
/-- behind Wipe: no object; one that fills the slot may be made -/
theorem wiped (g : P.Good) (h : P.Reg R t) {s : Nat} (hs : s < P.S) : P.hdE (P.wpM R t s) t s = 5 ∧ (∀ i, i < P.sz s → P.slW (P.wpM R t s) t s i = 0) ∧ ∀ s' i, s' < P.S → s' ≠ s → i < P.sz s' → P.slW (P.wpM R t s) t s' i = P.slW R t s' i := by
  obtain ⟨w1, w2⟩ := sl_wipe g h hs
  have z2 := (ad_bd g hs).2.2
  have eM : P.wpM R t s = wipe R t (P.ad s) (P.sz s) := by unfold wpM; rw [if_pos (isS_nat hs), Int.toNat_natCast]
  rw [eM]
  refine ⟨?_, w1, w2⟩
  unfold hdE hasO
  rw [if_pos (isS_nat hs), Int.toNat_natCast, w1 0 (by omega), isW_zero]
  rfl
theorem full_lies {s : Nat} (z1 : 2 ≤ P.sz s) (z2 : P.sz s ≤ 64) (hc : P.cls s ≤ 7) : P.liesB s (P.cls s : Nat) 0 ((P.sz s : Int) - 1) = true := by
  unfold liesB okH
  rw [decide_eq_true (by omega), decide_eq_true rfl, decide_eq_true (by omega)]
  rfl
end Pl
end Go.Proofs.YthokalcibjjihaaGreatDoor

/- Bodies as numbers: all at once, and one by one. Nothing of the program. -/
namespace Go.Proofs.YthokalcibjjihaaGreatDoor
open hd
namespace Pl
variable {P : Pl} {R : List (List Nat)} {t : Nat}

theorem fd_yes {s i : Int} {ref : Bool} (a : P.hdE R t s = 0) (b : 0 ≤ i ∧ i < P.hdR R t s + P.hdN R t s) (c : decide (i < P.hdR R t s) = ref) : P.fdE R t s i ref = 0 := by
  unfold fdE
  rw [if_pos a, if_pos]
  rw [decide_eq_true b, c]
  simp
theorem fd_no {s i : Int} {ref : Bool} (a : P.hdE R t s = 0) (b : ¬ (0 ≤ i ∧ i < P.hdR R t s + P.hdN R t s) ∨ decide (i < P.hdR R t s) ≠ ref) : P.fdE R t s i ref = 110 := by
  unfold fdE
  rw [if_pos a, if_neg]
  intro x
  rw [Bool.and_eq_true] at x
  rcases b with b | b
  · exact b (of_decide_eq_true x.1)
  · exact b (by simpa using x.2)
theorem fd_none {s i : Int} {ref : Bool} (a : P.hdE R t s ≠ 0) : P.fdE R t s i ref = P.hdE R t s := by unfold fdE; rw [if_neg a]
theorem refs_len (s : Int) : (P.refs R t s).length = P.hdR R t s := by unfold refs; simp
theorem words_len (s : Int) : (P.wordsL R t s).length = P.hdN R t s := by unfold wordsL; simp
/-- a reference of an object all whose references are valid -/
theorem ref_each {s : Int} {i : Nat} (a : P.hdE R t s = 0) (v : P.refsE R t s = 0) (h : i < P.hdR R t s) : P.rfE R t s i = 0 ∧ (P.refs R t s)[i]? = some (P.rfR R t s i) := by
  have f := fd_yes (P := P) (R := R) (t := t) (s := s) (i := (i : Int)) (ref := true) a ⟨by omega, by omega⟩ (decide_eq_true (by omega))
  unfold refsE at v
  rw [if_pos a] at v
  have v' : ∀ i, i < P.hdR R t s → P.slW R t s.toNat (1 + i) ≤ P.S := by
    by_cases c : ∀ i, i < P.hdR R t s → P.slW R t s.toNat (1 + i) ≤ P.S
    · exact c
    · rw [if_neg c] at v; cases v
  refine ⟨?_, ?_⟩
  · unfold rfE
    rw [if_pos f, Int.toNat_natCast, if_neg (by have := v' i h; omega)]
  · unfold refs
    rw [List.getElem?_map, List.getElem?_range h]
    rfl
theorem ref_none {s i : Int} (a : P.hdE R t s = 0) (h : ¬ (0 ≤ i ∧ i < P.hdR R t s)) : P.rfE R t s i = 110 := by
  have f : P.fdE R t s i true = 110 := fd_no a (by
    by_cases c : 0 ≤ i ∧ i < P.hdR R t s + P.hdN R t s
    · exact Or.inr (by rw [decide_eq_false (by omega)]; decide)
    · exact Or.inl c)
  unfold rfE
  rw [f, if_neg (by decide)]
theorem word_each {s : Int} {i : Nat} (a : P.hdE R t s = 0) (h : i < P.hdN R t s) : P.wdE R t s ((P.hdR R t s + i : Nat) : Int) = 0 ∧ (P.wordsL R t s)[i]? = some (P.wdR R t s ((P.hdR R t s + i : Nat) : Int)) := by
  have f : P.wdE R t s ((P.hdR R t s + i : Nat) : Int) = 0 := fd_yes a ⟨by omega, by omega⟩ (decide_eq_false (by omega))
  refine ⟨f, ?_⟩
  unfold wordsL wdR
  rw [if_pos f, List.getElem?_map, List.getElem?_range h, Int.toNat_natCast, ← Nat.add_assoc]
  rfl
theorem word_none {s i : Int} (a : P.hdE R t s = 0) (h : ¬ (P.hdR R t s ≤ i ∧ i < P.hdR R t s + P.hdN R t s)) : P.wdE R t s i = 110 := by
  refine fd_no a ?_
  by_cases c : 0 ≤ i ∧ i < P.hdR R t s + P.hdN R t s
  · exact Or.inr (by rw [decide_eq_true (by omega)]; decide)
  · exact Or.inl c
/-- one that is no object -/
theorem none_told {s : Int} (a : P.hdE R t s ≠ 0) : P.refs R t s = [] ∧ P.wordsL R t s = [] ∧ P.refsE R t s = P.hdE R t s := by
  have e1 : P.hdR R t s = 0 := by unfold hdR; rw [if_neg a]
  have e2 : P.hdN R t s = 0 := by unfold hdN; rw [if_neg a]
  refine ⟨by unfold refs; rw [e1]; rfl, by unfold wordsL; rw [e2]; rfl, by unfold refsE; rw [if_neg a]⟩
end Pl
end Go.Proofs.YthokalcibjjihaaGreatDoor
