/- Where the slots of a region lie, as numbers: nothing of the program. -/
import Derived.Lib.ItoaNum
namespace Go.Proofs.YthokalcibjjihaaGreatDoor

/-- how many classes; of each: its slots, its slots in a page, its pages, its words; a page's words -/
structure Pl where
  n : Nat
  s : Nat → Nat
  e : Nat → Nat
  p : Nat → Nat
  f : Nat → Nat
  g : Nat

def sumN (f : Nat → Nat) : Nat → Nat
  | 0 => 0
  | k + 1 => sumN f k + f k

theorem sumN_le {f : Nat → Nat} {j k : Nat} (h : j ≤ k) : sumN f j ≤ sumN f k := by
  induction k with
  | zero => have : j = 0 := by omega
            rw [this]; exact Nat.le_refl _
  | succ k ih =>
    by_cases c : j = k + 1
    · rw [c]; exact Nat.le_refl _
    · exact Nat.le_trans (ih (by omega)) (Nat.le_add_right _ _)

/-- the class in which a number lies: the greatest whose begin is not above it -/
def clsIn (b : Nat → Nat) (i : Nat) : Nat → Nat
  | 0 => 0
  | k + 1 => if b k ≤ i then k else clsIn b i k

theorem clsIn_at {b : Nat → Nat} {i : Nat} (h0 : b 0 = 0) : ∀ {n : Nat}, i < b n → clsIn b i n < n ∧ b (clsIn b i n) ≤ i ∧ i < b (clsIn b i n + 1)
  | 0, h => by omega
  | n + 1, h => by
    unfold clsIn
    by_cases c : b n ≤ i
    · rw [if_pos c]; exact ⟨by omega, c, h⟩
    · rw [if_neg c]
      have := clsIn_at (i := i) h0 (n := n) (by omega)
      exact ⟨by omega, this.2⟩
theorem clsIn_eq {b : Nat → Nat} (hm : ∀ j k, j ≤ k → b j ≤ b k) (h0 : b 0 = 0) {i k n : Nat} (hk : k < n) (h1 : b k ≤ i) (h2 : i < b (k + 1)) : clsIn b i n = k := by
  have a := clsIn_at h0 (i := i) (n := n) (Nat.lt_of_lt_of_le h2 (hm _ _ (by omega)))
  generalize clsIn b i n = x at *
  by_cases c : x < k
  · have := hm (x + 1) k (by omega); omega
  · by_cases d : k < x
    · have := hm (k + 1) x (by omega); omega
    · omega

namespace Pl
structure Good (P : Pl) : Prop where
  one : 1 ≤ P.n
  pos : 1 ≤ P.g
  s1 : ∀ k, k < P.n → 1 ≤ P.s k
  e1 : ∀ k, k < P.n → 1 ≤ P.e k
  f2 : ∀ k, k < P.n → 2 ≤ P.f k
  p1 : ∀ k, k < P.n → 1 ≤ P.p k
  fit : ∀ k, k < P.n → P.e k * P.f k ≤ P.g
  all : ∀ k, k < P.n → P.s k ≤ P.p k * P.e k
  few : ∀ k, k < P.n → (P.p k - 1) * P.e k < P.s k
  tight : ∀ k, k < P.n → P.g < P.e k * P.f k + P.f k

/-- the first slot, the first page, of a class -/
def fo (P : Pl) (k : Nat) : Nat := sumN P.s k
def po (P : Pl) (k : Nat) : Nat := sumN P.p k
def cls (P : Pl) (i : Nat) : Nat := clsIn P.fo i P.n
def pcl (P : Pl) (q : Nat) : Nat := clsIn P.po q P.n
def off (P : Pl) (i : Nat) : Nat := i - P.fo (P.cls i)
/-- a slot's page, address and size -/
def pg (P : Pl) (i : Nat) : Nat := P.po (P.cls i) + P.off i / P.e (P.cls i)
def ad (P : Pl) (i : Nat) : Nat := P.pg i * P.g + P.off i % P.e (P.cls i) * P.f (P.cls i)
def sz (P : Pl) (i : Nat) : Nat := P.f (P.cls i)
/-- a page's first slot, and how many it has -/
def fi (P : Pl) (q : Nat) : Nat := P.fo (P.pcl q) + (q - P.po (P.pcl q)) * P.e (P.pcl q)
def mn (P : Pl) (q : Nat) : Nat := min (P.e (P.pcl q)) (P.s (P.pcl q) - (q - P.po (P.pcl q)) * P.e (P.pcl q))
def S (P : Pl) : Nat := P.fo P.n
def T (P : Pl) : Nat := P.po P.n
def W (P : Pl) : Nat := P.T * P.g

variable {P : Pl}
theorem fo_succ (k : Nat) : P.fo (k + 1) = P.fo k + P.s k := rfl
theorem po_succ (k : Nat) : P.po (k + 1) = P.po k + P.p k := rfl
theorem fo_le {j k : Nat} (h : j ≤ k) : P.fo j ≤ P.fo k := sumN_le h
theorem po_le {j k : Nat} (h : j ≤ k) : P.po j ≤ P.po k := sumN_le h
theorem fo_S {k j : Nat} (hk : k < P.n) (hj : j < P.s k) : P.fo k + j < P.S := by
  have := fo_le (P := P) (show k + 1 ≤ P.n by omega)
  rw [fo_succ] at this
  unfold S; omega
theorem po_T {k x : Nat} (hk : k < P.n) (hx : x < P.p k) : P.po k + x < P.T := by
  have := po_le (P := P) (show k + 1 ≤ P.n by omega)
  rw [po_succ] at this
  unfold T; omega
theorem slot_of {i : Nat} (h : i < P.S) : ∃ k j, k < P.n ∧ j < P.s k ∧ i = P.fo k + j := by
  obtain ⟨a, b, c⟩ := clsIn_at (b := P.fo) rfl h
  rw [fo_succ] at c
  exact ⟨_, i - P.fo (clsIn P.fo i P.n), a, by omega, by omega⟩
theorem page_of {q : Nat} (h : q < P.T) : ∃ k x, k < P.n ∧ x < P.p k ∧ q = P.po k + x := by
  obtain ⟨a, b, c⟩ := clsIn_at (b := P.po) rfl h
  rw [po_succ] at c
  exact ⟨_, q - P.po (clsIn P.po q P.n), a, by omega, by omega⟩
theorem cls_at {k j : Nat} (hk : k < P.n) (hj : j < P.s k) : P.cls (P.fo k + j) = k :=
  clsIn_eq (fun _ _ h => fo_le h) rfl hk (by omega) (by rw [fo_succ]; omega)
theorem pcl_at {k x : Nat} (hk : k < P.n) (hx : x < P.p k) : P.pcl (P.po k + x) = k :=
  clsIn_eq (fun _ _ h => po_le h) rfl hk (by omega) (by rw [po_succ]; omega)
theorem cls_iff {i K : Nat} (hi : i < P.S) (hK : K < P.n) : P.cls i = K ↔ P.fo K ≤ i ∧ i < P.fo K + P.s K := by
  obtain ⟨k, j, hk, hj, rfl⟩ := slot_of hi
  constructor
  · intro e
    rw [cls_at hk hj] at e
    subst e
    omega
  · intro h
    have := cls_at (P := P) hK (show P.fo k + j - P.fo K < P.s K by omega)
    rw [show P.fo K + (P.fo k + j - P.fo K) = P.fo k + j by omega] at this
    exact this
theorem off_at {k j : Nat} (hk : k < P.n) (hj : j < P.s k) : P.off (P.fo k + j) = j := by unfold off; rw [cls_at hk hj]; omega
theorem pg_at {k j : Nat} (hk : k < P.n) (hj : j < P.s k) : P.pg (P.fo k + j) = P.po k + j / P.e k := by unfold pg; rw [off_at hk hj, cls_at hk hj]
theorem ad_at {k j : Nat} (hk : k < P.n) (hj : j < P.s k) : P.ad (P.fo k + j) = (P.po k + j / P.e k) * P.g + j % P.e k * P.f k := by unfold ad; rw [pg_at hk hj, off_at hk hj, cls_at hk hj]
theorem sz_at {k j : Nat} (hk : k < P.n) (hj : j < P.s k) : P.sz (P.fo k + j) = P.f k := by unfold sz; rw [cls_at hk hj]
theorem fi_at {k x : Nat} (hk : k < P.n) (hx : x < P.p k) : P.fi (P.po k + x) = P.fo k + x * P.e k := by unfold fi; rw [pcl_at hk hx, Nat.add_sub_cancel_left]
theorem mn_at {k x : Nat} (hk : k < P.n) (hx : x < P.p k) : P.mn (P.po k + x) = min (P.e k) (P.s k - x * P.e k) := by unfold mn; rw [pcl_at hk hx, Nat.add_sub_cancel_left]

/-- in a class: the slot's page is one of the class's -/
theorem div_lt (h : P.Good) {k j : Nat} (hk : k < P.n) (hj : j < P.s k) : j / P.e k < P.p k := by
  rw [Nat.div_lt_iff_lt_mul (h.e1 k hk)]
  exact Nat.lt_of_lt_of_le hj (h.all k hk)
theorem mul_few (h : P.Good) {k x : Nat} (hk : k < P.n) (hx : x < P.p k) : x * P.e k < P.s k :=
  Nat.lt_of_le_of_lt (Nat.mul_le_mul_right _ (show x ≤ P.p k - 1 by omega)) (h.few k hk)

theorem pg_lt (h : P.Good) {i : Nat} (hi : i < P.S) : P.pg i < P.T := by
  obtain ⟨k, j, hk, hj, rfl⟩ := slot_of hi
  rw [pg_at hk hj]
  exact po_T hk (div_lt h hk hj)
/-- a slot lies in its page -/
theorem ad_bd (h : P.Good) {i : Nat} (hi : i < P.S) : P.pg i * P.g ≤ P.ad i ∧ P.ad i + P.sz i ≤ P.pg i * P.g + P.g ∧ 2 ≤ P.sz i := by
  obtain ⟨k, j, hk, hj, rfl⟩ := slot_of hi
  rw [ad_at hk hj, sz_at hk hj, pg_at hk hj]
  have a := Nat.mul_le_mul_right (P.f k) (show j % P.e k + 1 ≤ P.e k from Nat.mod_lt _ (h.e1 k hk))
  rw [Nat.add_mul, Nat.one_mul] at a
  have := h.fit k hk
  exact ⟨Nat.le_add_right _ _, by omega, h.f2 k hk⟩
theorem ad_page (h : P.Good) {i : Nat} (hi : i < P.S) : P.ad i / P.g = P.pg i ∧ (P.ad i + P.sz i - 1) / P.g = P.pg i := by
  obtain ⟨a, b, c⟩ := ad_bd h hi
  have d := h.pos
  have e : ∀ x, P.pg i * P.g ≤ x → x < P.pg i * P.g + P.g → x / P.g = P.pg i := fun x h1 h2 => by
    apply Nat.div_eq_of_lt_le
    · exact h1
    · rw [Nat.succ_mul]; exact h2
  exact ⟨e _ a (by omega), e _ (by omega) (by omega)⟩
theorem ad_words (h : P.Good) {i : Nat} (hi : i < P.S) : P.ad i + P.sz i ≤ P.W := by
  have a := (ad_bd h hi).2.1
  have b := Nat.mul_le_mul_right P.g (show P.pg i + 1 ≤ P.T from pg_lt h hi)
  rw [Nat.add_mul, Nat.one_mul] at b
  unfold W; omega
/-- the next slot -/
theorem ad_next (h : P.Good) {i : Nat} (hi : i + 1 < P.S) : P.ad i + P.sz i ≤ P.ad (i + 1) := by
  have jump : P.pg i + 1 ≤ P.pg (i + 1) → P.ad i + P.sz i ≤ P.ad (i + 1) := fun hp => by
    have a := (ad_bd h (show i < P.S by omega)).2.1
    have b := (ad_bd h hi).1
    have c := Nat.mul_le_mul_right P.g hp
    rw [Nat.add_mul, Nat.one_mul] at c
    omega
  obtain ⟨k, j, hk, hj, rfl⟩ := slot_of (show i < P.S by omega)
  by_cases c : j + 1 < P.s k
  · have e0 := h.e1 k hk
    by_cases d : (j + 1) / P.e k = j / P.e k
    · rw [Nat.add_assoc, ad_at hk c, ad_at hk hj, sz_at hk hj, d]
      have a1 := Nat.div_add_mod j (P.e k)
      have a2 := Nat.div_add_mod (j + 1) (P.e k)
      rw [d] at a2
      have e : (j + 1) % P.e k = j % P.e k + 1 := by omega
      rw [e, show (j % P.e k + 1) * P.f k = j % P.e k * P.f k + P.f k from Nat.succ_mul _ _]
      omega
    · refine jump ?_
      rw [Nat.add_assoc, pg_at hk c, pg_at hk hj]
      have := Nat.div_le_div_right (c := P.e k) (show j ≤ j + 1 by omega)
      omega
  · refine jump ?_
    have e : P.fo k + j + 1 = P.fo (k + 1) + 0 := by rw [fo_succ]; omega
    have hk1 : k + 1 < P.n := by
      have hi' := hi
      rw [e] at hi'
      by_cases x : k + 1 < P.n
      · exact x
      · have : k + 1 = P.n := by omega
        rw [this] at hi'
        unfold S at hi'; omega
    rw [e, pg_at hk1 (h.s1 _ hk1), pg_at hk hj, Nat.zero_div, po_succ]
    have := div_lt h hk hj
    omega
theorem ad_lt (h : P.Good) {i j : Nat} (hij : i < j) (hj : j < P.S) : P.ad i + P.sz i ≤ P.ad j := by
  induction j with
  | zero => omega
  | succ j ih =>
    have a := ad_next h hj
    by_cases c : i = j
    · subst c; exact a
    · have := ih (by omega) (by omega)
      omega
theorem ad_inj (h : P.Good) {i j : Nat} (hi : i < P.S) (hj : j < P.S) (e : P.ad i = P.ad j) : i = j := by
  by_cases c : i < j
  · have := ad_lt h c hj; have := (ad_bd h hi).2.2; omega
  · by_cases d : j < i
    · have := ad_lt h d hi; have := (ad_bd h hj).2.2; omega
    · omega

/-- a slot is in its page -/
theorem in_page (h : P.Good) {i : Nat} (hi : i < P.S) : P.fi (P.pg i) ≤ i ∧ i < P.fi (P.pg i) + P.mn (P.pg i) := by
  obtain ⟨k, j, hk, hj, rfl⟩ := slot_of hi
  have d := div_lt h hk hj
  rw [pg_at hk hj, fi_at hk d, mn_at hk d]
  have a := Nat.div_add_mod j (P.e k)
  rw [Nat.mul_comm] at a
  have b := Nat.mod_lt j (h.e1 k hk)
  omega
/-- each page has a slot at least, of one class -/
theorem mn_pos (h : P.Good) {q : Nat} (hq : q < P.T) : 1 ≤ P.mn q ∧ P.fi q + P.mn q ≤ P.S ∧ P.cls (P.fi q) = P.pcl q ∧ P.cls (P.fi q + P.mn q - 1) = P.pcl q := by
  obtain ⟨k, x, hk, hx, rfl⟩ := page_of hq
  rw [fi_at hk hx, mn_at hk hx, pcl_at hk hx]
  have a := mul_few h hk hx
  have b := h.e1 k hk
  have c : P.fo k + P.s k ≤ P.S := by rw [← fo_succ]; exact fo_le (by omega)
  refine ⟨by omega, by omega, cls_at hk a, ?_⟩
  rw [show P.fo k + x * P.e k + min (P.e k) (P.s k - x * P.e k) - 1 = P.fo k + (x * P.e k + min (P.e k) (P.s k - x * P.e k) - 1) by omega]
  exact cls_at hk (by omega)
/-- pages one behind the other -/
theorem fi_zero (h : P.Good) : P.fi 0 = 0 := by
  have := fi_at (P := P) (k := 0) (x := 0) h.one (h.p1 0 h.one)
  rw [show P.po 0 + 0 = 0 from rfl, show P.fo 0 + 0 * P.e 0 = 0 by rw [Nat.zero_mul]; rfl] at this
  exact this
theorem fi_next (h : P.Good) {q : Nat} (hq : q < P.T) : P.fi q + P.mn q = if q + 1 < P.T then P.fi (q + 1) else P.S := by
  obtain ⟨k, x, hk, hx, rfl⟩ := page_of hq
  rw [fi_at hk hx, mn_at hk hx]
  have b := h.e1 k hk
  by_cases c : x + 1 < P.p k
  · have a := mul_few h hk c
    rw [show P.po k + x + 1 = P.po k + (x + 1) from rfl, if_pos (po_T hk c), fi_at hk c]
    rw [Nat.add_mul, Nat.one_mul] at a ⊢
    omega
  · have e : P.po k + x + 1 = P.po (k + 1) + 0 := by rw [po_succ]; omega
    have d := h.all k hk
    rw [show P.p k = x + 1 by omega, Nat.add_mul, Nat.one_mul] at d
    have a := mul_few h hk hx
    rw [e]
    by_cases y : k + 1 < P.n
    · have z := h.p1 _ y
      rw [if_pos (po_T y z), fi_at y z, Nat.zero_mul, fo_succ]
      omega
    · have z : k + 1 = P.n := by omega
      rw [if_neg (by rw [z]; unfold T; omega)]
      unfold S
      rw [← z, fo_succ]
      omega

/-! As they are laid. -/
theorem sl_at (h : P.Good) {k x r : Nat} (hk : k < P.n) (hr : r < P.e k) (hj : x * P.e k + r < P.s k) :
    P.cls (P.fo k + (x * P.e k + r)) = k ∧ P.sz (P.fo k + (x * P.e k + r)) = P.f k ∧ P.ad (P.fo k + (x * P.e k + r)) = (P.po k + x) * P.g + r * P.f k ∧ P.pg (P.fo k + (x * P.e k + r)) = P.po k + x := by
  have a : (x * P.e k + r) / P.e k = x := by
    rw [Nat.mul_comm, Nat.mul_add_div (h.e1 k hk), Nat.div_eq_of_lt hr, Nat.add_zero]
  have b : (x * P.e k + r) % P.e k = r := by
    rw [Nat.mul_comm, Nat.mul_add_mod, Nat.mod_eq_of_lt hr]
  refine ⟨cls_at hk hj, sz_at hk hj, ?_, ?_⟩
  · rw [ad_at hk hj, a, b]
  · rw [pg_at hk hj, a]
/-- a page's end -/
theorem page_end (h : P.Good) {k x r : Nat} (hk : k < P.n) (hx : x < P.p k) (hr : r ≤ P.e k) (hj : x * P.e k + r ≤ P.s k) (he : r = P.e k ∨ x * P.e k + r = P.s k) :
    P.mn (P.po k + x) = r ∧ ((x + 1 < P.p k ∧ x * P.e k + r = (x + 1) * P.e k) ∨ (x + 1 = P.p k ∧ x * P.e k + r = P.s k)) := by
  have a := mul_few h hk hx
  have d := h.all k hk
  rw [mn_at hk hx]
  refine ⟨by omega, ?_⟩
  by_cases c : x + 1 < P.p k
  · have b := mul_few h hk c
    rw [Nat.add_mul, Nat.one_mul] at b ⊢
    exact Or.inl ⟨c, by omega⟩
  · have e : P.p k = x + 1 := by omega
    rw [e, Nat.add_mul, Nat.one_mul] at d
    exact Or.inr ⟨e.symm, by omega⟩

/-! Addresses counted. -/
/-- is there a slot among the first at an address? -/
def hit (P : Pl) (a : Nat) (n : Nat) : Prop := ∃ i, i < n ∧ P.ad i = a
/-- how many of the first slots have an address below -/
def below (P : Pl) (a : Nat) : Nat → Nat
  | 0 => 0
  | i + 1 => below P a i + if P.ad i < a then 1 else 0
theorem below_zero (n : Nat) : P.below 0 n = 0 := by
  induction n with
  | zero => rfl
  | succ n ih => show P.below 0 n + _ = 0; rw [ih, if_neg (by omega)]
theorem below_all (h : P.Good) {a : Nat} (ha : P.W ≤ a) : ∀ {n : Nat}, n ≤ P.S → P.below a n = n
  | 0, _ => rfl
  | n + 1, hn => by
    have := ad_words h (show n < P.S by omega)
    have := (ad_bd h (show n < P.S by omega)).2.2
    show P.below a n + _ = n + 1
    rw [below_all h ha (by omega), if_pos (by omega)]
theorem below_no {a : Nat} : ∀ {n : Nat}, ¬ P.hit a n → P.below (a + 1) n = P.below a n
  | 0, _ => rfl
  | n + 1, hn => by
    show P.below (a + 1) n + _ = P.below a n + _
    have ne : P.ad n ≠ a := fun e => hn ⟨n, by omega, e⟩
    rw [below_no fun ⟨i, hi, e⟩ => hn ⟨i, by omega, e⟩]
    by_cases c : P.ad n < a
    · rw [if_pos c, if_pos (by omega)]
    · rw [if_neg c, if_neg (by omega)]
theorem below_hit (h : P.Good) {a i : Nat} (e : P.ad i = a) : ∀ {n : Nat}, n ≤ P.S → i < n → P.below (a + 1) n = P.below a n + 1
  | 0, _, hi => by omega
  | n + 1, hn, hi => by
    show P.below (a + 1) n + _ = P.below a n + _ + 1
    by_cases c : i = n
    · subst c
      have no : ¬ P.hit a i := fun ⟨j, hj, ej⟩ => by
        have := ad_inj h (show j < P.S by omega) (show i < P.S by omega) (ej.trans e.symm)
        omega
      rw [below_no no, if_pos (by omega), if_neg (by omega)]
    · rw [below_hit h e (by omega) (by omega)]
      have ne : P.ad n ≠ a := fun en => by
        have := ad_inj h (show i < P.S by omega) (show n < P.S by omega) (e.trans en.symm)
        omega
      by_cases d : P.ad n < a
      · rw [if_pos d, if_pos (by omega)]
      · rw [if_neg d, if_neg (by omega)]
end Pl

end Go.Proofs.YthokalcibjjihaaGreatDoor
