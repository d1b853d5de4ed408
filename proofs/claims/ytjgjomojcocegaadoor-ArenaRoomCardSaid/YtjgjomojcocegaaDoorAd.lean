/- Which slots are taken, as numbers: nothing of the program. -/
import Derived.Test.YtjgjomojcocegaaDoorPn
namespace Go.Proofs.YtjgjomojcocegaaDoor

/-- one slot turned -/
def upd (T : Nat → Bool) (i : Nat) (b : Bool) : Nat → Bool := fun j => if j = i then b else T j
theorem upd_at (T : Nat → Bool) (i : Nat) (b : Bool) : upd T i b i = b := if_pos rfl
theorem upd_ne (T : Nat → Bool) {i j : Nat} (b : Bool) (h : j ≠ i) : upd T i b j = T j := if_neg h

namespace Pl
variable {P : Pl} {T : Nat → Bool}
/-- the used words, and how many are taken, of the first slots -/
def used (P : Pl) (T : Nat → Bool) : Nat → Nat
  | 0 => 0
  | i + 1 => used P T i + if T i = true then P.sz i else 0
def cnt (T : Nat → Bool) : Nat → Nat
  | 0 => 0
  | i + 1 => cnt T i + if T i = true then 1 else 0
theorem cnt_le (T : Nat → Bool) : ∀ n, cnt T n ≤ n
  | 0 => Nat.le_refl _
  | n + 1 => by
    have := cnt_le T n
    show cnt T n + _ ≤ n + 1
    split <;> omega
theorem used_mono {i j : Nat} (h : i ≤ j) : P.used T i ≤ P.used T j := by
  induction j with
  | zero => have : i = 0 := by omega
            subst this; exact Nat.le_refl _
  | succ j ih =>
    by_cases c : i = j + 1
    · subst c; exact Nat.le_refl _
    · exact Nat.le_trans (ih (by omega)) (Nat.le_add_right _ _)
theorem used_congr {T' : Nat → Bool} : ∀ {n : Nat}, (∀ j, j < n → T j = T' j) → P.used T n = P.used T' n
  | 0, _ => rfl
  | n + 1, h => by
    show P.used T n + _ = P.used T' n + _
    rw [used_congr (n := n) fun j hj => h j (by omega), h n (by omega)]
theorem cnt_congr {T' : Nat → Bool} : ∀ {n : Nat}, (∀ j, j < n → T j = T' j) → cnt T n = cnt T' n
  | 0, _ => rfl
  | n + 1, h => by
    show cnt T n + _ = cnt T' n + _
    rw [cnt_congr (n := n) fun j hj => h j (by omega), h n (by omega)]
/-- a slot that is taken: its size more; a slot that is given: its size less -/
theorem used_take {i : Nat} (h : T i = false) : ∀ {n : Nat}, P.used (upd T i true) n = P.used T n + if i < n then P.sz i else 0
  | 0 => by simp [used]
  | n + 1 => by
    show P.used (upd T i true) n + _ = P.used T n + _ + _
    rw [used_take h (n := n)]
    by_cases c : n = i
    · subst c
      simp [upd_at, h]
    · rw [upd_ne T true c]
      by_cases d : i < n
      · have d' : i < n + 1 := by omega
        simp only [d, d', if_true]; omega
      · have d' : ¬ i < n + 1 := by omega
        simp only [d, d', if_false]; omega
theorem cnt_take {i : Nat} (h : T i = false) : ∀ {n : Nat}, cnt (upd T i true) n = cnt T n + if i < n then 1 else 0
  | 0 => by simp [cnt]
  | n + 1 => by
    show cnt (upd T i true) n + _ = cnt T n + _ + _
    rw [cnt_take h (n := n)]
    by_cases c : n = i
    · subst c
      simp [upd_at, h]
    · rw [upd_ne T true c]
      by_cases d : i < n
      · have d' : i < n + 1 := by omega
        simp only [d, d', if_true]; omega
      · have d' : ¬ i < n + 1 := by omega
        simp only [d, d', if_false]; omega
theorem upd_back {i : Nat} (h : T i = true) : upd (upd T i false) i true = T := by
  funext j
  by_cases c : j = i
  · subst c; rw [upd_at, h]
  · rw [upd_ne _ _ c, upd_ne _ _ c]
theorem used_give {i n : Nat} (h : T i = true) (hi : i < n) : P.used (upd T i false) n + P.sz i = P.used T n := by
  have := used_take (P := P) (T := upd T i false) (i := i) (upd_at _ _ _) (n := n)
  rw [upd_back h, if_pos hi] at this
  exact this.symm
theorem cnt_give {i n : Nat} (h : T i = true) (hi : i < n) : cnt (upd T i false) n + 1 = cnt T n := by
  have := cnt_take (T := upd T i false) (i := i) (upd_at _ _ _) (n := n)
  rw [upd_back h, if_pos hi] at this
  exact this.symm
/-- a class that is full: its words are used -/
theorem used_class {k : Nat} (hk : k < P.n) (h : ∀ j, j < P.s k → T (P.fo k + j) = true) : ∀ j, j ≤ P.s k → P.used T (P.fo k) + j * P.f k ≤ P.used T (P.fo k + j)
  | 0, _ => by rw [Nat.zero_mul]; exact Nat.le_refl _
  | j + 1, hj => by
    have a := used_class hk h j (by omega)
    have e : P.used T (P.fo k + (j + 1)) = P.used T (P.fo k + j) + P.f k := by
      show P.used T (P.fo k + j) + (if T (P.fo k + j) = true then P.sz (P.fo k + j) else 0) = _
      rw [h j (by omega), if_pos rfl, sz_at hk (by omega)]
    rw [e, Nat.add_mul, Nat.one_mul]
    omega
theorem used_full {k : Nat} (hk : k < P.n) (h : ∀ i, i < P.S → P.cls i = k → T i = true) : P.s k * P.f k ≤ P.used T P.S := by
  have a := used_class (T := T) hk (fun j hj => h _ (fo_S hk hj) (cls_at hk hj)) (P.s k) (Nat.le_refl _)
  have b : P.fo k + P.s k ≤ P.S := by rw [← fo_succ]; exact fo_le (by omega)
  have := used_mono (P := P) (T := T) b
  omega
theorem used_none (n : Nat) : P.used (fun _ => false) n = 0 := by
  induction n with
  | zero => rfl
  | succ n ih => show P.used _ n + _ = 0; rw [ih]; rfl
end Pl

/-! What is answered. -/
/-- Take of a class: what it answers, and what is taken then -/
def TakeR (P : Pl) (T : Nat → Bool) (k r e : Int) (T' : Nat → Bool) : Prop :=
  (¬ (0 ≤ k ∧ k < P.n) ∧ r = 0 ∧ e = 2 ∧ T' = T) ∨
  (∃ i : Nat, i < P.S ∧ (P.cls i : Int) = k ∧ T i = false ∧ (∀ j, j < i → (P.cls j : Int) = k → T j = true) ∧ r = i ∧ e = 0 ∧ T' = upd T i true) ∨
  ((0 ≤ k ∧ k < P.n) ∧ (∀ j, j < P.S → (P.cls j : Int) = k → T j = true) ∧ r = 0 ∧ e = 6 ∧ T' = T)
def GiveR (P : Pl) (T : Nat → Bool) (i e : Int) (T' : Nat → Bool) : Prop :=
  (¬ (0 ≤ i ∧ i < P.S) ∧ e = 2 ∧ T' = T) ∨ (∃ I : Nat, i = I ∧ I < P.S ∧ T I = false ∧ e = 9 ∧ T' = T) ∨ (∃ I : Nat, i = I ∧ I < P.S ∧ T I = true ∧ e = 0 ∧ T' = upd T I false)
def GiveAllR (P : Pl) (T R : Nat → Bool) (m : Nat) (e : Int) (T' : Nat → Bool) : Prop :=
  (m ≠ P.S ∧ e = 2 ∧ T' = T) ∨ (m = P.S ∧ (∃ i, i < P.S ∧ R i = true ∧ T i = false) ∧ e = 9 ∧ T' = T) ∨ (m = P.S ∧ (∀ i, i < P.S → R i = true → T i = true) ∧ e = 0 ∧ T' = fun i => T i && !R i)

/-- the first of the numbers for which it holds -/
theorem first_of (p : Nat → Prop) [DecidablePred p] : ∀ n, (∃ i, i < n ∧ p i ∧ ∀ j, j < i → ¬ p j) ∨ ∀ j, j < n → ¬ p j
  | 0 => Or.inr fun j hj => by omega
  | n + 1 => by
    rcases first_of p n with ⟨i, h1, h2, h3⟩ | h
    · exact Or.inl ⟨i, by omega, h2, h3⟩
    · by_cases c : p n
      · exact Or.inl ⟨n, by omega, c, fun j hj => h j hj⟩
      · refine Or.inr fun j hj => ?_
        by_cases e : j = n
        · subst e; exact c
        · exact h j (by omega)
theorem take_dec (P : Pl) (T : Nat → Bool) (k : Int) : ∃ r e T', TakeR P T k r e T' := by
  by_cases hk : 0 ≤ k ∧ k < P.n
  · rcases first_of (fun i => (P.cls i : Int) = k ∧ T i = false) P.S with ⟨i, h1, ⟨h2, h3⟩, h4⟩ | h
    · refine ⟨i, 0, _, Or.inr (Or.inl ⟨i, h1, h2, h3, fun j hj hc => ?_, rfl, rfl, rfl⟩)⟩
      have := h4 j hj
      cases hT : T j
      · exact absurd ⟨hc, hT⟩ this
      · rfl
    · refine ⟨0, 6, T, Or.inr (Or.inr ⟨hk, fun j hj hc => ?_, rfl, rfl, rfl⟩)⟩
      have := h j hj
      cases hT : T j
      · exact absurd ⟨hc, hT⟩ this
      · rfl
  · exact ⟨0, 2, T, Or.inl ⟨hk, rfl, rfl, rfl⟩⟩
theorem give_dec (P : Pl) (T : Nat → Bool) (i : Int) : ∃ e T', GiveR P T i e T' := by
  by_cases h : 0 ≤ i ∧ i < P.S
  · obtain ⟨I, rfl⟩ : ∃ I : Nat, i = I := ⟨i.toNat, by omega⟩
    cases hT : T I
    · exact ⟨9, T, Or.inr (Or.inl ⟨I, rfl, by omega, hT, rfl, rfl⟩)⟩
    · exact ⟨0, _, Or.inr (Or.inr ⟨I, rfl, by omega, hT, rfl, rfl⟩)⟩
  · exact ⟨2, T, Or.inl ⟨h, rfl, rfl⟩⟩
theorem giveAll_dec (P : Pl) (T R : Nat → Bool) (m : Nat) : ∃ e T', GiveAllR P T R m e T' := by
  by_cases h : m = P.S
  · rcases first_of (fun i => R i = true ∧ T i = false) P.S with ⟨i, h1, ⟨h2, h3⟩, _⟩ | hh
    · exact ⟨9, T, Or.inr (Or.inl ⟨h, ⟨i, h1, h2, h3⟩, rfl, rfl⟩)⟩
    · refine ⟨0, _, Or.inr (Or.inr ⟨h, fun i hi hR => ?_, rfl, rfl⟩)⟩
      have := hh i hi
      cases hT : T i
      · exact absurd ⟨hR, hT⟩ this
      · rfl
  · exact ⟨2, T, Or.inl ⟨h, rfl, rfl⟩⟩

/-- room: what is used, and the class's size, are not above a number that is less than one slot above all the class's slots: then there is a free one -/
theorem room {P : Pl} {T : Nat → Bool} {k : Nat} {q : Nat} (hk : k < P.n) (hq : q < P.s k * P.f k + P.f k) (h : P.used T P.S + P.f k ≤ q) {r e : Int} {T' : Nat → Bool} (hT : TakeR P T k r e T') : e = 0 := by
  rcases hT with ⟨h1, _⟩ | ⟨i, _, _, _, _, _, h1, _⟩ | ⟨_, h1, _⟩
  · exact absurd ⟨by omega, by omega⟩ h1
  · exact h1
  · have := Pl.used_full (T := T) hk fun i hi hc => h1 i hi (by omega)
    omega

end Go.Proofs.YtjgjomojcocegaaDoor

/- What arenas answer is one; the slots that an act gives, as numbers: nothing of the program. -/
namespace Go.Proofs.YtjgjomojcocegaaDoor

theorem Pl.cls_lt {P : Pl} {i : Nat} (h : i < P.S) : P.cls i < P.n := (clsIn_at (b := P.fo) rfl h).1
theorem TakeR.det {P : Pl} {T T1 T2 : Nat → Bool} {k r c r' c' : Int} (h : TakeR P T k r c T1) (g : TakeR P T k r' c' T2) : r' = r ∧ c' = c ∧ T2 = T1 := by
  rcases h with ⟨h1, rfl, rfl, rfl⟩ | ⟨i, h1, h2, h3, h4, rfl, rfl, rfl⟩ | ⟨h1, h2, rfl, rfl, rfl⟩
  · rcases g with ⟨g1, rfl, rfl, rfl⟩ | ⟨j, g1, g2, g3, g4, rfl, rfl, rfl⟩ | ⟨g1, g2, rfl, rfl, rfl⟩
    · exact ⟨rfl, rfl, rfl⟩
    · have := Pl.cls_lt g1
      exact absurd ⟨by omega, by omega⟩ h1
    · exact absurd g1 h1
  · rcases g with ⟨g1, rfl, rfl, rfl⟩ | ⟨j, g1, g2, g3, g4, rfl, rfl, rfl⟩ | ⟨g1, g2, rfl, rfl, rfl⟩
    · have := Pl.cls_lt h1
      exact absurd ⟨by omega, by omega⟩ g1
    · have e : i = j := by
        by_cases a : i < j
        · have := g4 i a h2; rw [h3] at this; cases this
        · by_cases b : j < i
          · have := h4 j b g2; rw [g3] at this; cases this
          · omega
      subst e
      exact ⟨rfl, rfl, rfl⟩
    · have := g2 i h1 h2; rw [h3] at this; cases this
  · rcases g with ⟨g1, rfl, rfl, rfl⟩ | ⟨j, g1, g2, g3, g4, rfl, rfl, rfl⟩ | ⟨g1, g2, rfl, rfl, rfl⟩
    · exact absurd h1 g1
    · have := h2 j g1 g2; rw [g3] at this; cases this
    · exact ⟨rfl, rfl, rfl⟩
theorem GiveR.det {P : Pl} {T T1 T2 : Nat → Bool} {i c c' : Int} (h : GiveR P T i c T1) (g : GiveR P T i c' T2) : c' = c ∧ T2 = T1 := by
  rcases h with ⟨h1, rfl, rfl⟩ | ⟨I, rfl, h1, h2, rfl, rfl⟩ | ⟨I, rfl, h1, h2, rfl, rfl⟩
  · rcases g with ⟨g1, rfl, rfl⟩ | ⟨J, e, g1, g2, rfl, rfl⟩ | ⟨J, e, g1, g2, rfl, rfl⟩
    · exact ⟨rfl, rfl⟩
    · exact absurd ⟨by omega, by omega⟩ h1
    · exact absurd ⟨by omega, by omega⟩ h1
  · rcases g with ⟨g1, rfl, rfl⟩ | ⟨J, e, g1, g2, rfl, rfl⟩ | ⟨J, e, g1, g2, rfl, rfl⟩
    · exact absurd ⟨by omega, by omega⟩ g1
    · exact ⟨rfl, rfl⟩
    · obtain rfl : I = J := by omega
      rw [h2] at g2; cases g2
  · rcases g with ⟨g1, rfl, rfl⟩ | ⟨J, e, g1, g2, rfl, rfl⟩ | ⟨J, e, g1, g2, rfl, rfl⟩
    · exact absurd ⟨by omega, by omega⟩ g1
    · obtain rfl : I = J := by omega
      rw [h2] at g2; cases g2
    · obtain rfl : I = J := by omega
      exact ⟨rfl, rfl⟩
theorem GiveAllR.det {P : Pl} {T R T1 T2 : Nat → Bool} {m : Nat} {c c' : Int} (h : GiveAllR P T R m c T1) (g : GiveAllR P T R m c' T2) : c' = c ∧ T2 = T1 := by
  rcases h with ⟨h1, rfl, rfl⟩ | ⟨h0, ⟨i, h1, h2, h3⟩, rfl, rfl⟩ | ⟨h0, h1, rfl, rfl⟩
  · rcases g with ⟨g1, rfl, rfl⟩ | ⟨g0, _, rfl, rfl⟩ | ⟨g0, g1, rfl, rfl⟩
    · exact ⟨rfl, rfl⟩
    · exact absurd g0 h1
    · exact absurd g0 h1
  · rcases g with ⟨g1, rfl, rfl⟩ | ⟨g0, _, rfl, rfl⟩ | ⟨g0, g1, rfl, rfl⟩
    · exact absurd h0 g1
    · exact ⟨rfl, rfl⟩
    · have := g1 i h1 h2; rw [h3] at this; cases this
  · rcases g with ⟨g1, rfl, rfl⟩ | ⟨g0, ⟨i, g1, g2, g3⟩, rfl, rfl⟩ | ⟨g0, g1, rfl, rfl⟩
    · exact absurd h0 g1
    · have := h1 i g1 g2; rw [g3] at this; cases this
    · exact ⟨rfl, rfl⟩
theorem GiveAllR.congr {P : Pl} {T R R' T1 : Nat → Bool} {m : Nat} {c : Int} (h : GiveAllR P T R m c T1) (e : R = R') : GiveAllR P T R' m c T1 := e ▸ h

/-- a bit of a number -/
def bitN (n : Int) (r : Nat) : Bool := decide (Go.bits .and .i64 (n / 2 ^ r) 1 = 1)
/-- the slots that an act gives -/
def rowB (P : Pl) (T : Nat → Bool) (n : Int) (j : Nat) : Bool := decide (j < P.S) && ((T j && bitN n (j % 8)) || (decide (j = 0) && decide (n < 0)))
/-- the first of them -/
def rowP (P : Pl) (T : Nat → Bool) (n : Int) (k j : Nat) : Bool := decide (j < k) && rowB P T n j
theorem rowP_zero (P : Pl) (T : Nat → Bool) (n : Int) : rowP P T n 0 = fun _ => false := by funext j; simp [rowP]
theorem rowP_all (P : Pl) (T : Nat → Bool) (n : Int) : rowP P T n P.S = rowB P T n := by
  funext j
  unfold rowP rowB
  by_cases c : j < P.S
  · simp [c]
  · simp [c]
theorem rowP_yes {P : Pl} {T : Nat → Bool} {n : Int} {k : Nat} (h : rowB P T n k = true) : rowP P T n (k + 1) = upd (rowP P T n k) k true := by
  funext j
  by_cases e : j = k
  · subst e
    rw [upd_at]
    simp [rowP, h]
  · rw [upd_ne _ _ e]
    unfold rowP
    have : decide (j < k + 1) = decide (j < k) := decide_eq_decide.2 (by omega)
    rw [this]
theorem rowP_no {P : Pl} {T : Nat → Bool} {n : Int} {k : Nat} (h : rowB P T n k = false) : rowP P T n (k + 1) = rowP P T n k := by
  funext j
  unfold rowP
  by_cases e : j = k
  · subst e
    simp [h]
  · have : decide (j < k + 1) = decide (j < k) := decide_eq_decide.2 (by omega)
    rw [this]

theorem rowB_a {P : Pl} {T : Nat → Bool} {n : Int} {k : Nat} (hk : k < P.S) (hT : T k = true) (hb : Go.bits .and .i64 (n / 2 ^ (k % 8)) 1 = 1) : rowB P T n k = true := by
  unfold rowB bitN
  rw [decide_eq_true hk, hT, decide_eq_true hb]
  rfl
theorem rowB_neg {P : Pl} {T : Nat → Bool} {n : Int} (hk : 0 < P.S) (hn : n < 0) : rowB P T n 0 = true := by
  unfold rowB
  rw [decide_eq_true hk, decide_eq_true hn]
  simp
theorem rowB_f {P : Pl} {T : Nat → Bool} {n : Int} {k : Nat} (hT : T k = false) (h : k ≠ 0 ∨ 0 ≤ n) : rowB P T n k = false := by
  have : (decide (k = 0) && decide (n < 0)) = false := by
    rcases h with h | h
    · rw [decide_eq_false h]; rfl
    · rw [decide_eq_false (show ¬ n < 0 by omega), Bool.and_false]
  unfold rowB
  rw [hT, this]
  simp
theorem rowB_b {P : Pl} {T : Nat → Bool} {n : Int} {k : Nat} (hb : ¬ Go.bits .and .i64 (n / 2 ^ (k % 8)) 1 = 1) (h : k ≠ 0 ∨ 0 ≤ n) : rowB P T n k = false := by
  have : (decide (k = 0) && decide (n < 0)) = false := by
    rcases h with h | h
    · rw [decide_eq_false h]; rfl
    · rw [decide_eq_false (show ¬ n < 0 by omega), Bool.and_false]
  unfold rowB bitN
  rw [this, decide_eq_false hb]
  simp
theorem bit_zero {n : Int} {h : Int → Prop} : h (n / 2 ^ (0 % 8)) ↔ h n := by simp

end Go.Proofs.YtjgjomojcocegaaDoor
