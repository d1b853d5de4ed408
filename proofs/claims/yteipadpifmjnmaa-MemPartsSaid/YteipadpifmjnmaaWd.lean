/- Rows of words, rows of rows, worlds that keep all but some blocks; memories as lists. Nothing of the program but for the types. -/
import Derived.Test.YteipadpifmjnmaaRat
namespace Go.Proofs.Yteipadpifmjnmaa
open Go.ChangeShapes Go.WideShapes Go.ChangeAt Go.RowKit Go.Deep

/-- all lies as it lay, but for some blocks -/
structure Exc (X : Nat → Prop) (w w' : World) : Prop where
  os : w'.os = w.os
  tape : w'.tape = w.tape
  output : w'.output = w.output
  size : w.heap.size ≤ w'.heap.size
  block : ∀ k, k < w.heap.size → ¬ X k → w'.heap[k]? = w.heap[k]?

theorem Bel.exc {X : Nat → Prop} {w w' : World} (h : Bel w w') : Exc X w w' := ⟨h.os, h.tape, h.output, h.size, fun k hk _ => h.block k hk⟩
theorem Exc.trans {X : Nat → Prop} {a b c : World} (h : Exc X a b) (k : Exc X b c) : Exc X a c :=
  ⟨k.os.trans h.os, k.tape.trans h.tape, k.output.trans h.output, Nat.le_trans h.size k.size, fun i hi hx => (k.block i (Nat.lt_of_lt_of_le hi h.size) hx).trans (h.block i hi hx)⟩
theorem Exc.mono {X Y : Nat → Prop} {a b : World} (h : Exc X a b) (s : ∀ k, X k → Y k) : Exc Y a b := ⟨h.os, h.tape, h.output, h.size, fun k hk hy => h.block k hk fun hx => hy (s k hx)⟩
theorem Exc.below {X : Nat → Prop} {a b : World} (h : Exc X a b) {B : Nat} (s : ∀ k, X k → B ≤ k) (hB : B ≤ a.heap.size) : Below B a b :=
  ⟨h.os, h.tape, h.output, h.size, fun k hk => h.block k (by omega) fun hx => by have := s k hx; omega⟩
theorem cell_exc {X : Nat → Prop} {w w' : World} (g : Exc X w w') {a : Addr} {v : Value} (h : w.cell? a = some v) (hx : ¬ X a.block) : w'.cell? a = some v := by
  rw [World.cell?_of_block (g.block a.block (cell_block h).1 hx)]; exact h
/-- the blocks that may be turned lie here -/
def Till (X : Nat → Prop) (w : World) : Prop := ∀ k, X k → k < w.heap.size
theorem Till.bel {X : Nat → Prop} {w w' : World} (h : Till X w) (g : Bel w w') : Till X w' := fun k hk => Nat.lt_of_lt_of_le (h k hk) g.size
theorem Till.new {X : Nat → Prop} {w : World} (h : Till X w) {k : Nat} (hk : w.heap.size ≤ k) : ¬ X k := fun hx => by have := h k hx; omega

/-- a slice of words -/
def Ws (X : Nat → Prop) (w : World) (v : Value) (l : List Nat) : Prop :=
  (l = [] ∧ ∃ p cap, v = .slice p 0 cap) ∨
  ∃ b off cap, v = .slice (some ⟨b, off, none⟩) l.length cap ∧ 1 ≤ l.length ∧ l.length ≤ cap ∧ cap ≤ 9223372036854775807 ∧ ¬ X b ∧ ∀ j u, l[j]? = some u → w.cell? ⟨b, off + j, none⟩ = some (.int .u64 (u : Nat))
/-- a slice of such slices -/
def Rs (X : Nat → Prop) (w : World) (v : Value) (R : List (List Nat)) : Prop :=
  (R = [] ∧ ∃ p cap, v = .slice p 0 cap) ∨
  ∃ b off cap, v = .slice (some ⟨b, off, none⟩) R.length cap ∧ 1 ≤ R.length ∧ R.length ≤ cap ∧ cap ≤ 9223372036854775807 ∧ ¬ X b ∧ ∀ j l, R[j]? = some l → ∃ lv, w.cell? ⟨b, off + j, none⟩ = some lv ∧ Ws X w lv l
/-- the document's memory, by value -/
def IsRm (X : Nat → Prop) (w : World) (v : Value) (R : List (List Nat)) : Prop := ∃ rv, v = .agg #[rv] ∧ Rs X w rv R

theorem Ws.exc {X : Nat → Prop} {w w' : World} {v : Value} {l : List Nat} (h : Ws X w v l) (g : Exc X w w') : Ws X w' v l := by
  rcases h with h | ⟨b, off, cap, h1, h2, h3, h4, h5, h6⟩
  · exact Or.inl h
  · exact Or.inr ⟨b, off, cap, h1, h2, h3, h4, h5, fun j u hj => cell_exc g (h6 j u hj) h5⟩
theorem Rs.exc {X : Nat → Prop} {w w' : World} {v : Value} {R : List (List Nat)} (h : Rs X w v R) (g : Exc X w w') : Rs X w' v R := by
  rcases h with h | ⟨b, off, cap, h1, h2, h3, h4, h5, h6⟩
  · exact Or.inl h
  · refine Or.inr ⟨b, off, cap, h1, h2, h3, h4, h5, fun j l hj => ?_⟩
    obtain ⟨lv, c, hw⟩ := h6 j l hj
    exact ⟨lv, cell_exc g c h5, hw.exc g⟩
theorem IsRm.exc {X : Nat → Prop} {w w' : World} {v : Value} {R : List (List Nat)} (h : IsRm X w v R) (g : Exc X w w') : IsRm X w' v R := by
  obtain ⟨rv, e, h⟩ := h
  exact ⟨rv, e, h.exc g⟩
theorem Ws.bel {X : Nat → Prop} {w w' : World} {v : Value} {l : List Nat} (h : Ws X w v l) (g : Bel w w') : Ws X w' v l := h.exc g.exc
theorem Rs.bel {X : Nat → Prop} {w w' : World} {v : Value} {R : List (List Nat)} (h : Rs X w v R) (g : Bel w w') : Rs X w' v R := h.exc g.exc
theorem IsRm.bel {X : Nat → Prop} {w w' : World} {v : Value} {R : List (List Nat)} (h : IsRm X w v R) (g : Bel w w') : IsRm X w' v R := h.exc g.exc
theorem Ws.less {X Y : Nat → Prop} {w : World} {v : Value} {l : List Nat} (h : Ws X w v l) (s : ∀ k, Y k → X k) : Ws Y w v l := by
  rcases h with h | ⟨b, off, cap, h1, h2, h3, h4, h5, h6⟩
  · exact Or.inl h
  · exact Or.inr ⟨b, off, cap, h1, h2, h3, h4, fun x => h5 (s _ x), h6⟩
theorem Rs.less {X Y : Nat → Prop} {w : World} {v : Value} {R : List (List Nat)} (h : Rs X w v R) (s : ∀ k, Y k → X k) : Rs Y w v R := by
  rcases h with h | ⟨b, off, cap, h1, h2, h3, h4, h5, h6⟩
  · exact Or.inl h
  · refine Or.inr ⟨b, off, cap, h1, h2, h3, h4, fun x => h5 (s _ x), fun j l hj => ?_⟩
    obtain ⟨lv, c, hw⟩ := h6 j l hj
    exact ⟨lv, c, hw.less s⟩
theorem IsRm.less {X Y : Nat → Prop} {w : World} {v : Value} {R : List (List Nat)} (h : IsRm X w v R) (s : ∀ k, Y k → X k) : IsRm Y w v R := by
  obtain ⟨rv, e, h⟩ := h
  exact ⟨rv, e, h.less s⟩

theorem Ws.slice {X : Nat → Prop} {w : World} {v : Value} {l : List Nat} (h : Ws X w v l) : ∃ p cap, v = .slice p l.length cap ∧ l.length ≤ 9223372036854775807 := by
  rcases h with ⟨rfl, p, cap, rfl⟩ | ⟨b, off, cap, rfl, h1, h2, h3, _⟩
  · exact ⟨p, cap, rfl, by simp⟩
  · exact ⟨_, cap, rfl, by omega⟩
theorem Rs.slice {X : Nat → Prop} {w : World} {v : Value} {R : List (List Nat)} (h : Rs X w v R) : ∃ p cap, v = .slice p R.length cap ∧ R.length ≤ 9223372036854775807 := by
  rcases h with ⟨rfl, p, cap, rfl⟩ | ⟨b, off, cap, rfl, h1, h2, h3, _⟩
  · exact ⟨p, cap, rfl, by simp⟩
  · exact ⟨_, cap, rfl, by omega⟩
/-- one of the rows -/
theorem Rs.at {X : Nat → Prop} {w : World} {v : Value} {R : List (List Nat)} (h : Rs X w v R) {t : Nat} {l : List Nat} (ht : R[t]? = some l) :
    ∃ b off cap lv, v = .slice (some ⟨b, off, none⟩) R.length cap ∧ R.length ≤ cap ∧ cap ≤ 9223372036854775807 ∧ ¬ X b ∧ t < R.length ∧ w.cell? ⟨b, off + t, none⟩ = some lv ∧ Ws X w lv l := by
  have hlt := (List.getElem?_eq_some_iff.1 ht).1
  rcases h with ⟨rfl, _⟩ | ⟨b, off, cap, h1, h2, h3, h4, h5, h6⟩
  · simp at hlt
  · obtain ⟨lv, c, hw⟩ := h6 t l ht
    exact ⟨b, off, cap, lv, h1, h3, h4, h5, hlt, c, hw⟩
/-- one of the words -/
theorem Ws.at {X : Nat → Prop} {w : World} {v : Value} {l : List Nat} (h : Ws X w v l) {j u : Nat} (hj : l[j]? = some u) :
    ∃ b off cap, v = .slice (some ⟨b, off, none⟩) l.length cap ∧ l.length ≤ cap ∧ cap ≤ 9223372036854775807 ∧ ¬ X b ∧ j < l.length ∧ w.cell? ⟨b, off + j, none⟩ = some (.int .u64 (u : Nat)) := by
  have hlt := (List.getElem?_eq_some_iff.1 hj).1
  rcases h with ⟨rfl, _⟩ | ⟨b, off, cap, h1, h2, h3, h4, h5, h6⟩
  · simp at hlt
  · exact ⟨b, off, cap, h1, h3, h4, h5, hlt, h6 j u hj⟩

/-! What the document answers. -/
/-- is there such an address? -/
def inE (R : List (List Nat)) (t a : Int) : Int := if t < 0 ∨ (R.length : Int) ≤ t then 2 else if a < 0 ∨ ((R.getD t.toNat []).length : Int) ≤ a then 4 else 0
/-- the word there -/
def loadR (R : List (List Nat)) (t a : Int) : Nat := if inE R t a = 0 then (R.getD t.toNat []).getD a.toNat 0 else 0
/-- one word turned -/
def setR (R : List (List Nat)) (t a u : Nat) : List (List Nat) := R.set t ((R.getD t []).set a u)
def storeR (R : List (List Nat)) (t a : Int) (u : Nat) : List (List Nat) := if inE R t a = 0 then setR R t.toNat a.toNat u else R
/-- may these words be zeroed? -/
def zeroE (R : List (List Nat)) (t a n : Int) : Int := if t < 0 ∨ (R.length : Int) ≤ t then 2 else if a < 0 ∨ n < 0 ∨ ((R.getD t.toNat []).length : Int) < a ∨ ((R.getD t.toNat []).length : Int) - a < n then 4 else 0
/-- some words turned to 0 -/
def wipe (R : List (List Nat)) (t a : Nat) : Nat → List (List Nat)
  | 0 => R
  | n + 1 => setR (wipe R t a n) t (a + n) 0
def zeroR (R : List (List Nat)) (t a n : Int) : List (List Nat) := if zeroE R t a n = 0 then wipe R t.toNat a.toNat n.toNat else R

theorem inE_ok {R : List (List Nat)} {t a : Int} (h : inE R t a = 0) : ∃ (t' a' : Nat) (l : List Nat) (u : Nat), t = t' ∧ a = a' ∧ R[t']? = some l ∧ l[a']? = some u ∧ R.getD t' [] = l ∧ l.getD a' 0 = u := by
  unfold inE at h
  split at h
  · cases h
  · split at h
    · cases h
    · rename_i h1 h2
      have e1 : t.toNat < R.length := by omega
      have e2 : R.getD t.toNat [] = R[t.toNat] := by rw [List.getD_eq_getElem?_getD, List.getElem?_eq_getElem e1]; rfl
      rw [e2] at h2
      have e3 : a.toNat < (R[t.toNat]).length := by omega
      exact ⟨t.toNat, a.toNat, R[t.toNat], R[t.toNat][a.toNat], by omega, by omega, List.getElem?_eq_getElem e1, List.getElem?_eq_getElem e3, e2, by rw [List.getD_eq_getElem?_getD, List.getElem?_eq_getElem e3]; rfl⟩

theorem setR_len (R : List (List Nat)) (t a u : Nat) : (setR R t a u).length = R.length := List.length_set
theorem wipe_len (R : List (List Nat)) (t a : Nat) : ∀ n, (wipe R t a n).length = R.length
  | 0 => rfl
  | n + 1 => by show (setR (wipe R t a n) t (a + n) 0).length = _; rw [setR_len, wipe_len R t a n]
theorem setR_row (R : List (List Nat)) (t a u i : Nat) : ((setR R t a u).getD i []).length = (R.getD i []).length := by
  unfold setR
  simp only [List.getD_eq_getElem?_getD, List.getElem?_set]
  by_cases h : t = i
  · subst h
    by_cases k : t < R.length
    · rw [if_pos rfl, if_pos k]; simp
    · rw [if_pos rfl, if_neg k, List.getElem?_eq_none (by omega)]
  · rw [if_neg h]
theorem wipe_row (R : List (List Nat)) (t a i : Nat) : ∀ n, ((wipe R t a n).getD i []).length = (R.getD i []).length
  | 0 => rfl
  | n + 1 => by show ((setR (wipe R t a n) t (a + n) 0).getD i []).length = _; rw [setR_row, wipe_row R t a i n]

end Go.Proofs.Yteipadpifmjnmaa
