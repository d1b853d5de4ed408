/- THE PROGRAM'S MEMORIES: where the regions begin, in one row of words; what lies in memory. Numbers and lists; nothing of the program but for the types. -/
import Derived.Test.YteipadpifmjnmaaRsm
namespace Go.Proofs.Yteipadpifmjnmaa
open Go.ChangeShapes Go.WideShapes Go.ChangeAt Go.RowKit Go.Deep
set_option linter.unusedVariables false

/-- where a region begins -/
def offR (R : List (List Nat)) (t : Nat) : Nat := ((R.take t).flatten).length
theorem offR_zero (R : List (List Nat)) : offR R 0 = 0 := by unfold offR; simp
theorem offR_succ {R : List (List Nat)} {t : Nat} {l : List Nat} (h : R[t]? = some l) : offR R (t + 1) = offR R t + l.length := by
  unfold offR
  rw [take_more h]
  simp
theorem offR_all (R : List (List Nat)) : offR R R.length = R.flatten.length := by unfold offR; rw [List.take_length]
theorem flat_split {R : List (List Nat)} {t : Nat} {l : List Nat} (h : R[t]? = some l) : R.flatten = (R.take t).flatten ++ (l ++ (R.drop (t + 1)).flatten) := by
  have ht := (List.getElem?_eq_some_iff.1 h).1
  have e : R.drop t = l :: R.drop (t + 1) := by
    rw [List.drop_eq_getElem_cons ht, (List.getElem?_eq_some_iff.1 h).2]
  conv => lhs; rw [← List.take_append_drop t R, e]
  simp
theorem flat_len {R : List (List Nat)} {t : Nat} {l : List Nat} (h : R[t]? = some l) : offR R t + l.length ≤ R.flatten.length := by
  rw [flat_split h]
  unfold offR
  simp
theorem flat_at {R : List (List Nat)} {t : Nat} {l : List Nat} (h : R[t]? = some l) {a : Nat} (ha : a < l.length) : R.flatten[offR R t + a]? = l[a]? := by
  rw [flat_split h]
  unfold offR
  rw [List.getElem?_append_right (by omega), Nat.add_sub_cancel_left, List.getElem?_append_left ha]
theorem setR_eq {R : List (List Nat)} {t : Nat} {l : List Nat} (h : R[t]? = some l) (a u : Nat) : setR R t a u = R.set t (l.set a u) := by
  have e : R.getD t [] = l := by rw [List.getD_eq_getElem?_getD, h]; rfl
  unfold setR
  rw [e]
theorem flat_set {R : List (List Nat)} {t : Nat} {l : List Nat} (h : R[t]? = some l) {a : Nat} (ha : a < l.length) (u : Nat) : (setR R t a u).flatten = R.flatten.set (offR R t + a) u := by
  have ht := (List.getElem?_eq_some_iff.1 h).1
  have h' : (setR R t a u)[t]? = some (l.set a u) := setR_here h
  rw [flat_split h', flat_split h, setR_eq h]
  have e1 : (R.set t (l.set a u)).take t = R.take t := by rw [List.take_set_of_le (Nat.le_refl _)]
  have e2 : (R.set t (l.set a u)).drop (t + 1) = R.drop (t + 1) := by rw [List.drop_set_of_lt (by omega)]
  rw [e1, e2]
  unfold offR
  rw [List.set_append_right _ _ (by omega), Nat.add_sub_cancel_left, List.set_append_left _ _ ha]
theorem lens_set (R : List (List Nat)) (t a u : Nat) : (setR R t a u).map List.length = R.map List.length := by
  apply List.ext_getElem?
  intro i
  have e := setR_row R t a u i
  simp only [List.getD_eq_getElem?_getD] at e
  rw [List.getElem?_map, List.getElem?_map]
  by_cases c : i < R.length
  · have c' : i < (setR R t a u).length := by rw [setR_len]; exact c
    rw [List.getElem?_eq_getElem c, List.getElem?_eq_getElem c'] at *
    simpa using e
  · rw [List.getElem?_eq_none (show (setR R t a u).length ≤ i by rw [setR_len]; omega), List.getElem?_eq_none (show R.length ≤ i by omega)]
theorem offR_lens (R : List (List Nat)) (t : Nat) : offR R t = ((R.map List.length).take t).sum := by
  unfold offR
  rw [List.length_flatten, List.map_take]
theorem offR_set (R : List (List Nat)) (t a u i : Nat) : offR (setR R t a u) i = offR R i := by
  rw [offR_lens, offR_lens, lens_set]
theorem flat_len_set (R : List (List Nat)) (t a u : Nat) : (setR R t a u).flatten.length = R.flatten.length := by
  rw [List.length_flatten, List.length_flatten, lens_set]

/-- the beginnings, and the end -/
def eL (R : List (List Nat)) : List Value := (List.range (R.length + 1)).map fun t => .int .i64 (offR R t : Nat)
theorem eL_len (R : List (List Nat)) : (eL R).length = R.length + 1 := by unfold eL; simp
theorem eL_get (R : List (List Nat)) {t : Nat} (h : t < R.length + 1) : (eL R)[t]? = some (.int .i64 (offR R t : Nat)) := by unfold eL; rw [List.getElem?_map, List.getElem?_range h]; rfl
theorem eL_set (R : List (List Nat)) (t a u : Nat) : eL (setR R t a u) = eL R := by
  unfold eL
  rw [setR_len]
  exact List.map_congr_left fun i _ => by rw [offR_set]

/-- zeros, one by one, from the front -/
def wipeF (L : List Nat) (p : Nat) : Nat → List Nat
  | 0 => L
  | n + 1 => wipeF (L.set p 0) (p + 1) n
theorem wipeF_succ (n : Nat) : ∀ (L : List Nat) (p : Nat), wipeF L p (n + 1) = (wipeF L p n).set (p + n) 0 := by
  induction n with
  | zero => intro L p; rfl
  | succ n ih =>
    intro L p
    show wipeF (L.set p 0) (p + 1) (n + 1) = _
    rw [ih]
    show _ = (wipeF (L.set p 0) (p + 1) n).set _ 0
    rw [show p + 1 + n = p + (n + 1) by omega]
theorem offR_wipe (R : List (List Nat)) (t a i : Nat) : ∀ n, offR (wipe R t a n) i = offR R i
  | 0 => rfl
  | n + 1 => by show offR (setR (wipe R t a n) t (a + n) 0) i = _; rw [offR_set, offR_wipe R t a i n]
theorem eL_wipe (R : List (List Nat)) (t a : Nat) : ∀ n, eL (wipe R t a n) = eL R
  | 0 => rfl
  | n + 1 => by show eL (setR (wipe R t a n) t (a + n) 0) = _; rw [eL_set, eL_wipe R t a n]
theorem flat_len_wipe (R : List (List Nat)) (t a : Nat) : ∀ n, (wipe R t a n).flatten.length = R.flatten.length
  | 0 => rfl
  | n + 1 => by show (setR (wipe R t a n) t (a + n) 0).flatten.length = _; rw [flat_len_set, flat_len_wipe R t a n]
theorem flat_wipe {R : List (List Nat)} {t : Nat} {l : List Nat} (h : R[t]? = some l) (a : Nat) : ∀ n, a + n ≤ l.length → (wipe R t a n).flatten = wipeF R.flatten (offR R t + a) n
  | 0, _ => rfl
  | n + 1, hn => by
    obtain ⟨k, hk, hkl⟩ := wipe_at a h n
    show (setR (wipe R t a n) t (a + n) 0).flatten = _
    rw [flat_set hk (by omega), wipeF_succ, flat_wipe h a n (by omega), offR_wipe, Nat.add_assoc]

/-- cells turned one by one: the row's owner -/
theorem own_set {w : World} {B g N k : Nat} {e : TypeId} {L : List Nat} (h : w.ownsRow B e 1 (.slice (some ⟨g, 0, none⟩) N k) N (uL L)) (p u : Nat) :
    (w.setCell ⟨g, p, none⟩ (.int .u64 (u : Nat))).ownsRow B e 1 (.slice (some ⟨g, 0, none⟩) N k) N (uL (L.set p u)) := by
  have := (World.ownsRow.stored h p (.int .u64 (u : Nat))).1
  rwa [uL_set] at this
theorem own_sets {B g N k : Nat} {e : TypeId} : ∀ (n p : Nat) (L : List Nat) (w : World), w.ownsRow B e 1 (.slice (some ⟨g, 0, none⟩) N k) N (uL L) →
    (w.setCells g p (List.replicate n (.int .u64 0))).ownsRow B e 1 (.slice (some ⟨g, 0, none⟩) N k) N (uL (wipeF L p n))
  | 0, _, _, _, h => h
  | n + 1, p, L, w, h => own_sets n (p + 1) (L.set p 0) _ (own_set h p 0)
theorem exc_set (w : World) (g p : Nat) (x : Value) : Exc (fun k => k = g) w (w.setCell ⟨g, p, none⟩ x) :=
  ⟨rfl, rfl, rfl, (Below.setCell (Below.refl 0 w) (Nat.zero_le _) _).size, fun k _ hk => heap_setCell_other w _ k x hk⟩
theorem exc_sets (g : Nat) : ∀ (vs : List Value) (p : Nat) (w : World), Exc (fun k => k = g) w (w.setCells g p vs)
  | [], _, w => (Bel.refl w).exc
  | v :: r, p, w => (exc_set w g p v).trans (exc_sets g r (p + 1) _)
/-- an owned row in a block that lies as it lay -/
theorem own_heap {w w' : World} {B g N k : Nat} {e : TypeId} {xs : List Value} (h : w.ownsRow B e 1 (.slice (some ⟨g, 0, none⟩) N k) N xs) (c : w'.heap[g]? = w.heap[g]?) :
    w'.ownsRow B e 1 (.slice (some ⟨g, 0, none⟩) N k) N xs := by
  refine ⟨h.1, ?_⟩
  rcases h.2 with hn | ⟨g', cap, cur, hv, hb, hg, rest⟩
  · exact Or.inl hn
  · injection hv with h1 h2 h3
    injection h1 with h1
    injection h1 with h1
    subst h1; subst h3
    exact Or.inr ⟨g, k, cur, rfl, hb, c.trans hg, rest⟩
theorem own_base {w : World} {B C g N k : Nat} {e : TypeId} {xs : List Value} (h : w.ownsRow B e 1 (.slice (some ⟨g, 0, none⟩) N k) N xs) (c : C ≤ g) :
    w.ownsRow C e 1 (.slice (some ⟨g, 0, none⟩) N k) N xs := by
  refine ⟨h.1, ?_⟩
  rcases h.2 with hn | ⟨g', cap, cur, hv, hb, hg, rest⟩
  · exact Or.inl hn
  · injection hv with h1 h2 h3
    injection h1 with h1
    injection h1 with h1
    subst h1; subst h3
    exact Or.inr ⟨g, k, cur, rfl, c, hg, rest⟩
theorem own_cap {w : World} {B g N k : Nat} {e : TypeId} {xs : List Value} (h : w.ownsRow B e 1 (.slice (some ⟨g, 0, none⟩) N k) N xs) : N ≤ k ∧ k ≤ 9223372036854775807 ∧ g < w.heap.size := by
  have hl := (h.lt g rfl).2
  rcases h.2 with ⟨hn, _⟩ | ⟨g', cap, cur, hv, hb, hg, c1, c2, rest⟩
  · cases hn
  · injection hv with h1 h2 h3
    subst h3
    exact ⟨c1, by unfold maxLen at c2; omega, hl⟩

/-- what lies in memory -/
structure MemAt (w : World) (p g1 k1 g2 k2 : Nat) (R : List (List Nat)) : Prop where
  box : w.heap[p]? = some (.cells #[.slice (some ⟨g1, 0, none⟩) R.flatten.length k1, .slice (some ⟨g2, 0, none⟩) (R.length + 1) k2] 57 (0, 0))
  row : w.ownsRow 0 40 1 (.slice (some ⟨g1, 0, none⟩) R.flatten.length k1) R.flatten.length (uL R.flatten)
  edg : w.ownsRow 0 3 1 (.slice (some ⟨g2, 0, none⟩) (R.length + 1) k2) (R.length + 1) (eL R)
  n1 : p ≠ g1
  n2 : p ≠ g2
  n3 : g1 ≠ g2
  full : RmFull R
  pos : 1 ≤ R.length
theorem MemAt.heap {w w' : World} {p g1 k1 g2 k2 : Nat} {R : List (List Nat)} (h : MemAt w p g1 k1 g2 k2 R) (a : w'.heap[p]? = w.heap[p]?) (b : w'.heap[g1]? = w.heap[g1]?) (c : w'.heap[g2]? = w.heap[g2]?) : MemAt w' p g1 k1 g2 k2 R :=
  ⟨a.trans h.box, own_heap h.row b, own_heap h.edg c, h.n1, h.n2, h.n3, h.full, h.pos⟩
theorem MemAt.lt {w : World} {p g1 k1 g2 k2 : Nat} {R : List (List Nat)} (h : MemAt w p g1 k1 g2 k2 R) : p < w.heap.size ∧ g1 < w.heap.size ∧ g2 < w.heap.size :=
  ⟨heap_lt h.box, (own_cap h.row).2.2, (own_cap h.edg).2.2⟩
theorem MemAt.bel {w w' : World} {p g1 k1 g2 k2 : Nat} {R : List (List Nat)} (h : MemAt w p g1 k1 g2 k2 R) (g : Bel w w') : MemAt w' p g1 k1 g2 k2 R :=
  h.heap (g.block _ h.lt.1) (g.block _ h.lt.2.1) (g.block _ h.lt.2.2)

/-- a memory of the program, in blocks lo to below hi -/
def IsMem (w : World) (v : Value) (lo hi : Nat) (R : List (List Nat)) : Prop :=
  ∃ p g1 k1 g2 k2, v = .pointer (some ⟨p, 0, none⟩) ∧ (lo ≤ p ∧ p < hi) ∧ (lo ≤ g1 ∧ g1 < hi) ∧ (lo ≤ g2 ∧ g2 < hi) ∧ MemAt w p g1 k1 g2 k2 R
/-- a memory that no call made: its zero value, in block b -/
def IsZero (w : World) (b : Nat) : Prop := w.heap[b]? = some (.cells #[.slice none 0 0, .slice none 0 0] 57 (0, 0))
/-- its blocks -/
def Own (lo hi : Nat) (k : Nat) : Prop := lo ≤ k ∧ k < hi
def wordsE (R : List (List Nat)) (t : Int) : Int := if t < 0 ∨ (R.length : Int) ≤ t then 2 else 0
def wordsR (R : List (List Nat)) (t : Int) : List Nat := if wordsE R t = 0 then R.getD t.toNat [] else []

theorem IsMem.keep {w w' : World} {v : Value} {lo hi : Nat} {R : List (List Nat)} (h : IsMem w v lo hi R) (g : ∀ k, lo ≤ k → k < hi → w'.heap[k]? = w.heap[k]?) : IsMem w' v lo hi R := by
  obtain ⟨p, g1, k1, g2, k2, rfl, a, b, c, m⟩ := h
  exact ⟨p, g1, k1, g2, k2, rfl, a, b, c, m.heap (g _ a.1 a.2) (g _ b.1 b.2) (g _ c.1 c.2)⟩
theorem IsZero.bel {w w' : World} {b : Nat} (h : IsZero w b) (g : Bel w w') : IsZero w' b := heap_bel g h

/-- cells that the walks read -/
theorem MemAt.c0 {w : World} {p g1 k1 g2 k2 : Nat} {R : List (List Nat)} (h : MemAt w p g1 k1 g2 k2 R) : w.cell? ⟨p, 0, none⟩ = some (.slice (some ⟨g1, 0, none⟩) R.flatten.length k1) := cell_of_row _ _ 0 _ _ (0, 0) h.box
theorem MemAt.c1 {w : World} {p g1 k1 g2 k2 : Nat} {R : List (List Nat)} (h : MemAt w p g1 k1 g2 k2 R) : w.cell? ⟨p, 1, none⟩ = some (.slice (some ⟨g2, 0, none⟩) (R.length + 1) k2) := cell_of_row _ _ 1 _ _ (0, 0) h.box
theorem MemAt.edge {w : World} {p g1 k1 g2 k2 : Nat} {R : List (List Nat)} (h : MemAt w p g1 k1 g2 k2 R) {t : Nat} (ht : t < R.length + 1) : w.cell? ⟨g2, t, none⟩ = some (.int .i64 (offR R t : Nat)) :=
  (World.ownsRow.cellAt h.edg t (by omega)).trans (eL_get R ht)
theorem MemAt.word {w : World} {p g1 k1 g2 k2 : Nat} {R : List (List Nat)} (h : MemAt w p g1 k1 g2 k2 R) {j u : Nat} (hj : R.flatten[j]? = some u) : w.cell? ⟨g1, j, none⟩ = some (.int .u64 (u : Nat)) := by
  have := (List.getElem?_eq_some_iff.1 hj).1
  exact (World.ownsRow.cellAt h.row j (by omega)).trans (uL_get hj)
/-- one word turned; some turned to 0 -/
theorem MemAt.set {w : World} {p g1 k1 g2 k2 : Nat} {R : List (List Nat)} (h : MemAt w p g1 k1 g2 k2 R) {t : Nat} {l : List Nat} (ht : R[t]? = some l) {a : Nat} (ha : a < l.length) (u : Nat) :
    MemAt (w.setCell ⟨g1, offR R t + a, none⟩ (.int .u64 (u : Nat))) p g1 k1 g2 k2 (setR R t a u) := by
  refine ⟨?_, ?_, ?_, h.n1, h.n2, h.n3, h.full.set _ _ _, by rw [setR_len]; exact h.pos⟩
  · rw [flat_len_set, setR_len]
    exact (heap_setCell_other w _ _ _ h.n1).trans h.box
  · rw [flat_len_set, flat_set ht ha]
    exact own_set h.row _ _
  · rw [eL_set, setR_len]
    exact own_heap h.edg (heap_setCell_other w _ _ _ fun e => h.n3 e.symm)
theorem MemAt.wipe {w : World} {p g1 k1 g2 k2 : Nat} {R : List (List Nat)} (h : MemAt w p g1 k1 g2 k2 R) {t : Nat} {l : List Nat} (ht : R[t]? = some l) {a n : Nat} (ha : a + n ≤ l.length) :
    MemAt (w.setCells g1 (offR R t + a) (List.replicate n (.int .u64 0))) p g1 k1 g2 k2 (wipe R t a n) := by
  have hx := exc_sets g1 (List.replicate n (.int .u64 0)) (offR R t + a) w
  refine ⟨?_, ?_, ?_, h.n1, h.n2, h.n3, h.full.wipe _ _ _, by rw [wipe_len]; exact h.pos⟩
  · rw [flat_len_wipe, wipe_len]
    exact (hx.block _ h.lt.1 h.n1).trans h.box
  · rw [flat_len_wipe, flat_wipe ht a n ha]
    exact own_sets n _ _ _ h.row
  · rw [eL_wipe, wipe_len]
    exact own_heap h.edg (hx.block _ h.lt.2.2 fun e => h.n3 e.symm)

end Go.Proofs.Yteipadpifmjnmaa
