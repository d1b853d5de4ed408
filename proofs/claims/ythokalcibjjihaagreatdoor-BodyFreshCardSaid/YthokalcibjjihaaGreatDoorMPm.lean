/- THE PROGRAM'S MEMORIES: where the regions begin, in one row of words; what lies in memory. Numbers and lists; nothing of the program but for the types. -/
import Derived.Test.YthokalcibjjihaaGreatDoorMRsm
import Derived.Defers
import Derived.Recover
import Derived.Lib.SliceRun
import Derived.Deep.RegionHeld3
namespace Go.Proofs.YthokalcibjjihaaGreatDoor.mm
open Go.ChangeShapes Go.WideShapes Go.ChangeAt Go.RowKit Go.Deep
set_option linter.unusedVariables false

/-- where a region begins -/
def offR (R : List (List Nat)) (t : Nat) : Nat := ((R.take t).flatten).length
theorem offR_zero (R : List (List Nat)) : offR R 0 = 0 := by unfold offR; simp
theorem offR_succ {R : List (List Nat)} {t : Nat} {l : List Nat} (h : R[t]? = some l) : offR R (t + 1) = offR R t + l.length := by
  unfold offR
  rw [take_more h]
  simp
theorem offR_all (R : List (List Nat)) : offR R R.length = R.flatten.length := by unfold offR; rw [List.take_length]
theorem flat_split {R : List (List Nat)} {t : Nat} {l : List Nat} (h : R[t]? = some l) : R.flatten = (R.take t).flatten ++ (l ++ (R.drop (t + 1)).flatten) := by
  have ht := (List.getElem?_eq_some_iff.1 h).1
  have e : R.drop t = l :: R.drop (t + 1) := by
    rw [List.drop_eq_getElem_cons ht, (List.getElem?_eq_some_iff.1 h).2]
  conv => lhs; rw [← List.take_append_drop t R, e]
  simp
theorem flat_len {R : List (List Nat)} {t : Nat} {l : List Nat} (h : R[t]? = some l) : offR R t + l.length ≤ R.flatten.length := by
  rw [flat_split h]
  unfold offR
  simp
theorem flat_at {R : List (List Nat)} {t : Nat} {l : List Nat} (h : R[t]? = some l) {a : Nat} (ha : a < l.length) : R.flatten[offR R t + a]? = l[a]? := by
  rw [flat_split h]
  unfold offR
  rw [List.getElem?_append_right (by omega), Nat.add_sub_cancel_left, List.getElem?_append_left ha]
theorem setR_eq {R : List (List Nat)} {t : Nat} {l : List Nat} (h : R[t]? = some l) (a u : Nat) : setR R t a u = R.set t (l.set a u) := by
  have e : R.getD t [] = l := by rw [List.getD_eq_getElem?_getD, h]; rfl
  unfold setR
  rw [e]
theorem flat_set {R : List (List Nat)} {t : Nat} {l : List Nat} (h : R[t]? = some l) {a : Nat} (ha : a < l.length) (u : Nat) : (setR R t a u).flatten = R.flatten.set (offR R t + a) u := by
  have ht := (List.getElem?_eq_some_iff.1 h).1
  have h' : (setR R t a u)[t]? = some (l.set a u) := setR_here h
  rw [flat_split h', flat_split h, setR_eq h]
  have e1 : (R.set t (l.set a u)).take t = R.take t := by rw [List.take_set_of_le (Nat.le_refl _)]
  have e2 : (R.set t (l.set a u)).drop (t + 1) = R.drop (t + 1) := by rw [List.drop_set_of_lt (by omega)]
  rw [e1, e2]
  unfold offR
  rw [List.set_append_right _ _ (by omega), Nat.add_sub_cancel_left, List.set_append_left _ _ ha]
theorem lens_set (R : List (List Nat)) (t a u : Nat) : (setR R t a u).map List.length = R.map List.length := by
  apply List.ext_getElem?
  intro i
  have e := setR_row R t a u i
  simp only [List.getD_eq_getElem?_getD] at e
  rw [List.getElem?_map, List.getElem?_map]
  by_cases c : i < R.length
  · have c' : i < (setR R t a u).length := by rw [setR_len]; exact c
    rw [List.getElem?_eq_getElem c, List.getElem?_eq_getElem c'] at *
    simpa using e
  · rw [List.getElem?_eq_none (show (setR R t a u).length ≤ i by rw [setR_len]; omega), List.getElem?_eq_none (show R.length ≤ i by omega)]
theorem offR_lens (R : List (List Nat)) (t : Nat) : offR R t = ((R.map List.length).take t).sum := by
  unfold offR
  rw [List.length_flatten, List.map_take]
theorem offR_set (R : List (List Nat)) (t a u i : Nat) : offR (setR R t a u) i = offR R i := by
  rw [offR_lens, offR_lens, lens_set]
theorem flat_len_set (R : List (List Nat)) (t a u : Nat) : (setR R t a u).flatten.length = R.flatten.length := by
  rw [List.length_flatten, List.length_flatten, lens_set]

/-- the beginnings, and the end -/
def eL (R : List (List Nat)) : List Value := (List.range (R.length + 1)).map fun t => .int .i64 (offR R t : Nat)
theorem eL_len (R : List (List Nat)) : (eL R).length = R.length + 1 := by unfold eL; simp
theorem eL_get (R : List (List Nat)) {t : Nat} (h : t < R.length + 1) : (eL R)[t]? = some (.int .i64 (offR R t : Nat)) := by unfold eL; rw [List.getElem?_map, List.getElem?_range h]; rfl
theorem eL_set (R : List (List Nat)) (t a u : Nat) : eL (setR R t a u) = eL R := by
  unfold eL
  rw [setR_len]
  exact List.map_congr_left fun i _ => by rw [offR_set]

/-- zeros, one by one, from the front -/
def wipeF (L : List Nat) (p : Nat) : Nat → List Nat
  | 0 => L
  | n + 1 => wipeF (L.set p 0) (p + 1) n
theorem wipeF_succ (n : Nat) : ∀ (L : List Nat) (p : Nat), wipeF L p (n + 1) = (wipeF L p n).set (p + n) 0 := by
  induction n with
  | zero => intro L p; rfl
  | succ n ih =>
    intro L p
    show wipeF (L.set p 0) (p + 1) (n + 1) = _
    rw [ih]
    show _ = (wipeF (L.set p 0) (p + 1) n).set _ 0
    rw [show p + 1 + n = p + (n + 1) by omega]
theorem offR_wipe (R : List (List Nat)) (t a i : Nat) : ∀ n, offR (wipe R t a n) i = offR R i
  | 0 => rfl
  | n + 1 => by show offR (setR (wipe R t a n) t (a + n) 0) i = _; rw [offR_set, offR_wipe R t a i n]
theorem eL_wipe (R : List (List Nat)) (t a : Nat) : ∀ n, eL (wipe R t a n) = eL R
  | 0 => rfl
  | n + 1 => by show eL (setR (wipe R t a n) t (a + n) 0) = _; rw [eL_set, eL_wipe R t a n]
theorem flat_len_wipe (R : List (List Nat)) (t a : Nat) : ∀ n, (wipe R t a n).flatten.length = R.flatten.length
  | 0 => rfl
  | n + 1 => by show (setR (wipe R t a n) t (a + n) 0).flatten.length = _; rw [flat_len_set, flat_len_wipe R t a n]
theorem flat_wipe {R : List (List Nat)} {t : Nat} {l : List Nat} (h : R[t]? = some l) (a : Nat) : ∀ n, a + n ≤ l.length → (wipe R t a n).flatten = wipeF R.flatten (offR R t + a) n
  | 0, _ => rfl
  | n + 1, hn => by
    obtain ⟨k, hk, hkl⟩ := wipe_at a h n
    show (setR (wipe R t a n) t (a + n) 0).flatten = _
    rw [flat_set hk (by omega), wipeF_succ, flat_wipe h a n (by omega), offR_wipe, Nat.add_assoc]

/-- cells turned one by one: the row's owner -/
theorem own_set {w : World} {B g N k : Nat} {e : TypeId} {L : List Nat} (h : w.ownsRow B e 1 (.slice (some ⟨g, 0, none⟩) N k) N (uL L)) (p u : Nat) :
    (w.setCell ⟨g, p, none⟩ (.int .u64 (u : Nat))).ownsRow B e 1 (.slice (some ⟨g, 0, none⟩) N k) N (uL (L.set p u)) := by
  have := (World.ownsRow.stored h p (.int .u64 (u : Nat))).1
  rwa [uL_set] at this
theorem own_sets {B g N k : Nat} {e : TypeId} : ∀ (n p : Nat) (L : List Nat) (w : World), w.ownsRow B e 1 (.slice (some ⟨g, 0, none⟩) N k) N (uL L) →
    (w.setCells g p (List.replicate n (.int .u64 0))).ownsRow B e 1 (.slice (some ⟨g, 0, none⟩) N k) N (uL (wipeF L p n))
  | 0, _, _, _, h => h
  | n + 1, p, L, w, h => own_sets n (p + 1) (L.set p 0) _ (own_set h p 0)
theorem exc_set (w : World) (g p : Nat) (x : Value) : Exc (fun k => k = g) w (w.setCell ⟨g, p, none⟩ x) :=
  ⟨rfl, rfl, rfl, (Below.setCell (Below.refl 0 w) (Nat.zero_le _) _).size, fun k _ hk => heap_setCell_other w _ k x hk⟩
theorem exc_sets (g : Nat) : ∀ (vs : List Value) (p : Nat) (w : World), Exc (fun k => k = g) w (w.setCells g p vs)
  | [], _, w => (Bel.refl w).exc
  | v :: r, p, w => (exc_set w g p v).trans (exc_sets g r (p + 1) _)
/-- an owned row in a block that lies as it lay -/
theorem own_heap {w w' : World} {B g N k : Nat} {e : TypeId} {xs : List Value} (h : w.ownsRow B e 1 (.slice (some ⟨g, 0, none⟩) N k) N xs) (c : w'.heap[g]? = w.heap[g]?) :
    w'.ownsRow B e 1 (.slice (some ⟨g, 0, none⟩) N k) N xs := by
  refine ⟨h.1, ?_⟩
  rcases h.2 with hn | ⟨g', cap, cur, hv, hb, hg, rest⟩
  · exact Or.inl hn
  · injection hv with h1 h2 h3
    injection h1 with h1
    injection h1 with h1
    subst h1; subst h3
    exact Or.inr ⟨g, k, cur, rfl, hb, c.trans hg, rest⟩
theorem own_base {w : World} {B C g N k : Nat} {e : TypeId} {xs : List Value} (h : w.ownsRow B e 1 (.slice (some ⟨g, 0, none⟩) N k) N xs) (c : C ≤ g) :
    w.ownsRow C e 1 (.slice (some ⟨g, 0, none⟩) N k) N xs := by
  refine ⟨h.1, ?_⟩
  rcases h.2 with hn | ⟨g', cap, cur, hv, hb, hg, rest⟩
  · exact Or.inl hn
  · injection hv with h1 h2 h3
    injection h1 with h1
    injection h1 with h1
    subst h1; subst h3
    exact Or.inr ⟨g, k, cur, rfl, c, hg, rest⟩
theorem own_cap {w : World} {B g N k : Nat} {e : TypeId} {xs : List Value} (h : w.ownsRow B e 1 (.slice (some ⟨g, 0, none⟩) N k) N xs) : N ≤ k ∧ k ≤ 9223372036854775807 ∧ g < w.heap.size := by
  have hl := (h.lt g rfl).2
  rcases h.2 with ⟨hn, _⟩ | ⟨g', cap, cur, hv, hb, hg, c1, c2, rest⟩
  · cases hn
  · injection hv with h1 h2 h3
    subst h3
    exact ⟨c1, by unfold maxLen at c2; omega, hl⟩

/-- what lies in memory -/
structure MemAt (w : World) (p g1 k1 g2 k2 : Nat) (R : List (List Nat)) : Prop where
  box : w.heap[p]? = some (.cells #[.slice (some ⟨g1, 0, none⟩) R.flatten.length k1, .slice (some ⟨g2, 0, none⟩) (R.length + 1) k2] 111 (0, 0))
  row : w.ownsRow 0 42 1 (.slice (some ⟨g1, 0, none⟩) R.flatten.length k1) R.flatten.length (uL R.flatten)
  edg : w.ownsRow 0 3 1 (.slice (some ⟨g2, 0, none⟩) (R.length + 1) k2) (R.length + 1) (eL R)
  n1 : p ≠ g1
  n2 : p ≠ g2
  n3 : g1 ≠ g2
  full : RmFull R
  pos : 1 ≤ R.length
theorem MemAt.heap {w w' : World} {p g1 k1 g2 k2 : Nat} {R : List (List Nat)} (h : MemAt w p g1 k1 g2 k2 R) (a : w'.heap[p]? = w.heap[p]?) (b : w'.heap[g1]? = w.heap[g1]?) (c : w'.heap[g2]? = w.heap[g2]?) : MemAt w' p g1 k1 g2 k2 R :=
  ⟨a.trans h.box, own_heap h.row b, own_heap h.edg c, h.n1, h.n2, h.n3, h.full, h.pos⟩
theorem MemAt.lt {w : World} {p g1 k1 g2 k2 : Nat} {R : List (List Nat)} (h : MemAt w p g1 k1 g2 k2 R) : p < w.heap.size ∧ g1 < w.heap.size ∧ g2 < w.heap.size :=
  ⟨heap_lt h.box, (own_cap h.row).2.2, (own_cap h.edg).2.2⟩
theorem MemAt.bel {w w' : World} {p g1 k1 g2 k2 : Nat} {R : List (List Nat)} (h : MemAt w p g1 k1 g2 k2 R) (g : Bel w w') : MemAt w' p g1 k1 g2 k2 R :=
  h.heap (g.block _ h.lt.1) (g.block _ h.lt.2.1) (g.block _ h.lt.2.2)

/-- a memory of the program, in blocks lo to below hi -/
def IsMem (w : World) (v : Value) (lo hi : Nat) (R : List (List Nat)) : Prop :=
  ∃ p g1 k1 g2 k2, v = .pointer (some ⟨p, 0, none⟩) ∧ (lo ≤ p ∧ p < hi) ∧ (lo ≤ g1 ∧ g1 < hi) ∧ (lo ≤ g2 ∧ g2 < hi) ∧ MemAt w p g1 k1 g2 k2 R
/-- a memory that no call made: its zero value, in block b -/
def IsZero (w : World) (b : Nat) : Prop := w.heap[b]? = some (.cells #[.slice none 0 0, .slice none 0 0] 111 (0, 0))
def wordsE (R : List (List Nat)) (t : Int) : Int := if t < 0 ∨ (R.length : Int) ≤ t then 2 else 0
def wordsR (R : List (List Nat)) (t : Int) : List Nat := if wordsE R t = 0 then R.getD t.toNat [] else []

theorem IsMem.keep {w w' : World} {v : Value} {lo hi : Nat} {R : List (List Nat)} (h : IsMem w v lo hi R) (g : ∀ k, lo ≤ k → k < hi → w'.heap[k]? = w.heap[k]?) : IsMem w' v lo hi R := by
  obtain ⟨p, g1, k1, g2, k2, rfl, a, b, c, m⟩ := h
  exact ⟨p, g1, k1, g2, k2, rfl, a, b, c, m.heap (g _ a.1 a.2) (g _ b.1 b.2) (g _ c.1 c.2)⟩
theorem IsZero.bel {w w' : World} {b : Nat} (h : IsZero w b) (g : Bel w w') : IsZero w' b := heap_bel g h

/-- cells that the walks read -/
theorem MemAt.c0 {w : World} {p g1 k1 g2 k2 : Nat} {R : List (List Nat)} (h : MemAt w p g1 k1 g2 k2 R) : w.cell? ⟨p, 0, none⟩ = some (.slice (some ⟨g1, 0, none⟩) R.flatten.length k1) := cell_of_row _ _ 0 _ _ (0, 0) h.box
theorem MemAt.c1 {w : World} {p g1 k1 g2 k2 : Nat} {R : List (List Nat)} (h : MemAt w p g1 k1 g2 k2 R) : w.cell? ⟨p, 1, none⟩ = some (.slice (some ⟨g2, 0, none⟩) (R.length + 1) k2) := cell_of_row _ _ 1 _ _ (0, 0) h.box
theorem MemAt.edge {w : World} {p g1 k1 g2 k2 : Nat} {R : List (List Nat)} (h : MemAt w p g1 k1 g2 k2 R) {t : Nat} (ht : t < R.length + 1) : w.cell? ⟨g2, t, none⟩ = some (.int .i64 (offR R t : Nat)) :=
  (World.ownsRow.cellAt h.edg t (by omega)).trans (eL_get R ht)
theorem MemAt.word {w : World} {p g1 k1 g2 k2 : Nat} {R : List (List Nat)} (h : MemAt w p g1 k1 g2 k2 R) {j u : Nat} (hj : R.flatten[j]? = some u) : w.cell? ⟨g1, j, none⟩ = some (.int .u64 (u : Nat)) := by
  have := (List.getElem?_eq_some_iff.1 hj).1
  exact (World.ownsRow.cellAt h.row j (by omega)).trans (uL_get hj)
/-- one word turned; some turned to 0 -/
theorem MemAt.set {w : World} {p g1 k1 g2 k2 : Nat} {R : List (List Nat)} (h : MemAt w p g1 k1 g2 k2 R) {t : Nat} {l : List Nat} (ht : R[t]? = some l) {a : Nat} (ha : a < l.length) (u : Nat) :
    MemAt (w.setCell ⟨g1, offR R t + a, none⟩ (.int .u64 (u : Nat))) p g1 k1 g2 k2 (setR R t a u) := by
  refine ⟨?_, ?_, ?_, h.n1, h.n2, h.n3, h.full.set _ _ _, by rw [setR_len]; exact h.pos⟩
  · rw [flat_len_set, setR_len]
    exact (heap_setCell_other w _ _ _ h.n1).trans h.box
  · rw [flat_len_set, flat_set ht ha]
    exact own_set h.row _ _
  · rw [eL_set, setR_len]
    exact own_heap h.edg (heap_setCell_other w _ _ _ fun e => h.n3 e.symm)
theorem MemAt.wipe {w : World} {p g1 k1 g2 k2 : Nat} {R : List (List Nat)} (h : MemAt w p g1 k1 g2 k2 R) {t : Nat} {l : List Nat} (ht : R[t]? = some l) {a n : Nat} (ha : a + n ≤ l.length) :
    MemAt (w.setCells g1 (offR R t + a) (List.replicate n (.int .u64 0))) p g1 k1 g2 k2 (wipe R t a n) := by
  have hx := exc_sets g1 (List.replicate n (.int .u64 0)) (offR R t + a) w
  refine ⟨?_, ?_, ?_, h.n1, h.n2, h.n3, h.full.wipe _ _ _, by rw [wipe_len]; exact h.pos⟩
  · rw [flat_len_wipe, wipe_len]
    exact (hx.block _ h.lt.1 h.n1).trans h.box
  · rw [flat_len_wipe, flat_wipe ht a n ha]
    exact own_sets n _ _ _ h.row
  · rw [eL_wipe, wipe_len]
    exact own_heap h.edg (hx.block _ h.lt.2.2 fun e => h.n3 e.symm)

end Go.Proofs.YthokalcibjjihaaGreatDoor.mm

/- Of the program's memories: exists, region, position; what gives up by a panic. -/
namespace Go.Proofs.YthokalcibjjihaaGreatDoor.mm
open Go.ChangeShapes Go.WideShapes Go.ChangeAt Go.RowKit Go.Deep
set_option linter.unusedVariables false

/-- a panic with an error of that number -/
abbrev gaveUp (x : Int) : Ending := .panicked [{ v := .iface 53 (.int .i64 x), recovered := false }]

theorem pex_yes (p n k : Nat) (a : Option Addr) (w : World) (h : w.cell? ⟨p, 1, none⟩ = some (.slice a n k)) (h1 : 1 ≤ n) (h2 : n ≤ 9223372036854775807) :
    Calls Tryz.prog 46 #[.pointer (some ⟨p, 0, none⟩)] w fun e w' => e = .returned (.bool true) ∧ w' = w := by
  have d : decide ((0 : Int) < (n : Int)) = true := decide_eq_true (by omega)
  have d2 : decide (0 < n) = true := decide_eq_true (by omega)
  go_enter Tryz.func46, Tryz.ntmps46
  go_wp2
  go_ret
  exact ⟨rfl, rfl⟩
theorem pex_no (p : Nat) (w : World) (h : w.cell? ⟨p, 1, none⟩ = some (.slice none 0 0)) :
    Calls Tryz.prog 46 #[.pointer (some ⟨p, 0, none⟩)] w fun e w' => e = .returned (.bool false) ∧ w' = w := by
  go_enter Tryz.func46, Tryz.ntmps46
  go_wp2
  go_ret
  exact ⟨rfl, rfl⟩
theorem pex_nil (w : World) :
    Calls Tryz.prog 46 #[.pointer none] w fun e w' => e = .returned (.bool false) ∧ w' = w := by
  go_enter Tryz.func46, Tryz.ntmps46
  go_wp2
  go_ret
  exact ⟨rfl, rfl⟩

/-- what is no memory -/
def NoMem (w : World) (v : Value) : Prop := v = .pointer none ∨ ∃ p, v = .pointer (some ⟨p, 0, none⟩) ∧ w.cell? ⟨p, 1, none⟩ = some (.slice none 0 0)
theorem pex_none (v : Value) (w : World) (h : NoMem w v) :
    Calls Tryz.prog 46 #[v] w fun e w' => e = .returned (.bool false) ∧ w' = w := by
  rcases h with rfl | ⟨p, rfl, h⟩
  · exact pex_nil w
  · exact pex_no p w h
theorem IsZero.none {w : World} {b : Nat} (h : IsZero w b) : NoMem w (.pointer (some ⟨b, 0, none⟩)) := Or.inr ⟨b, rfl, cell_of_row _ _ 1 _ _ (0, 0) h⟩
theorem NoMem.bel {w w' : World} {v : Value} (h : NoMem w v) (g : Bel w w') : NoMem w' v := by
  rcases h with h | ⟨p, e, h⟩
  · exact Or.inl h
  · exact Or.inr ⟨p, e, cell_bel g h⟩

theorem preg_none (v : Value) (t : Int) (w : World) (h : NoMem w v) :
    Calls Tryz.prog 90 #[v, .int .i64 t] w fun e w' => e = gaveUp 1 ∧ w' = w := by
  have hx := pex_none v w h
  clear h
  go_enter Tryz.func90, Tryz.ntmps90
  go_wp2_with (go_at_call 46; refine hx.mono ?_; rintro e w' ⟨rfl, rfl⟩)
  exact ⟨rfl, rfl, rfl⟩

/-- what region reads -/
structure Edges (w : World) (p g2 N k2 : Nat) : Prop where
  c1 : w.cell? ⟨p, 1, none⟩ = some (.slice (some ⟨g2, 0, none⟩) N k2)
  ge : 2 ≤ N
  le : N ≤ k2
  bd : k2 ≤ 9223372036854775807
theorem Edges.bel {w w' : World} {p g2 N k2 : Nat} (h : Edges w p g2 N k2) (g : Bel w w') : Edges w' p g2 N k2 := ⟨cell_bel g h.c1, h.ge, h.le, h.bd⟩

theorem preg_arg (p g2 N k2 : Nat) (t : Int) (w : World) (h : Edges w p g2 N k2) (ht : t < 0 ∨ (N : Int) - 1 ≤ t) :
    Calls Tryz.prog 90 #[.pointer (some ⟨p, 0, none⟩), .int .i64 t] w fun e w' => e = gaveUp 2 ∧ w' = w := by
  obtain ⟨c1, ge, le, bd⟩ := h
  have hx := pex_yes p N k2 _ w c1 (by omega) (by omega)
  by_cases t1 : t < 0
  · clear ht ge le bd
    go_enter Tryz.func90, Tryz.ntmps90
    go_wp2_with (go_at_call 46; refine hx.mono ?_; rintro e w' ⟨rfl, rfl⟩)
    exact ⟨rfl, rfl, rfl⟩
  · have d1 : decide (t < 0) = false := decide_eq_false t1
    obtain ⟨M, hM⟩ : ∃ M, (N : Int) - 1 = M := ⟨_, rfl⟩
    have d2 : decide (M ≤ t) = true := decide_eq_true (by omega)
    have d3 : IntKind.i64.wrap ((N : Int) - 1) = M := by rw [IntWalk.i64_in _ (by omega), hM]
    clear ht ge le bd t1 hM
    go_enter Tryz.func90, Tryz.ntmps90
    go_wp2_with (go_at_call 46; refine hx.mono ?_; rintro e w' ⟨rfl, rfl⟩)
    exact ⟨rfl, rfl, rfl⟩

set_option maxHeartbeats 1000000 in
theorem preg_yes (p g2 N k2 t b e : Nat) (w : World) (h : Edges w p g2 N k2) (ht : t + 1 < N) (cb : w.cell? ⟨g2, t, none⟩ = some (.int .i64 (b : Nat))) (ce : w.cell? ⟨g2, t + 1, none⟩ = some (.int .i64 (e : Nat))) :
    Calls Tryz.prog 90 #[.pointer (some ⟨p, 0, none⟩), .int .i64 (t : Nat)] w fun r w' => r = .returned (.tuple #[.int .i64 (b : Nat), .int .i64 (e : Nat)]) ∧ Bel w w' := by
  obtain ⟨c1, ge, le, bd⟩ := h
  have hx := pex_yes p N k2 _ w c1 (by omega) (by omega)
  obtain ⟨M, hM⟩ : ∃ M, (N : Int) - 1 = M := ⟨_, rfl⟩
  obtain ⟨s, hs⟩ : ∃ s, t + 1 = s := ⟨_, rfl⟩
  rw [hs] at ce ht
  have d0 : (0 : Int) ≤ (t : Int) := by omega
  have d1 : decide ((t : Int) < 0) = false := decide_eq_false (by omega)
  have d2 : decide (M ≤ (t : Int)) = false := decide_eq_false (by omega)
  have d3 : IntKind.i64.wrap ((N : Int) - 1) = M := by rw [IntWalk.i64_in _ (by omega), hM]
  have d4 : IntKind.i64.wrap ((t : Int) + 1) = (s : Int) := by rw [IntWalk.i64_in _ (by omega)]; omega
  have d5 : (t : Int) < (N : Int) := by omega
  have d6 : (s : Int) < (N : Int) := by omega
  have d7 : (0 : Int) ≤ (s : Int) := by omega
  clear ht ge le bd hM hs
  go_enter Tryz.func90, Tryz.ntmps90
  go_wp2_with (go_at_call 46; refine hx.mono ?_; rintro r w' ⟨rfl, rfl⟩)
  go_quiet (fail)
  go_wp2
  go_ret2
  exact ⟨rfl, Bel.drewN _ _⟩

/-! position. -/
theorem ppos_gives (v : Value) (t a n x : Int) (w : World) (h : Calls Tryz.prog 90 #[v, .int .i64 t] w fun e w' => e = gaveUp x ∧ w' = w) :
    Calls Tryz.prog 50 #[v, .int .i64 t, .int .i64 a, .int .i64 n] w fun e w' => e = gaveUp x ∧ w' = w := by
  go_enter Tryz.func50, Tryz.ntmps50
  go_wp2_with (go_at_call 90; refine h.mono ?_; rintro e w' ⟨rfl, rfl⟩)
  exact ⟨rfl, rfl, rfl⟩

theorem ppos_no (v : Value) (t a n : Int) (b e : Nat) (w : World) (h : Calls Tryz.prog 90 #[v, .int .i64 t] w fun r w' => r = .returned (.tuple #[.int .i64 (b : Nat), .int .i64 (e : Nat)]) ∧ Bel w w')
    (hbe : b ≤ e) (he : e ≤ 1000000) (hn : -9223372036854775808 ≤ n ∧ n ≤ 9223372036854775807) (no : a < 0 ∨ n < 0 ∨ (e : Int) - b - n < a) :
    Calls Tryz.prog 50 #[v, .int .i64 t, .int .i64 a, .int .i64 n] w fun e w' => e = gaveUp 4 ∧ Bel w w' := by
  by_cases a1 : a < 0
  · clear no hbe he hn
    go_enter Tryz.func50, Tryz.ntmps50
    go_wp2_with (go_at_call 90; refine h.mono ?_; rintro e w' ⟨rfl, hg⟩)
    exact ⟨rfl, rfl, hg⟩
  · have d1 : decide (a < 0) = false := decide_eq_false a1
    by_cases n1 : n < 0
    · clear no hbe he hn a1
      go_enter Tryz.func50, Tryz.ntmps50
      go_wp2_with (go_at_call 90; refine h.mono ?_; rintro e w' ⟨rfl, hg⟩)
      exact ⟨rfl, rfl, hg⟩
    · have d2 : decide (n < 0) = false := decide_eq_false n1
      obtain ⟨m, hm⟩ : ∃ m, (e : Int) - b = m := ⟨_, rfl⟩
      obtain ⟨r, hr⟩ : ∃ r, m - n = r := ⟨_, rfl⟩
      have w1 : IntKind.i64.wrap ((e : Int) - b) = m := by rw [IntWalk.i64_in _ (by omega), hm]
      have w2 : IntKind.i64.wrap (m - n) = r := by rw [IntWalk.i64_in _ (by omega), hr]
      have d3 : decide (r < a) = true := decide_eq_true (by omega)
      clear no hbe he hn a1 n1 hm hr
      go_enter Tryz.func50, Tryz.ntmps50
      go_wp2_with (go_at_call 90; refine h.mono ?_; rintro e w' ⟨rfl, hg⟩)
      exact ⟨rfl, rfl, hg⟩

theorem ppos_yes (v : Value) (t : Int) (a n b e : Nat) (w : World) (h : Calls Tryz.prog 90 #[v, .int .i64 t] w fun r w' => r = .returned (.tuple #[.int .i64 (b : Nat), .int .i64 (e : Nat)]) ∧ Bel w w')
    (he : e ≤ 1000000) (ha : b + a + n ≤ e) :
    Calls Tryz.prog 50 #[v, .int .i64 t, .int .i64 (a : Nat), .int .i64 (n : Nat)] w fun e w' => e = .returned (.int .i64 (b + a : Nat)) ∧ Bel w w' := by
  have d1 : decide ((a : Int) < 0) = false := decide_eq_false (by omega)
  have d2 : decide ((n : Int) < 0) = false := decide_eq_false (by omega)
  obtain ⟨m, hm⟩ : ∃ m, (e : Int) - b = m := ⟨_, rfl⟩
  obtain ⟨r, hr⟩ : ∃ r, m - (n : Int) = r := ⟨_, rfl⟩
  obtain ⟨s, hs⟩ : ∃ s, b + a = s := ⟨_, rfl⟩
  have w1 : IntKind.i64.wrap ((e : Int) - b) = m := by rw [IntWalk.i64_in _ (by omega), hm]
  have w2 : IntKind.i64.wrap (m - (n : Int)) = r := by rw [IntWalk.i64_in _ (by omega), hr]
  have w3 : IntKind.i64.wrap ((b : Int) + (a : Int)) = (s : Int) := by rw [IntWalk.i64_in _ (by omega)]; omega
  have d3 : decide (r < (a : Int)) = false := decide_eq_false (by omega)
  rw [hs]
  clear ha he hm hr hs
  go_enter Tryz.func50, Tryz.ntmps50
  go_wp2_with (go_at_call 90; refine h.mono ?_; rintro e w' ⟨rfl, hg⟩)
  go_ret
  exact ⟨rfl, hg⟩

/-! caught. -/
theorem caught_nil (w : World) : Calls Tryz.prog 49 #[.nilIface] w fun e w' => e = .returned (.int .i64 0) ∧ w' = w := by
  go_enter Tryz.func49, Tryz.ntmps49
  go_wp2
  go_ret
  exact ⟨rfl, rfl⟩
theorem caught_some (x : Int) (w : World) : Calls Tryz.prog 49 #[.iface 53 (.int .i64 x)] w fun e w' => e = .returned (.int .i64 x) ∧ w' = w := by
  have hq : ∀ w : World, (binOp BinOp.eql 20 (.iface 53 (.int .i64 x)) .nilIface).run Tryz.prog w = .ok (.bool false) w := fun _ => by kernel_rfl
  have ha : ∀ w : World, (Instr.typeAssert (.iface 53 (.int .i64 x)) 20 53 false).run Tryz.prog w = .ok (.int .i64 x) w := fun _ => by kernel_rfl
  go_enter Tryz.func49, Tryz.ntmps49
  go_wp2
  go_ret
  exact ⟨rfl, rfl⟩

end Go.Proofs.YthokalcibjjihaaGreatDoor.mm

/- The deferred closures of the program's memories. -/
namespace Go.Proofs.YthokalcibjjihaaGreatDoor.mm
open Go.ChangeShapes Go.WideShapes Go.ChangeAt Go.RowKit Go.Deep
set_option linter.unusedVariables false

theorem load_catch (q : Addr) (z x : Int) (older : List PanicEntry) (w : World) (hc : w.cell? q = some (.int .i64 z)) (hz : w.frozen? q = false) :
    CallsD Tryz.prog 127 #[.pointer (some q)] (.panicking ({ v := .iface 53 (.int .i64 x), recovered := false } :: older)) w fun e u' w' =>
      e = .returned (.tuple #[]) ∧ u' = .panicking ({ v := .iface 53 (.int .i64 x), recovered := true } :: older) ∧ w' = w.setCell q (.int .i64 x) := by
  have hk := caught_some x w
  refine callsD_of_wpS Tryz.func127 rfl fun c₀ cs hu => ?_
  apply wpS_region
  simp [wpOpsS, go_sem, recoverD, hu, Tryz.ntmps127]
  refine hk.mono ?_
  rintro e w' ⟨rfl, rfl⟩
  simp [go_sem, hc, hz, bodyPostS, results, Tryz.results127]
theorem load_idle (q : Addr) (z : Int) (w : World) (hc : w.cell? q = some (.int .i64 z)) (hz : w.frozen? q = false) :
    CallsD Tryz.prog 127 #[.pointer (some q)] .returning w fun e u' w' =>
      e = .returned (.tuple #[]) ∧ u' = .returning ∧ w' = w.setCell q (.int .i64 0) := by
  have hk := caught_nil w
  refine callsD_of_wpS Tryz.func127 rfl fun c₀ cs hu => ?_
  apply wpS_region
  simp [wpOpsS, go_sem, recoverD, hu, Tryz.ntmps127]
  refine hk.mono ?_
  rintro e w' ⟨rfl, rfl⟩
  cases c₀
  simp_all [go_sem, bodyPostS, results, Tryz.results127]

theorem store_catch (q : Addr) (z x : Int) (older : List PanicEntry) (w : World) (hc : w.cell? q = some (.int .i64 z)) (hz : w.frozen? q = false) :
    CallsD Tryz.prog 48 #[.pointer (some q)] (.panicking ({ v := .iface 53 (.int .i64 x), recovered := false } :: older)) w fun e u' w' =>
      e = .returned (.tuple #[]) ∧ u' = .panicking ({ v := .iface 53 (.int .i64 x), recovered := true } :: older) ∧ w' = w.setCell q (.int .i64 x) := by
  have hk := caught_some x w
  refine callsD_of_wpS Tryz.func48 rfl fun c₀ cs hu => ?_
  apply wpS_region
  simp [wpOpsS, go_sem, recoverD, hu, Tryz.ntmps48]
  refine hk.mono ?_
  rintro e w' ⟨rfl, rfl⟩
  simp [go_sem, hc, hz, bodyPostS, results, Tryz.results48]
theorem store_idle (q : Addr) (z : Int) (w : World) (hc : w.cell? q = some (.int .i64 z)) (hz : w.frozen? q = false) :
    CallsD Tryz.prog 48 #[.pointer (some q)] .returning w fun e u' w' =>
      e = .returned (.tuple #[]) ∧ u' = .returning ∧ w' = w.setCell q (.int .i64 0) := by
  have hk := caught_nil w
  refine callsD_of_wpS Tryz.func48 rfl fun c₀ cs hu => ?_
  apply wpS_region
  simp [wpOpsS, go_sem, recoverD, hu, Tryz.ntmps48]
  refine hk.mono ?_
  rintro e w' ⟨rfl, rfl⟩
  cases c₀
  simp_all [go_sem, bodyPostS, results, Tryz.results48]

theorem zero_catch (q : Addr) (z x : Int) (older : List PanicEntry) (w : World) (hc : w.cell? q = some (.int .i64 z)) (hz : w.frozen? q = false) :
    CallsD Tryz.prog 94 #[.pointer (some q)] (.panicking ({ v := .iface 53 (.int .i64 x), recovered := false } :: older)) w fun e u' w' =>
      e = .returned (.tuple #[]) ∧ u' = .panicking ({ v := .iface 53 (.int .i64 x), recovered := true } :: older) ∧ w' = w.setCell q (.int .i64 x) := by
  have hk := caught_some x w
  refine callsD_of_wpS Tryz.func94 rfl fun c₀ cs hu => ?_
  apply wpS_region
  simp [wpOpsS, go_sem, recoverD, hu, Tryz.ntmps94]
  refine hk.mono ?_
  rintro e w' ⟨rfl, rfl⟩
  simp [go_sem, hc, hz, bodyPostS, results, Tryz.results94]
theorem zero_idle (q : Addr) (z : Int) (w : World) (hc : w.cell? q = some (.int .i64 z)) (hz : w.frozen? q = false) :
    CallsD Tryz.prog 94 #[.pointer (some q)] .returning w fun e u' w' =>
      e = .returned (.tuple #[]) ∧ u' = .returning ∧ w' = w.setCell q (.int .i64 0) := by
  have hk := caught_nil w
  refine callsD_of_wpS Tryz.func94 rfl fun c₀ cs hu => ?_
  apply wpS_region
  simp [wpOpsS, go_sem, recoverD, hu, Tryz.ntmps94]
  refine hk.mono ?_
  rintro e w' ⟨rfl, rfl⟩
  cases c₀
  simp_all [go_sem, bodyPostS, results, Tryz.results94]

theorem words_catch (q : Addr) (z x : Int) (older : List PanicEntry) (w : World) (hc : w.cell? q = some (.int .i64 z)) (hz : w.frozen? q = false) :
    CallsD Tryz.prog 109 #[.pointer (some q)] (.panicking ({ v := .iface 53 (.int .i64 x), recovered := false } :: older)) w fun e u' w' =>
      e = .returned (.tuple #[]) ∧ u' = .panicking ({ v := .iface 53 (.int .i64 x), recovered := true } :: older) ∧ w' = w.setCell q (.int .i64 x) := by
  have hk := caught_some x w
  refine callsD_of_wpS Tryz.func109 rfl fun c₀ cs hu => ?_
  apply wpS_region
  simp [wpOpsS, go_sem, recoverD, hu, Tryz.ntmps109]
  refine hk.mono ?_
  rintro e w' ⟨rfl, rfl⟩
  simp [go_sem, hc, hz, bodyPostS, results, Tryz.results109]
theorem words_idle (q : Addr) (z : Int) (w : World) (hc : w.cell? q = some (.int .i64 z)) (hz : w.frozen? q = false) :
    CallsD Tryz.prog 109 #[.pointer (some q)] .returning w fun e u' w' =>
      e = .returned (.tuple #[]) ∧ u' = .returning ∧ w' = w.setCell q (.int .i64 0) := by
  have hk := caught_nil w
  refine callsD_of_wpS Tryz.func109 rfl fun c₀ cs hu => ?_
  apply wpS_region
  simp [wpOpsS, go_sem, recoverD, hu, Tryz.ntmps109]
  refine hk.mono ?_
  rintro e w' ⟨rfl, rfl⟩
  cases c₀
  simp_all [go_sem, bodyPostS, results, Tryz.results109]

end Go.Proofs.YthokalcibjjihaaGreatDoor.mm

/- Load of the program's memories. -/
namespace Go.Proofs.YthokalcibjjihaaGreatDoor.mm
open Go.ChangeShapes Go.WideShapes Go.ChangeAt Go.RowKit Go.Deep
set_option linter.unusedVariables false

/-- a box of one cell, the first that the call made -/
structure Bx (w W : World) (a : Value) (t : TypeId) : Prop where
  heap : W.heap[w.heap.size]? = some (.cells #[a] t (0, 0))
  bel : Bel w W
theorem Bx.made {w W : World} {a : Value} {t : TypeId} (h : Bel (w.alloc (.cells #[a] t)) W) : Bx w W a t := ⟨box_at h, ((Bel.refl w).alloc _).trans h⟩
theorem Bx.cell {w W : World} {a : Value} {t : TypeId} (h : Bx w W a t) : W.cell? ⟨w.heap.size, 0, none⟩ = some a := cell_of_row _ _ 0 _ _ (0, 0) h.heap
theorem Bx.free {w W : World} {a : Value} {t : TypeId} (h : Bx w W a t) : W.frozen? ⟨w.heap.size, 0, none⟩ = false := frozen_of_row _ _ 0 _ _ h.heap
theorem Bx.set {w W : World} {a : Value} {t : TypeId} (h : Bx w W a t) (x : Value) : Bx w (W.setCell ⟨w.heap.size, 0, none⟩ x) x t :=
  ⟨heap_setCell_same W _ 0 _ t x h.heap, set_bel h.bel (Nat.le_refl _) _ _⟩
theorem Bx.go {w W W' : World} {a : Value} {t : TypeId} (h : Bx w W a t) (g : Bel W W') : Bx w W' a t := ⟨heap_bel g h.heap, h.bel.trans g⟩
theorem hmf (fn : Fn) (first cap : Array Value) (w : World) : (Instr.makeFunc fn first cap).run Tryz.prog w = .ok (.func fn first cap) w := rfl

theorem pl_no (v : Value) (t a x : Int) (w : World) (h : ∀ W, Bel w W → Calls Tryz.prog 50 #[v, .int .i64 t, .int .i64 a, .int .i64 1] W fun e w' => e = gaveUp x ∧ Bel W w') :
    Calls Tryz.prog 103 #[v, .int .i64 t, .int .i64 a] w fun e w' => e = .returned (.tuple #[.int .u64 0, .int .i64 x]) ∧ Bel w w' := by
  have hm := hmf
  go_enter_defers Tryz.func103, Tryz.ntmps103
  go_wp2_with (go_at_call 50; refine (h _ ((Bel.refl w).alloc _)).mono ?_; rintro e w' ⟨rfl, hg⟩)
  have B := Bx.made hg
  have B1 := B.set (.int .i64 x)
  refine leaves_cons (f := 127) (args := #[.pointer (some ⟨w.heap.size, 0, none⟩)]) (by simp) (by simp [go_sem]) ?_
  refine (load_catch _ 0 x [] _ B.cell B.free).mono ?_
  rintro e u' w'' ⟨rfl, rfl, rfl⟩
  simp [Leaves, settle, results, Tryz.results103, go_sem, B1.cell, B1.bel]

theorem pl_yes (p g1 n k1 j u : Nat) (t a : Int) (w : World) (c0 : w.cell? ⟨p, 0, none⟩ = some (.slice (some ⟨g1, 0, none⟩) n k1)) (cj : w.cell? ⟨g1, j, none⟩ = some (.int .u64 (u : Nat))) (hj : j < n)
    (h : ∀ W, Bel w W → Calls Tryz.prog 50 #[.pointer (some ⟨p, 0, none⟩), .int .i64 t, .int .i64 a, .int .i64 1] W fun e w' => e = .returned (.int .i64 (j : Nat)) ∧ Bel W w') :
    Calls Tryz.prog 103 #[.pointer (some ⟨p, 0, none⟩), .int .i64 t, .int .i64 a] w fun e w' => e = .returned (.tuple #[.int .u64 (u : Nat), .int .i64 0]) ∧ Bel w w' := by
  have hm := hmf
  have j1 : (j : Int) < (n : Int) := by omega
  have j0 : (0 : Int) ≤ (j : Int) := by omega
  clear hj
  go_enter_defers Tryz.func103, Tryz.ntmps103
  go_wp2_with (go_at_call 50; refine (h _ ((Bel.refl w).alloc _)).mono ?_; rintro e w' ⟨rfl, hg⟩; have b0 := (Bx.made hg).cell; have f0 := (Bx.made hg).free; have q0 := cell_bel (((Bel.refl w).alloc _).trans hg) c0; have qj := cell_bel (((Bel.refl w).alloc _).trans hg) cj)
  have B1 := (Bx.made hg).set (.int .i64 0)
  have B2 := B1.set (.int .i64 0)
  refine leaves_cons (f := 127) (args := #[.pointer (some ⟨w.heap.size, 0, none⟩)]) (by simp) (by simp [go_sem]) ?_
  refine (load_idle _ 0 _ B1.cell B1.free).mono ?_
  rintro e u' w'' ⟨rfl, rfl, rfl⟩
  simp [Leaves, settle, results, Tryz.results103, go_sem, B2.cell, B2.bel]

end Go.Proofs.YthokalcibjjihaaGreatDoor.mm

/- Store and Zero of the program's memories. -/
namespace Go.Proofs.YthokalcibjjihaaGreatDoor.mm
open Go.ChangeShapes Go.WideShapes Go.ChangeAt Go.RowKit Go.Deep
set_option linter.unusedVariables false

theorem _root_.Go.Proofs.YthokalcibjjihaaGreatDoor.Exc.new {X Z : Nat → Prop} {a b c : World} (h : Exc X a b) (g : Exc Z b c) (hz : ∀ k, Z k → a.heap.size ≤ k ∨ X k) : Exc X a c :=
  ⟨g.os.trans h.os, g.tape.trans h.tape, g.output.trans h.output, Nat.le_trans h.size g.size, fun k hk hx => (g.block k (Nat.lt_of_lt_of_le hk h.size) fun y => by rcases hz k y with e | e; · omega
                                                                                                                                                                   · exact hx e).trans (h.block k hk hx)⟩
theorem MemAt.away {w w' : World} {p g1 k1 g2 k2 : Nat} {R : List (List Nat)} (h : MemAt w p g1 k1 g2 k2 R) {Z : Nat → Prop} (g : Exc Z w w') (h1 : ¬ Z p) (h2 : ¬ Z g1) (h3 : ¬ Z g2) : MemAt w' p g1 k1 g2 k2 R :=
  h.heap (g.block _ h.lt.1 h1) (g.block _ h.lt.2.1 h2) (g.block _ h.lt.2.2 h3)
theorem Bx.far {w W W' : World} {a : Value} {t : TypeId} (h : Bx w W a t) {Z : Nat → Prop} (g : Exc Z W W') (hz : ¬ Z w.heap.size) : W'.heap[w.heap.size]? = some (.cells #[a] t (0, 0)) :=
  (g.block _ (heap_lt h.heap) hz).trans h.heap

theorem ps_no (v : Value) (t a x : Int) (u : Nat) (w : World) (h : ∀ W, Bel w W → Calls Tryz.prog 50 #[v, .int .i64 t, .int .i64 a, .int .i64 1] W fun e w' => e = gaveUp x ∧ Bel W w') :
    Calls Tryz.prog 16 #[v, .int .i64 t, .int .i64 a, .int .u64 (u : Nat)] w fun e w' => e = .returned (.int .i64 x) ∧ Bel w w' := by
  have hm := hmf
  go_enter_defers Tryz.func16, Tryz.ntmps16
  go_wp2_with (go_at_call 50; refine (h _ ((Bel.refl w).alloc _)).mono ?_; rintro e w' ⟨rfl, hg⟩)
  have B := Bx.made hg
  have B1 := B.set (.int .i64 x)
  refine leaves_cons (f := 48) (args := #[.pointer (some ⟨w.heap.size, 0, none⟩)]) (by simp) (by simp [go_sem]) ?_
  refine (store_catch _ 0 x [] _ B.cell B.free).mono ?_
  rintro e u' w'' ⟨rfl, rfl, rfl⟩
  simp [Leaves, settle, results, Tryz.results16, go_sem, B1.cell, B1.bel]

theorem ps_yes (p g1 k1 g2 k2 : Nat) (R : List (List Nat)) (t a u : Nat) (l : List Nat) (T A : Int) (w : World) (hM : MemAt w p g1 k1 g2 k2 R) (ht : R[t]? = some l) (ha : a < l.length)
    (h : ∀ W, Bel w W → Calls Tryz.prog 50 #[.pointer (some ⟨p, 0, none⟩), .int .i64 T, .int .i64 A, .int .i64 1] W fun e w' => e = .returned (.int .i64 (offR R t + a : Nat)) ∧ Bel W w') :
    Calls Tryz.prog 16 #[.pointer (some ⟨p, 0, none⟩), .int .i64 T, .int .i64 A, .int .u64 (u : Nat)] w fun e w' => e = .returned (.int .i64 0) ∧ MemAt w' p g1 k1 g2 k2 (setR R t a u) ∧ Exc (fun k => k = g1) w w' := by
  have hm := hmf
  have hlt := hM.lt
  have fl := flat_len ht
  have flu := flat_at ht ha
  rw [List.getElem?_eq_getElem ha] at flu
  obtain ⟨y, hy⟩ : ∃ y, l[a] = y := ⟨_, rfl⟩
  rw [hy] at flu
  have set1 := fun W (g : Bel w W) => (hM.bel g).set ht ha u
  obtain ⟨j, hj⟩ : ∃ j, offR R t + a = j := ⟨_, rfl⟩
  obtain ⟨n, hn⟩ : ∃ n, R.flatten.length = n := ⟨_, rfl⟩
  have j1 : (j : Int) < (n : Int) := by omega
  have j0 : (0 : Int) ≤ (j : Int) := by omega
  rw [hj] at flu set1 h
  have c0 : ∀ W, Bel w W → W.cell? ⟨p, 0, none⟩ = some (.slice (some ⟨g1, 0, none⟩) n k1) := fun W g => hn ▸ (hM.bel g).c0
  have cj := fun W (g : Bel w W) => (hM.bel g).word flu
  have fj := fun W (g : Bel w W) => World.ownsRow.frozenAt (hM.bel g).row j
  have hid := Lib.hid (And.intro hM (And.intro hlt set1))
  clear hM hlt set1 fl flu hy ht ha hj hn
  go_enter_defers Tryz.func16, Tryz.ntmps16
  go_wp2_with (go_at_call 50
               refine (h _ ((Bel.refl w).alloc _)).mono ?_
               rintro e w' ⟨rfl, hg⟩
               have G := ((Bel.refl w).alloc (.cells #[.int .i64 0] 53)).trans hg
               have q0 := c0 _ G
               have qj := cj _ G
               have qf := fj _ G
               obtain ⟨W1, hW1⟩ : ∃ W1, w'.setCell ⟨g1, j, none⟩ (.int .u64 (u : Nat)) = W1 := ⟨_, rfl⟩
               have X1 : Exc (fun k => k = g1) w' W1 := hW1 ▸ exc_set w' g1 j _
               have hb1 := (Bx.made hg).far X1 (by have := hid.out.2.1; omega)
               have c1 := cell_of_row _ _ 0 _ _ (0, 0) hb1
               have f1 := frozen_of_row _ _ 0 _ _ hb1
               have hid1 := Lib.hid (And.intro X1 hb1)
               clear X1 hb1)
  obtain ⟨X1, hb1⟩ := hid1.out
  obtain ⟨hM, hlt, set1⟩ := hid.out
  have M1 := hW1 ▸ set1 _ G
  obtain ⟨_, _, W2, hW2, hb2, c2, X2⟩ := box_store (x := .int .i64 0) hb1
  obtain ⟨f2, _, W3, hW3, hb3, c3, X3⟩ := box_store (x := .int .i64 0) hb2
  have M3 := (M1.away X2 (by omega) (by omega) (by omega)).away X3 (by omega) (by omega) (by omega)
  have E3 : Exc (fun k => k = g1) w W3 := (((G.exc (X := fun k => k = g1)).trans X1).new X2 (fun k hk => Or.inl (by omega))).new X3 (fun k hk => Or.inl (by omega))
  rw [hW2]
  refine leaves_cons (f := 48) (args := #[.pointer (some ⟨w.heap.size, 0, none⟩)]) (by simp) (by simp [go_sem]) ?_
  refine (store_idle _ 0 _ c2 f2).mono ?_
  rintro e u' w'' ⟨rfl, rfl, rfl⟩
  rw [hW3]
  simp [Leaves, settle, results, Tryz.results16, go_sem, c3]
  exact ⟨M3, E3⟩

theorem pz_no (v : Value) (t a n x : Int) (w : World) (h : ∀ W, Bel w W → Calls Tryz.prog 50 #[v, .int .i64 t, .int .i64 a, .int .i64 n] W fun e w' => e = gaveUp x ∧ Bel W w') :
    Calls Tryz.prog 55 #[v, .int .i64 t, .int .i64 a, .int .i64 n] w fun e w' => e = .returned (.int .i64 x) ∧ Bel w w' := by
  have hm := hmf
  go_enter_defers Tryz.func55, Tryz.ntmps55
  go_wp2_with (go_at_call 50; refine (h _ ((Bel.refl w).alloc _)).mono ?_; rintro e w' ⟨rfl, hg⟩)
  have B := Bx.made hg
  have B1 := B.set (.int .i64 x)
  refine leaves_cons (f := 94) (args := #[.pointer (some ⟨w.heap.size, 0, none⟩)]) (by simp) (by simp [go_sem]) ?_
  refine (zero_catch _ 0 x [] _ B.cell B.free).mono ?_
  rintro e u' w'' ⟨rfl, rfl, rfl⟩
  simp [Leaves, settle, results, Tryz.results55, go_sem, B1.cell, B1.bel]

/-- a part of a row of words -/
theorem run_cut (g n k l m e : Nat) (he : l + m = e) (h : e ≤ k) : ∃ q c, (∀ w : World, (Instr.slice 49 (.slice (some ⟨g, 0, none⟩) n k) (some (.int .i64 (l : Nat))) (some (.int .i64 (e : Nat))) none).run Tryz.prog w = .ok (.slice q m c) w) ∧ (0 < m → q = some ⟨g, l, none⟩) ∧ m ≤ c ∧ c ≤ k := by
  obtain ⟨i0, hi, hz0, hz1, hz2⟩ := info_parts info_u64
  refine ⟨if k = l then some ⟨g, 0, none⟩ else some ⟨g, l, none⟩, k - l, fun w => ?_, fun hm => if_neg (by omega), by omega, by omega⟩
  have e2 : l ≤ e := by omega
  have e3 : e - l = m := by omega
  have e4 : (⟨g, 0, none⟩ : Addr).add l = ⟨g, l, none⟩ := by rw [add_plain]; simp
  simp [Instr.slice, Instr.sliceBounds, Instr.sliceBound, run_underlying Tryz.underlying49, asIntOf, sizeOf, typeInfo, hi, hz1, h, e2, e3, e4]

/-- such a part turned to 0 -/
theorem run_wiped {w : World} {p g1 k1 g2 k2 : Nat} {R : List (List Nat)} (hM : MemAt w p g1 k1 g2 k2 R) (q : Option Addr) (l m c : Nat) (hq : 0 < m → q = some ⟨g1, l, none⟩) (h : l + m ≤ R.flatten.length) (ty : TypeId) :
    (Builtin.clear_ #[49] ty #[.slice q m c]).run Tryz.prog w = .ok (.tuple #[]) (w.setCells g1 l (List.replicate m (.int .u64 0))) := by
  obtain ⟨i0, hi, hz0, hz1, hz2⟩ := info_parts info_u64
  by_cases hm : 0 < m
  · rw [hq hm]
    refine Lib.run_clear_slice w 49 42 ty (.int .u64 0) Tryz.underlying49 (fun w => by simp [zeroValue, typeInfo, hi, hz0]) rfl rfl g1 l m c hm (fun j hj => ?_) (fun j hj => World.ownsRow.frozenAt hM.row _)
    rw [hM.word (List.getElem?_eq_getElem (show l + j < R.flatten.length by omega))]
    rfl
  · obtain rfl : m = 0 := by omega
    cases q with
    | none => simp [Builtin.clear_, run_underlying Tryz.underlying49, World.setCells]
    | some a => simp [Builtin.clear_, run_underlying Tryz.underlying49, World.setCells]

theorem pz_yes (p g1 k1 g2 k2 : Nat) (R : List (List Nat)) (t a n : Nat) (l : List Nat) (T A : Int) (w : World) (hM : MemAt w p g1 k1 g2 k2 R) (ht : R[t]? = some l) (ha : a + n ≤ l.length)
    (h : ∀ W, Bel w W → Calls Tryz.prog 50 #[.pointer (some ⟨p, 0, none⟩), .int .i64 T, .int .i64 A, .int .i64 (n : Nat)] W fun e w' => e = .returned (.int .i64 (offR R t + a : Nat)) ∧ Bel W w') :
    Calls Tryz.prog 55 #[.pointer (some ⟨p, 0, none⟩), .int .i64 T, .int .i64 A, .int .i64 (n : Nat)] w fun e w' => e = .returned (.int .i64 0) ∧ MemAt w' p g1 k1 g2 k2 (wipe R t a n) ∧ Exc (fun k => k = g1) w w' := by
  have hm := hmf
  have hlt := hM.lt
  have fl := flat_len ht
  obtain ⟨nk, kb, _⟩ := own_cap hM.row
  have set1 := fun W (g : Bel w W) => (hM.bel g).wipe ht ha
  obtain ⟨q, c, hsl, hq, _, _⟩ := run_cut g1 R.flatten.length k1 (offR R t + a) n (offR R t + a + n) rfl (by omega)
  have hcl := fun W (g : Bel w W) => run_wiped (hM.bel g) q (offR R t + a) n c hq (by omega)
  have c0 : ∀ W, Bel w W → W.cell? ⟨p, 0, none⟩ = some (.slice (some ⟨g1, 0, none⟩) R.flatten.length k1) := fun W g => (hM.bel g).c0
  have eW : IntKind.i64.wrap (((offR R t + a : Nat) : Int) + ((n : Nat) : Int)) = ((offR R t + a + n : Nat) : Int) := by rw [IntWalk.i64_in _ (by omega)]; omega
  obtain ⟨j, hj⟩ : ∃ j, offR R t + a = j := ⟨_, rfl⟩
  rw [hj] at set1 h hsl hcl eW
  obtain ⟨e, he⟩ : ∃ e, j + n = e := ⟨_, rfl⟩
  rw [he] at hsl eW
  obtain ⟨N, hn⟩ : ∃ N, R.flatten.length = N := ⟨_, rfl⟩
  rw [hn] at hsl c0
  have hid := Lib.hid (And.intro hM (And.intro hlt (And.intro set1 hcl)))
  clear hM hlt set1 hcl fl ht ha hj hn nk kb he hq
  go_enter_defers Tryz.func55, Tryz.ntmps55
  go_wp2_with (go_at_call 50
               refine (h _ ((Bel.refl w).alloc _)).mono ?_
               rintro e w' ⟨rfl, hg⟩
               have G := ((Bel.refl w).alloc (.cells #[.int .i64 0] 53)).trans hg
               have q0 := c0 _ G
               have cl := hid.out.2.2.2 _ G
               obtain ⟨W1, hW1⟩ : ∃ W1, w'.setCells g1 j (List.replicate n (.int .u64 0)) = W1 := ⟨_, rfl⟩
               rw [hW1] at cl
               have X1 : Exc (fun k => k = g1) w' W1 := hW1 ▸ exc_sets g1 _ j w'
               have hb1 := (Bx.made hg).far X1 (by have := hid.out.2.1; omega)
               have c1 := cell_of_row _ _ 0 _ _ (0, 0) hb1
               have f1 := frozen_of_row _ _ 0 _ _ hb1
               have hid1 := Lib.hid (And.intro X1 (And.intro hb1 hW1))
               clear X1 hb1 hW1)
  obtain ⟨X1, hb1, hW1⟩ := hid1.out
  obtain ⟨hM, hlt, set1, _⟩ := hid.out
  have M1 := hW1 ▸ set1 _ G
  obtain ⟨_, _, W2, hW2, hb2, c2, X2⟩ := box_store (x := .int .i64 0) hb1
  obtain ⟨f2, _, W3, hW3, hb3, c3, X3⟩ := box_store (x := .int .i64 0) hb2
  have M3 := (M1.away X2 (by omega) (by omega) (by omega)).away X3 (by omega) (by omega) (by omega)
  have E3 : Exc (fun k => k = g1) w W3 := (((G.exc (X := fun k => k = g1)).trans X1).new X2 (fun k hk => Or.inl (by omega))).new X3 (fun k hk => Or.inl (by omega))
  rw [hW2]
  refine leaves_cons (f := 94) (args := #[.pointer (some ⟨w.heap.size, 0, none⟩)]) (by simp) (by simp [go_sem]) ?_
  refine (zero_idle _ 0 _ c2 f2).mono ?_
  rintro e u' w'' ⟨rfl, rfl, rfl⟩
  rw [hW3]
  simp [Leaves, settle, results, Tryz.results55, go_sem, c3]
  exact ⟨M3, E3⟩

end Go.Proofs.YthokalcibjjihaaGreatDoor.mm

/- Copies of rows: slices.Clone of words, of numbers. -/
namespace Go.Proofs.YthokalcibjjihaaGreatDoor.mm
open Go.ChangeShapes Go.WideShapes Go.ChangeAt Go.RowKit Go.Deep
set_option linter.unusedVariables false

theorem eqn64 (a : Option Addr) (n c : Nat) (w : World) : (binOp .eql 49 (.slice a n c) (.slice none 0 0)).run Tryz.prog w = .ok (.bool a.isNone) w := Lib.run_eql_slice_nil w _ _ a n c 0 0 Tryz.underlying49
theorem eqni (a : Option Addr) (n c : Nat) (w : World) : (binOp .eql 22 (.slice a n c) (.slice none 0 0)).run Tryz.prog w = .ok (.bool a.isNone) w := Lib.run_eql_slice_nil w _ _ a n c 0 0 Tryz.underlying22

theorem pcl64 (X : Nat → Prop) (v : Value) (l : List Nat) (w : World) (h : Ws X w v l) (h1 : 1 ≤ l.length) (h2 : l.length ≤ 1000000) :
    Calls Tryz.prog 47 #[v] w fun e w' => (∃ g cap, e = .returned (.slice (some ⟨g, 0, none⟩) l.length cap) ∧ Own64 w.heap.size w' (.slice (some ⟨g, 0, none⟩) l.length cap) l) ∧ Bel w w' := by
  have hI := h
  rcases h with ⟨rfl, _⟩ | ⟨b, off, c, rfl, _, _, _, _, _⟩
  · simp at h1
  have e0 := eqn64 (some ⟨b, off, none⟩) l.length c
  have e0' : ∀ w : World, (binOp .eql 49 (.slice (some ⟨b, off, none⟩) l.length c) (.slice none 0 0)).run Tryz.prog w = .ok (.bool false) w := e0
  clear e0
  have hid := Lib.hid (And.intro hI (And.intro h1 h2))
  clear hI h1 h2
  go_enter Tryz.func47, Tryz.ntmps47
  go_wp2_with (at_builtin
               refine wpList_appW rfl (.tmp 5) (.tmp 6) rfl w.heap.size _ [] rfl (World.ownsRow_made w #[] 0 (Nat.le_refl _) (Nat.zero_le _) rfl) _ l rfl (hid.out.1.bel ((Bel.refl w).alloc _)) hid.out.2.1 (by have := hid.out.2.2; simp; omega) (by rw [size_alloc1]; omega) ?_
               intro g n1 cap2 w1 hn1 hO1 hg1 hat1
               obtain rfl : n1 = l.length := by simpa using hn1
               have hO2 : Own64 w.heap.size w1 (.slice (some ⟨g, 0, none⟩) l.length cap2) l := by simpa using hO1
               have hB1 : Bel w w1 := Below.grown ((Bel.refl w).alloc (.cells #[] 42)) hg1 (by rw [size_alloc1]; omega) (fun k hk => Nat.le_of_eq (Option.some.inj hk))
               have hid3 := Lib.hid (And.intro hO2 hB1)
               clear hn1 hO1 hO2 hg1 hat1 hB1)
  go_ret
  exact ⟨⟨g, cap2, rfl, hid3.out.1⟩, hid3.out.2⟩
theorem pcl64_nil (w : World) :
    Calls Tryz.prog 47 #[.slice none 0 0] w fun e w' => e = .returned (.slice none 0 0) ∧ w' = w := by
  have e0 : ∀ w : World, (binOp .eql 49 (.slice none 0 0) (.slice none 0 0)).run Tryz.prog w = .ok (.bool true) w := eqn64 none 0 0
  go_enter Tryz.func47, Tryz.ntmps47
  go_wp2
  go_ret
  exact ⟨rfl, rfl⟩

/-- numbers appended to an owned row of numbers -/
theorem wpList_appI {ops : Array Oper} {rest : List Oper} {o : Oper} {a : Act} {Q : Exit → Act → World → Prop} {w : World} (hgd : o.guard = none) (s x : Operand)
    (ho : o.op = .call { callee := .builtin .append, args := #[s, x], argTypes := #[22, 22] })
    (B : Nat) (v : Value) (n : Nat) (xs : List Value) (hs : a.eval s = v) (hown : w.ownsRow B 3 1 v n xs) (ad : Addr) (m c : Nat) (ys : List Value) (hx : a.eval x = .slice (some ad) m c) (hl : ys.length = m) (hnews : ∀ j u, ys[j]? = some u → w.cell? (ad.add j) = some u) (h1 : ∀ u ∈ ys, u.oneCell' = true) (hk : 0 < m) (hn : n + m ≤ 1000000) (hB : B ≤ w.heap.size)
    (h : ∀ g cap w', w'.ownsRow B 3 1 (.slice (some ⟨g, 0, none⟩) (n + m) cap) (n + m) (xs ++ ys) → w.grownBy w' v.ownBlock → (v.ownBlock = some g ∨ g = w.heap.size) → wpList Tryz.prog ops Q rest (a.put o.dst (.slice (some ⟨g, 0, none⟩) (n + m) cap)) w') :
    wpList Tryz.prog ops Q (o :: rest) a w := by
  obtain ⟨i0, hi, hz0, hz1, hz2⟩ := info_parts info_num
  refine wpList_append_lies (P := Tryz.prog) w hgd s x 22 ho B 3 i0 (.int .i64 0) 1 8 Tryz.underlying22 hi hz0 hz1 hz2 rfl (by decide) v n xs hs hown ad m c ys hx (by omega) hnews h1 hk (by unfold maxLen; omega) (by omega) hB w.heap.size rfl ?_
  intro g cap' w' hown' hgrow hat hlt
  exact h g cap' w' hown' hgrow hat

theorem eL_one (R : List (List Nat)) : ∀ u ∈ eL R, u.oneCell' = true := by
  intro u hu
  unfold eL at hu
  obtain ⟨j, _, rfl⟩ := List.mem_map.1 hu
  rfl
theorem own_news {w : World} {B g n k : Nat} {e : TypeId} {xs : List Value} (h : w.ownsRow B e 1 (.slice (some ⟨g, 0, none⟩) n k) n xs) : ∀ j u, xs[j]? = some u → w.cell? ((⟨g, 0, none⟩ : Addr).add j) = some u := by
  intro j u hu
  have hl : xs.length = n := by have := h.1; omega
  have := (List.getElem?_eq_some_iff.1 hu).1
  rw [add_plain, Nat.zero_add, World.ownsRow.cellAt h j (by omega), hu]

end Go.Proofs.YthokalcibjjihaaGreatDoor.mm

/- Words, All, Copy of the program's memories. -/
namespace Go.Proofs.YthokalcibjjihaaGreatDoor.mm
open Go.ChangeShapes Go.WideShapes Go.ChangeAt Go.RowKit Go.Deep
set_option linter.unusedVariables false

theorem pw_no (v : Value) (t x : Int) (w : World) (h : ∀ W, Bel w W → Calls Tryz.prog 90 #[v, .int .i64 t] W fun e w' => e = gaveUp x ∧ w' = W) :
    Calls Tryz.prog 72 #[v, .int .i64 t] w fun e w' => e = .returned (.tuple #[.slice none 0 0, .int .i64 x]) ∧ Bel w w' := by
  have hm := hmf
  go_enter_defers Tryz.func72, Tryz.ntmps72
  go_wp2_with (go_at_call 90; refine (h _ ((Bel.refl w).alloc _)).mono ?_; rintro e w' ⟨rfl, rfl⟩)
  have B := Bx.made (Bel.refl (w.alloc (.cells #[.int .i64 0] 53)))
  refine leaves_cons (f := 109) (args := #[.pointer (some ⟨w.heap.size, 0, none⟩)]) (by simp) (by simp [go_sem]) ?_
  refine (words_catch _ 0 x [] _ B.cell B.free).mono ?_
  rintro e u' w'' ⟨rfl, rfl, rfl⟩
  simp [Leaves, settle, results, Tryz.results72, go_sem]
  exact (Bel.refl w).alloc _

/-- the words of one region, where they lie -/
theorem MemAt.part {w : World} {p g1 k1 g2 k2 : Nat} {R : List (List Nat)} (h : MemAt w p g1 k1 g2 k2 R) {t : Nat} {l : List Nat} (ht : R[t]? = some l) (c : Nat) (hc : l.length ≤ c) (hk : c ≤ k1) :
    Ws (fun _ => False) w (.slice (some ⟨g1, offR R t, none⟩) l.length c) l := by
  have kb := (own_cap h.row).2.1
  refine Or.inr ⟨g1, offR R t, c, rfl, (h.full.2 t l ht).1, hc, by omega, fun x => x, fun j u hj => h.word ?_⟩
  rw [flat_at ht (List.getElem?_eq_some_iff.1 hj).1]
  exact hj

theorem pw_yes (p g1 k1 g2 k2 : Nat) (R : List (List Nat)) (t : Nat) (l : List Nat) (w : World) (hM : MemAt w p g1 k1 g2 k2 R) (ht : R[t]? = some l)
    (h : ∀ W, Bel w W → Calls Tryz.prog 90 #[.pointer (some ⟨p, 0, none⟩), .int .i64 (t : Nat)] W fun r w' => r = .returned (.tuple #[.int .i64 (offR R t : Nat), .int .i64 (offR R t + l.length : Nat)]) ∧ Bel W w') :
    Calls Tryz.prog 72 #[.pointer (some ⟨p, 0, none⟩), .int .i64 (t : Nat)] w fun e w' => (∃ lv, e = .returned (.tuple #[lv, .int .i64 0]) ∧ Ws (fun k => k < w.heap.size) w' lv l) ∧ Bel w w' := by
  have hm := hmf
  have fl := flat_len ht
  obtain ⟨nk, kb, _⟩ := own_cap hM.row
  obtain ⟨l1, l2⟩ := hM.full.2 t l ht
  obtain ⟨q, c, hsl, hq, lc, ck⟩ := run_cut g1 R.flatten.length k1 (offR R t) l.length (offR R t + l.length) rfl (by omega)
  obtain rfl := hq (by omega)
  have cl := fun W (g : Bel w W) => pcl64 _ _ l W ((hM.bel g).part ht c lc ck) l1 (by omega)
  have c0 : ∀ W, Bel w W → W.cell? ⟨p, 0, none⟩ = some (.slice (some ⟨g1, 0, none⟩) R.flatten.length k1) := fun W g => (hM.bel g).c0
  obtain ⟨b, hb⟩ : ∃ b, offR R t = b := ⟨_, rfl⟩
  obtain ⟨e, he⟩ : ∃ e, b + l.length = e := ⟨_, rfl⟩
  obtain ⟨N, hN⟩ : ∃ N, R.flatten.length = N := ⟨_, rfl⟩
  obtain ⟨m, hmm⟩ : ∃ m, l.length = m := ⟨_, rfl⟩
  rw [hb] at h hsl cl
  rw [he] at h hsl
  rw [hN] at hsl c0
  rw [hmm] at hsl cl
  have hid := Lib.hid hmm
  clear hM fl nk kb l1 l2 hq lc ck hb he hN hmm ht
  go_enter_defers Tryz.func72, Tryz.ntmps72
  go_wp2_with (first
    | (go_at_call 90
       refine (h _ ((Bel.refl w).alloc _)).mono ?_
       rintro e w' ⟨rfl, hg⟩
       have G := ((Bel.refl w).alloc (.cells #[.int .i64 0] 53)).trans hg
       have q0 := c0 _ G
       have B := Lib.hid (Bx.made hg))
    | (go_at_call 47
       refine (cl _ G).mono ?_
       rintro e w1 ⟨⟨g, cap, rfl, hO⟩, hg1⟩
       have B1 := Lib.hid (B.out.go hg1)
       have k0 := B1.out.cell
       have f0 := B1.out.free
       have hO' := Lib.hid hO
       clear hO))
  obtain ⟨_, _, W2, hW2, hb2, c2, X2⟩ := box_store (x := .int .i64 0) B1.out.heap
  obtain ⟨f2, _, W3, hW3, hb3, c3, X3⟩ := box_store (x := .int .i64 0) hb2
  rw [hW2]
  refine leaves_cons (f := 109) (args := #[.pointer (some ⟨w.heap.size, 0, none⟩)]) (by simp) (by simp [go_sem]) ?_
  refine (words_idle _ 0 _ c2 f2).mono ?_
  rintro e u' w'' ⟨rfl, rfl, rfl⟩
  rw [hW3]
  simp [Leaves, settle, results, Tryz.results72, go_sem, c3]
  have hgl := (hO'.out.lt g rfl)
  have sz := hg.size
  rw [size_alloc1] at sz
  have hE := hid.out
  subst hE
  refine ⟨?_, ?_⟩
  · have O3 : Own64 w'.heap.size W3 (.slice (some ⟨g, 0, none⟩) l.length cap) l := own_heap hO'.out ((X3.block _ (by have := X2.size; omega) (by omega)).trans (X2.block _ hgl.2 (by omega)))
    exact O3.ws fun k hk e hx => by
      have := hgl.1
      injection e with e
      omega
  · have E := ((B1.out.bel.exc (X := fun _ => False)).new X2 (fun k hk => Or.inl (by omega))).new X3 (fun k hk => Or.inl (by omega))
    exact ⟨E.os, E.tape, E.output, E.size, fun k hk => E.block k hk fun x => x⟩

/-! All. -/
theorem pa_none (v : Value) (w : World) (h : NoMem w v) :
    Calls Tryz.prog 14 #[v] w fun e w' => e = .returned (.slice none 0 0) ∧ w' = w := by
  have hx := pex_none v w h
  clear h
  go_enter Tryz.func14, Tryz.ntmps14
  go_wp2_with (go_at_call 46; refine hx.mono ?_; rintro e w' ⟨rfl, rfl⟩)
  go_ret
  exact ⟨rfl, rfl⟩

theorem flat_bd {R : List (List Nat)} (h : RmFull R) (h1 : 1 ≤ R.length) : 1 ≤ R.flatten.length ∧ R.flatten.length ≤ 1000000 := by
  have a := take_flat_len h R.length
  rw [List.take_length] at a
  have b := h.1
  obtain ⟨c, _⟩ := h.2 0 R[0] (List.getElem?_eq_getElem (by omega))
  have d := flat_len (List.getElem?_eq_getElem (l := R) (i := 0) (by omega))
  refine ⟨by omega, ?_⟩
  have := Nat.mul_le_mul_right 100000 b
  omega
theorem MemAt.ws {w : World} {p g1 k1 g2 k2 : Nat} {R : List (List Nat)} (h : MemAt w p g1 k1 g2 k2 R) : Ws (fun _ => False) w (.slice (some ⟨g1, 0, none⟩) R.flatten.length k1) R.flatten :=
  Own64.ws (B := 0) h.row fun k _ _ x => x
theorem MemAt.has {w : World} {p g1 k1 g2 k2 : Nat} {R : List (List Nat)} (h : MemAt w p g1 k1 g2 k2 R) : Calls Tryz.prog 46 #[.pointer (some ⟨p, 0, none⟩)] w fun e w' => e = .returned (.bool true) ∧ w' = w :=
  pex_yes p (R.length + 1) k2 _ w h.c1 (by omega) (by have := h.full.1; omega)

theorem pa_yes (p g1 k1 g2 k2 : Nat) (R : List (List Nat)) (w : World) (hM : MemAt w p g1 k1 g2 k2 R) :
    Calls Tryz.prog 14 #[.pointer (some ⟨p, 0, none⟩)] w fun e w' => (∃ g cap, e = .returned (.slice (some ⟨g, 0, none⟩) R.flatten.length cap) ∧ Own64 w.heap.size w' (.slice (some ⟨g, 0, none⟩) R.flatten.length cap) R.flatten) ∧ Bel w w' := by
  obtain ⟨f1, f2⟩ := flat_bd hM.full hM.pos
  have hx := hM.has
  have cl := pcl64 _ _ _ w hM.ws f1 f2
  have c0 := hM.c0
  clear hM f1 f2
  generalize R.flatten = L at *
  go_enter Tryz.func14, Tryz.ntmps14
  go_wp2_with (first
    | (go_at_call 46; refine hx.mono ?_; rintro e w' ⟨rfl, rfl⟩)
    | (go_at_call 47; refine cl.mono ?_; rintro e w1 ⟨⟨g, cap, rfl, hO⟩, hg1⟩; have hO' := Lib.hid hO; clear hO))
  go_ret
  exact ⟨⟨g, cap, rfl, hO'.out⟩, hg1⟩

/-! Copy. -/
/-- a memory, made out of two rows of its own -/
theorem mem_made {w1 w2 : World} {B ga ka gi ki : Nat} {R : List (List Nat)} (hA : Own64 B w1 (.slice (some ⟨ga, 0, none⟩) R.flatten.length ka) R.flatten) (hI : w2.ownsRow w1.heap.size 3 1 (.slice (some ⟨gi, 0, none⟩) (R.length + 1) ki) (R.length + 1) (eL R)) (hs : Bel w1 w2) (hf : RmFull R) (hp : 1 ≤ R.length) (hB : B ≤ w1.heap.size) :
    IsMem (w2.alloc (.cells #[.slice (some ⟨ga, 0, none⟩) R.flatten.length ka, .slice (some ⟨gi, 0, none⟩) (R.length + 1) ki] 111)) (.pointer (some ⟨w2.heap.size, 0, none⟩)) B (w2.heap.size + 1) R := by
  obtain ⟨a1, a2⟩ := hA.lt ga rfl
  obtain ⟨i1, i2⟩ := hI.lt gi rfl
  have sz := hs.size
  have g3 := (Bel.refl w2).alloc (.cells #[.slice (some ⟨ga, 0, none⟩) R.flatten.length ka, .slice (some ⟨gi, 0, none⟩) (R.length + 1) ki] 111)
  refine ⟨_, _, _, _, _, rfl, ⟨by omega, by omega⟩, ⟨a1, by omega⟩, ⟨by omega, by omega⟩, heap_alloc_new _ _, ?_, ?_, by omega, by omega, by omega, hf, hp⟩
  · exact own_base (own_heap hA ((g3.block _ (by omega)).trans (hs.block _ a2))) (Nat.zero_le _)
  · exact own_base (own_heap hI (g3.block _ i2)) (Nat.zero_le _)

end Go.Proofs.YthokalcibjjihaaGreatDoor.mm

/- New of the program's memories. -/
namespace Go.Proofs.YthokalcibjjihaaGreatDoor.mm
open Go.ChangeShapes Go.WideShapes Go.ChangeAt Go.RowKit Go.Deep
set_option linter.unusedVariables false

theorem offR_zeros {c : Cf} (ok : c.ok) : ∀ t, t ≤ c.m → (offR c.zeros t : Int) = c.base t
  | 0, _ => by rw [offR_zero]; rfl
  | t + 1, h => by
    have r := (Cf.region_bd ok (t := t) (by omega)).1
    rw [offR_succ (c.zeros_at (by omega)), List.length_replicate, Int.natCast_add, offR_zeros ok t (by omega), Cf.base_succ]
    omega
theorem flat_zeros {c : Cf} (ok : c.ok) : (c.zeros.flatten.length : Int) = c.base c.m ∧ c.zeros.flatten = List.replicate c.zeros.flatten.length 0 := by
  refine ⟨?_, ?_⟩
  · rw [← offR_all, Cf.zeros_len]
    exact offR_zeros ok _ (Nat.le_refl _)
  · refine List.eq_replicate_iff.2 ⟨rfl, fun b hb => ?_⟩
    obtain ⟨l, hl, hb⟩ := List.mem_flatten.1 hb
    unfold Cf.zeros at hl
    obtain ⟨t, _, rfl⟩ := List.mem_map.1 hl
    exact List.eq_of_mem_replicate hb

/-- one number more, behind an owned row of numbers -/
theorem wpList_pushI {ops : Array Oper} {rest : List Oper} {o : Oper} {a : Act} {Q : Exit → Act → World → Prop} {w : World} (hgd : o.guard = none) (s x : Operand)
    (ho : o.op = .call { callee := .builtin .append, args := #[s, x], argTypes := #[22, 22] })
    (B : Nat) (v : Value) (n : Nat) (xs : List Value) (y : Int) (hs : a.eval s = v) (hown : w.ownsRow B 3 1 v n xs) (hx : a.eval x = .slice (some ⟨w.heap.size, 0, none⟩) 1 1) (hn : n ≤ 1000) (hB : B ≤ w.heap.size)
    (h : ∀ g cap w', w'.ownsRow B 3 1 (.slice (some ⟨g, 0, none⟩) (n + 1) cap) (n + 1) (xs ++ [.int .i64 y]) → Below B w w' → wpList Tryz.prog ops Q rest (a.put o.dst (.slice (some ⟨g, 0, none⟩) (n + 1) cap)) w') :
    wpList Tryz.prog ops Q (o :: rest) a (w.alloc (.cells #[.int .i64 y] 3)) := by
  have g := (Bel.refl w).alloc (.cells #[.int .i64 y] 3)
  refine wpList_appI hgd s x ho B v n xs hs (World.ownsRow.alloc hown _) ⟨w.heap.size, 0, none⟩ 1 1 [.int .i64 y] hx rfl (World.news_of_block (cs := #[.int .i64 y]) (t := 3) (fr := (0, 0)) (heap_alloc_new w _)) (by simp [Value.oneCell']) (by omega) (by omega) (by rw [size_alloc1]; omega) ?_
  intro gg cap w' h1 h2 h3
  exact h gg cap w' h1 (Below.trans (g.mono hB) (Below.grown (Below.refl B _) h2 (by rw [size_alloc1]; omega) fun k hk => (hown.lt k hk).1))

theorem pn_no (v : Value) (c : Cf) (w : World) (h : IsCf w v c) (ok : ¬ c.ok) :
    Calls Tryz.prog 33 #[v] w fun e w' => e = .returned (.tuple #[.pointer none, .int .i64 2]) ∧ Bel w w' := by
  have hI := h
  obtain ⟨vc, vt, rfl, hN, hT⟩ := h
  have hb := (Bel.refl w).alloc (.cells #[vc, .int .i64 c.page, vt, .int .i64 c.wk, .int .i64 c.gr, .int .i64 c.gn] 25)
  have ch := ptot_any _ c _ (hI.bel hb)
  rw [Cf.totR_no ok, Cf.checkC_no ok] at ch
  clear hN hT hI ok
  generalize c.page = pg at *
  generalize c.wk = wk at *
  generalize c.gr = gr at *
  generalize c.gn = gn at *
  go_enter Tryz.func33, Tryz.ntmps33
  go_wp2_with (go_at_call 80; refine ch.mono ?_; rintro e w' ⟨rfl, hg⟩)
  go_ret2
  exact ⟨rfl, hb.trans hg⟩

/-- a box of two cells, the second one turned -/
theorem box2_store {w : World} {b : Nat} {a ov x : Value} {t : TypeId} (h : w.heap[b]? = some (.cells #[a, ov] t (0, 0))) :
    w.frozen? ⟨b, 1, none⟩ = false ∧ w.cell? ⟨b, 1, none⟩ = some ov ∧ ∃ W, w.setCell ⟨b, 1, none⟩ x = W ∧ W.heap[b]? = some (.cells #[a, x] t (0, 0)) ∧ Exc (fun k => k = b) w W :=
  ⟨frozen_of_row _ _ 1 _ t h, cell_of_row w b 1 _ t (0, 0) h, _, rfl, heap_setCell_same w b 1 _ t x h, exc_set w b 1 x⟩
theorem own_exc {w w' : World} {B n : Nat} {v : Value} {e : TypeId} {xs : List Value} (h : w.ownsRow B e 1 v n xs) {Z : Nat → Prop} (g : Exc Z w w') (hz : ∀ k, Z k → k < B) : w'.ownsRow B e 1 v n xs := by
  refine ⟨h.1, ?_⟩
  rcases h.2 with hn | ⟨g', cap, cur, hv, hb, hg, rest⟩
  · exact Or.inl hn
  · exact Or.inr ⟨g', cap, cur, hv, hb, (g.block g' (heap_lt hg) fun x => by have := hz g' x; omega).trans hg, rest⟩
theorem eL_take (R : List (List Nat)) {k : Nat} (h : k < R.length + 1) : (eL R).take k ++ [.int .i64 (offR R k : Nat)] = (eL R).take (k + 1) := by
  rw [List.take_add_one, eL_get R h]
  rfl

set_option maxRecDepth 100000 in
set_option maxHeartbeats 2000000 in
theorem pn_yes (v : Value) (c : Cf) (w : World) (h : IsCf w v c) (ok : c.ok) (hT : c.base c.m ≤ 4000) :
    Calls Tryz.prog 33 #[v] w fun e w' => (∃ p, e = .returned (.tuple #[.pointer (some p), .int .i64 0]) ∧ IsMem w' (.pointer (some p)) w.heap.size w'.heap.size c.zeros) ∧ Bel w w' := by
  have hI := h
  obtain ⟨vc, vt, rfl, hN, hTn⟩ := h
  obtain ⟨p1, c1, rfl, _⟩ := nums_slice hN
  obtain ⟨p2, c2, rfl, _⟩ := tens_slice hTn
  have hb := (Bel.refl w).alloc (.cells #[.slice p1 c.n c1, .int .i64 c.page, .slice p2 c.m c2, .int .i64 c.wk, .int .i64 c.gr, .int .i64 c.gn] 25)
  have ch := ptot_any _ c _ (hI.bel hb)
  rw [Cf.totR_ok ok, Cf.checkC_ok ok] at ch
  obtain ⟨fz1, fz2⟩ := flat_zeros ok
  obtain ⟨N, hNN⟩ : ∃ N, c.zeros.flatten.length = N := ⟨_, rfl⟩
  rw [hNN] at fz1 fz2
  rw [← fz1] at ch
  have cb := fun W (g : Bel (w.alloc (.cells #[.slice p1 c.n c1, .int .i64 c.page, .slice p2 c.m c2, .int .i64 c.wk, .int .i64 c.gr, .int .i64 c.gn] 25)) W) => cf_at g
  have hbx0 := heap_alloc_new w (.cells #[.slice p1 c.n c1, .int .i64 c.page, .slice p2 c.m c2, .int .i64 c.wk, .int .i64 c.gr, .int .i64 c.gn] 25)
  have hs0 := size_alloc1 w (.cells #[.slice p1 c.n c1, .int .i64 c.page, .slice p2 c.m c2, .int .i64 c.wk, .int .i64 c.gr, .int .i64 c.gn] 25)
  have hmk : ∀ W : World, (Instr.makeSlice 49 (.int .i64 (N : Nat)) (.int .i64 (N : Nat))).run Tryz.prog W = .ok (.slice (some ⟨W.heap.size, 0, none⟩) N N) (W.alloc (.cells (madeCells (#[.int .u64 0] : Array Value) N) 42)) := fun W => by
    obtain ⟨i0, hi, hz0, hz1, hz2⟩ := info_parts info_u64
    have := run_make (P := Tryz.prog) W 49 42 i0 _ Tryz.underlying49 hi hz0 .i64 .i64 N N (by omega) (Int.le_refl _) (by rw [hz2]; omega) (by omega)
    rw [this, hz1, Int.toNat_natCast, Nat.mul_one]
    rfl
  have hfull := Cf.zeros_full ok hT
  have hN4 : N ≤ 4000 := by omega
  have hid := Lib.hid (And.intro hI (And.intro ok (And.intro hb (And.intro hfull (And.intro fz2 (And.intro hNN hN4))))))
  have m8 := Cf.ok_m ok
  clear hI hN hTn ok hT hfull fz1 fz2 hNN hb hN4
  go_enter Tryz.func33, Tryz.ntmps33
  go_wp2_with (go_at_call 80
               refine ch.mono ?_
               rintro e w1 ⟨rfl, hg⟩
               obtain ⟨k0, k1, k2, k3, k4, k5⟩ := cb _ hg
               have hz := own_zeros w1 N (by have := hid.out.2.2.2.2.2.2; unfold maxLen; omega)
               have hz' := Lib.hid hz
               have G2 := ((Bel.refl w1).alloc (.cells (madeCells (#[.int .u64 0] : Array Value) N) 42)).alloc (.cells #[.slice (some ⟨w1.heap.size, 0, none⟩) N N, .slice none 0 0] 111)
               have q2 := cell_bel G2 k2
               clear hz)
  obtain ⟨W0, hW0⟩ : ∃ W0, (w1.alloc (.cells (madeCells (#[.int .u64 0] : Array Value) N) 42)).alloc (.cells #[.slice (some ⟨w1.heap.size, 0, none⟩) N N, .slice none 0 0] 111) = W0 := ⟨_, rfl⟩
  obtain ⟨m0, m1, m2⟩ := two_boxes w1 (.cells (madeCells (#[.int .u64 0] : Array Value) N) 42) (.cells #[.slice (some ⟨w1.heap.size, 0, none⟩) N N, .slice none 0 0] 111)
  rw [hW0] at G2 q2 m0 m1 m2 ⊢
  have hW := Lib.hid (And.intro hW0 (And.intro m0 (And.intro m1 (And.intro m2 (And.intro hg (heap_bel G2 (heap_bel hg hbx0)))))))
  clear hW0 m0 m1 m2 hbx0 k0 k1 k2 k3 k4 k5 q2 ch cb hmk
  go_loopw [25] (fun i wr => ∃ (k : Nat) (ev : Value), k ≤ c.m ∧ i = .int .i64 (k : Nat) ∧ Below (w1.heap.size + 1) W0 wr ∧ wr.heap[w1.heap.size + 1]? = some (.cells #[.slice (some ⟨w1.heap.size, 0, none⟩) N N, ev] 111 (0, 0)) ∧ wr.ownsRow (w1.heap.size + 2) 3 1 ev k ((eL c.zeros).take k)) (fun i _ => c.m - (intOf i).toNat)
  case atStart => exact ⟨0, _, Nat.zero_le _, rfl, Below.refl _ _, hW.out.2.2.1, World.ownsRow_nil _ _ _ _⟩
  case round =>
    obtain ⟨k, ev, hk, rfl, hbw, hbx, hO⟩ := hrel
    obtain ⟨hW0, m0, m1, m2, hg0, hcfg⟩ := hW.out
    have sz := hbw.size
    have s1 := hg0.size
    have sw : w1.heap.size + 2 ≤ wr.heap.size := by omega
    have e0 : Below w.heap.size w wr := Below.trans (Below.trans (hid.out.2.2.1.trans hg0) (G2.mono (by omega))) (hbw.mono (by omega))
    have hb0 := (hbw.block w.heap.size (by omega)).trans hcfg
    have c0 := cell_of_row _ _ 0 _ _ (0, 0) hb0
    have c1' := cell_of_row _ _ 1 _ _ (0, 0) hb0
    have c2' := cell_of_row _ _ 2 _ _ (0, 0) hb0
    have c3' := cell_of_row _ _ 3 _ _ (0, 0) hb0
    have c4' := cell_of_row _ _ 4 _ _ (0, 0) hb0
    have c5' := cell_of_row _ _ 5 _ _ (0, 0) hb0
    by_cases ck : k < c.m
    · have rg := pbase_any _ c k wr (hid.out.1.bel e0)
      have hz := Cf.has_zero hid.out.2.1 ck
      rw [Cf.baseR_ok hz, Cf.hasE_ok hz, Int.toNat_natCast, ← offR_zeros hid.out.2.1 k (by omega)] at rg
      obtain ⟨bk, hbk⟩ : ∃ bk, offR c.zeros k = bk := ⟨_, rfl⟩
      have hL := eL_take c.zeros (k := k) (by rw [Cf.zeros_len]; omega)
      rw [hbk] at rg hL
      have hidO := Lib.hid (And.intro hO (And.intro hL (And.intro hbw hbx)))
      clear hO hL hbk hz hb0 hcfg hW0 m0 m1 m2 hg0 hbw
      go_wp2_with (first
        | (go_at_call 81; refine rg.mono ?_; rintro e w3 ⟨rfl, hg3⟩
           have ce := cell_of_row _ _ 1 _ _ (0, 0) (heap_bel hg3 hbx))
        | (at_builtin
           refine wpList_pushI rfl (.tmp 38) (.tmp 40) rfl (w1.heap.size + 2) ev k _ _ rfl (own_exc hidO.out.1 hg3.exc (Z := fun _ => False) (fun _ x => x.elim)) rfl (by omega) (by have := hg3.size; omega) ?_
           intro g cap w4 hO4 hB4
           obtain ⟨fz, cx3, W5, hW5, hbx5, hE5⟩ := box2_store (x := .slice (some ⟨g, 0, none⟩) (k + 1) cap) ((hB4.block _ (by omega)).trans (heap_bel hg3 hbx))
           have hid5 := Lib.hid (And.intro hO4 (And.intro hB4 (And.intro hbx5 hE5)))
           clear hO4 hB4 hbx5 hE5))
      go_roundw
      case rel =>
        obtain ⟨hO4, hB4, hbx5, hE5⟩ := hid5.out
        obtain ⟨hO, hL, hbw, _⟩ := hidO.out
        refine ⟨k + 1, _, by omega, by go_num, Below.trans hbw (Below.trans (hg3.mono (by omega)) (Below.trans (hB4.mono (by omega)) (hE5.below (fun x hx => by omega) (by have := hB4.size; have := hg3.size; omega)))), hbx5, ?_⟩
        rw [← hL]
        exact own_exc hO4 hE5 (fun x hx => by omega)
      case measure => simp only [intOf]; omega
    · obtain rfl : k = c.m := by omega
      have hL := eL_take c.zeros (k := c.m) (by rw [Cf.zeros_len]; omega)
      rw [show offR c.zeros c.m = N by rw [← hid.out.2.2.2.2.2.1, ← offR_all, Cf.zeros_len], List.take_of_length_le (show (eL c.zeros).length ≤ c.m + 1 by rw [eL_len, Cf.zeros_len]; omega)] at hL
      have hidO := Lib.hid (And.intro hO (And.intro hL (And.intro hbw (And.intro hbx e0))))
      have ce := cell_of_row _ _ 1 _ _ (0, 0) hbx
      clear hO hL hb0 hcfg hW0 m0 m1 m2 hg0 hbw c0 c1' c2' c3' c4' c5' e0
      go_wp2_with (at_builtin
                   refine wpList_pushI rfl (.tmp 49) (.tmp 51) rfl (w1.heap.size + 2) ev c.m _ _ rfl hidO.out.1 rfl (by omega) (by omega) ?_
                   intro g cap w4 hO4 hB4
                   obtain ⟨fz, cx3, W5, hW5, hbx5, hE5⟩ := box2_store (x := .slice (some ⟨g, 0, none⟩) (c.m + 1) cap) ((hB4.block _ (by omega)).trans hbx)
                   have hid5 := Lib.hid (And.intro hO4 (And.intro hB4 (And.intro hbx5 hE5)))
                   clear hO4 hB4 hbx5 hE5)
      go_ret2
      obtain ⟨hO4, hB4, hbx5, hE5⟩ := hid5.out
      obtain ⟨hO, hL, hbw, _, e0⟩ := hidO.out
      obtain ⟨hW0, m0, m1, m2, hg0, hcfg⟩ := hW.out
      obtain ⟨_, ok, hb, hfull, fz2, hNN, _⟩ := hid.out
      have s0 := hb.size
      have s4 := hB4.size
      have s5 := hE5.size
      have bl : ∀ x, x < w1.heap.size + 1 → W5.heap[x]? = W0.heap[x]? := fun x hx => (hE5.block x (by omega) (by omega)).trans ((hB4.block x (by omega)).trans (hbw.block x hx))
      rw [hL] at hO4
      have hO5 := own_exc hO4 hE5 (fun x hx => by omega)
      obtain ⟨gl, gh⟩ := hO5.lt g rfl
      have hz := hz'.out
      unfold Own64 at hz
      rw [List.length_replicate, ← fz2] at hz
      refine ⟨⟨_, rfl, w1.heap.size + 1, w1.heap.size, N, g, cap, rfl, ⟨by omega, by omega⟩, ⟨by omega, by omega⟩, ⟨by omega, gh⟩, ?_, ?_, ?_, by omega, by omega, by omega, hfull, by rw [Cf.zeros_len]; exact m8.1⟩, Below.trans e0 (Below.trans (hB4.mono (by omega)) (hE5.below (fun x hx => by omega) (by omega)))⟩
      · rw [hNN, Cf.zeros_len]; exact hbx5
      · rw [hNN]
        refine own_base (own_heap (w := W0) (B := w1.heap.size) ?_ (bl _ (by omega))) (Nat.zero_le _)
        rw [← hW0]
        exact own_heap hz (((Bel.refl _).alloc _).block _ (by rw [size_alloc1]; omega))
      · rw [Cf.zeros_len]
        exact own_base hO5 (Nat.zero_le _)

end Go.Proofs.YthokalcibjjihaaGreatDoor.mm

/- WHAT THE PROGRAM'S MEMORIES DO: one contract for each call. -/
namespace Go.Proofs.YthokalcibjjihaaGreatDoor.mm
open Go.ChangeShapes Go.WideShapes Go.ChangeAt Go.RowKit Go.Deep
set_option linter.unusedVariables false

theorem MemAt.edges {w : World} {p g1 k1 g2 k2 : Nat} {R : List (List Nat)} (h : MemAt w p g1 k1 g2 k2 R) : Edges w p g2 (R.length + 1) k2 :=
  ⟨h.c1, by have := h.pos; omega, (own_cap h.edg).1, (own_cap h.edg).2.1⟩
theorem MemAt.tot {w : World} {p g1 k1 g2 k2 : Nat} {R : List (List Nat)} (h : MemAt w p g1 k1 g2 k2 R) {t : Nat} {l : List Nat} (ht : R[t]? = some l) : offR R t + l.length ≤ 1000000 :=
  Nat.le_trans (flat_len ht) (flat_bd h.full h.pos).2

theorem mreg_yes {w : World} {p g1 k1 g2 k2 : Nat} {R : List (List Nat)} (h : MemAt w p g1 k1 g2 k2 R) {t : Nat} {l : List Nat} (ht : R[t]? = some l) :
    ∀ W, Bel w W → Calls Tryz.prog 90 #[.pointer (some ⟨p, 0, none⟩), .int .i64 (t : Nat)] W fun r w' => r = .returned (.tuple #[.int .i64 (offR R t : Nat), .int .i64 (offR R t + l.length : Nat)]) ∧ Bel W w' := fun W g => by
  have hlt := (List.getElem?_eq_some_iff.1 ht).1
  have hM := h.bel g
  have e1 := hM.edge (t := t + 1) (by omega)
  rw [offR_succ ht] at e1
  exact preg_yes p g2 (R.length + 1) k2 t _ _ W hM.edges (by omega) (hM.edge (by omega)) e1
theorem mreg_arg {w : World} {p g1 k1 g2 k2 : Nat} {R : List (List Nat)} (h : MemAt w p g1 k1 g2 k2 R) {t : Int} (ht : t < 0 ∨ (R.length : Int) ≤ t) :
    ∀ W, Bel w W → Calls Tryz.prog 90 #[.pointer (some ⟨p, 0, none⟩), .int .i64 t] W fun e w' => e = gaveUp 2 ∧ w' = W := fun W g =>
  preg_arg p g2 (R.length + 1) k2 t W (h.bel g).edges (by omega)
theorem gives_bel {f : Nat} {args : Array Value} {W : World} {x : Int} (h : Calls Tryz.prog f args W fun e w' => e = gaveUp x ∧ w' = W) : Calls Tryz.prog f args W fun e w' => e = gaveUp x ∧ Bel W w' := by
  refine h.mono ?_
  rintro e w' ⟨rfl, rfl⟩
  exact ⟨rfl, Bel.refl _⟩
theorem mpos_none {w : World} {v : Value} (h : NoMem w v) (t a n : Int) : ∀ W, Bel w W → Calls Tryz.prog 50 #[v, .int .i64 t, .int .i64 a, .int .i64 n] W fun e w' => e = gaveUp 1 ∧ Bel W w' := fun W g =>
  gives_bel (ppos_gives v t a n 1 W (preg_none v t W (h.bel g)))
theorem mpos_arg {w : World} {p g1 k1 g2 k2 : Nat} {R : List (List Nat)} (h : MemAt w p g1 k1 g2 k2 R) {t : Int} (ht : t < 0 ∨ (R.length : Int) ≤ t) (a n : Int) :
    ∀ W, Bel w W → Calls Tryz.prog 50 #[.pointer (some ⟨p, 0, none⟩), .int .i64 t, .int .i64 a, .int .i64 n] W fun e w' => e = gaveUp 2 ∧ Bel W w' := fun W g =>
  gives_bel (ppos_gives _ t a n 2 W (mreg_arg h ht W g))
theorem mpos_no {w : World} {p g1 k1 g2 k2 : Nat} {R : List (List Nat)} (h : MemAt w p g1 k1 g2 k2 R) {t : Nat} {l : List Nat} (ht : R[t]? = some l) {a n : Int} (hn : -9223372036854775808 ≤ n ∧ n ≤ 9223372036854775807) (no : a < 0 ∨ n < 0 ∨ (l.length : Int) - n < a) :
    ∀ W, Bel w W → Calls Tryz.prog 50 #[.pointer (some ⟨p, 0, none⟩), .int .i64 (t : Nat), .int .i64 a, .int .i64 n] W fun e w' => e = gaveUp 4 ∧ Bel W w' := fun W g =>
  ppos_no _ t a n (offR R t) (offR R t + l.length) W (mreg_yes h ht W g) (by omega) (h.tot ht) hn (by omega)
theorem mpos_yes {w : World} {p g1 k1 g2 k2 : Nat} {R : List (List Nat)} (h : MemAt w p g1 k1 g2 k2 R) {t : Nat} {l : List Nat} (ht : R[t]? = some l) {a n : Nat} (ha : a + n ≤ l.length) :
    ∀ W, Bel w W → Calls Tryz.prog 50 #[.pointer (some ⟨p, 0, none⟩), .int .i64 (t : Nat), .int .i64 (a : Nat), .int .i64 (n : Nat)] W fun e w' => e = .returned (.int .i64 (offR R t + a : Nat)) ∧ Bel W w' := fun W g =>
  ppos_yes _ t a n (offR R t) (offR R t + l.length) W (mreg_yes h ht W g) (h.tot ht) (by omega)

/-- which way an address goes -/
theorem inE_cases (R : List (List Nat)) (t a : Int) :
    (inE R t a = 2 ∧ (t < 0 ∨ (R.length : Int) ≤ t)) ∨ (∃ (t' : Nat) (l : List Nat), t = t' ∧ R[t']? = some l ∧ inE R t a = 4 ∧ (a < 0 ∨ (l.length : Int) ≤ a)) ∨ (∃ (t' a' u : Nat) (l : List Nat), t = t' ∧ a = a' ∧ R[t']? = some l ∧ l[a']? = some u ∧ inE R t a = 0 ∧ loadR R t a = u) := by
  by_cases z : inE R t a = 0
  · obtain ⟨t', a', l, u, rfl, rfl, h1, h2, h3, h4⟩ := inE_ok z
    exact Or.inr (Or.inr ⟨t', a', u, l, rfl, rfl, h1, h2, z, by unfold loadR; rw [if_pos z, Int.toNat_natCast, Int.toNat_natCast, h3, h4]⟩)
  · by_cases c : t < 0 ∨ (R.length : Int) ≤ t
    · exact Or.inl ⟨if_pos c, c⟩
    · have e1 : t.toNat < R.length := by omega
      have e2 : R.getD t.toNat [] = R[t.toNat] := by rw [List.getD_eq_getElem?_getD, List.getElem?_eq_getElem e1]; rfl
      refine Or.inr (Or.inl ⟨t.toNat, R[t.toNat], by omega, List.getElem?_eq_getElem e1, ?_⟩)
      unfold inE at z ⊢
      rw [if_neg c, e2] at z
      rw [if_neg c, e2]
      by_cases d : a < 0 ∨ ((R[t.toNat]).length : Int) ≤ a
      · exact ⟨if_pos d, d⟩
      · rw [if_neg d] at z; exact absurd rfl z
theorem zeroE_cases (R : List (List Nat)) (t a n : Int) :
    (zeroE R t a n = 2 ∧ (t < 0 ∨ (R.length : Int) ≤ t)) ∨ (∃ (t' : Nat) (l : List Nat), t = t' ∧ R[t']? = some l ∧ zeroE R t a n = 4 ∧ (a < 0 ∨ n < 0 ∨ (l.length : Int) - n < a)) ∨ (∃ (t' a' n' : Nat) (l : List Nat), t = t' ∧ a = a' ∧ n = n' ∧ R[t']? = some l ∧ a' + n' ≤ l.length ∧ zeroE R t a n = 0) := by
  by_cases z : zeroE R t a n = 0
  · obtain ⟨t', a', n', l, rfl, rfl, rfl, h1, h2, h3⟩ := zeroE_ok z
    exact Or.inr (Or.inr ⟨t', a', n', l, rfl, rfl, rfl, h1, h3, z⟩)
  · by_cases c : t < 0 ∨ (R.length : Int) ≤ t
    · exact Or.inl ⟨if_pos c, c⟩
    · have e1 : t.toNat < R.length := by omega
      have e2 : R.getD t.toNat [] = R[t.toNat] := by rw [List.getD_eq_getElem?_getD, List.getElem?_eq_getElem e1]; rfl
      refine Or.inr (Or.inl ⟨t.toNat, R[t.toNat], by omega, List.getElem?_eq_getElem e1, ?_⟩)
      unfold zeroE at z ⊢
      rw [if_neg c, e2] at z
      rw [if_neg c, e2]
      by_cases d : a < 0 ∨ n < 0 ∨ ((R[t.toNat]).length : Int) < a ∨ ((R[t.toNat]).length : Int) - a < n
      · exact ⟨if_pos d, by omega⟩
      · rw [if_neg d] at z; exact absurd rfl z

theorem IsMem.own {w : World} {lo hi p g1 k1 g2 k2 : Nat} {R : List (List Nat)} (a : lo ≤ p ∧ p < hi) (b : lo ≤ g1 ∧ g1 < hi) (c : lo ≤ g2 ∧ g2 < hi) (m : MemAt w p g1 k1 g2 k2 R) : IsMem w (.pointer (some ⟨p, 0, none⟩)) lo hi R := ⟨p, g1, k1, g2, k2, rfl, a, b, c, m⟩

theorem pm_new_ok (v : Value) (c : Cf) (w : World) (h : IsCf w v c) (ok : c.ok) (hT : c.base c.m ≤ 4000) :
    Calls Tryz.prog 33 #[v] w fun e w' => (∃ p, e = .returned (.tuple #[.pointer (some p), .int .i64 0]) ∧ IsMem w' (.pointer (some p)) w.heap.size w'.heap.size c.zeros) ∧ Bel w w' := pn_yes v c w h ok hT
theorem pm_new_no (v : Value) (c : Cf) (w : World) (h : IsCf w v c) (ok : ¬ c.ok) :
    Calls Tryz.prog 33 #[v] w fun e w' => e = .returned (.tuple #[.pointer none, .int .i64 2]) ∧ Bel w w' := pn_no v c w h ok
theorem pm_load (v : Value) (lo hi : Nat) (R : List (List Nat)) (t a : Int) (w : World) (h : IsMem w v lo hi R) :
    Calls Tryz.prog 103 #[v, .int .i64 t, .int .i64 a] w fun e w' => e = .returned (.tuple #[.int .u64 (loadR R t a : Nat), .int .i64 (inE R t a)]) ∧ Bel w w' := by
  obtain ⟨p, g1, k1, g2, k2, rfl, _, _, _, hM⟩ := h
  rcases inE_cases R t a with ⟨e, ht⟩ | ⟨t', l, rfl, ht, e, ha⟩ | ⟨t', a', u, l, rfl, rfl, ht, hu, e, eu⟩
  · rw [show loadR R t a = 0 from if_neg (by rw [e]; decide), e]
    exact pl_no _ t a 2 w (mpos_arg hM ht a 1)
  · rw [show loadR R t' a = 0 from if_neg (by rw [e]; decide), e]
    exact pl_no _ t' a 4 w (mpos_no hM ht (by omega) (by omega))
  · rw [eu, e]
    have ha := (List.getElem?_eq_some_iff.1 hu).1
    have fu := flat_at ht ha
    exact pl_yes p g1 _ k1 (offR R t' + a') u t' a' w hM.c0 (hM.word (fu.trans hu)) (by have := flat_len ht; omega) (mpos_yes hM ht (n := 1) (by omega))
theorem pm_store (v : Value) (lo hi : Nat) (R : List (List Nat)) (t a : Int) (u : Nat) (w : World) (h : IsMem w v lo hi R) (hh : hi ≤ w.heap.size) :
    Calls Tryz.prog 16 #[v, .int .i64 t, .int .i64 a, .int .u64 (u : Nat)] w fun e w' => e = .returned (.int .i64 (inE R t a)) ∧ IsMem w' v lo hi (storeR R t a u) ∧ Exc (Own lo hi) w w' := by
  have hI := h
  obtain ⟨p, g1, k1, g2, k2, rfl, hp, h1, h2, hM⟩ := h
  have no : ∀ x : Int, inE R t a = x → x ≠ 0 → (∀ W, Bel w W → Calls Tryz.prog 50 #[.pointer (some ⟨p, 0, none⟩), .int .i64 t, .int .i64 a, .int .i64 1] W fun e w' => e = gaveUp x ∧ Bel W w') →
      Calls Tryz.prog 16 #[.pointer (some ⟨p, 0, none⟩), .int .i64 t, .int .i64 a, .int .u64 (u : Nat)] w fun e w' => e = .returned (.int .i64 (inE R t a)) ∧ IsMem w' (.pointer (some ⟨p, 0, none⟩)) lo hi (storeR R t a u) ∧ Exc (Own lo hi) w w' := by
    intro x ex hx hp
    rw [show storeR R t a u = R from if_neg (by rw [ex]; exact hx), ex]
    refine (ps_no _ t a x u w hp).mono ?_
    rintro e w' ⟨rfl, g⟩
    exact ⟨rfl, hI.keep fun k _ hk => g.block k (by omega), g.exc⟩
  rcases inE_cases R t a with ⟨e, ht⟩ | ⟨t', l, rfl, ht, e, ha⟩ | ⟨t', a', _, l, rfl, rfl, ht, hu, e, eu⟩
  · exact no 2 e (by decide) (mpos_arg hM ht a 1)
  · exact no 4 e (by decide) (mpos_no hM ht (by omega) (by omega))
  · have ha := (List.getElem?_eq_some_iff.1 hu).1
    rw [show storeR R t' a' u = setR R t' a' u from if_pos e, e]
    refine (ps_yes p g1 k1 g2 k2 R t' a' u l t' a' w hM ht ha (mpos_yes hM ht (n := 1) (by omega))).mono ?_
    rintro e w' ⟨rfl, m, x⟩
    exact ⟨rfl, IsMem.own hp h1 h2 m, x.mono fun k hk => by subst hk; exact h1⟩
theorem pm_zero (v : Value) (lo hi : Nat) (R : List (List Nat)) (t a n : Int) (w : World) (h : IsMem w v lo hi R) (hh : hi ≤ w.heap.size) (hn : -9223372036854775808 ≤ n ∧ n ≤ 9223372036854775807) :
    Calls Tryz.prog 55 #[v, .int .i64 t, .int .i64 a, .int .i64 n] w fun e w' => e = .returned (.int .i64 (zeroE R t a n)) ∧ IsMem w' v lo hi (zeroR R t a n) ∧ Exc (Own lo hi) w w' := by
  have hI := h
  obtain ⟨p, g1, k1, g2, k2, rfl, hp, h1, h2, hM⟩ := h
  have no : ∀ x : Int, zeroE R t a n = x → x ≠ 0 → (∀ W, Bel w W → Calls Tryz.prog 50 #[.pointer (some ⟨p, 0, none⟩), .int .i64 t, .int .i64 a, .int .i64 n] W fun e w' => e = gaveUp x ∧ Bel W w') →
      Calls Tryz.prog 55 #[.pointer (some ⟨p, 0, none⟩), .int .i64 t, .int .i64 a, .int .i64 n] w fun e w' => e = .returned (.int .i64 (zeroE R t a n)) ∧ IsMem w' (.pointer (some ⟨p, 0, none⟩)) lo hi (zeroR R t a n) ∧ Exc (Own lo hi) w w' := by
    intro x ex hx hp
    rw [show zeroR R t a n = R from if_neg (by rw [ex]; exact hx), ex]
    refine (pz_no _ t a n x w hp).mono ?_
    rintro e w' ⟨rfl, g⟩
    exact ⟨rfl, hI.keep fun k _ hk => g.block k (by omega), g.exc⟩
  rcases zeroE_cases R t a n with ⟨e, ht⟩ | ⟨t', l, rfl, ht, e, ha⟩ | ⟨t', a', n', l, rfl, rfl, rfl, ht, ha, e⟩
  · exact no 2 e (by decide) (mpos_arg hM ht a n)
  · exact no 4 e (by decide) (mpos_no hM ht hn ha)
  · rw [show zeroR R t' a' n' = wipe R t' a' n' from if_pos e, e]
    refine (pz_yes p g1 k1 g2 k2 R t' a' n' l t' a' w hM ht ha (mpos_yes hM ht ha)).mono ?_
    rintro e w' ⟨rfl, m, x⟩
    exact ⟨rfl, IsMem.own hp h1 h2 m, x.mono fun k hk => by subst hk; exact h1⟩
theorem pm_words (v : Value) (lo hi : Nat) (R : List (List Nat)) (t : Int) (w : World) (h : IsMem w v lo hi R) :
    Calls Tryz.prog 72 #[v, .int .i64 t] w fun e w' => (∃ lv, e = .returned (.tuple #[lv, .int .i64 (wordsE R t)]) ∧ Ws (fun k => k < w.heap.size) w' lv (wordsR R t)) ∧ Bel w w' := by
  obtain ⟨p, g1, k1, g2, k2, rfl, _, _, _, hM⟩ := h
  by_cases c : t < 0 ∨ (R.length : Int) ≤ t
  · have e : wordsE R t = 2 := if_pos c
    rw [show wordsR R t = [] from if_neg (by rw [e]; decide), e]
    refine (pw_no _ t 2 w (mreg_arg hM c)).mono ?_
    rintro e w' ⟨rfl, g⟩
    exact ⟨⟨_, rfl, Or.inl ⟨rfl, _, _, rfl⟩⟩, g⟩
  · have e : wordsE R t = 0 := if_neg c
    obtain ⟨t', rfl⟩ : ∃ t' : Nat, t = t' := ⟨t.toNat, by omega⟩
    have e1 : t' < R.length := by omega
    have e2 : R.getD t' [] = R[t'] := by rw [List.getD_eq_getElem?_getD, List.getElem?_eq_getElem e1]; rfl
    rw [show wordsR R t' = R[t'] by unfold wordsR; rw [if_pos e, Int.toNat_natCast, e2], e]
    exact pw_yes p g1 k1 g2 k2 R t' _ w hM (List.getElem?_eq_getElem e1) (mreg_yes hM (List.getElem?_eq_getElem e1))
theorem pm_all (v : Value) (lo hi : Nat) (R : List (List Nat)) (w : World) (h : IsMem w v lo hi R) :
    Calls Tryz.prog 14 #[v] w fun e w' => (∃ lv, e = .returned lv ∧ Own64 w.heap.size w' lv R.flatten) ∧ Bel w w' := by
  obtain ⟨p, g1, k1, g2, k2, rfl, _, _, _, hM⟩ := h
  refine (pa_yes p g1 k1 g2 k2 R w hM).mono ?_
  rintro e w' ⟨⟨g, cap, rfl, o⟩, b⟩
  exact ⟨⟨_, rfl, o⟩, b⟩
theorem pn_load (t a : Int) (w : World) :
    Calls Tryz.prog 103 #[.pointer none, .int .i64 t, .int .i64 a] w fun e w' => e = .returned (.tuple #[.int .u64 0, .int .i64 1]) ∧ Bel w w' := pl_no _ t a 1 w (mpos_none (Or.inl rfl) t a 1)
theorem pn_store (t a : Int) (u : Nat) (w : World) :
    Calls Tryz.prog 16 #[.pointer none, .int .i64 t, .int .i64 a, .int .u64 (u : Nat)] w fun e w' => e = .returned (.int .i64 1) ∧ Bel w w' := ps_no _ t a 1 u w (mpos_none (Or.inl rfl) t a 1)
theorem pn_all (w : World) :
    Calls Tryz.prog 14 #[.pointer none] w fun e w' => (∃ p cap, e = .returned (.slice p 0 cap)) ∧ Bel w w' := by
  refine (pa_none _ w (Or.inl rfl)).mono ?_
  rintro e w' ⟨rfl, rfl⟩
  exact ⟨⟨_, _, rfl⟩, Bel.refl _⟩
theorem pz_made (w : World) : IsZero (w.alloc (.cells #[.slice none 0 0, .slice none 0 0] 111)) w.heap.size := heap_alloc_new w _
theorem pz_words (b : Nat) (t : Int) (w : World) (h : IsZero w b) :
    Calls Tryz.prog 72 #[.pointer (some ⟨b, 0, none⟩), .int .i64 t] w fun e w' => (∃ lv, e = .returned (.tuple #[lv, .int .i64 1])) ∧ Bel w w' := by
  refine (pw_no _ t 1 w fun W g => preg_none _ t W (h.none.bel g)).mono ?_
  rintro e w' ⟨rfl, g⟩
  exact ⟨⟨_, rfl⟩, g⟩
theorem pz_zero (b : Nat) (t a n : Int) (w : World) (h : IsZero w b) :
    Calls Tryz.prog 55 #[.pointer (some ⟨b, 0, none⟩), .int .i64 t, .int .i64 a, .int .i64 n] w fun e w' => e = .returned (.int .i64 1) ∧ Bel w w' := pz_no _ t a n 1 w (mpos_none h.none t a n)
theorem pz_all (b : Nat) (w : World) (h : IsZero w b) :
    Calls Tryz.prog 14 #[.pointer (some ⟨b, 0, none⟩)] w fun e w' => (∃ p cap, e = .returned (.slice p 0 cap)) ∧ Bel w w' := by
  refine (pa_none _ w h.none).mono ?_
  rintro e w' ⟨rfl, rfl⟩
  exact ⟨⟨_, _, rfl⟩, Bel.refl _⟩
end Go.Proofs.YthokalcibjjihaaGreatDoor.mm
