/- The document's plans in memory. -/
import Derived.Test.YthokalcibjjihaaGreatDoorRat
import Derived.Test.YthokalcibjjihaaGreatDoorPs
namespace Go.Proofs.YthokalcibjjihaaGreatDoor
open Go.ChangeShapes Go.WideShapes Go.ChangeAt Go.RowKit Go.Deep

/-- the cells of the first slots -/
def slL (P : Pl) (n : Nat) : List Value := (List.range n).flatMap fun i => [.int .i64 (P.cls i : Nat), .int .i64 (P.sz i : Nat), .int .i64 (P.ad i : Nat), .int .i64 (P.pg i : Nat)]
theorem slL_succ (P : Pl) (n : Nat) : slL P (n + 1) = slL P n ++ [.int .i64 (P.cls n : Nat), .int .i64 (P.sz n : Nat), .int .i64 (P.ad n : Nat), .int .i64 (P.pg n : Nat)] := by
  unfold slL; rw [List.range_succ, List.flatMap_append]; simp
theorem slL_len (P : Pl) : ∀ n, (slL P n).length = n * 4
  | 0 => rfl
  | n + 1 => by rw [slL_succ, List.length_append, slL_len P n]; simp; omega
theorem slL_at (P : Pl) : ∀ {n i : Nat}, i < n → (slL P n)[i * 4]? = some (.int .i64 (P.cls i : Nat)) ∧ (slL P n)[i * 4 + 1]? = some (.int .i64 (P.sz i : Nat)) ∧ (slL P n)[i * 4 + 2]? = some (.int .i64 (P.ad i : Nat)) ∧ (slL P n)[i * 4 + 3]? = some (.int .i64 (P.pg i : Nat))
  | 0, _, h => by omega
  | n + 1, i, h => by
    have l := slL_len P n
    rw [slL_succ]
    by_cases c : i < n
    · have a := slL_at P c
      rw [List.getElem?_append_left (by omega), List.getElem?_append_left (by omega), List.getElem?_append_left (by omega), List.getElem?_append_left (by omega)]
      exact a
    · obtain rfl : i = n := by omega
      rw [List.getElem?_append_right (by omega), List.getElem?_append_right (by omega), List.getElem?_append_right (by omega), List.getElem?_append_right (by omega), l]
      rw [show i * 4 - i * 4 = 0 by omega, show i * 4 + 1 - i * 4 = 1 by omega, show i * 4 + 2 - i * 4 = 2 by omega, show i * 4 + 3 - i * 4 = 3 by omega]
      exact ⟨rfl, rfl, rfl, rfl⟩
theorem numL_succ (F : Nat → Int) (n : Nat) : numL F (n + 1) = numL F n ++ [.int .i64 (F n)] := by unfold numL; rw [List.range_succ, List.map_append]; rfl

/-- a row that stands where nothing was done -/
theorem own_keep {w w' : World} {B n s : Nat} {e : TypeId} {v : Value} {xs : List Value} (h : w.ownsRow B e s v n xs) (k : ∀ x, v.ownBlock = some x → w'.heap[x]? = w.heap[x]?) : w'.ownsRow B e s v n xs := by
  refine ⟨h.1, ?_⟩
  rcases h.2 with hn | ⟨g, cap, cur, rfl, hb, hg, rest⟩
  · exact Or.inl hn
  · exact Or.inr ⟨g, cap, cur, rfl, hb, (k g rfl).trans hg, rest⟩

/-- the document's plan as it is made: its box and its three rows -/
structure R3 (B b : Nat) (w : World) (words : Int) (Cv : Value) (P : Pl) (Lv Fv Mv : Value) (i q m : Nat) : Prop where
  box : w.heap[b]? = some (.cells #[Lv, Fv, Mv, .int .i64 words, Cv] 34 (0, 0))
  L : w.ownsRow B 71 4 Lv i (slL P i)
  F : w.ownsRow B 3 1 Fv q (numL (fun j => (P.fi j : Nat)) q)
  M : w.ownsRow B 3 1 Mv m (numL (fun j => (P.mn j : Nat)) m)
  lf : ∀ x, Lv.ownBlock = some x → Fv.ownBlock ≠ some x
  lm : ∀ x, Lv.ownBlock = some x → Mv.ownBlock ≠ some x
  fm : ∀ x, Fv.ownBlock = some x → Mv.ownBlock ≠ some x
  bB : b < B
  Bw : B ≤ w.heap.size

variable {B b : Nat} {w w1 w2 : World} {words : Int} {Cv Lv Fv Mv : Value} {P : Pl} {i q m : Nat}
theorem R3.bel (R : R3 B b w words Cv P Lv Fv Mv i q m) (g : Bel w w1) : R3 B b w1 words Cv P Lv Fv Mv i q m := by
  refine ⟨heap_bel g R.box, own_keep R.L fun x hx => g.block x (R.L.lt x hx).2, own_keep R.F fun x hx => g.block x (R.F.lt x hx).2, own_keep R.M fun x hx => g.block x (R.M.lt x hx).2, R.lf, R.lm, R.fm, R.bB, Nat.le_trans R.Bw g.size⟩
theorem own_shape {e : TypeId} {s n : Nat} {v : Value} {xs : List Value} (h : w.ownsRow B e s v n xs) : ∃ p cap, v = .slice p n cap := by
  rcases h.2 with ⟨rfl, rfl⟩ | ⟨g, cap, cur, rfl, _⟩
  · exact ⟨_, _, rfl⟩
  · exact ⟨_, _, rfl⟩

/-- the cells of its box -/
theorem R3.at (R : R3 B b w words Cv P Lv Fv Mv i q m) : w.cell? ⟨b, 0, none⟩ = some Lv ∧ w.cell? ⟨b, 1, none⟩ = some Fv ∧ w.cell? ⟨b, 2, none⟩ = some Mv ∧ w.cell? ⟨b, 3, none⟩ = some (.int .i64 words) ∧ w.cell? ⟨b, 4, none⟩ = some Cv :=
  ⟨cell_of_row w b 0 _ _ (0, 0) R.box, cell_of_row w b 1 _ _ (0, 0) R.box, cell_of_row w b 2 _ _ (0, 0) R.box, cell_of_row w b 3 _ _ (0, 0) R.box, cell_of_row w b 4 _ _ (0, 0) R.box⟩

/-- behind an append to one of the rows: the box still stands -/
theorem R3.grown (R : R3 B b w words Cv P Lv Fv Mv i q m) {v : Value} (hv : ∀ x, v.ownBlock = some x → B ≤ x) (h1 : Bel w w1) (h2 : w1.grownBy w2 v.ownBlock) :
    w2.heap[b]? = some (.cells #[Lv, Fv, Mv, .int .i64 words, Cv] 34 (0, 0)) ∧ Below b w w2 ∧ B ≤ w2.heap.size := by
  have e1 := R.bB
  have e2 := R.Bw
  have e3 := h1.size
  refine ⟨?_, ?_, Nat.le_trans (Nat.le_trans e2 e3) h2.size⟩
  · rw [h2.block b (by omega) (fun e => by have := hv b e.symm; omega), h1.block b (by omega)]
    exact R.box
  · exact Below.grown (Below.mono h1 (by omega)) h2 (by omega) fun x hx => by have := hv x hx; omega

theorem keep_two {v u : Value} {e : TypeId} {s n : Nat} {xs : List Value} (h : w.ownsRow B e s v n xs) (h1 : Bel w w1) (h2 : w1.grownBy w2 u.ownBlock) (hne : ∀ x, v.ownBlock = some x → u.ownBlock ≠ some x) (hb : b < B) (j : Nat) (y : Value) : (w2.setCell ⟨b, j, none⟩ y).ownsRow B e s v n xs :=
  own_keep h fun x hx => by
    have l := h.lt x hx
    rw [set_heap (by omega) y, h2.block x (by have := h1.size; omega) (fun e => hne x hx e.symm), h1.block x l.2]
theorem new_ne {v u v' : Value} {e : TypeId} {s n g : Nat} {xs : List Value} (h : w.ownsRow B e s v n xs) (h1 : Bel w w1) (hne : ∀ x, v.ownBlock = some x → u.ownBlock ≠ some x) (hat : u.ownBlock = some g ∨ g = w1.heap.size) (hv : v'.ownBlock = some g) : ∀ x, v.ownBlock = some x → v'.ownBlock ≠ some x := fun x hx e => by
  rw [hv] at e
  injection e with e
  subst e
  rcases hat with h | h
  · exact hne _ hx h
  · have := (h1.size); have := (‹w.ownsRow B _ s v n xs›).lt _ hx; omega
theorem set_own {v : Value} {e : TypeId} {s n : Nat} {xs : List Value} (h : w.ownsRow B e s v n xs) (hb : b < B) (j : Nat) (y : Value) : (w.setCell ⟨b, j, none⟩ y).ownsRow B e s v n xs :=
  own_keep h fun x hx => by have := h.lt x hx; exact set_heap (by omega) y

/-- one page more begins -/
theorem R3.pushF (R : R3 B b w words Cv P Lv Fv Mv i q m) {g cap : Nat} (h1 : Bel w w1) (h2 : w1.grownBy w2 Fv.ownBlock) (hat : Fv.ownBlock = some g ∨ g = w1.heap.size)
    (hO : w2.ownsRow B 3 1 (.slice (some ⟨g, 0, none⟩) (q + 1) cap) (q + 1) (numL (fun j => (P.fi j : Nat)) q ++ [.int .i64 (P.fi q : Nat)])) :
    w2.frozen? ⟨b, 1, none⟩ = false ∧ w2.cell? ⟨b, 1, none⟩ = some Fv ∧ ∃ W, w2.setCell ⟨b, 1, none⟩ (.slice (some ⟨g, 0, none⟩) (q + 1) cap) = W ∧ R3 B b W words Cv P Lv (.slice (some ⟨g, 0, none⟩) (q + 1) cap) Mv i (q + 1) m ∧ Below b w W := by
  obtain ⟨hx, hbl, hB⟩ := R.grown (fun x hx => (R.F.lt x hx).1) h1 h2
  refine ⟨frozen_of_row _ _ 1 _ _ hx, cell_of_row _ _ 1 _ _ (0, 0) hx, _, rfl, ⟨heap_setCell_same _ b 1 _ _ _ hx, keep_two R.L h1 h2 R.lf R.bB _ _, ?_, keep_two R.M h1 h2 (fun x hx e => R.fm x e hx) R.bB _ _, new_ne R.L h1 R.lf hat rfl, R.lm, ?_, R.bB, ?_⟩, hbl.setCell (Nat.le_refl _) _⟩
  · rw [numL_succ]; exact set_own hO R.bB _ _
  · exact fun x hx e => new_ne R.M h1 (fun x hx e => R.fm x e hx) hat rfl x e hx
  · exact Nat.le_trans hB ((Below.refl 0 w2).setCell (Nat.zero_le _) _).size
/-- how many a page has -/
theorem R3.pushM (R : R3 B b w words Cv P Lv Fv Mv i q m) {g cap : Nat} (h1 : Bel w w1) (h2 : w1.grownBy w2 Mv.ownBlock) (hat : Mv.ownBlock = some g ∨ g = w1.heap.size)
    (hO : w2.ownsRow B 3 1 (.slice (some ⟨g, 0, none⟩) (m + 1) cap) (m + 1) (numL (fun j => (P.mn j : Nat)) m ++ [.int .i64 (P.mn m : Nat)])) :
    w2.frozen? ⟨b, 2, none⟩ = false ∧ w2.cell? ⟨b, 2, none⟩ = some Mv ∧ ∃ W, w2.setCell ⟨b, 2, none⟩ (.slice (some ⟨g, 0, none⟩) (m + 1) cap) = W ∧ R3 B b W words Cv P Lv Fv (.slice (some ⟨g, 0, none⟩) (m + 1) cap) i q (m + 1) ∧ Below b w W := by
  obtain ⟨hx, hbl, hB⟩ := R.grown (fun x hx => (R.M.lt x hx).1) h1 h2
  refine ⟨frozen_of_row _ _ 2 _ _ hx, cell_of_row _ _ 2 _ _ (0, 0) hx, _, rfl, ⟨heap_setCell_same _ b 2 _ _ _ hx, keep_two R.L h1 h2 R.lm R.bB _ _, keep_two R.F h1 h2 R.fm R.bB _ _, ?_, R.lf, new_ne R.L h1 R.lm hat rfl, new_ne R.F h1 R.fm hat rfl, R.bB, ?_⟩, hbl.setCell (Nat.le_refl _) _⟩
  · rw [numL_succ]; exact set_own hO R.bB _ _
  · exact Nat.le_trans hB ((Below.refl 0 w2).setCell (Nat.zero_le _) _).size
/-- one slot more -/
theorem R3.pushL (R : R3 B b w words Cv P Lv Fv Mv i q m) {g cap : Nat} (h1 : Bel w w1) (h2 : w1.grownBy w2 Lv.ownBlock) (hat : Lv.ownBlock = some g ∨ g = w1.heap.size)
    (hO : w2.ownsRow B 71 4 (.slice (some ⟨g, 0, none⟩) (i + 1) cap) (i + 1) (slL P i ++ [.int .i64 (P.cls i : Nat), .int .i64 (P.sz i : Nat), .int .i64 (P.ad i : Nat), .int .i64 (P.pg i : Nat)])) :
    w2.frozen? ⟨b, 0, none⟩ = false ∧ w2.cell? ⟨b, 0, none⟩ = some Lv ∧ ∃ W, w2.setCell ⟨b, 0, none⟩ (.slice (some ⟨g, 0, none⟩) (i + 1) cap) = W ∧ R3 B b W words Cv P (.slice (some ⟨g, 0, none⟩) (i + 1) cap) Fv Mv (i + 1) q m ∧ Below b w W := by
  obtain ⟨hx, hbl, hB⟩ := R.grown (fun x hx => (R.L.lt x hx).1) h1 h2
  refine ⟨frozen_of_row _ _ 0 _ _ hx, cell_of_row _ _ 0 _ _ (0, 0) hx, _, rfl, ⟨heap_setCell_same _ b 0 _ _ _ hx, ?_, keep_two R.F h1 h2 (fun x hx e => R.lf x e hx) R.bB _ _, keep_two R.M h1 h2 (fun x hx e => R.lm x e hx) R.bB _ _, ?_, ?_, R.fm, R.bB, ?_⟩, hbl.setCell (Nat.le_refl _) _⟩
  · rw [slL_succ]; exact set_own hO R.bB _ _
  · exact fun x hx e => new_ne R.F h1 (fun x hx e => R.lf x e hx) hat rfl x e hx
  · exact fun x hx e => new_ne R.M h1 (fun x hx e => R.lm x e hx) hat rfl x e hx
  · exact Nat.le_trans hB ((Below.refl 0 w2).setCell (Nat.zero_le _) _).size

/-! The plan as it is read. -/
/-- all slots -/
def Sls (w : World) (v : Value) (P : Pl) : Prop := ∃ b off cap, v = .slice (some ⟨b, off, none⟩) P.S cap ∧ ∀ i, i < P.S → Ten w b (off + i * 4) (P.cls i : Nat) (P.sz i : Nat) (P.ad i : Nat) (P.pg i : Nat)
theorem Sls.bel {v : Value} (h : Sls w v P) (g : Bel w w1) : Sls w1 v P := by
  obtain ⟨b, off, cap, h1, h2⟩ := h
  exact ⟨b, off, cap, h1, fun i hi => (h2 i hi).bel g⟩
/-- a plan, by value -/
def IsQ (w : World) (v : Value) (P : Pl) : Prop := ∃ Lv Fv Mv p cap, v = .agg #[Lv, Fv, Mv, .int .i64 (P.W : Nat), .slice p P.n cap] ∧ Sls w Lv P ∧ Nums w Fv P.T (fun j => (P.fi j : Nat)) ∧ Nums w Mv P.T (fun j => (P.mn j : Nat))
theorem IsQ.bel {v : Value} (h : IsQ w v P) (g : Bel w w1) : IsQ w1 v P := by
  obtain ⟨Lv, Fv, Mv, p, cap, e, h1, h2, h3⟩ := h
  exact ⟨Lv, Fv, Mv, p, cap, e, h1.bel g, h2.bel g, h3.bel g⟩
theorem own_nums {v : Value} {n : Nat} {F : Nat → Int} (h : w.ownsRow B 3 1 v n (numL F n)) : Nums w v n F := by
  rcases h.2 with ⟨rfl, rfl⟩ | ⟨g, cap, cur, rfl, hb, hg, hn, hm, hs, _⟩
  · exact Or.inl ⟨rfl, _, _, rfl⟩
  · by_cases c : n = 0
    · subst c; exact Or.inl ⟨rfl, _, _, rfl⟩
    · refine Or.inr ⟨g, 0, cap, rfl, by omega, hn, by unfold maxLen at hm; omega, fun j hj => ?_⟩
      rw [Nat.zero_add, h.cellAt j (by omega), numL_get F hj]
theorem own_sls {v : Value} (hS : 1 ≤ P.S) (h : w.ownsRow B 71 4 v P.S (slL P P.S)) : Sls w v P := by
  rcases h.2 with ⟨rfl, e⟩ | ⟨g, cap, cur, rfl, hb, hg, hn, hm, hs, _⟩
  · omega
  · refine ⟨g, 0, cap, rfl, fun i hi => ?_⟩
    obtain ⟨a0, a1, a2, a3⟩ := slL_at P hi
    refine ⟨?_, ?_, ?_, ?_⟩
    · rw [Nat.zero_add, h.cellAt _ (by omega), a0]
    · rw [Nat.zero_add, h.cellAt _ (by omega), a1]
    · rw [Nat.zero_add, h.cellAt _ (by omega), a2]
    · rw [Nat.zero_add, h.cellAt _ (by omega), a3]
theorem R3.is {p : Option Addr} {cap : Nat} (hS : 1 ≤ P.S) (R : R3 B b w (P.W : Nat) (.slice p P.n cap) P Lv Fv Mv P.S P.T P.T) : IsQ w (.agg #[Lv, Fv, Mv, .int .i64 (P.W : Nat), .slice p P.n cap]) P :=
  ⟨Lv, Fv, Mv, p, cap, rfl, own_sls hS R.L, own_nums R.F, own_nums R.M⟩

/-- what is done to a box below -/
theorem R3.set (R : R3 B b w words Cv P Lv Fv Mv i q m) {y : Nat} (hy : y < b) (j : Nat) (u : Value) : R3 B b (w.setCell ⟨y, j, none⟩ u) words Cv P Lv Fv Mv i q m := by
  have bB := R.bB
  refine ⟨?_, own_keep R.L fun x hx => ?_, own_keep R.F fun x hx => ?_, own_keep R.M fun x hx => ?_, R.lf, R.lm, R.fm, R.bB, Nat.le_trans R.Bw ((Below.refl 0 w).setCell (Nat.zero_le _) _).size⟩
  · rw [set_heap (by omega) u]; exact R.box
  · have := R.L.lt x hx; exact set_heap (by omega) u
  · have := R.F.lt x hx; exact set_heap (by omega) u
  · have := R.M.lt x hx; exact set_heap (by omega) u
theorem box5 {w : World} {b : Nat} {x y z u v : Value} {t : TypeId} (h : w.heap[b]? = some (.cells #[x, y, z, u, v] t (0, 0))) :
    (w.cell? ⟨b, 0, none⟩ = some x ∧ w.cell? ⟨b, 1, none⟩ = some y ∧ w.cell? ⟨b, 2, none⟩ = some z ∧ w.cell? ⟨b, 3, none⟩ = some u ∧ w.cell? ⟨b, 4, none⟩ = some v) ∧
    w.frozen? ⟨b, 0, none⟩ = false ∧ w.frozen? ⟨b, 1, none⟩ = false ∧ w.frozen? ⟨b, 2, none⟩ = false ∧ w.frozen? ⟨b, 3, none⟩ = false ∧ w.frozen? ⟨b, 4, none⟩ = false :=
  ⟨⟨cell_of_row w b 0 _ _ (0, 0) h, cell_of_row w b 1 _ _ (0, 0) h, cell_of_row w b 2 _ _ (0, 0) h, cell_of_row w b 3 _ _ (0, 0) h, cell_of_row w b 4 _ _ (0, 0) h⟩, frozen_of_row _ _ 0 _ _ h, frozen_of_row _ _ 1 _ _ h, frozen_of_row _ _ 2 _ _ h, frozen_of_row _ _ 3 _ _ h, frozen_of_row _ _ 4 _ _ h⟩
theorem five_row {w : World} {g : Nat} {a b c d e : Value} {t : TypeId} (h : w.heap[g]? = some (.cells #[a, b, c, d, e] t (0, 0))) (a' b' c' d' e' : Value) :
    (((((w.setCell ⟨g, 0, none⟩ a').setCell ⟨g, 1, none⟩ b').setCell ⟨g, 2, none⟩ c').setCell ⟨g, 3, none⟩ d').setCell ⟨g, 4, none⟩ e').heap[g]? = some (.cells #[a', b', c', d', e'] t (0, 0)) :=
  heap_setCell_same _ g 4 _ t e' (heap_setCell_same _ g 3 _ t d' (heap_setCell_same _ g 2 _ t c' (heap_setCell_same _ g 1 _ t b' (heap_setCell_same w g 0 _ t a' h))))

end Go.Proofs.YthokalcibjjihaaGreatDoor
