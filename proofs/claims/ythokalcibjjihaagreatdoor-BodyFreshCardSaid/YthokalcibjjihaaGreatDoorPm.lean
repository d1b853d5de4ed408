/- A plan of the program as it is made: its box, two spans, its row of parts. -/
import Derived.Test.YthokalcibjjihaaGreatDoorPl
namespace Go.Proofs.YthokalcibjjihaaGreatDoor
open Go.ChangeShapes Go.WideShapes Go.ChangeAt Go.RowKit Go.Deep Go.Shelf
set_option linter.unusedVariables false

theorem info_part : (Tryz.prog.info? 136).map (fun i => (i.zero, i.size, i.bytes)) = some (some (pv 0 0 0 0 0 0 0), 7, 56) := by kernel_rfl
theorem info_span : (Tryz.prog.info? 132).map (·.size) = some 2 := by kernel_rfl

/-- the seven cells of a part -/
abbrev Pl.cs (P : Pl) (k : Nat) : List Value := [.int .i64 (k : Nat), .int .i64 (P.f k : Nat), .int .i64 (P.e k : Nat), .int .i64 (P.fo k : Nat), .int .i64 (P.s k : Nat), .int .i64 (P.po k : Nat), .int .i64 (P.p k : Nat)]
/-- the cells of the first parts -/
def ptL (P : Pl) (n : Nat) : List Value := (List.range n).flatMap fun k => P.cs k
theorem ptL_succ (P : Pl) (n : Nat) : ptL P (n + 1) = ptL P n ++ P.cs n := by
  unfold ptL; rw [List.range_succ, List.flatMap_append]; simp
theorem ptL_len (P : Pl) : ∀ n, (ptL P n).length = n * 7
  | 0 => rfl
  | n + 1 => by rw [ptL_succ, List.length_append, ptL_len P n]; simp; omega
theorem ptL_at (P : Pl) : ∀ {n i : Nat}, i < n → ∀ j, j < 7 → (ptL P n)[i * 7 + j]? = (P.cs i)[j]?
  | 0, _, h => by omega
  | n + 1, i, h => fun j hj => by
    have l := ptL_len P n
    rw [ptL_succ]
    by_cases c : i < n
    · rw [List.getElem?_append_left (by omega)]
      exact ptL_at P c j hj
    · obtain rfl : i = n := by omega
      rw [List.getElem?_append_right (by omega), l, show i * 7 + j - i * 7 = j by omega]

/-- the program's plan as it is made -/
structure R1 (b : Nat) (w : World) (P : Pl) (Lv : Value) (i a m a' m' : Nat) : Prop where
  box : w.heap[b]? = some (.cells #[.int .i64 (P.g : Nat), Lv] 130 (0, 0))
  sp : w.heap[b + 1]? = some (.cells #[.int .i64 (a : Nat), .int .i64 (m : Nat)] 132 (0, 0))
  pp : w.heap[b + 1 + 1]? = some (.cells #[.int .i64 (a' : Nat), .int .i64 (m' : Nat)] 132 (0, 0))
  L : w.ownsRow (b + 3) 136 7 Lv i (ptL P i)
  Bw : b + 3 ≤ w.heap.size

variable {b : Nat} {w w1 w2 : World} {Lv : Value} {P : Pl} {i a m a' m' : Nat}
theorem R1.bel (R : R1 b w P Lv i a m a' m') (g : Bel w w1) : R1 b w1 P Lv i a m a' m' :=
  ⟨heap_bel g R.box, heap_bel g R.sp, heap_bel g R.pp, own_keep R.L fun x hx => g.block x (R.L.lt x hx).2, Nat.le_trans R.Bw g.size⟩
theorem box2 {w : World} {b : Nat} {x y : Value} {t : TypeId} (h : w.heap[b]? = some (.cells #[x, y] t (0, 0))) :
    (w.cell? ⟨b, 0, none⟩ = some x ∧ w.cell? ⟨b, 1, none⟩ = some y) ∧ w.frozen? ⟨b, 0, none⟩ = false ∧ w.frozen? ⟨b, 1, none⟩ = false :=
  ⟨⟨cell_of_row w b 0 _ _ (0, 0) h, cell_of_row w b 1 _ _ (0, 0) h⟩, frozen_of_row _ _ 0 _ _ h, frozen_of_row _ _ 1 _ _ h⟩
theorem two_row {w : World} {g : Nat} {a b : Value} {t : TypeId} (h : w.heap[g]? = some (.cells #[a, b] t (0, 0))) (a' b' : Value) :
    ((w.setCell ⟨g, 0, none⟩ a').setCell ⟨g, 1, none⟩ b').heap[g]? = some (.cells #[a', b'] t (0, 0)) :=
  heap_setCell_same _ g 1 _ t b' (heap_setCell_same w g 0 _ t a' h)
/-- one part more -/
theorem R1.push (R : R1 b w P Lv i a m a' m') {g cap : Nat} (h1 : Bel w w1) (h2 : w1.grownBy w2 Lv.ownBlock)
    (hO : w2.ownsRow (b + 3) 136 7 (.slice (some ⟨g, 0, none⟩) (i + 1) cap) (i + 1) (ptL P i ++ P.cs i)) :
    w2.frozen? ⟨b, 1, none⟩ = false ∧ w2.cell? ⟨b, 1, none⟩ = some Lv ∧ ∃ W, w2.setCell ⟨b, 1, none⟩ (.slice (some ⟨g, 0, none⟩) (i + 1) cap) = W ∧ R1 b W P (.slice (some ⟨g, 0, none⟩) (i + 1) cap) (i + 1) a m a' m' ∧ Below b w W := by
  have e1 := R.Bw
  have e2 := h1.size
  have nb : ∀ x, x < b + 3 → w2.heap[x]? = w.heap[x]? := fun x hx => by
    rw [h2.block x (by omega) (fun e => by have := (R.L.lt x e.symm).1; omega), h1.block x (by omega)]
  have hx := (nb b (by omega)).trans R.box
  refine ⟨frozen_of_row _ _ 1 _ _ hx, cell_of_row _ _ 1 _ _ (0, 0) hx, _, rfl, ⟨heap_setCell_same _ b 1 _ _ _ hx, ?_, ?_, ?_, ?_⟩, ?_⟩
  · exact (set_heap (show b + 1 ≠ b by omega) _).trans ((nb (b + 1) (by omega)).trans R.sp)
  · exact (set_heap (show b + 1 + 1 ≠ b by omega) _).trans ((nb (b + 1 + 1) (by omega)).trans R.pp)
  · rw [ptL_succ]; exact set_own hO (by omega) _ _
  · exact Nat.le_trans (Nat.le_trans e1 (Nat.le_trans e2 h2.size)) ((Below.refl 0 w2).setCell (Nat.zero_le _) _).size
  · have k : Below b w w2 := Below.grown (Below.mono h1 (by omega)) h2 (by omega) fun x hx => by have := (R.L.lt x hx).1; omega
    exact k.setCell (Nat.le_refl _) _
/-- the spans are set -/
theorem R1.spans (R : R1 b w P Lv i a m a' m') (x y x' y' : Nat) :
    R1 b ((((w.setCell ⟨b + 1, 0, none⟩ (.int .i64 (x : Nat))).setCell ⟨b + 1, 1, none⟩ (.int .i64 (y : Nat))).setCell ⟨b + 1 + 1, 0, none⟩ (.int .i64 (x' : Nat))).setCell ⟨b + 1 + 1, 1, none⟩ (.int .i64 (y' : Nat))) P Lv i x y x' y' ∧
    Below b w ((((w.setCell ⟨b + 1, 0, none⟩ (.int .i64 (x : Nat))).setCell ⟨b + 1, 1, none⟩ (.int .i64 (y : Nat))).setCell ⟨b + 1 + 1, 0, none⟩ (.int .i64 (x' : Nat))).setCell ⟨b + 1 + 1, 1, none⟩ (.int .i64 (y' : Nat))) := by
  have h2 := two_row R.sp (.int .i64 (x : Nat)) (.int .i64 (y : Nat))
  have h3 : ((w.setCell ⟨b + 1, 0, none⟩ (.int .i64 (x : Nat))).setCell ⟨b + 1, 1, none⟩ (.int .i64 (y : Nat))).heap[b + 1 + 1]? = _ := (set_heap (by omega) _).trans ((set_heap (by omega) _).trans R.pp)
  have hb : Below b w ((((w.setCell ⟨b + 1, 0, none⟩ (.int .i64 (x : Nat))).setCell ⟨b + 1, 1, none⟩ (.int .i64 (y : Nat))).setCell ⟨b + 1 + 1, 0, none⟩ (.int .i64 (x' : Nat))).setCell ⟨b + 1 + 1, 1, none⟩ (.int .i64 (y' : Nat))) :=
    ((((Below.refl b w).setCell (p := ⟨b + 1, 0, none⟩) (by show b ≤ b + 1; omega) _).setCell (p := ⟨b + 1, 1, none⟩) (by show b ≤ b + 1; omega) _).setCell (p := ⟨b + 1 + 1, 0, none⟩) (by show b ≤ b + 1 + 1; omega) _).setCell (p := ⟨b + 1 + 1, 1, none⟩) (by show b ≤ b + 1 + 1; omega) _
  refine ⟨⟨?_, ?_, two_row h3 _ _, own_keep R.L fun z hz => ?_, Nat.le_trans R.Bw hb.size⟩, hb⟩
  · rw [set_heap (by omega), set_heap (by omega), set_heap (by omega), set_heap (by omega)]; exact R.box
  · rw [set_heap (by omega), set_heap (by omega)]; exact h2
  · have := (R.L.lt z hz).1
    rw [set_heap (by omega), set_heap (by omega), set_heap (by omega), set_heap (by omega)]
/-- a plan that is made -/
theorem R1.is (R : R1 b w P Lv P.n a m a' m') (hn : 1 ≤ P.n) : ∃ g cap, PlanAt w b g 0 cap P := by
  have hb := heap_lt R.box
  have hx := box2 R.box
  rcases R.L.2 with ⟨e, e2⟩ | ⟨g, cap, cur, rfl, hg, hh, hc, hm, hs, _⟩
  · omega
  · refine ⟨g, cap, hb, heap_lt hh, hx.1.1, hx.1.2, hc, by unfold maxLen at hm; omega, fun k hk => ?_⟩
    have c := fun j (hj : j < 7) => R.L.cellAt (k * 7 + j) (by omega)
    have d := fun j (hj : j < 7) => ptL_at P hk j hj
    rw [Nat.zero_add]
    refine ⟨?_, ?_, ?_, ?_, ?_, ?_, ?_⟩
    · have := c 0 (by omega); rw [d 0 (by omega)] at this; exact this
    · have := c 1 (by omega); rw [d 1 (by omega)] at this; exact this
    · have := c 2 (by omega); rw [d 2 (by omega)] at this; exact this
    · have := c 3 (by omega); rw [d 3 (by omega)] at this; exact this
    · have := c 4 (by omega); rw [d 4 (by omega)] at this; exact this
    · have := c 5 (by omega); rw [d 5 (by omega)] at this; exact this
    · have := c 6 (by omega); rw [d 6 (by omega)] at this; exact this

/-- next -/
theorem next_any (a m n : Nat) (w : World) (ha : a ≤ 4294967296) (hm : m ≤ 4294967296) :
    Calls Tryz.prog 71 #[.agg #[.int .i64 (a : Nat), .int .i64 (m : Nat)], .int .i64 (n : Nat)] w fun e w' => e = .returned (.agg #[.int .i64 ((a + m : Nat) : Int), .int .i64 (n : Nat)]) ∧ Bel w w' := by
  have en := fun W => (end_any a m W ha hm).mono fun e w' ⟨x, y⟩ => (⟨x, y ▸ (Bel.refl W).alloc _⟩ : e = Ending.returned (.int .i64 ((a + m : Nat) : Int)) ∧ Bel W w')
  clear ha hm
  generalize a + m = s at *
  obtain ⟨hs, hb, b0, b1⟩ := two_at (w := w) (W := (w.alloc (.cells #[.int .i64 (a : Nat), .int .i64 (m : Nat)] 132)).alloc (.cells #[.int .i64 0, .int .i64 0] 132)) rfl
  go_enter Tryz.func71, Tryz.ntmps71
  go_wp2_with (go_at_call 108; refine (en _).mono ?_; rintro e w' ⟨rfl, hg⟩; have hx := heap_bel hg b1; obtain ⟨⟨z0, z1⟩, f0, f1⟩ := box2 hx)
  (try simp only [Exit.inBlock, Exit.then])
  refine bodyPost_ret (results_cell_row rfl _ _ _ 132 _ (0, 0) _ rfl (two_row hx _ _) Tryz.underlying132 rfl info_span) rfl ?_
  have hB := hb.trans hg
  exact ⟨rfl, ((show Below w.heap.size w w' from hB).setCell (Nat.le_succ _) _).setCell (Nat.le_succ _) _⟩

end Go.Proofs.YthokalcibjjihaaGreatDoor
