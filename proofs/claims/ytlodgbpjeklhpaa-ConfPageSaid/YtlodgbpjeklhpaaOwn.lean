/- Own of the program. -/
import Derived.Test.YtlodgbpjeklhpaaRat
namespace Go.Proofs.Ytlodgbpjeklhpaa
open Go.ChangeShapes Go.WideShapes Go.ChangeAt Go.RowKit Go.Deep
set_option linter.unusedVariables false

/-- numbers, tenants, in memory that was made -/
def IsN (W : World) (N : Nat) (v : Value) (c : Cf) : Prop :=
  (c.n = 0 ∧ v = .slice none 0 0) ∨ ∃ g cap, v = .slice (some ⟨g, 0, none⟩) c.n cap ∧ 1 ≤ c.n ∧ c.n ≤ cap ∧ cap ≤ 9223372036854775807 ∧ N + 2 ≤ g ∧ g < W.heap.size ∧ RowAt W g c.n 3 ∧ ∀ j, j < c.n → W.cell? ⟨g, j, none⟩ = some (.int .i64 (c.F j))
def IsT (W : World) (N : Nat) (v : Value) (c : Cf) : Prop :=
  (c.m = 0 ∧ v = .slice none 0 0) ∨ ∃ g cap, v = .slice (some ⟨g, 0, none⟩) c.m cap ∧ 1 ≤ c.m ∧ c.m ≤ cap ∧ cap ≤ 9223372036854775807 ∧ N + 2 ≤ g ∧ g < W.heap.size ∧ RowAt W g (c.m * 4) 43 ∧ ∀ j, j < c.m → Ten W g (j * 4) (c.Q j) (c.Tr j) (c.Cp j) (c.As j)

theorem Ten.heap {w w' : World} {g o : Nat} {q t c a : Int} (h : Ten w g o q t c a) (e : w'.heap[g]? = w.heap[g]?) : Ten w' g o q t c a := by
  obtain ⟨t0, t1, t2, t3⟩ := h
  exact ⟨(cell_heap e).trans t0, (cell_heap e).trans t1, (cell_heap e).trans t2, (cell_heap e).trans t3⟩
theorem IsN.go {W W' : World} {N : Nat} {v : Value} {c : Cf} (h : IsN W N v c) (hs : W.heap.size ≤ W'.heap.size) (e : ∀ k, N + 2 ≤ k → k < W.heap.size → W'.heap[k]? = W.heap[k]?) : IsN W' N v c := by
  rcases h with h | ⟨g, cap, rfl, h1, h2, h3, h4, h5, h6, h7⟩
  · exact Or.inl h
  · have := e g h4 h5
    exact Or.inr ⟨g, cap, rfl, h1, h2, h3, h4, by omega, h6.heap this, fun j hj => (cell_heap this).trans (h7 j hj)⟩
theorem IsT.go {W W' : World} {N : Nat} {v : Value} {c : Cf} (h : IsT W N v c) (hs : W.heap.size ≤ W'.heap.size) (e : ∀ k, N + 2 ≤ k → k < W.heap.size → W'.heap[k]? = W.heap[k]?) : IsT W' N v c := by
  rcases h with h | ⟨g, cap, rfl, h1, h2, h3, h4, h5, h6, h7⟩
  · exact Or.inl h
  · have := e g h4 h5
    exact Or.inr ⟨g, cap, rfl, h1, h2, h3, h4, by omega, h6.heap this, fun j hj => (h7 j hj).heap this⟩

theorem set_size (w : World) (a : Addr) (u : Value) : w.heap.size ≤ (w.setCell a u).heap.size := (Below.setCell (Below.refl 0 w) (Nat.zero_le _) _).size
theorem six_of {w : World} {g : Nat} {a b c d e f : Value} {t : TypeId} (h : w.heap[g]? = some (.cells #[a, b, c, d, e, f] t (0, 0))) :
    w.cell? ⟨g, 0, none⟩ = some a ∧ w.cell? ⟨g, 1, none⟩ = some b ∧ w.cell? ⟨g, 2, none⟩ = some c ∧ w.cell? ⟨g, 3, none⟩ = some d ∧ w.cell? ⟨g, 4, none⟩ = some e ∧ w.cell? ⟨g, 5, none⟩ = some f :=
  ⟨cell_of_row w g 0 _ _ _ h, cell_of_row w g 1 _ _ _ h, cell_of_row w g 2 _ _ _ h, cell_of_row w g 3 _ _ _ h, cell_of_row w g 4 _ _ _ h, cell_of_row w g 5 _ _ _ h⟩
theorem six_free {w : World} {g : Nat} {a b c d e f : Value} {t : TypeId} (h : w.heap[g]? = some (.cells #[a, b, c, d, e, f] t (0, 0))) :
    w.frozen? ⟨g, 0, none⟩ = false ∧ w.frozen? ⟨g, 1, none⟩ = false ∧ w.frozen? ⟨g, 2, none⟩ = false ∧ w.frozen? ⟨g, 3, none⟩ = false ∧ w.frozen? ⟨g, 4, none⟩ = false ∧ w.frozen? ⟨g, 5, none⟩ = false :=
  ⟨frozen_of_row _ _ 0 _ _ h, frozen_of_row _ _ 1 _ _ h, frozen_of_row _ _ 2 _ _ h, frozen_of_row _ _ 3 _ _ h, frozen_of_row _ _ 4 _ _ h, frozen_of_row _ _ 5 _ _ h⟩

/-- the world behind the first store, the second -/
structure Own1 (w W : World) (v1 vt : Value) (c : Cf) : Prop where
  bel : Bel w W
  box : W.heap[w.heap.size]? = some (.cells #[v1, .int .i64 c.page, vt, .int .i64 c.wk, .int .i64 c.gr, .int .i64 c.gn] 25 (0, 0))
  res : W.heap[w.heap.size + 1]? = some (.cells #[.slice none 0 0, .int .i64 0, .slice none 0 0, .int .i64 0, .int .i64 0, .int .i64 0] 25 (0, 0))
  isN : IsN W w.heap.size v1 c
structure Own2 (w W : World) (v1 v2 : Value) (c : Cf) : Prop where
  bel : Bel w W
  res : W.heap[w.heap.size + 1]? = some (.cells #[.slice none 0 0, .int .i64 0, .slice none 0 0, .int .i64 0, .int .i64 0, .int .i64 0] 25 (0, 0))
  isN : IsN W w.heap.size v1 c
  isT : IsT W w.heap.size v2 c
  ne : ∀ g1 n1 k1 g2 n2 k2, v1 = .slice (some ⟨g1, 0, none⟩) n1 k1 → v2 = .slice (some ⟨g2, 0, none⟩) n2 k2 → g1 ≠ g2

theorem two_made (w : World) (a b : Obj) : ((w.alloc a).alloc b).heap[w.heap.size]? = some a ∧ ((w.alloc a).alloc b).heap[w.heap.size + 1]? = some b ∧ ((w.alloc a).alloc b).heap.size = w.heap.size + 2 := by
  have s1 : (w.alloc a).heap.size = w.heap.size + 1 := by show (w.heap.push a).size = _; simp
  have s2 : ((w.alloc a).alloc b).heap.size = (w.alloc a).heap.size + 1 := by show ((w.alloc a).heap.push b).size = _; simp
  refine ⟨?_, ?_, by omega⟩
  · rw [Below.heap_alloc _ _ _ (by omega)]; exact heap_alloc_new w a
  · rw [← s1]; exact heap_alloc_new _ b

theorem own1 {w w1 : World} {vc vt v1 : Value} {c : Cf}
    (hM : MadeN ((w.alloc (.cells #[vc, .int .i64 c.page, vt, .int .i64 c.wk, .int .i64 c.gr, .int .i64 c.gn] 25)).alloc (.cells #[.slice none 0 0, .int .i64 0, .slice none 0 0, .int .i64 0, .int .i64 0, .int .i64 0] 25)) w1 v1 c.n c.F) :
    w1.frozen? ⟨w.heap.size, 0, none⟩ = false ∧ (w1.cell? ⟨w.heap.size, 0, none⟩ = some vc ∧ w1.cell? ⟨w.heap.size, 1, none⟩ = some (.int .i64 c.page) ∧ w1.cell? ⟨w.heap.size, 2, none⟩ = some vt ∧ w1.cell? ⟨w.heap.size, 3, none⟩ = some (.int .i64 c.wk) ∧ w1.cell? ⟨w.heap.size, 4, none⟩ = some (.int .i64 c.gr) ∧ w1.cell? ⟨w.heap.size, 5, none⟩ = some (.int .i64 c.gn)) ∧
      ∃ W2, w1.setCell ⟨w.heap.size, 0, none⟩ v1 = W2 ∧ (W2.cell? ⟨w.heap.size, 0, none⟩ = some v1 ∧ W2.cell? ⟨w.heap.size, 1, none⟩ = some (.int .i64 c.page) ∧ W2.cell? ⟨w.heap.size, 2, none⟩ = some vt ∧ W2.cell? ⟨w.heap.size, 3, none⟩ = some (.int .i64 c.wk) ∧ W2.cell? ⟨w.heap.size, 4, none⟩ = some (.int .i64 c.gr) ∧ W2.cell? ⟨w.heap.size, 5, none⟩ = some (.int .i64 c.gn)) ∧ Own1 w W2 v1 vt c := by
  obtain ⟨hg, hi⟩ := hM
  obtain ⟨m0, m1, m2⟩ := two_made w (.cells #[vc, .int .i64 c.page, vt, .int .i64 c.wk, .int .i64 c.gr, .int .i64 c.gn] 25) (.cells #[.slice none 0 0, .int .i64 0, .slice none 0 0, .int .i64 0, .int .i64 0, .int .i64 0] 25)
  have bz := ((Bel.refl w).alloc (.cells #[vc, .int .i64 c.page, vt, .int .i64 c.wk, .int .i64 c.gr, .int .i64 c.gn] 25)).alloc (.cells #[.slice none 0 0, .int .i64 0, .slice none 0 0, .int .i64 0, .int .i64 0, .int .i64 0] 25)
  generalize (w.alloc (.cells #[vc, .int .i64 c.page, vt, .int .i64 c.wk, .int .i64 c.gr, .int .i64 c.gn] 25)).alloc (.cells #[.slice none 0 0, .int .i64 0, .slice none 0 0, .int .i64 0, .int .i64 0, .int .i64 0] 25) = W0 at *
  have h0 := (hg.block _ (by omega) (by intro e; cases e)).trans m0
  have h1 := (hg.block _ (by omega) (by intro e; cases e)).trans m1
  have b1 : Bel w w1 := Below.grown bz hg bz.size (fun x hx => by cases hx)
  have sz := hg.size
  have s0 := heap_setCell_same w1 w.heap.size 0 _ 25 v1 h0
  refine ⟨frozen_of_row _ _ 0 _ _ h0, six_of h0, _, rfl, six_of s0, set_bel b1 (Nat.le_refl _) _ _, s0, (set_heap (by omega) _).trans h1, ?_⟩
  rcases hi with h | ⟨cap, rfl, k1, k2, k3, k4, k5, k6⟩
  · exact Or.inl h
  · have i0 : IsN w1 w.heap.size (.slice (some ⟨W0.heap.size, 0, none⟩) c.n cap) c := Or.inr ⟨_, cap, rfl, k1, k2, k3, by omega, k4, k5, k6⟩
    exact i0.go (set_size _ _ _) fun k hk _ => set_heap (by omega) _

theorem own2 {w W2 w3 : World} {v1 vt v2 : Value} {c : Cf} (h : Own1 w W2 v1 vt c) (hM : MadeT W2 w3 v2 c) :
    w3.frozen? ⟨w.heap.size, 2, none⟩ = false ∧ (w3.cell? ⟨w.heap.size, 0, none⟩ = some v1 ∧ w3.cell? ⟨w.heap.size, 1, none⟩ = some (.int .i64 c.page) ∧ w3.cell? ⟨w.heap.size, 2, none⟩ = some vt ∧ w3.cell? ⟨w.heap.size, 3, none⟩ = some (.int .i64 c.wk) ∧ w3.cell? ⟨w.heap.size, 4, none⟩ = some (.int .i64 c.gr) ∧ w3.cell? ⟨w.heap.size, 5, none⟩ = some (.int .i64 c.gn)) ∧
      ∃ W4, w3.setCell ⟨w.heap.size, 2, none⟩ v2 = W4 ∧ (W4.cell? ⟨w.heap.size, 0, none⟩ = some v1 ∧ W4.cell? ⟨w.heap.size, 1, none⟩ = some (.int .i64 c.page) ∧ W4.cell? ⟨w.heap.size, 2, none⟩ = some v2 ∧ W4.cell? ⟨w.heap.size, 3, none⟩ = some (.int .i64 c.wk) ∧ W4.cell? ⟨w.heap.size, 4, none⟩ = some (.int .i64 c.gr) ∧ W4.cell? ⟨w.heap.size, 5, none⟩ = some (.int .i64 c.gn)) ∧ Own2 w W4 v1 v2 c := by
  obtain ⟨hg, hi⟩ := hM
  have l0 := heap_lt h.box
  have l1 := heap_lt h.res
  have h0 := (hg.block _ l0 (by intro e; cases e)).trans h.box
  have h1 := (hg.block _ l1 (by intro e; cases e)).trans h.res
  have b1 : Bel w w3 := Below.grown h.bel hg h.bel.size (fun x hx => by cases hx)
  have sz := hg.size
  have s0 := heap_setCell_same w3 w.heap.size 2 _ 25 v2 h0
  have iN : IsN (w3.setCell ⟨w.heap.size, 2, none⟩ v2) w.heap.size v1 c := by
    refine h.isN.go (Nat.le_trans sz (set_size _ _ _)) fun k hk hl => ?_
    rw [set_heap (by omega)]
    exact hg.block k hl (by intro e; cases e)
  refine ⟨frozen_of_row _ _ 2 _ _ h0, six_of h0, _, rfl, six_of s0, set_bel b1 (Nat.le_refl _) _ _, (set_heap (by omega) _).trans h1, iN, ?_, ?_⟩
  · rcases hi with h | ⟨cap, rfl, k1, k2, k3, k4, k5, k6⟩
    · exact Or.inl h
    · have i0 : IsT w3 w.heap.size (.slice (some ⟨W2.heap.size, 0, none⟩) c.m cap) c := Or.inr ⟨_, cap, rfl, k1, k2, k3, by omega, k4, k5, k6⟩
      exact i0.go (set_size _ _ _) fun k hk _ => set_heap (by omega) _
  · intro g1 n1 k1 g2 n2 k2 e1 e2
    have x1 : g1 < W2.heap.size := by
      rcases h.isN with ⟨_, e⟩ | ⟨g, cap, e, _, _, _, _, hl, _⟩
      · rw [e1] at e; cases e
      · rw [e1] at e; injection e with e; injection e with e; injection e with e; omega
    have x2 : g2 = W2.heap.size := by
      rcases hi with ⟨_, e⟩ | ⟨cap, e, _⟩
      · rw [e2] at e; cases e
      · rw [e2] at e; injection e with e; injection e with e; injection e with e
    omega

theorem six_sets' {w0 w1 : World} {g : Nat} (h : Bel w0 w1) (hg : w0.heap.size ≤ g) (a b c d e f : Value) :
    Bel w0 ((((((w1.setCell ⟨g, 0, none⟩ a).setCell ⟨g, 1, none⟩ b).setCell ⟨g, 2, none⟩ c).setCell ⟨g, 3, none⟩ d).setCell ⟨g, 4, none⟩ e).setCell ⟨g, 5, none⟩ f) :=
  set_bel (set_bel (set_bel (set_bel (set_bel (set_bel h hg _ _) hg _ _) hg _ _) hg _ _) hg _ _) hg _ _
theorem six_row' {w : World} {g : Nat} {a b c d e f : Value} {t : TypeId} (h : w.heap[g]? = some (.cells #[a, b, c, d, e, f] t (0, 0))) (a' b' c' d' e' f' : Value) :
    ((((((w.setCell ⟨g, 0, none⟩ a').setCell ⟨g, 1, none⟩ b').setCell ⟨g, 2, none⟩ c').setCell ⟨g, 3, none⟩ d').setCell ⟨g, 4, none⟩ e').setCell ⟨g, 5, none⟩ f').heap[g]? = some (.cells #[a', b', c', d', e', f'] t (0, 0)) :=
  heap_setCell_same _ g 5 _ t f' (heap_setCell_same _ g 4 _ t e' (heap_setCell_same _ g 3 _ t d' (heap_setCell_same _ g 2 _ t c' (heap_setCell_same _ g 1 _ t b' (heap_setCell_same w g 0 _ t a' h)))))
theorem six_far' {w : World} {g k : Nat} (h : k ≠ g) (a' b' c' d' e' f' : Value) :
    ((((((w.setCell ⟨g, 0, none⟩ a').setCell ⟨g, 1, none⟩ b').setCell ⟨g, 2, none⟩ c').setCell ⟨g, 3, none⟩ d').setCell ⟨g, 4, none⟩ e').setCell ⟨g, 5, none⟩ f').heap[k]? = w.heap[k]? := by
  rw [set_heap h, set_heap h, set_heap h, set_heap h, set_heap h, set_heap h]

/-- what lies there at the end -/
structure Own3 (w W : World) (v1 v2 : Value) (c : Cf) : Prop where
  bel : Bel w W
  isN : IsN W w.heap.size v1 c
  isT : IsT W w.heap.size v2 c
  ne : ∀ g1 n1 k1 g2 n2 k2, v1 = .slice (some ⟨g1, 0, none⟩) n1 k1 → v2 = .slice (some ⟨g2, 0, none⟩) n2 k2 → g1 ≠ g2
theorem own3 {w W : World} {v1 v2 : Value} {c : Cf} (h : Own2 w W v1 v2 c) (a b d e f i : Value) :
    Own3 w ((((((W.setCell ⟨w.heap.size + 1, 0, none⟩ a).setCell ⟨w.heap.size + 1, 1, none⟩ b).setCell ⟨w.heap.size + 1, 2, none⟩ d).setCell ⟨w.heap.size + 1, 3, none⟩ e).setCell ⟨w.heap.size + 1, 4, none⟩ f).setCell ⟨w.heap.size + 1, 5, none⟩ i) v1 v2 c := by
  have sz : W.heap.size ≤ ((((((W.setCell ⟨w.heap.size + 1, 0, none⟩ a).setCell ⟨w.heap.size + 1, 1, none⟩ b).setCell ⟨w.heap.size + 1, 2, none⟩ d).setCell ⟨w.heap.size + 1, 3, none⟩ e).setCell ⟨w.heap.size + 1, 4, none⟩ f).setCell ⟨w.heap.size + 1, 5, none⟩ i).heap.size :=
    Nat.le_trans (set_size _ _ _) (Nat.le_trans (set_size _ _ _) (Nat.le_trans (set_size _ _ _) (Nat.le_trans (set_size _ _ _) (Nat.le_trans (set_size _ _ _) (set_size _ _ _)))))
  exact ⟨six_sets' h.bel (by omega) a b d e f i, h.isN.go sz fun k hk _ => six_far' (by omega) a b d e f i, h.isT.go sz fun k hk _ => six_far' (by omega) a b d e f i, h.ne⟩

theorem MadeN.shape {w w' : World} {v : Value} {n : Nat} {F : Nat → Int} (h : MadeN w w' v n F) : ∃ p k j, v = .slice p k j := by
  rcases h.is with ⟨_, rfl⟩ | ⟨cap, rfl, _⟩
  · exact ⟨_, _, _, rfl⟩
  · exact ⟨_, _, _, rfl⟩
theorem MadeT.shape {w w' : World} {v : Value} {c : Cf} (h : MadeT w w' v c) : ∃ p k j, v = .slice p k j := by
  rcases h.is with ⟨_, rfl⟩ | ⟨cap, rfl, _⟩
  · exact ⟨_, _, _, rfl⟩
  · exact ⟨_, _, _, rfl⟩

theorem info_cf0 : (Try.prog.info? 25).map (·.size) = some 6 := by kernel_rfl

set_option maxHeartbeats 2000000 in
theorem pown_made (vc vt : Value) (c : Cf) (w : World) (hN : Nums w vc c.n c.F) (hT : Tens w vt c) (hn : c.n ≤ 50) (hm : c.m ≤ 50) :
    Calls Try.prog 17 #[.agg #[vc, .int .i64 c.page, vt, .int .i64 c.wk, .int .i64 c.gr, .int .i64 c.gn]] w fun e w' => ∃ v1 v2, e = .returned (.agg #[v1, .int .i64 c.page, v2, .int .i64 c.wk, .int .i64 c.gr, .int .i64 c.gn]) ∧ Own3 w w' v1 v2 c := by
  have bz := ((Bel.refl w).alloc (.cells #[vc, .int .i64 c.page, vt, .int .i64 c.wk, .int .i64 c.gr, .int .i64 c.gn] 25)).alloc (.cells #[.slice none 0 0, .int .i64 0, .slice none 0 0, .int .i64 0, .int .i64 0, .int .i64 0] 25)
  have hN0 := Lib.hid (hN.bel bz)
  have hid := Lib.hid (And.intro hT (And.intro hn hm))
  clear hN hT hn hm bz
  go_enter Try.func17, Try.ntmps17
  go_wp2_with (first
    | (at_builtin; refine wpList_appN rfl (.const (.slice none 0 0)) (.tmp 4) rfl rfl _ c.n c.F rfl hN0.out hid.out.2.1 ?_; intro v1 w1 hM1
       obtain ⟨p1, n1, c1, rfl⟩ := hM1.shape
       obtain ⟨fz, ⟨k0, k1, k2, k3, k4, k5⟩, W2, hW2, ⟨l0, l1, l2, l3, l4, l5⟩, O1⟩ := own1 hM1
       have hO1 := Lib.hid O1
       clear hM1 O1)
    | (at_builtin; refine wpList_appT rfl (.const (.slice none 0 0)) (.tmp 8) rfl rfl _ c rfl (hid.out.1.bel hO1.out.bel) hid.out.2.2 ?_; intro v2 w3 hM2
       obtain ⟨p2, n2, c2, rfl⟩ := hM2.shape
       obtain ⟨fz3, ⟨a0, a1, a2, a3, a4, a5⟩, W4, hW4, ⟨b0, b1, b2, b3, b4, b5⟩, O2⟩ := own2 hO1.out hM2
       obtain ⟨f0, f1, f2, f3, f4, f5⟩ := six_free O2.res
       obtain ⟨z0, z1, z2, z3, z4, z5⟩ := six_of O2.res
       have hO2 := Lib.hid O2
       clear hM2 O2))
  (try simp only [Exit.inBlock, Exit.then])
  refine bodyPost_ret (results_cell_row rfl _ _ _ 25 _ (0, 0) _ rfl (six_row' hO2.out.res _ _ _ _ _ _) Try.underlying25 rfl info_cf0) rfl ?_
  exact ⟨_, _, rfl, own3 hO2.out _ _ _ _ _ _⟩

theorem pown_any (v : Value) (c : Cf) (w : World) (h : IsCf w v c) (hn : c.n ≤ 50) (hm : c.m ≤ 50) :
    Calls Try.prog 17 #[v] w fun e w' => ∃ v', e = .returned v' ∧ IsCf w' v' c ∧ Bel w w' := by
  obtain ⟨vc, vt, rfl, hN, hT⟩ := h
  refine (pown_made vc vt c w hN hT hn hm).mono ?_
  rintro e w' ⟨v1, v2, rfl, O⟩
  refine ⟨_, rfl, ⟨v1, v2, rfl, ?_, ?_⟩, O.bel⟩
  · rcases O.isN with ⟨e, rfl⟩ | ⟨g, cap, rfl, h1, h2, h3, _, _, _, h7⟩
    · exact Or.inl ⟨e, _, _, rfl⟩
    · exact Or.inr ⟨g, 0, cap, rfl, h1, h2, h3, fun j hj => by rw [Nat.zero_add]; exact h7 j hj⟩
  · rcases O.isT with ⟨e, rfl⟩ | ⟨g, cap, rfl, h1, h2, h3, _, _, _, h7⟩
    · exact Or.inl ⟨e, _, _, rfl⟩
    · exact Or.inr ⟨g, 0, cap, rfl, h1, h2, h3, fun j hj => by rw [Nat.zero_add]; exact h7 j hj⟩

theorem pown_fresh (v : Value) (c : Cf) (w : World) (h : IsCf w v c) (ok : c.ok) :
    Calls Try.prog 17 #[v] w fun e w' => ∃ g1 k1 g2 k2, e = .returned (.agg #[.slice (some ⟨g1, 0, none⟩) c.n k1, .int .i64 c.page, .slice (some ⟨g2, 0, none⟩) c.m k2, .int .i64 c.wk, .int .i64 c.gr, .int .i64 c.gn]) ∧ c.n ≤ k1 ∧ k1 ≤ 9223372036854775807 ∧ c.m ≤ k2 ∧ k2 ≤ 9223372036854775807 ∧ Owned w w' c g1 g2 := by
  obtain ⟨vc, vt, rfl, hN, hT⟩ := h
  have n8 := Cf.ok_n ok
  have m8 := Cf.ok_m ok
  refine (pown_made vc vt c w hN hT (by omega) (by omega)).mono ?_
  rintro e w' ⟨v1, v2, rfl, O⟩
  rcases O.isN with ⟨e, _⟩ | ⟨g1, k1, rfl, _, a2, a3, a4, _, a6, a7⟩
  · omega
  rcases O.isT with ⟨e, _⟩ | ⟨g2, k2, rfl, _, b2, b3, b4, _, b6, b7⟩
  · omega
  exact ⟨g1, k1, g2, k2, rfl, a2, a3, b2, b3, O.bel, by omega, by omega, O.ne _ _ _ _ _ _ rfl rfl, a6, b6, a7, b7⟩

end Go.Proofs.Ytlodgbpjeklhpaa
