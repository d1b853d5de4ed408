/- find of the program's plans: over each of the three closures. -/
import Derived.Test.YthokalcibjjihaaGreatDoorPc
import Derived.Test.YthokalcibjjihaaGreatDoorRgr
namespace Go.Proofs.YthokalcibjjihaaGreatDoor
open Go.ChangeShapes Go.WideShapes Go.ChangeAt Go.RowKit Go.Deep Go.Shelf
set_option linter.unusedVariables false
attribute [local go_sem] Oper.semAt_some

theorem allocs_at : ∀ (os : List Obj) (w : World), (os.foldl World.alloc w).heap.size = w.heap.size + os.length ∧ Bel w (os.foldl World.alloc w) ∧ ∀ i, i < os.length → (os.foldl World.alloc w).heap[w.heap.size + i]? = os[i]?
  | [], w => ⟨rfl, Bel.refl w, fun i hi => by simp at hi⟩
  | o :: os, w => by
    obtain ⟨h1, h2, h3⟩ := allocs_at os (w.alloc o)
    have s : (w.alloc o).heap.size = w.heap.size + 1 := World.size_alloc ..
    have b : Bel w (w.alloc o) := (Bel.refl w).alloc o
    refine ⟨?_, b.trans h2, ?_⟩
    · show (os.foldl World.alloc (w.alloc o)).heap.size = _
      rw [h1, s, List.length_cons]; omega
    · rintro (_ | i) hi
      · show (os.foldl World.alloc (w.alloc o)).heap[w.heap.size + 0]? = _
        have hh := World.alloc_heap_new w o
        rw [Nat.add_zero, h2.block _ (by rw [s]; omega), hh]
        rfl
      · show (os.foldl World.alloc (w.alloc o)).heap[w.heap.size + (i + 1)]? = _
        have := h3 i (by simp at hi; omega)
        rw [s, show w.heap.size + 1 + i = w.heap.size + (i + 1) by omega] at this
        rw [this]
        rfl

theorem upto_split {k y : Nat} {q : List Nat} (h : upto k = q ++ [y]) : y < k ∧ ∀ j, j < y → j ∈ q := by
  have hl := congrArg List.length h
  rw [List.length_range, List.length_append, List.length_singleton] at hl
  obtain ⟨k', rfl⟩ : ∃ k', k = k' + 1 := ⟨q.length, by omega⟩
  rw [upto_succ] at h
  obtain ⟨h1, h2⟩ := List.append_inj' h rfl
  have h2 : k' = y := by simpa using h2
  subst h2
  exact ⟨by omega, fun j h4 => by rw [← h1]; exact List.mem_range.2 h4⟩

theorem Bel.others {W W' : World} (h : Bel W W') : KeepsOthers W W' := ⟨h.size, fun k o hk _ => (h.block k (Array.getElem?_eq_some_iff.1 hk).1).trans hk⟩
theorem blk_below {W W' : World} {n k : Nat} {o : Obj} (h : Below n W W') (hk : k < n) (ho : W.heap[k]? = some o) : W'.heap[k]? = some o := (h.block k hk).trans ho

theorem box7 {w : World} {b : Nat} {x0 x1 x2 x3 x4 x5 x6 : Value} {t : TypeId} (h : w.heap[b]? = some (.cells #[x0, x1, x2, x3, x4, x5, x6] t (0, 0))) :
    (w.cell? ⟨b, 0, none⟩ = some x0 ∧ w.cell? ⟨b, 1, none⟩ = some x1 ∧ w.cell? ⟨b, 2, none⟩ = some x2 ∧ w.cell? ⟨b, 3, none⟩ = some x3 ∧ w.cell? ⟨b, 4, none⟩ = some x4 ∧ w.cell? ⟨b, 5, none⟩ = some x5 ∧ w.cell? ⟨b, 6, none⟩ = some x6) ∧
    w.frozen? ⟨b, 0, none⟩ = false ∧ w.frozen? ⟨b, 1, none⟩ = false ∧ w.frozen? ⟨b, 2, none⟩ = false ∧ w.frozen? ⟨b, 3, none⟩ = false ∧ w.frozen? ⟨b, 4, none⟩ = false ∧ w.frozen? ⟨b, 5, none⟩ = false ∧ w.frozen? ⟨b, 6, none⟩ = false :=
  ⟨⟨cell_of_row w b 0 _ _ (0, 0) h, cell_of_row w b 1 _ _ (0, 0) h, cell_of_row w b 2 _ _ (0, 0) h, cell_of_row w b 3 _ _ (0, 0) h, cell_of_row w b 4 _ _ (0, 0) h, cell_of_row w b 5 _ _ (0, 0) h, cell_of_row w b 6 _ _ (0, 0) h⟩,
    frozen_of_row _ _ 0 _ _ h, frozen_of_row _ _ 1 _ _ h, frozen_of_row _ _ 2 _ _ h, frozen_of_row _ _ 3 _ _ h, frozen_of_row _ _ 4 _ _ h, frozen_of_row _ _ 5 _ _ h, frozen_of_row _ _ 6 _ _ h⟩
/-- seven stores -/
abbrev set7 (w : World) (g : Nat) (a b c d e f h : Value) : World :=
  ((((((w.setCell ⟨g, 0, none⟩ a).setCell ⟨g, 1, none⟩ b).setCell ⟨g, 2, none⟩ c).setCell ⟨g, 3, none⟩ d).setCell ⟨g, 4, none⟩ e).setCell ⟨g, 5, none⟩ f).setCell ⟨g, 6, none⟩ h
theorem seven_row {w : World} {g : Nat} {a b c d e f h : Value} {t : TypeId} (hz : w.heap[g]? = some (.cells #[a, b, c, d, e, f, h] t (0, 0))) (a' b' c' d' e' f' h' : Value) :
    (set7 w g a' b' c' d' e' f' h').heap[g]? = some (.cells #[a', b', c', d', e', f', h'] t (0, 0)) :=
by
  have h0 : (w.setCell ⟨g, 0, none⟩ a').heap[g]? = some (.cells #[a', b, c, d, e, f, h] t (0, 0)) := heap_setCell_same w g 0 _ t a' hz
  have h1 : ((w.setCell ⟨g, 0, none⟩ a').setCell ⟨g, 1, none⟩ b').heap[g]? = some (.cells #[a', b', c, d, e, f, h] t (0, 0)) := heap_setCell_same _ g 1 _ t b' h0
  have h2 : (((w.setCell ⟨g, 0, none⟩ a').setCell ⟨g, 1, none⟩ b').setCell ⟨g, 2, none⟩ c').heap[g]? = some (.cells #[a', b', c', d, e, f, h] t (0, 0)) := heap_setCell_same _ g 2 _ t c' h1
  have h3 := heap_setCell_same _ g 3 _ t d' h2
  have h4 := heap_setCell_same _ g 4 _ t e' h3
  have h5 := heap_setCell_same _ g 5 _ t f' h4
  exact heap_setCell_same _ g 6 _ t h' h5
theorem set7_below {n g : Nat} {W w : World} (h : Below n W w) (hg : n ≤ g) (a b c d e f i : Value) : Below n W (set7 w g a b c d e f i) :=
  (((((((h.setCell (p := ⟨g, 0, none⟩) hg _).setCell (p := ⟨g, 1, none⟩) hg _).setCell (p := ⟨g, 2, none⟩) hg _).setCell (p := ⟨g, 3, none⟩) hg _).setCell (p := ⟨g, 4, none⟩) hg _).setCell (p := ⟨g, 5, none⟩) hg _).setCell (p := ⟨g, 6, none⟩) hg _)
theorem set7_others {g : Nat} (w : World) (a b c d e f i : Value) : KeepsOthers w (set7 w g a b c d e f i) :=
  ((((((KeepsOthers.setCell w ⟨g, 0, none⟩ a).trans (KeepsOthers.setCell _ ⟨g, 1, none⟩ b)).trans (KeepsOthers.setCell _ ⟨g, 2, none⟩ c)).trans (KeepsOthers.setCell _ ⟨g, 3, none⟩ d)).trans (KeepsOthers.setCell _ ⟨g, 4, none⟩ e)).trans (KeepsOthers.setCell _ ⟨g, 5, none⟩ f)).trans (KeepsOthers.setCell _ ⟨g, 6, none⟩ i)
theorem heap_set_other {w : World} {p : Addr} {k : Nat} (v : Value) (h : k ≠ p.block) {o : Obj} (ho : w.heap[k]? = some o) : (w.setCell p v).heap[k]? = some o :=
  (heap_setCell_other w p k v h).trans ho
theorem set7_other {w : World} {g k : Nat} (a b c d e f i : Value) (h : k ≠ g) {o : Obj} (ho : w.heap[k]? = some o) : (set7 w g a b c d e f i).heap[k]? = some o :=
  heap_set_other _ h (heap_set_other _ h (heap_set_other _ h (heap_set_other _ h (heap_set_other _ h (heap_set_other _ h (heap_set_other _ h ho))))))
theorem put_other {w : World} {D k : Nat} {o' o : Obj} (h : k ≠ D) (ho : w.heap[k]? = some o) : (w.putObj D o').heap[k]? = some o := (World.putObj_heap_other h).trans ho

theorem info_pt : (Tryz.prog.info? 136).map (·.size) = some 7 := by kernel_rfl
theorem results_row_one {P : Program} {fn : Func} {p u : Tmp} {ty ty2 : TypeId} (h : fn.results = #[.cell p ty, .cell u ty2]) (tmps : Array Value) (w : World) (g g2 : Nat) (t : TypeId) (cs : Array Value) (fr : Nat × Nat) (d : TypeDesc) (v : Value)
    (hp : tmps.getD p undef = .pointer (some ⟨g, 0, none⟩)) (hg : w.heap[g]? = some (.cells cs t fr))
    (hu : P.underlying ty = some d) (hd : (match d with | .struct _ | .array _ _ => true | _ => false) = true) (hi : (P.info? ty).map (·.size) = some cs.size)
    (hp2 : tmps.getD u undef = .pointer (some ⟨g2, 0, none⟩)) (hg2 : w.cell? ⟨g2, 0, none⟩ = some v) (hl : ∀ W : World, W.cell? ⟨g2, 0, none⟩ = some v → (loadVar ty2 ⟨g2, 0, none⟩).run P W = .ok v W) :
    (results fn tmps).run P w = .ok (.tuple #[.agg cs, v]) w := by
  have hp' : tmps[p]?.getD undef = .pointer (some ⟨g, 0, none⟩) := by simpa using hp
  have hp2' : tmps[u]?.getD undef = .pointer (some ⟨g2, 0, none⟩) := by simpa using hp2
  simp [results, h, hp', hp2', asAddr, run_loadVar_row w g t ty cs fr d hg hu hd hi, hl w hg2]

set_option maxRecDepth 100000 in
set_option maxHeartbeats 4000000 in
theorem find_sl {b g off cap : Nat} {P : Pl} (φ : Nat → Bool) (bc : Nat) (w : World) (h : PlanAt w b g off cap P) (hn : 1 ≤ P.n) (hbc : bc < w.heap.size)
    (hcl : ∀ W, Bel w W → ∀ k, k < P.n → Calls Tryz.prog 124 #[P.pt k, .pointer (some ⟨bc, 0, none⟩)] W fun e w' => e = .returned (.bool (φ k)) ∧ Bel W w') :
    Calls Tryz.prog 123 #[.pointer (some ⟨b, 0, none⟩), .func (.func 124) #[] #[.pointer (some ⟨bc, 0, none⟩)]] w fun e w' =>
      ((∃ k, k < P.n ∧ φ k = true ∧ (∀ j, j < k → φ j = false) ∧ e = .returned (.tuple #[P.pt k, .int .i64 0])) ∨ ((∀ k, k < P.n → φ k = false) ∧ e = .returned (.tuple #[pv 0 0 0 0 0 0 0, .int .i64 2]))) ∧ Bel w w' := by
  have hbp := h.1
  have hgp := h.2.1
  have he := fun W (k : Bel w W) => exists_yes (h.bel k) hn
  have hb3 : ∀ o o' o'', Bel w (((w.alloc o).alloc o').alloc o'') := fun o o' o'' => (((Bel.refl w).alloc o).alloc o').alloc o''
  refine (callsIn_wide (n := 3)).1 ?_
  refine callsIn_of_wp_marks Tryz.func123 rfl trivial ?_ rfl
  simp only [Tryz.ntmps123, List.size_toArray, List.length_cons, List.length_nil, Nat.reduceAdd, Nat.reduceSub, Array.replicate_succ, Array.replicate_zero, List.push_toArray, List.append_toArray, List.nil_append, List.cons_append]
  gi_wp2_with (first
    | (refine ⟨trivial, ?_⟩; gi_at_call 111; refine (callsIn_wide.2 (he _ (hb3 _ _ _))).mono ?_; rintro e w' ⟨rfl, hw⟩; rw [hw])
    | (refine ⟨trivial, ?_⟩; gi_at_call 110; refine (callsIn_wide.2 (all_any _ _)).mono ?_; rintro e w' ⟨rfl, hw⟩))
  have al := allocs_at [.cells #[.func (.func 124) #[] #[.pointer (some ⟨bc, 0, none⟩)]] 179, pblk 0 0 0 0 0 0 0, .cells #[.int .i64 0] 53, .cells #[.pointer (some ⟨b, 0, none⟩)] 72] w
  have hw2 : w' = List.foldl World.alloc w [.cells #[.func (.func 124) #[] #[.pointer (some ⟨bc, 0, none⟩)]] 179, pblk 0 0 0 0 0 0 0, .cells #[.int .i64 0] 53, .cells #[.pointer (some ⟨b, 0, none⟩)] 72] := hw
  rw [← hw2] at al
  rw [← hw]
  clear hw hw2 hb3 he
  obtain ⟨hs, hB, ha⟩ := al
  have hs : w'.heap.size = w.heap.size + 4 := hs
  have b0 : w'.heap[w.heap.size]? = some (.cells #[.func (.func 124) #[] #[.pointer (some ⟨bc, 0, none⟩)]] 179) := ha 0 (by simp)
  have b1 : w'.heap[w.heap.size + 1]? = some (pblk 0 0 0 0 0 0 0) := ha 1 (by simp)
  have b2 : w'.heap[w.heap.size + 1 + 1]? = some (.cells #[.int .i64 0] 53) := ha 2 (by simp)
  have b3 : w'.heap[w.heap.size + 1 + 1 + 1]? = some (.cells #[.pointer (some ⟨b, 0, none⟩)] 72) := ha 3 (by simp)
  clear ha
  have h' := h.bel hB
  have cl_lt : ∀ x, cl P.n x < P.n := fun x => by unfold cl; omega
  refine wpIn_rangeFunc_ownH rfl (by omega) (gf := 131) (lb := #[.pointer (some ⟨w.heap.size + 1 + 1 + 1, 0, none⟩)]) rfl trivial (enters_of Tryz.func131 (by kernel_rfl) rfl)
    (encs := fun x => #[P.pt (cl P.n x)]) (Kp := Below (w.heap.size + 4)) (S := fun ys => ys = upto P.n) (Sp := fun pre => ∃ k, k ≤ P.n ∧ pre = upto k) (N := P.n) (w0 := w')
    (fun l J Jx W hW hJ _ hY h0 => all1_row 2 (by omega) l _ (w.heap.size + 4) b g off cap P (by omega) (by omega) J Jx W.heap.size hJ hY W (cell_below hW (show w.heap.size + 1 + 1 + 1 < _ by omega) (blk_cell b3 0)) (h'.below hW (by omega) (by omega)) hn h0 (by have := hW.size; omega))
    belowK_t (belowK_b (by omega)) (Below.refl _ _) (fun _ => rfl)
    (fun pre W => (∀ z ∈ pre, φ (cl P.n z) = false) ∧ Below (w.heap.size + 4) w' W)
    (fun c pre W => ((c = .ret ∧ ∃ q y, pre = q ++ [y] ∧ (∀ z ∈ q, φ (cl P.n z) = false) ∧ φ (cl P.n y) = true ∧ W.heap[w.heap.size + 1]? = some (P.blk (cl P.n y)) ∧ W.heap[w.heap.size + 1 + 1]? = some (.cells #[.int .i64 0] 53))) ∧ Below w.heap.size w' W)
    (OwnFrom.and (ownFrom_pure _ _) (ownFrom_below (by omega) (by omega)))
    (fun c => OwnFrom.and (fun s A B row hs hg hr => by
      obtain ⟨rfl, q, y, h1, h2, h3, h4, h5⟩ := hs
      exact ⟨rfl, q, y, h1, h2, h3, blk_own (β := Unit) _ _ rfl () A B row h4 hg (fun r e => (hr r e).2), blk_own (β := Unit) _ _ rfl () A B row h5 hg (fun r e => (hr r e).2)⟩) (ownFrom_below (by omega) (by omega)))
    ⟨fun y hy => (by cases hy), Below.refl _ _⟩
    (fun x a' W => ∃ Bx, w.heap.size + 4 ≤ Bx ∧ W.heap[Bx]? = some (P.blk (cl P.n x)) ∧
      a' = { tmps := #[.pointer (some ⟨b, 0, none⟩), .func (.func 124) #[] #[.pointer (some ⟨bc, 0, none⟩)], undef, .pointer (some ⟨w.heap.size, 0, none⟩), .pointer (some ⟨w.heap.size + 1, 0, none⟩), .pointer (some ⟨w.heap.size + 1 + 1, 0, none⟩), .pointer (some ⟨Bx, 0, none⟩),
        .pointer (some ⟨b, 0, none⟩), .bool true, .bool false, undef, .pointer (some ⟨b, 0, none⟩), .func (.func 131) #[] #[.pointer (some ⟨w.heap.size + 1 + 1 + 1, 0, none⟩)], P.pt (cl P.n x), undef, undef, undef, undef, undef], defers := [] })
    (fun x a' => fun s A B row hs hg hr => by
      obtain ⟨Bx, h1, h2, h3⟩ := hs
      exact ⟨Bx, h1, blk_own (β := Unit) Bx _ rfl () A B row h2 hg (fun r e => (hr r e).2), h3⟩) ?assign ?body ?done ?stop
  case assign =>
    rintro l pre x W K ⟨hI, hBW⟩ hK
    have hsz := hBW.size
    gi_wp2
    exact hK _ _ ((KeepsOthers.alloc _ _).from _) ((Below.refl _ W).alloc (by omega) _) ⟨hI, hBW.alloc (by omega) _⟩ ⟨W.heap.size, by omega, World.alloc_heap_new W _, rfl⟩
  case body =>
    rintro l pre x a' W hl ⟨r, hr⟩ ⟨hI, hBW⟩ ⟨Bx, hBx, bX, rfl⟩ hlt
    have hsz := hBW.size
    have hBw : Bel w W := Below.trans hB (hBW.mono (by omega))
    have hc := hcl W hBw (cl P.n x) (cl_lt x)
    have B0 := blk_below hBW (by omega) b0
    have B1 := blk_below hBW (by omega) b1
    have B2 := blk_below hBW (by omega) b2
    have c0 := blk_cell B0 0
    have hBs := hBW.mono (show w.heap.size ≤ w.heap.size + 4 by omega)
    obtain ⟨⟨x0, x1, x2, x3, x4, x5, x6⟩, _⟩ := box7 bX
    by_cases p : φ (cl P.n x) = true
    · rw [p] at hc
      have hid := Lib.hid (And.intro hI (And.intro p (And.intro B1 (And.intro B2 (And.intro hBs bX)))))
      clear hI hBW h h' b0 b1 b2 b3 hr hcl p B0 B1 B2 hBs bX hBw hB
      generalize hK : cl P.n x = K at *
      obtain ⟨yf, hf⟩ : ∃ y, P.f K = y := ⟨_, rfl⟩
      obtain ⟨ye, he⟩ : ∃ y, P.e K = y := ⟨_, rfl⟩
      obtain ⟨yo, ho⟩ : ∃ y, P.fo K = y := ⟨_, rfl⟩
      obtain ⟨ys, hs'⟩ : ∃ y, P.s K = y := ⟨_, rfl⟩
      obtain ⟨yq, hq⟩ : ∃ y, P.po K = y := ⟨_, rfl⟩
      obtain ⟨yp, hp⟩ : ∃ y, P.p K = y := ⟨_, rfl⟩
      simp only [Pl.blk, Pl.pt, pv, hf, he, ho, hs', hq, hp] at hc x0 x1 x2 x3 x4 x5 x6 ⊢
      have hide := Lib.hid (And.intro hK (And.intro hf (And.intro he (And.intro ho (And.intro hs' (And.intro hq hp))))))
      clear hK hf he ho hs' hq hp
      gi_wp2_with (refine ⟨trivial, ?_⟩; gi_at_call 124; refine (CallsIn.inRound l (callsIn_wide.2 hc)).mono ?_; rintro e w1 ⟨rfl, hg1⟩; obtain ⟨⟨y0, y1, y2, y3, y4, y5, y6⟩, _⟩ := box7 (heap_bel hg1 hid.out.2.2.2.2.2); obtain ⟨⟨z0, z1, z2, z3, z4, z5, z6⟩, f0, f1, f2, f3, f4, f5, f6⟩ := box7 (heap_bel hg1 hid.out.2.2.1); have v0 := cell_of_row _ _ 0 _ _ (0, 0) (heap_bel hg1 hid.out.2.2.2.1); have u0 := frozen_of_row _ _ 0 _ _ (heap_bel hg1 hid.out.2.2.2.1))
      refine ⟨((hg1.others.trans (set7_others _ _ _ _ _ _ _ _)).trans (KeepsOthers.setCell _ _ _)).from _, ⟨rfl, pre, x, rfl, hid.out.1, by rw [hide.out.1]; exact hid.out.2.1, ?_, ?_⟩, ?_⟩
      · rw [hide.out.1]
        exact heap_set_other _ (show w.heap.size + 1 ≠ w.heap.size + 1 + 1 by omega) (seven_row (heap_bel hg1 hid.out.2.2.1) _ _ _ _ _ _ _)
      · exact heap_setCell_same _ (w.heap.size + 1 + 1) 0 _ 53 (.int .i64 0) (set7_other _ _ _ _ _ _ _ (by omega) (heap_bel hg1 hid.out.2.2.2.1))
      · exact (set7_below (hid.out.2.2.2.2.1.trans (hg1.mono (by omega))) (by omega) _ _ _ _ _ _ _).setCell (p := ⟨w.heap.size + 1 + 1, 0, none⟩) (by show w.heap.size ≤ w.heap.size + 1 + 1; omega) _
    · rw [show φ (cl P.n x) = false by simpa using p] at hc
      have hid := Lib.hid (And.intro hI (And.intro p hBW))
      clear hI hBW h h' b0 b1 b2 b3 hr hcl p B0 B1 B2 hBs bX hBw hB
      generalize hK : cl P.n x = K at *
      obtain ⟨yf, hf⟩ : ∃ y, P.f K = y := ⟨_, rfl⟩
      obtain ⟨ye, he⟩ : ∃ y, P.e K = y := ⟨_, rfl⟩
      obtain ⟨yo, ho⟩ : ∃ y, P.fo K = y := ⟨_, rfl⟩
      obtain ⟨ys, hs'⟩ : ∃ y, P.s K = y := ⟨_, rfl⟩
      obtain ⟨yq, hq⟩ : ∃ y, P.po K = y := ⟨_, rfl⟩
      obtain ⟨yp, hp⟩ : ∃ y, P.p K = y := ⟨_, rfl⟩
      simp only [Pl.blk, Pl.pt, pv, hf, he, ho, hs', hq, hp] at hc x0 x1 x2 x3 x4 x5 x6 ⊢
      have hK := Lib.hid hK
      gi_wp2_with (refine ⟨trivial, ?_⟩; gi_at_call 124; refine (CallsIn.inRound l (callsIn_wide.2 hc)).mono ?_; rintro e w1 ⟨rfl, hg1⟩)
      refine ⟨hg1.others.from _, hg1.mono (by omega), fun z hz => ?_, hid.out.2.2.trans (hg1.mono (by omega))⟩
      rcases List.mem_append.1 hz with hz | hz
      · exact hid.out.1 z hz
      · rw [List.mem_singleton.1 hz, hK.out]; simpa using hid.out.2.1
  case done =>
    rintro D ys W1 hD rfl ⟨hne, hBW⟩ hKD
    have no : ∀ k, k < P.n → φ k = false := fun k hk => by
      have := hne k (List.mem_range.2 hk)
      rwa [cl_eq hk] at this
    have B1 := blk_below hBW (by omega) b1
    have B2 := blk_below hBW (by omega) b2
    obtain ⟨⟨z0, z1, z2, z3, z4, z5, z6⟩, f0, f1, f2, f3, f4, f5, f6⟩ := box7 B1
    have v0 := cell_of_row _ _ 0 _ _ (0, 0) B2
    have u0 := frozen_of_row _ _ 0 _ _ B2
    have hid := Lib.hid (And.intro no (And.intro B1 (And.intro B2 (And.intro hB hBW))))
    clear no B1 B2 hne hBW hB b0 b1 b2 b3 h h' hcl
    gi_wp2
    have hKD' := heap_set_other (p := ⟨w.heap.size + 1 + 1, 0, none⟩) (.int .i64 2) (show D ≠ w.heap.size + 1 + 1 by omega) (set7_other (g := w.heap.size + 1) (.int .i64 0) (.int .i64 0) (.int .i64 0) (.int .i64 0) (.int .i64 0) (.int .i64 0) (.int .i64 0) (show D ≠ w.heap.size + 1 by omega) hKD)
    have r1 := put_other (o' := .deferred none) (show w.heap.size + 1 ≠ D by omega) (heap_set_other (p := ⟨w.heap.size + 1 + 1, 0, none⟩) (.int .i64 2) (show w.heap.size + 1 ≠ w.heap.size + 1 + 1 by omega) (seven_row hid.out.2.1 (.int .i64 0) (.int .i64 0) (.int .i64 0) (.int .i64 0) (.int .i64 0) (.int .i64 0) (.int .i64 0)))
    have r2 := put_other (o' := .deferred none) (show w.heap.size + 1 + 1 ≠ D by omega) (heap_setCell_same _ (w.heap.size + 1 + 1) 0 _ 53 (.int .i64 2) (set7_other (g := w.heap.size + 1) (.int .i64 0) (.int .i64 0) (.int .i64 0) (.int .i64 0) (.int .i64 0) (.int .i64 0) (.int .i64 0) (show w.heap.size + 1 + 1 ≠ w.heap.size + 1 by omega) hid.out.2.2.1))
    refine ⟨by simp, .inl ⟨_, _, rfl, run_takeDeferred hKD', ?_⟩⟩
    refine ⟨.tuple #[pv 0 0 0 0 0 0 0, .int .i64 2], results_row_one rfl _ _ (w.heap.size + 1) (w.heap.size + 1 + 1) 136 _ (0, 0) _ _ rfl r1 Tryz.underlying136 rfl info_pt rfl (cell_of_row _ _ 0 _ _ (0, 0) r2) (fun W hW => by simp [loadVar, go_sem, hW]), .inr ⟨hid.out.1, rfl⟩, ?_⟩
    have q1 : Below w.heap.size w W1 := Below.trans hid.out.2.2.2.1 (hid.out.2.2.2.2.mono (by omega))
    have q2 := (set7_below q1 (show w.heap.size ≤ w.heap.size + 1 by omega) (.int .i64 0) (.int .i64 0) (.int .i64 0) (.int .i64 0) (.int .i64 0) (.int .i64 0) (.int .i64 0)).setCell (p := ⟨w.heap.size + 1 + 1, 0, none⟩) (by show w.heap.size ≤ w.heap.size + 1 + 1; omega) (.int .i64 2)
    exact q2.trans (belowK_b (w := w) (Nat.le_refl _) _ D _ _ (by omega) hKD' rfl rfl)
  case stop =>
    rintro D c pre W1 hD ⟨k, hk, rfl⟩ ⟨⟨rfl, q, y, hq, h1, h2, h3, h4⟩, hBW⟩ hKD
    obtain ⟨y1, y2⟩ := upto_split hq
    have ey : cl P.n y = y := cl_eq (by omega)
    rw [ey] at h2 h3
    have no : ∀ j, j < y → φ j = false := fun j hj => by
      have := h1 j (y2 j hj)
      rwa [cl_eq (by omega)] at this
    have hid := Lib.hid (And.intro h2 (And.intro h3 (And.intro h4 (And.intro hB (And.intro hBW no)))))
    clear h1 h2 h3 h4 hB hBW no b0 b1 b2 b3 h h' hcl
    gi_wp2
    have r1 := put_other (o' := .deferred none) (show w.heap.size + 1 ≠ D by omega) hid.out.2.1
    have r2 := put_other (o' := .deferred none) (show w.heap.size + 1 + 1 ≠ D by omega) hid.out.2.2.1
    refine ⟨by simp, .inl ⟨_, _, rfl, run_takeDeferred hKD, ?_⟩⟩
    refine ⟨.tuple #[P.pt y, .int .i64 0], results_row_one rfl _ _ (w.heap.size + 1) (w.heap.size + 1 + 1) 136 _ (0, 0) _ _ rfl r1 Tryz.underlying136 rfl info_pt rfl (cell_of_row _ _ 0 _ _ (0, 0) r2) (fun W hW => by simp [loadVar, go_sem, hW]), .inl ⟨y, by omega, hid.out.1, hid.out.2.2.2.2.2, rfl⟩, ?_⟩
    exact (Below.trans hid.out.2.2.2.1 hid.out.2.2.2.2.1).trans (belowK_b (w := w) (Nat.le_refl _) _ D _ _ (by omega) hKD rfl rfl)

end Go.Proofs.YthokalcibjjihaaGreatDoor
