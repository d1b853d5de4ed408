/- The document's arenas: which slots are taken; Give. -/
import Derived.Test.YtjgjomojcocegaaDoorRgr
import Derived.Test.YtjgjomojcocegaaDoorEx
import Derived.Test.YtjgjomojcocegaaDoorAd
import Derived.Laws.Rows
import Derived.Laws.ResultCell
import Derived.Laws.MakeOwn
import Derived.Deep.AppendLies
import Derived.Deep.Cut
import Derived.Deep.DeepCutAuto
import Derived.Deep.RegionLaw
namespace Go.Proofs.YtjgjomojcocegaaDoor
open Go.ChangeShapes Go.WideShapes Go.ChangeAt Go.RowKit Go.Deep
set_option linter.unusedVariables false
variable {X : Nat → Prop}

/-- truths, as values -/
def bL (T : Nat → Bool) (n : Nat) : List Value := (List.range n).map fun j => .bool (T j)
theorem bL_len (T : Nat → Bool) (n : Nat) : (bL T n).length = n := by unfold bL; simp
theorem bL_get (T : Nat → Bool) {n j : Nat} (h : j < n) : (bL T n)[j]? = some (.bool (T j)) := by unfold bL; rw [List.getElem?_map, List.getElem?_range h]; rfl
theorem bL_one (T : Nat → Bool) (n : Nat) : ∀ u ∈ bL T n, u.oneCell' = true := by
  intro u hu
  unfold bL at hu
  obtain ⟨j, _, rfl⟩ := List.mem_map.1 hu
  rfl
/-- a row of truths -/
def Bls (w : World) (v : Value) (n : Nat) (T : Nat → Bool) : Prop := ∃ b off cap, v = .slice (some ⟨b, off, none⟩) n cap ∧ ∀ j, j < n → w.cell? ⟨b, off + j, none⟩ = some (.bool (T j))
theorem Bls.bel {w w' : World} {v : Value} {n : Nat} {T : Nat → Bool} (h : Bls w v n T) (g : Bel w w') : Bls w' v n T := by
  obtain ⟨b, off, cap, e, h⟩ := h
  exact ⟨b, off, cap, e, fun j hj => cell_bel g (h j hj)⟩
theorem bL_news {w : World} {b off n : Nat} {T : Nat → Bool} (h : ∀ j, j < n → w.cell? ⟨b, off + j, none⟩ = some (.bool (T j))) : ∀ j u, (bL T n)[j]? = some u → w.cell? ((⟨b, off, none⟩ : Addr).add j) = some u := by
  intro j u hu
  by_cases x : j < n
  · rw [bL_get T x] at hu
    cases hu
    rw [add_plain]
    exact h j x
  · rw [List.getElem?_eq_none (by rw [bL_len]; omega)] at hu
    cases hu

/-- an arena of the document, by value: its plan, which slots are taken -/
def IsAr (X : Nat → Prop) (w : World) (v : Value) (P : Pl) (T : Nat → Bool) : Prop := ∃ Lv Fv Mv Bv p cap, v = .agg #[Lv, Fv, Mv, .int .i64 (P.W : Nat), .slice p P.n cap, Bv] ∧ IsQ w (.agg #[Lv, Fv, Mv, .int .i64 (P.W : Nat), .slice p P.n cap]) P ∧ Bls w Bv P.S T ∧ (Avoid X Lv ∧ Avoid X Fv ∧ Avoid X Mv) ∧ Avoid X Bv
theorem IsAr.bel {w w' : World} {v : Value} {P : Pl} {T : Nat → Bool} (h : IsAr X w v P T) (g : Bel w w') : IsAr X w' v P T := by
  obtain ⟨Lv, Fv, Mv, Bv, p, cap, e, h1, h2, h3⟩ := h
  exact ⟨Lv, Fv, Mv, Bv, p, cap, e, h1.bel g, h2.bel g, h3⟩
theorem IsQ.exc {w w' : World} {v : Value} {P : Pl} (h : IsQ w v P) (a : AvoidQ X v) (g : Exc X w w') : IsQ w' v P := by
  obtain ⟨Lv, Fv, Mv, p, cap, e, ⟨b, off, cl, eL, hL⟩, h2, h3⟩ := h
  obtain ⟨a1, a2, a3⟩ := a _ _ _ _ _ e
  have aL := a1 _ _ _ _ _ eL
  exact ⟨Lv, Fv, Mv, p, cap, e, ⟨b, off, cl, eL, fun i hi => ⟨cell_exc g (hL i hi).1 aL, cell_exc g (hL i hi).2.1 aL, cell_exc g (hL i hi).2.2.1 aL, cell_exc g (hL i hi).2.2.2 aL⟩⟩, nums_exc h2 a2 g, nums_exc h3 a3 g⟩
theorem IsQ.avoid {w : World} {v : Value} {P : Pl} (h : IsQ w v P) (hS : 1 ≤ P.S) (hT : 1 ≤ P.T) (s : ∀ k, X k → w.heap.size ≤ k) : AvoidQ X v := fun L F M a b e => by
  obtain ⟨Lv, Fv, Mv, p, cap, e0, ⟨bl, off, cl, rfl, hL⟩, h2, h3⟩ := h
  rw [e] at e0
  injection e0 with e0
  injection e0 with e0
  simp only [List.cons.injEq, and_true] at e0
  obtain ⟨rfl, rfl, rfl, _, _⟩ := e0
  have hn : ∀ {v : Value} {F : Nat → Int}, Nums w v P.T F → Avoid X v := fun h b off sp n cap e x => by
    rcases h with ⟨h, _⟩ | ⟨b', off', cap', h1, h2, h3, h4, h5⟩
    · omega
    · rw [e] at h1
      injection h1 with h1 _ _
      injection h1 with h1
      injection h1 with h1
      have := (cell_block (h5 0 (by omega))).1
      have := s _ x
      simp only at *
      omega
  refine ⟨Avoid.at fun x => ?_, hn h2, hn h3⟩
  have := (cell_block (hL 0 (by omega)).1).1
  have := s _ x
  simp only at *
  omega
theorem IsAr.exc {w w' : World} {v : Value} {P : Pl} {T : Nat → Bool} (h : IsAr X w v P T) (g : Exc X w w') : IsAr X w' v P T := by
  obtain ⟨Lv, Fv, Mv, Bv, p, cap, e, h1, ⟨b, off, cb, eB, hB⟩, h3, h4⟩ := h
  refine ⟨Lv, Fv, Mv, Bv, p, cap, e, h1.exc (fun L F M a b e => ?_) g, ⟨b, off, cb, eB, fun j hj => cell_exc g (hB j hj) (h4 _ _ _ _ _ eB)⟩, h3, h4⟩
  injection e with e
  injection e with e
  simp only [List.cons.injEq, and_true] at e
  obtain ⟨rfl, rfl, rfl, _, _⟩ := e
  exact h3
theorem IsAr.less {Y : Nat → Prop} {w : World} {v : Value} {P : Pl} {T : Nat → Bool} (h : IsAr X w v P T) (s : ∀ k, Y k → X k) : IsAr Y w v P T := by
  obtain ⟨Lv, Fv, Mv, Bv, p, cap, e, h1, h2, ⟨a1, a2, a3⟩, a4⟩ := h
  exact ⟨Lv, Fv, Mv, Bv, p, cap, e, h1, h2, ⟨a1.less s, a2.less s, a3.less s⟩, a4.less s⟩

theorem info_bool : (Tryd.prog.info? 4).map (fun i => (i.zero, i.size, i.bytes)) = some (some (.bool false), 1, 1) := by kernel_rfl
theorem info_ar : (Tryd.prog.info? 33).map (·.size) = some 6 := by kernel_rfl

theorem box6 {w : World} {b : Nat} {x y z u v q : Value} {t : TypeId} (h : w.heap[b]? = some (.cells #[x, y, z, u, v, q] t (0, 0))) :
    (w.cell? ⟨b, 0, none⟩ = some x ∧ w.cell? ⟨b, 1, none⟩ = some y ∧ w.cell? ⟨b, 2, none⟩ = some z ∧ w.cell? ⟨b, 3, none⟩ = some u ∧ w.cell? ⟨b, 4, none⟩ = some v ∧ w.cell? ⟨b, 5, none⟩ = some q) ∧
    w.frozen? ⟨b, 0, none⟩ = false ∧ w.frozen? ⟨b, 1, none⟩ = false ∧ w.frozen? ⟨b, 2, none⟩ = false ∧ w.frozen? ⟨b, 3, none⟩ = false ∧ w.frozen? ⟨b, 4, none⟩ = false ∧ w.frozen? ⟨b, 5, none⟩ = false :=
  ⟨⟨cell_of_row w b 0 _ _ (0, 0) h, cell_of_row w b 1 _ _ (0, 0) h, cell_of_row w b 2 _ _ (0, 0) h, cell_of_row w b 3 _ _ (0, 0) h, cell_of_row w b 4 _ _ (0, 0) h, cell_of_row w b 5 _ _ (0, 0) h⟩,
    frozen_of_row _ _ 0 _ _ h, frozen_of_row _ _ 1 _ _ h, frozen_of_row _ _ 2 _ _ h, frozen_of_row _ _ 3 _ _ h, frozen_of_row _ _ 4 _ _ h, frozen_of_row _ _ 5 _ _ h⟩
theorem six_row {w : World} {g : Nat} {a b c d e f : Value} {t : TypeId} (h : w.heap[g]? = some (.cells #[a, b, c, d, e, f] t (0, 0))) (a' b' c' d' e' f' : Value) :
    ((((((w.setCell ⟨g, 0, none⟩ a').setCell ⟨g, 1, none⟩ b').setCell ⟨g, 2, none⟩ c').setCell ⟨g, 3, none⟩ d').setCell ⟨g, 4, none⟩ e').setCell ⟨g, 5, none⟩ f').heap[g]? = some (.cells #[a', b', c', d', e', f'] t (0, 0)) :=
  heap_setCell_same _ g 5 _ t f' (heap_setCell_same _ g 4 _ t e' (heap_setCell_same _ g 3 _ t d' (heap_setCell_same _ g 2 _ t c' (heap_setCell_same _ g 1 _ t b' (heap_setCell_same w g 0 _ t a' h)))))
theorem set_bel6 {w w' : World} {g : Nat} (h : Bel w w') (hg : w.heap.size ≤ g) (a b c d e f : Value) : Bel w ((((((w'.setCell ⟨g, 0, none⟩ a).setCell ⟨g, 1, none⟩ b).setCell ⟨g, 2, none⟩ c).setCell ⟨g, 3, none⟩ d).setCell ⟨g, 4, none⟩ e).setCell ⟨g, 5, none⟩ f) :=
  set_bel (set_bel (set_bel (set_bel (set_bel (set_bel h hg _ _) hg _ _) hg _ _) hg _ _) hg _ _) hg _ _

theorem two (w : World) (a b : Obj) : ((w.alloc a).alloc b).heap[w.heap.size]? = some a ∧ ((w.alloc a).alloc b).heap[w.heap.size + 1]? = some b := by
  have s1 : (w.alloc a).heap.size = w.heap.size + 1 := by show (w.heap.push a).size = _; simp
  refine ⟨?_, ?_⟩
  · rw [Below.heap_alloc _ _ _ (by omega)]; exact heap_alloc_new w a
  · rw [← s1]; exact heap_alloc_new _ b
/-- its shape -/
theorem IsAr.shape {w : World} {v : Value} {P : Pl} {T : Nat → Bool} (h : IsAr X w v P T) : ∃ bl ol cl pf cf pm cm p cap b off cb,
    v = .agg #[.slice (some ⟨bl, ol, none⟩) P.S cl, .slice pf P.T cf, .slice pm P.T cm, .int .i64 (P.W : Nat), .slice p P.n cap, .slice (some ⟨b, off, none⟩) P.S cb] ∧
    (∀ j, j < P.S → w.cell? ⟨b, off + j, none⟩ = some (.bool (T j))) ∧ ∀ i, i < P.S → Ten w bl (ol + i * 4) (P.cls i : Nat) (P.sz i : Nat) (P.ad i : Nat) (P.pg i : Nat) := by
  obtain ⟨Lv, Fv, Mv, Bv, p, cap, rfl, ⟨_, _, _, _, _, e0, ⟨bl, ol, cl, rfl, hL⟩, hF, hM⟩, ⟨b, off, cb, rfl, hB⟩, _⟩ := h
  injection e0 with e0
  injection e0 with e0
  simp only [List.cons.injEq, and_true] at e0
  obtain ⟨rfl, rfl, rfl, _, _⟩ := e0
  obtain ⟨pf, cf, rfl, _⟩ := nums_slice hF
  obtain ⟨pm, cm, rfl, _⟩ := nums_slice hM
  exact ⟨bl, ol, cl, pf, cf, pm, cm, p, cap, b, off, cb, rfl, hB, hL⟩
/-- the same plan, other truths -/
theorem IsAr.with {w w' : World} {bl ol cl cf cm cap b off cb b' off' cb' : Nat} {pf pm p : Option Addr} {P : Pl} {T T' : Nat → Bool} (h : IsAr X w (.agg #[.slice (some ⟨bl, ol, none⟩) P.S cl, .slice pf P.T cf, .slice pm P.T cm, .int .i64 (P.W : Nat), .slice p P.n cap, .slice (some ⟨b, off, none⟩) P.S cb]) P T)
    (g : Bel w w') (hb' : ¬ X b') (hB : ∀ j, j < P.S → w'.cell? ⟨b', off' + j, none⟩ = some (.bool (T' j))) :
    IsAr X w' (.agg #[.slice (some ⟨bl, ol, none⟩) P.S cl, .slice pf P.T cf, .slice pm P.T cm, .int .i64 (P.W : Nat), .slice p P.n cap, .slice (some ⟨b', off', none⟩) P.S cb']) P T' := by
  obtain ⟨Lv, Fv, Mv, Bv, p0, cap0, e0, hQ, _, ha, _⟩ := h
  injection e0 with e0
  injection e0 with e0
  simp only [List.cons.injEq, and_true] at e0
  obtain ⟨rfl, rfl, rfl, _, e5, _⟩ := e0
  rw [← e5] at hQ
  exact ⟨_, _, _, _, _, _, rfl, hQ.bel g, ⟨b', off', cb', rfl, hB⟩, ha, Avoid.at hb'⟩

set_option maxHeartbeats 2000000 in
/-- Give that is refused -/
theorem rgive_no (v : Value) (P : Pl) (T : Nat → Bool) (i : Int) (w : World) (h : IsAr X w v P T) (hi : ¬ (0 ≤ i ∧ i < P.S)) :
    Calls Tryd.prog 34 #[v, .int .i64 i] w fun e w' => e = .returned (.tuple #[v, .int .i64 2]) ∧ Bel w w' := by
  obtain ⟨bl, ol, cl, pf, cf, pm, cm, p, cap, b, off, cb, rfl, hB, hL⟩ := h.shape
  clear hB hL h
  generalize P.S = S at *
  generalize P.T = TT at *
  generalize P.n = n at *
  generalize (P.W : Int) = V at *
  have tb := two w (.cells #[.slice (some ⟨bl, ol, none⟩) S cl, .slice pf TT cf, .slice pm TT cm, .int .i64 V, .slice p n cap, .slice (some ⟨b, off, none⟩) S cb] 33) (.cells #[.slice none 0 0, .slice none 0 0, .slice none 0 0, .int .i64 0, .slice none 0 0, .slice none 0 0] 33)
  have bt := ((Bel.refl w).alloc (.cells #[.slice (some ⟨bl, ol, none⟩) S cl, .slice pf TT cf, .slice pm TT cm, .int .i64 V, .slice p n cap, .slice (some ⟨b, off, none⟩) S cb] 33)).alloc (.cells #[.slice none 0 0, .slice none 0 0, .slice none 0 0, .int .i64 0, .slice none 0 0, .slice none 0 0] 33)
  generalize hW : (w.alloc (.cells #[.slice (some ⟨bl, ol, none⟩) S cl, .slice pf TT cf, .slice pm TT cm, .int .i64 V, .slice p n cap, .slice (some ⟨b, off, none⟩) S cb] 33)).alloc (.cells #[.slice none 0 0, .slice none 0 0, .slice none 0 0, .int .i64 0, .slice none 0 0, .slice none 0 0] 33) = W at *
  obtain ⟨⟨k0, k1, k2, k3, k4, k5⟩, _⟩ := box6 tb.1
  obtain ⟨⟨z0, z1, z2, z3, z4, z5⟩, f0, f1, f2, f3, f4, f5⟩ := box6 tb.2
  have hz := tb.2
  clear tb
  by_cases a : i < 0
  · have d : decide (i < 0) = true := decide_eq_true a
    clear hi
    go_enter Tryd.func34, Tryd.ntmps34
    go_upto_region 1 with fail
    (try rw [hW])
    clear hW
    go_wp2
    (try simp only [Exit.inBlock, Exit.then])
    refine bodyPost_ret (results_cell_row2 rfl _ _ _ 33 _ (0, 0) _ rfl (six_row hz _ _ _ _ _ _) Tryd.underlying33 rfl info_ar) rfl ?_
    exact ⟨rfl, set_bel6 bt (Nat.le_succ _) _ _ _ _ _ _⟩
  · have d : decide (i < 0) = false := decide_eq_false a
    have d2 : decide ((S : Int) ≤ i) = true := decide_eq_true (by omega)
    clear hi
    go_enter Tryd.func34, Tryd.ntmps34
    go_upto_region 1 with fail
    (try rw [hW])
    clear hW
    go_wp2
    (try simp only [Exit.inBlock, Exit.then])
    refine bodyPost_ret (results_cell_row2 rfl _ _ _ 33 _ (0, 0) _ rfl (six_row hz _ _ _ _ _ _) Tryd.underlying33 rfl info_ar) rfl ?_
    exact ⟨rfl, set_bel6 bt (Nat.le_succ _) _ _ _ _ _ _⟩

/-- a row of truths that the call owns, one of them turned -/
theorem own_upd {w : World} {B g cap S I : Nat} {T : Nat → Bool} (hO : w.ownsRow B 4 1 (.slice (some ⟨g, 0, none⟩) S cap) S (bL T S)) (hI : I < S) (x : Bool) :
    w.frozen? ⟨g, I, none⟩ = false ∧ w.cell? ⟨g, I, none⟩ = some (.bool (T I)) ∧ ∃ W, w.setCell ⟨g, I, none⟩ (.bool x) = W ∧ (∀ j, j < S → W.cell? ⟨g, 0 + j, none⟩ = some (.bool (upd T I x j))) ∧ (∀ k, k ≠ g → W.heap[k]? = w.heap[k]?) ∧ w.heap.size ≤ W.heap.size ∧ ∀ n w0, n ≤ g → Below n w0 w → Below n w0 W := by
  have at' := fun j hj => World.ownsRow.cellAt hO j hj
  have hR : RowAt w g S 4 := by
    rcases hO.2 with ⟨e, _⟩ | ⟨g', cap', cur, e, hB, hg, hc, hm, hs, _⟩
    · cases e
    · injection e with e1 e2 e3
      injection e1 with e1
      injection e1 with e1
      subst e1; subst e3
      exact ⟨cur, hg, by omega⟩
  obtain ⟨r1, r2, r3⟩ := hR.set hI (.bool x)
  refine ⟨hR.free I, ?_, _, rfl, fun j hj => ?_, fun k hk => set_heap hk _, ((Below.refl 0 w).setCell (Nat.zero_le _) _).size, fun n w0 hn h => h.setCell hn _⟩
  · rw [at' I (by omega), bL_get T hI]
  · rw [Nat.zero_add]
    by_cases c : j = I
    · subst c; rw [upd_at]; exact r2
    · rw [r3 j c, upd_ne T x c, at' j (by omega), bL_get T hj]

set_option maxRecDepth 8000 in
set_option maxHeartbeats 4000000 in
/-- Give of a slot that there is -/
theorem rgive_yes (v : Value) (P : Pl) (T : Nat → Bool) (I : Nat) (w : World) (hX : Till X w) (h : IsAr X w v P T) (hS : P.S ≤ 32768) (hI : I < P.S) :
    Calls Tryd.prog 34 #[v, .int .i64 (I : Nat)] w fun e w' => (∃ v', e = .returned (.tuple #[v', .int .i64 (if T I = true then 0 else 9)]) ∧ IsAr X w' v' P (upd T I false)) ∧ Bel w w' := by
  have h0 := h
  obtain ⟨bl, ol, cl, pf, cf, pm, cm, p, cap, b, off, cb, rfl, hB, hL⟩ := h.shape
  have hw := fun (W : World) (g : Bel w W) (b' off' cb' : Nat) (T' : Nat → Bool) (hb' : w.heap.size ≤ b') => IsAr.with (w' := W) (b' := b') (off' := off') (cb' := cb') (T' := T') h0 g (hX.new hb')
  have h1 := fun (W : World) (g : Bel w W) => h0.bel g
  clear hL h h0
  generalize P.S = S at *
  generalize P.T = TT at *
  generalize P.n = n at *
  generalize (P.W : Int) = V at *
  have tb := two w (.cells #[.slice (some ⟨bl, ol, none⟩) S cl, .slice pf TT cf, .slice pm TT cm, .int .i64 V, .slice p n cap, .slice (some ⟨b, off, none⟩) S cb] 33) (.cells #[.slice none 0 0, .slice none 0 0, .slice none 0 0, .int .i64 0, .slice none 0 0, .slice none 0 0] 33)
  have bt := ((Bel.refl w).alloc (.cells #[.slice (some ⟨bl, ol, none⟩) S cl, .slice pf TT cf, .slice pm TT cm, .int .i64 V, .slice p n cap, .slice (some ⟨b, off, none⟩) S cb] 33)).alloc (.cells #[.slice none 0 0, .slice none 0 0, .slice none 0 0, .int .i64 0, .slice none 0 0, .slice none 0 0] 33)
  have szW : ((w.alloc (.cells #[.slice (some ⟨bl, ol, none⟩) S cl, .slice pf TT cf, .slice pm TT cm, .int .i64 V, .slice p n cap, .slice (some ⟨b, off, none⟩) S cb] 33)).alloc (.cells #[.slice none 0 0, .slice none 0 0, .slice none 0 0, .int .i64 0, .slice none 0 0, .slice none 0 0] 33)).heap.size = w.heap.size + 2 := by show ((w.heap.push _).push _).size = _; simp
  generalize hW : (w.alloc (.cells #[.slice (some ⟨bl, ol, none⟩) S cl, .slice pf TT cf, .slice pm TT cm, .int .i64 V, .slice p n cap, .slice (some ⟨b, off, none⟩) S cb] 33)).alloc (.cells #[.slice none 0 0, .slice none 0 0, .slice none 0 0, .int .i64 0, .slice none 0 0, .slice none 0 0] 33) = W at *
  obtain ⟨⟨k0, k1, k2, k3, k4, k5⟩, _⟩ := box6 tb.1
  obtain ⟨⟨z0, z1, z2, z3, z4, z5⟩, f0, f1, f2, f3, f4, f5⟩ := box6 tb.2
  have cI := cell_bel bt (hB I hI)
  have cs := fun j (hj : j < S) => cell_bel bt (hB j hj)
  have d : decide ((I : Int) < 0) = false := decide_eq_false (by omega)
  have d2 : decide ((S : Int) ≤ (I : Int)) = false := decide_eq_false (by omega)
  have d3 : decide (S ≤ I) = false := decide_eq_false (by omega)
  have iI : (I : Int) < (S : Int) := by omega
  have iz : (0 : Int) ≤ (I : Int) := by omega
  have hid := Lib.hid (And.intro hw (And.intro tb (And.intro bt (And.intro cs h1))))
  clear hw hB cs h1
  cases hT : T I
  · rw [if_neg (by simp)]
    rw [hT] at cI
    go_enter Tryd.func34, Tryd.ntmps34
    go_upto_region 1 with fail
    (try rw [hW])
    clear hW
    go_wp2
    (try simp only [Exit.inBlock, Exit.then])
    refine bodyPost_ret (results_cell_row2 rfl _ _ _ 33 _ (0, 0) _ rfl (six_row tb.2 _ _ _ _ _ _) Tryd.underlying33 rfl info_ar) rfl ?_
    have hBe := set_bel6 (g := w.heap.size + 1) bt (Nat.le_succ _) (.slice (some ⟨bl, ol, none⟩) S cl) (.slice pf TT cf) (.slice pm TT cm) (.int .i64 V) (.slice p n cap) (.slice (some ⟨b, off, none⟩) S cb)
    refine ⟨⟨_, rfl, ?_⟩, hBe⟩
    have e : upd T I false = T := by
      funext j
      by_cases c : j = I
      · subst c; rw [upd_at, hT]
      · exact upd_ne T false c
    rw [e]
    exact hid.out.2.2.2.2 _ hBe
  · rw [if_pos rfl]
    rw [hT] at cI
    obtain ⟨i0, hi, hy0, hy1, hy2⟩ := info_parts info_bool
    have hown : (W.alloc (.cells #[] 4)).ownsRow W.heap.size 4 1 (.slice (some ⟨W.heap.size, 0, none⟩) 0 0) 0 [] := World.ownsRow_made W #[] 0 (Nat.le_refl _) (by unfold maxLen; omega) rfl
    rw [szW] at hown
    have gA := (Bel.refl W).alloc (.cells #[] 4)
    have sA : w.heap.size + 2 ≤ (W.alloc (.cells #[] 4)).heap.size := szW ▸ gA.size
    have hnews := bL_news (T := T) (n := S) (off := off) (b := b) (w := W.alloc (.cells #[] 4)) fun j hj => cell_bel gA (hid.out.2.2.2.1 j hj)
    have hidn := Lib.hid (And.intro hnews (And.intro hown gA))
    have l5 := cell_bel gA k5
    clear hnews hown gA
    go_enter Tryd.func34, Tryd.ntmps34
    go_upto_region 1 with fail
    (try rw [hW])
    clear hW
    go_wp2_with (at_builtin
                 refine wpList_append_lies (P := Tryd.prog) _ rfl (.tmp 24) (.tmp 26) 31 rfl (w.heap.size + 2) 4 i0 (.bool false) 1 1 Tryd.underlying31 hi hy0 hy1 hy2 rfl (by decide) (.slice (some ⟨w.heap.size + 2, 0, none⟩) 0 0) 0 [] rfl hidn.out.2.1 ⟨b, off, none⟩ S cb (bL T S) rfl (by rw [bL_len, Nat.mul_one]) hidn.out.1 (bL_one T S) (by omega) (by unfold maxLen; omega) (by omega) sA _ rfl ?_
                 intro gg capg w4 hO4 hgrow4 hat4 hlt4
                 rw [Nat.zero_add, List.nil_append] at hO4
                 rw [Nat.zero_add]
                 have hg2 : W.heap.size ≤ gg := by
                   rcases hat4 with e | e
                   · have e1 := Option.some.inj (show some (w.heap.size + 2) = some gg from e)
                     omega
                   · have e2 := hidn.out.2.2.size
                     omega
                 have hb4 : Bel W w4 := Below.grown hidn.out.2.2 hgrow4 hidn.out.2.2.size fun x hx => by have e1 := Option.some.inj (show some (w.heap.size + 2) = some x from hx); omega
                 obtain ⟨fz, cx, W5, hW5, hc5, hk5, hs5, hbl5⟩ := own_upd hO4 hI false
                 have hb5 : Bel W W5 := hbl5 _ _ hg2 hb4
                 have t1 := (hb5.block w.heap.size (by omega)).trans hid.out.2.1.1
                 have t2 := (hb5.block (w.heap.size + 1) (by omega)).trans hid.out.2.1.2
                 clear k0 k1 k2 k3 k4 k5 z0 z1 z2 z3 z4 z5 f0 f1 f2 f3 f4 f5 cI l5
                 obtain ⟨⟨k0, k1, k2, k3, k4, k5⟩, _⟩ := box6 t1
                 obtain ⟨⟨z0, z1, z2, z3, z4, z5⟩, f0, f1, f2, f3, f4, f5⟩ := box6 t2
                 have hid5 := Lib.hid (And.intro hb5 (And.intro hc5 (And.intro t2 (show w.heap.size + 2 ≤ gg by omega))))
                 clear hO4 hgrow4 hat4 hlt4 hb4 hb5 hc5 hk5 hs5 hbl5 t1 t2)
    obtain ⟨hb5, hc5, t2, hgg⟩ := hid5.out
    have hbF := set_bel6 (g := w.heap.size + 1) (Bel.trans hid.out.2.2.1 hb5) (Nat.le_succ _) (.slice (some ⟨bl, ol, none⟩) S cl) (.slice pf TT cf) (.slice pm TT cm) (.int .i64 V) (.slice p n cap) (.slice (some ⟨gg, 0, none⟩) S capg)
    refine bodyPost_ret (results_cell_row2 rfl _ _ _ 33 _ (0, 0) _ rfl (six_row t2 _ _ _ _ _ _) Tryd.underlying33 rfl info_ar) rfl ?_
    refine ⟨⟨_, rfl, hid.out.1 _ hbF gg 0 capg _ (by omega) fun j hj => ?_⟩, hbF⟩
    refine (World.cell?_of_block (w := W5) ?_).trans (hc5 j hj)
    have ne : gg ≠ w.heap.size + 1 := by omega
    rw [set_heap ne, set_heap ne, set_heap ne, set_heap ne, set_heap ne, set_heap ne]

end Go.Proofs.YtjgjomojcocegaaDoor

/- The document's arenas: Give as it answers; Used. -/
namespace Go.Proofs.YtjgjomojcocegaaDoor
open Go.ChangeShapes Go.WideShapes Go.ChangeAt Go.RowKit Go.Deep
set_option linter.unusedVariables false
variable {X : Nat → Prop}

/-- Give -/
theorem rgive (v : Value) (P : Pl) (T : Nat → Bool) (i : Int) (w : World) (hX : Till X w) (h : IsAr X w v P T) (hS : P.S ≤ 32768) :
    Calls Tryd.prog 34 #[v, .int .i64 i] w fun e w' => (∃ v' c T', e = .returned (.tuple #[v', .int .i64 c]) ∧ GiveR P T i c T' ∧ IsAr X w' v' P T') ∧ Bel w w' := by
  by_cases hi : 0 ≤ i ∧ i < P.S
  · obtain ⟨I, rfl⟩ : ∃ I : Nat, i = I := ⟨i.toNat, by omega⟩
    refine (rgive_yes v P T I w hX h hS (by omega)).mono ?_
    rintro e w' ⟨⟨v', rfl, h1⟩, g⟩
    cases hT : T I
    · refine ⟨⟨v', 9, T, by simp, Or.inr (Or.inl ⟨I, rfl, by omega, hT, rfl, rfl⟩), ?_⟩, g⟩
      have e : upd T I false = T := by
        funext j
        by_cases c : j = I
        · subst c; rw [upd_at, hT]
        · exact upd_ne T false c
      rw [← e]; exact h1
    · exact ⟨⟨v', 0, _, by simp, Or.inr (Or.inr ⟨I, rfl, by omega, hT, rfl, rfl⟩), h1⟩, g⟩
  · refine (rgive_no v P T i w h hi).mono ?_
    rintro e w' ⟨rfl, g⟩
    exact ⟨⟨v, 2, T, rfl, Or.inl ⟨hi, rfl, rfl⟩, h.bel g⟩, g⟩

set_option maxHeartbeats 2000000 in
/-- Used -/
theorem rused (v : Value) (P : Pl) (T : Nat → Bool) (w : World) (h : IsAr X w v P T) (hS : P.S ≤ 32768) (hU : P.used T P.S ≤ 4611686018427387904) :
    Calls Tryd.prog 36 #[v] w fun e w' => e = .returned (.int .i64 (P.used T P.S : Nat)) ∧ Bel w w' := by
  obtain ⟨bl, ol, cl, pf, cf, pm, cm, p, cap, b, off, cb, rfl, hB, hL⟩ := h.shape
  clear h
  have hle := fun j (hj : j ≤ P.S) => P.used_mono (T := T) hj
  generalize hSS : P.S = S at *
  generalize P.T = TT at *
  generalize P.n = n at *
  generalize (P.W : Int) = V at *
  have k' := heap_alloc_new w (.cells #[.slice (some ⟨bl, ol, none⟩) S cl, .slice pf TT cf, .slice pm TT cm, .int .i64 V, .slice p n cap, .slice (some ⟨b, off, none⟩) S cb] 33)
  have bt := (Bel.refl w).alloc (.cells #[.slice (some ⟨bl, ol, none⟩) S cl, .slice pf TT cf, .slice pm TT cm, .int .i64 V, .slice p n cap, .slice (some ⟨b, off, none⟩) S cb] 33)
  have szW : (w.alloc (.cells #[.slice (some ⟨bl, ol, none⟩) S cl, .slice pf TT cf, .slice pm TT cm, .int .i64 V, .slice p n cap, .slice (some ⟨b, off, none⟩) S cb] 33)).heap.size = w.heap.size + 1 := by show (w.heap.push _).size = _; simp
  generalize hW : w.alloc (.cells #[.slice (some ⟨bl, ol, none⟩) S cl, .slice pf TT cf, .slice pm TT cm, .int .i64 V, .slice p n cap, .slice (some ⟨b, off, none⟩) S cb] 33) = W at *
  obtain ⟨⟨k0, k1, k2, k3, k4, k5⟩, _⟩ := box6 k'
  have hid := Lib.hid (And.intro hB (And.intro hL (And.intro hle (And.intro k' bt))))
  clear hB hL hle k' k1 k2 k3 k4
  go_enter Tryd.func36, Tryd.ntmps36
  go_upto_region 1 with fail
  (try rw [hW])
  clear hW
  go_wp2
  clear k0 k5
  go_loopw [3, 4] (fun n i wr => ∃ k : Nat, k ≤ S ∧ i = .int .i64 (k : Nat) ∧ n = .int .i64 (P.used T k : Nat) ∧ Bel W wr) (fun _ i _ => S - (intOf i).toNat)
  case atStart => exact ⟨0, Nat.zero_le _, rfl, rfl, Bel.refl _⟩
  case round =>
    obtain ⟨k, hk, rfl, rfl, hbr⟩ := hrel
    have tk := (hbr.block w.heap.size (by omega)).trans hid.out.2.2.2.1
    obtain ⟨⟨k0, k1, k2, k3, k4, k5⟩, _⟩ := box6 tk
    clear k1 k2 k3 k4 tk
    have hb := Bel.trans hid.out.2.2.2.2 hbr
    by_cases ck : k < S
    · have cT := cell_bel hb (hid.out.1 k ck)
      obtain ⟨_, s1, _, _⟩ := (hid.out.2.1 k ck).bel hb
      have u1 := hid.out.2.2.1 (k + 1) ck
      have ue : P.used T (k + 1) = P.used T k + if T k = true then P.sz k else 0 := rfl
      have kI : (k : Int) < (S : Int) := by omega
      have kz : (0 : Int) ≤ (k : Int) := by omega
      generalize P.used T k = U at *
      generalize P.sz k = z at *
      have hidu := Lib.hid ue
      have hidr := Lib.hid (And.intro hb hbr)
      have uz := fun (y : T k = true) => (show P.used T (k + 1) = U + z by rw [ue, if_pos y])
      clear ue hb hbr
      cases hT : T k
      · rw [hT] at cT
        clear uz
        go_wp2
        go_roundw
        case rel => exact ⟨k + 1, by omega, by go_num, by rw [hidu.out, if_neg (by rw [hT]; simp)]; rfl, hidr.out.2⟩
        case measure => simp only [intOf]; omega
      · rw [hT] at cT
        have uz := uz hT
        have ub : U + z ≤ 4611686018427387904 := by omega
        have hidz := Lib.hid uz
        clear uz u1
        go_wp2
        go_roundw
        case rel => exact ⟨k + 1, by omega, by go_num, by rw [hidz.out]; go_num, hidr.out.2⟩
        case measure => simp only [intOf]; omega
    · obtain rfl : k = S := by omega
      go_wp2
      go_ret
      exact ⟨rfl, hb⟩

end Go.Proofs.YtjgjomojcocegaaDoor

/- The document's arenas: Take. -/
namespace Go.Proofs.YtjgjomojcocegaaDoor
open Go.ChangeShapes Go.WideShapes Go.ChangeAt Go.RowKit Go.Deep
set_option linter.unusedVariables false
variable {X : Nat → Prop}

theorem results_cell_row3 {P : Program} {fn : Func} {p u u2 : Tmp} {ty : TypeId} (h : fn.results = #[.cell p ty, .tmp u, .tmp u2]) (tmps : Array Value) (w : World) (g : Nat) (t : TypeId) (cs : Array Value) (fr : Nat × Nat) (d : TypeDesc)
    (hp : tmps.getD p undef = .pointer (some ⟨g, 0, none⟩)) (hg : w.heap[g]? = some (.cells cs t fr))
    (hu : P.underlying ty = some d) (hd : (match d with | .struct _ | .array _ _ => true | _ => false) = true) (hi : (P.info? ty).map (·.size) = some cs.size) :
    (results fn tmps).run P w = .ok (.tuple #[.agg cs, tmps.getD u undef, tmps.getD u2 undef]) w := by
  have hp' : tmps[p]?.getD undef = .pointer (some ⟨g, 0, none⟩) := by simpa using hp
  simp [results, h, hp', asAddr, run_loadVar_row w g t ty cs fr d hg hu hd hi]

set_option maxHeartbeats 2000000 in
/-- Take of a class that is none -/
theorem rtake_no (v : Value) (P : Pl) (T : Nat → Bool) (i : Int) (w : World) (h : IsAr X w v P T) (hi : ¬ (0 ≤ i ∧ i < P.n)) :
    Calls Tryd.prog 17 #[v, .int .i64 i] w fun e w' => e = .returned (.tuple #[v, .int .i64 0, .int .i64 2]) ∧ Bel w w' := by
  obtain ⟨bl, ol, cl, pf, cf, pm, cm, p, cap, b, off, cb, rfl, hB, hL⟩ := h.shape
  clear hB hL h
  generalize P.S = S at *
  generalize P.T = TT at *
  generalize P.n = n at *
  generalize (P.W : Int) = V at *
  have tb := two w (.cells #[.slice (some ⟨bl, ol, none⟩) S cl, .slice pf TT cf, .slice pm TT cm, .int .i64 V, .slice p n cap, .slice (some ⟨b, off, none⟩) S cb] 33) (.cells #[.slice none 0 0, .slice none 0 0, .slice none 0 0, .int .i64 0, .slice none 0 0, .slice none 0 0] 33)
  have bt := ((Bel.refl w).alloc (.cells #[.slice (some ⟨bl, ol, none⟩) S cl, .slice pf TT cf, .slice pm TT cm, .int .i64 V, .slice p n cap, .slice (some ⟨b, off, none⟩) S cb] 33)).alloc (.cells #[.slice none 0 0, .slice none 0 0, .slice none 0 0, .int .i64 0, .slice none 0 0, .slice none 0 0] 33)
  generalize hW : (w.alloc (.cells #[.slice (some ⟨bl, ol, none⟩) S cl, .slice pf TT cf, .slice pm TT cm, .int .i64 V, .slice p n cap, .slice (some ⟨b, off, none⟩) S cb] 33)).alloc (.cells #[.slice none 0 0, .slice none 0 0, .slice none 0 0, .int .i64 0, .slice none 0 0, .slice none 0 0] 33) = W at *
  obtain ⟨⟨k0, k1, k2, k3, k4, k5⟩, _⟩ := box6 tb.1
  obtain ⟨⟨z0, z1, z2, z3, z4, z5⟩, f0, f1, f2, f3, f4, f5⟩ := box6 tb.2
  have hz := tb.2
  clear tb
  by_cases a : i < 0
  · have d : decide (i < 0) = true := decide_eq_true a
    clear hi
    go_enter Tryd.func17, Tryd.ntmps17
    go_upto_region 1 with fail
    (try rw [hW])
    clear hW
    go_wp2
    (try simp only [Exit.inBlock, Exit.then])
    refine bodyPost_ret (results_cell_row3 rfl _ _ _ 33 _ (0, 0) _ rfl (six_row hz _ _ _ _ _ _) Tryd.underlying33 rfl info_ar) rfl ?_
    exact ⟨rfl, set_bel6 bt (Nat.le_succ _) _ _ _ _ _ _⟩
  · have d : decide (i < 0) = false := decide_eq_false a
    have d2 : decide ((n : Int) ≤ i) = true := decide_eq_true (by omega)
    clear hi
    go_enter Tryd.func17, Tryd.ntmps17
    go_upto_region 1 with fail
    (try rw [hW])
    clear hW
    go_wp2
    (try simp only [Exit.inBlock, Exit.then])
    refine bodyPost_ret (results_cell_row3 rfl _ _ _ 33 _ (0, 0) _ rfl (six_row hz _ _ _ _ _ _) Tryd.underlying33 rfl info_ar) rfl ?_
    exact ⟨rfl, set_bel6 bt (Nat.le_succ _) _ _ _ _ _ _⟩

set_option maxRecDepth 8000 in
set_option maxHeartbeats 4000000 in
/-- Take of a class that there is -/
theorem rtake_yes (v : Value) (P : Pl) (T : Nat → Bool) (K : Nat) (w : World) (hX : Till X w) (h : IsAr X w v P T) (hS : P.S ≤ 32768) (hK : K < P.n) :
    Calls Tryd.prog 17 #[v, .int .i64 (K : Nat)] w fun e w' => (∃ v' r c T', e = .returned (.tuple #[v', .int .i64 r, .int .i64 c]) ∧ TakeR P T (K : Nat) r c T' ∧ IsAr X w' v' P T') ∧ Bel w w' := by
  have h0 := h
  obtain ⟨bl, ol, cl, pf, cf, pm, cm, p, cap, b, off, cb, rfl, hB, hL⟩ := h.shape
  have hw := fun (W : World) (g : Bel w W) (b' off' cb' : Nat) (T' : Nat → Bool) (hb' : w.heap.size ≤ b') => IsAr.with (w' := W) (b' := b') (off' := off') (cb' := cb') (T' := T') h0 g (hX.new hb')
  have h1 := fun (W : World) (g : Bel w W) => h0.bel g
  clear h h0
  generalize hSS : P.S = S at *
  generalize P.T = TT at *
  generalize hnn : P.n = n at *
  generalize (P.W : Int) = V at *
  have tb := two w (.cells #[.slice (some ⟨bl, ol, none⟩) S cl, .slice pf TT cf, .slice pm TT cm, .int .i64 V, .slice p n cap, .slice (some ⟨b, off, none⟩) S cb] 33) (.cells #[.slice none 0 0, .slice none 0 0, .slice none 0 0, .int .i64 0, .slice none 0 0, .slice none 0 0] 33)
  have bt := ((Bel.refl w).alloc (.cells #[.slice (some ⟨bl, ol, none⟩) S cl, .slice pf TT cf, .slice pm TT cm, .int .i64 V, .slice p n cap, .slice (some ⟨b, off, none⟩) S cb] 33)).alloc (.cells #[.slice none 0 0, .slice none 0 0, .slice none 0 0, .int .i64 0, .slice none 0 0, .slice none 0 0] 33)
  have szW : ((w.alloc (.cells #[.slice (some ⟨bl, ol, none⟩) S cl, .slice pf TT cf, .slice pm TT cm, .int .i64 V, .slice p n cap, .slice (some ⟨b, off, none⟩) S cb] 33)).alloc (.cells #[.slice none 0 0, .slice none 0 0, .slice none 0 0, .int .i64 0, .slice none 0 0, .slice none 0 0] 33)).heap.size = w.heap.size + 2 := by show ((w.heap.push _).push _).size = _; simp
  generalize hW : (w.alloc (.cells #[.slice (some ⟨bl, ol, none⟩) S cl, .slice pf TT cf, .slice pm TT cm, .int .i64 V, .slice p n cap, .slice (some ⟨b, off, none⟩) S cb] 33)).alloc (.cells #[.slice none 0 0, .slice none 0 0, .slice none 0 0, .int .i64 0, .slice none 0 0, .slice none 0 0] 33) = W at *
  obtain ⟨⟨k0, k1, k2, k3, k4, k5⟩, _⟩ := box6 tb.1
  have d : decide ((K : Int) < 0) = false := decide_eq_false (by omega)
  have d2 : decide ((n : Int) ≤ (K : Int)) = false := decide_eq_false (by omega)
  have d3 : decide (n ≤ K) = false := decide_eq_false (by omega)
  have hid := Lib.hid (And.intro hw (And.intro tb (And.intro bt (And.intro hB (And.intro h1 (And.intro hL (And.intro hSS hnn)))))))
  clear hw hB h1 tb hL hSS hnn
  go_enter Tryd.func17, Tryd.ntmps17
  go_upto_region 1 with fail
  (try rw [hW])
  clear hW
  go_wp2
  clear k0 k1 k2 k3 k4 k5
  go_loopw [7] (fun i wr => ∃ k : Nat, k ≤ S ∧ i = .int .i64 (k : Nat) ∧ (∀ j, j < k → P.cls j = K → T j = true) ∧ Bel W wr) (fun i _ => S - (intOf i).toNat)
  case atStart => exact ⟨0, Nat.zero_le _, rfl, fun j hj => by omega, Bel.refl _⟩
  case round =>
    obtain ⟨k, hk, rfl, hall, hbr⟩ := hrel
    have t1 := (hbr.block w.heap.size (by omega)).trans hid.out.2.1.1
    have t2 := (hbr.block (w.heap.size + 1) (by omega)).trans hid.out.2.1.2
    obtain ⟨⟨k0, k1, k2, k3, k4, k5⟩, _⟩ := box6 t1
    obtain ⟨⟨z0, z1, z2, z3, z4, z5⟩, f0, f1, f2, f3, f4, f5⟩ := box6 t2
    have hb := Bel.trans hid.out.2.2.1 hbr
    by_cases ck : k < S
    · have cT := cell_bel hb (hid.out.2.2.2.1 k ck)
      obtain ⟨s0, _, _, _⟩ := (hid.out.2.2.2.2.2.1 k ck).bel hb
      have kI : (k : Int) < (S : Int) := by omega
      have kz : (0 : Int) ≤ (k : Int) := by omega
      have d4 : decide (S ≤ k) = false := decide_eq_false (by omega)
      obtain ⟨q, hq⟩ : ∃ q, P.cls k = q := ⟨_, rfl⟩
      rw [hq] at s0
      have hidq := Lib.hid (And.intro hq (And.intro hall (And.intro hb (And.intro hbr t2))))
      clear hall hb hbr t1 t2 hq
      by_cases e : q = K
      · subst e
        cases hT : T k
        · rw [hT] at cT
          obtain ⟨i0, hi, hy0, hy1, hy2⟩ := info_parts info_bool
          have hown : (wr.alloc (.cells #[] 4)).ownsRow wr.heap.size 4 1 (.slice (some ⟨wr.heap.size, 0, none⟩) 0 0) 0 [] := World.ownsRow_made wr #[] 0 (Nat.le_refl _) (by unfold maxLen; omega) rfl
          have gA := (Bel.refl wr).alloc (.cells #[] 4)
          have hnews := bL_news (T := T) (n := S) (off := off) (b := b) (w := wr.alloc (.cells #[] 4)) fun j hj => cell_bel (Bel.trans hidq.out.2.2.1 gA) (hid.out.2.2.2.1 j hj)
          have hidn := Lib.hid (And.intro hnews (And.intro hown gA))
          have l5 := cell_bel gA k5
          clear hnews hown gA
          go_wp2_with (at_builtin
                       refine wpList_append_lies (P := Tryd.prog) _ rfl (.tmp 44) (.tmp 46) 31 rfl wr.heap.size 4 i0 (.bool false) 1 1 Tryd.underlying31 hi hy0 hy1 hy2 rfl (by decide) (.slice (some ⟨wr.heap.size, 0, none⟩) 0 0) 0 [] rfl hidn.out.2.1 ⟨b, off, none⟩ S cb (bL T S) rfl (by rw [bL_len, Nat.mul_one]) hidn.out.1 (bL_one T S) (by omega) (by unfold maxLen; omega) (by omega) hidn.out.2.2.size _ rfl ?_
                       intro gg capg w4 hO4 hgrow4 hat4 hlt4
                       rw [Nat.zero_add, List.nil_append] at hO4
                       rw [Nat.zero_add]
                       have hg2 : wr.heap.size ≤ gg := by
                         rcases hat4 with e | e
                         · have e1 := Option.some.inj (show some wr.heap.size = some gg from e)
                           omega
                         · have e2 := hidn.out.2.2.size
                           omega
                       have hb4 : Bel wr w4 := Below.grown hidn.out.2.2 hgrow4 hidn.out.2.2.size fun x hx => by have e1 := Option.some.inj (show some wr.heap.size = some x from hx); omega
                       obtain ⟨fz, cx, W5, hW5, hc5, hk5, hs5, hbl5⟩ := own_upd hO4 ck true
                       have hb5 : Bel wr W5 := hbl5 _ _ hg2 hb4
                       have hbr5 := Bel.trans hidq.out.2.2.2.1 hb5
                       have sr := hidq.out.2.2.2.1.size
                       have t1 := (hbr5.block w.heap.size (by omega)).trans hid.out.2.1.1
                       have t2 := (hbr5.block (w.heap.size + 1) (by omega)).trans hid.out.2.1.2
                       clear k0 k1 k2 k3 k4 k5 z0 z1 z2 z3 z4 z5 f0 f1 f2 f3 f4 f5 cT l5 s0
                       obtain ⟨⟨k0, k1, k2, k3, k4, k5⟩, _⟩ := box6 t1
                       obtain ⟨⟨z0, z1, z2, z3, z4, z5⟩, f0, f1, f2, f3, f4, f5⟩ := box6 t2
                       have hid5 := Lib.hid (And.intro (Bel.trans hidq.out.2.2.1 hb5) (And.intro hc5 (And.intro t2 (show w.heap.size + 2 ≤ gg by omega))))
                       clear hO4 hgrow4 hat4 hlt4 hb4 hb5 hc5 hk5 hs5 hbl5 hbr5 sr t1 t2)
          (try simp only [Exit.inBlock, Exit.then])
          obtain ⟨hb5, hc5, t2, hgg⟩ := hid5.out
          have hbF := set_bel6 (g := w.heap.size + 1) hb5 (Nat.le_succ _) (.slice (some ⟨bl, ol, none⟩) S cl) (.slice pf TT cf) (.slice pm TT cm) (.int .i64 V) (.slice p n cap) (.slice (some ⟨gg, 0, none⟩) S capg)
          refine bodyPost_ret (results_cell_row3 rfl _ _ _ 33 _ (0, 0) _ rfl (six_row t2 _ _ _ _ _ _) Tryd.underlying33 rfl info_ar) rfl ?_
          refine ⟨⟨_, _, _, upd T k true, rfl, ?_, hid.out.1 _ hbF gg 0 capg _ (by omega) fun j hj => ?_⟩, hbF⟩
          · unfold TakeR
            rw [hid.out.2.2.2.2.2.2.1, hid.out.2.2.2.2.2.2.2]
            exact Or.inr (Or.inl ⟨k, ck, by rw [hidq.out.1], hT, fun j hj hc => hidq.out.2.1 j hj (by omega), rfl, rfl, rfl⟩)
          · refine (World.cell?_of_block (w := W5) ?_).trans (hc5 j hj)
            have ne : gg ≠ w.heap.size + 1 := by omega
            rw [set_heap ne, set_heap ne, set_heap ne, set_heap ne, set_heap ne, set_heap ne]
        · rw [hT] at cT
          clear z0 z1 z2 z3 z4 z5 f0 f1 f2 f3 f4 f5 
          go_wp2
          go_roundw
          case rel => exact ⟨k + 1, by omega, by go_num, fun j hj hc => by
            by_cases y : j = k
            · rw [y]; exact hT
            · exact hidq.out.2.1 j (by omega) hc, hidq.out.2.2.2.1⟩
          case measure => simp only [intOf]; omega
      · have e1 : decide ((q : Int) = (K : Int)) = false := decide_eq_false (by omega)
        have e2 : decide (q = K) = false := decide_eq_false (by omega)
        clear z0 z1 z2 z3 z4 z5 f0 f1 f2 f3 f4 f5 
        go_wp2
        go_roundw
        case rel => exact ⟨k + 1, by omega, by go_num, fun j hj hc => by
          by_cases y : j = k
          · rw [y] at hc; exact absurd (hidq.out.1.symm.trans hc) e
          · exact hidq.out.2.1 j (by omega) hc, hidq.out.2.2.2.1⟩
        case measure => simp only [intOf]; omega
    · obtain rfl : k = S := by omega
      have hbF := set_bel6 (g := w.heap.size + 1) hb (Nat.le_succ _) (.slice (some ⟨bl, ol, none⟩) k cl) (.slice pf TT cf) (.slice pm TT cm) (.int .i64 V) (.slice p n cap) (.slice (some ⟨b, off, none⟩) k cb)
      have hidz := Lib.hid (And.intro hbF (And.intro t2 hall))
      clear hbF hall t1 t2 hb hbr
      go_wp2
      (try simp only [Exit.inBlock, Exit.then])
      refine bodyPost_ret (results_cell_row3 rfl _ _ _ 33 _ (0, 0) _ rfl (six_row hidz.out.2.1 _ _ _ _ _ _) Tryd.underlying33 rfl info_ar) rfl ?_
      refine ⟨⟨_, _, _, T, rfl, ?_, hid.out.2.2.2.2.1 _ hidz.out.1⟩, hidz.out.1⟩
      unfold TakeR
      rw [hid.out.2.2.2.2.2.2.1, hid.out.2.2.2.2.2.2.2]
      exact Or.inr (Or.inr ⟨⟨by omega, by omega⟩, fun j hj hc => hidz.out.2.2 j hj (by omega), rfl, rfl, rfl⟩)

/-- Take -/
theorem rtake (v : Value) (P : Pl) (T : Nat → Bool) (k : Int) (w : World) (hX : Till X w) (h : IsAr X w v P T) (hS : P.S ≤ 32768) :
    Calls Tryd.prog 17 #[v, .int .i64 k] w fun e w' => (∃ v' r c T', e = .returned (.tuple #[v', .int .i64 r, .int .i64 c]) ∧ TakeR P T k r c T' ∧ IsAr X w' v' P T') ∧ Bel w w' := by
  by_cases hk : 0 ≤ k ∧ k < P.n
  · obtain ⟨K, rfl⟩ : ∃ K : Nat, k = K := ⟨k.toNat, by omega⟩
    exact rtake_yes v P T K w hX h hS (by omega)
  · refine (rtake_no v P T k w h hk).mono ?_
    rintro e w' ⟨rfl, g⟩
    exact ⟨⟨v, 0, 2, T, rfl, Or.inl ⟨hk, rfl, rfl, rfl⟩, h.bel g⟩, g⟩

end Go.Proofs.YtjgjomojcocegaaDoor

/- The document's arenas: GiveAll. -/
namespace Go.Proofs.YtjgjomojcocegaaDoor
open Go.ChangeShapes Go.WideShapes Go.ChangeAt Go.RowKit Go.Deep
set_option linter.unusedVariables false
variable {X : Nat → Prop}

/-- what stands in the first of the slots: given back, where the row says so -/
def part (T R : Nat → Bool) (k : Nat) : Nat → Bool := fun j => if j < k then (T j && !R j) else T j
theorem part_zero (T R : Nat → Bool) : part T R 0 = T := by funext j; simp [part]
theorem part_all {T R : Nat → Bool} {S j : Nat} (h : j < S) : part T R S j = (T j && !R j) := if_pos h
theorem part_here (T R : Nat → Bool) (k : Nat) : part T R k k = T k := if_neg (by omega)
theorem part_step (T R : Nat → Bool) (k : Nat) : part T R (k + 1) = upd (part T R k) k (T k && !R k) := by
  funext j
  by_cases c : j = k
  · subst c; rw [upd_at]; exact if_pos (by omega)
  · rw [upd_ne _ _ c]
    unfold part
    by_cases d : j < k
    · rw [if_pos d, if_pos (by omega)]
    · rw [if_neg d, if_neg (by omega)]

/-- a row of truths that the call owns: its block, its cells -/
theorem own_cells {w : World} {B g cap S : Nat} {T : Nat → Bool} (hO : w.ownsRow B 4 1 (.slice (some ⟨g, 0, none⟩) S cap) S (bL T S)) :
    RowAt w g S 4 ∧ ∀ j, j < S → w.cell? ⟨g, 0 + j, none⟩ = some (.bool (T j)) := by
  have at' := fun j hj => World.ownsRow.cellAt hO j hj
  refine ⟨?_, fun j hj => ?_⟩
  · rcases hO.2 with ⟨e, _⟩ | ⟨g', cap', cur, e, hB, hg, hc, hm, hs, _⟩
    · cases e
    · injection e with e1 e2 e3
      injection e1 with e1
      injection e1 with e1
      subst e1; subst e3
      exact ⟨cur, hg, by omega⟩
  · rw [Nat.zero_add, at' j (by omega), bL_get T hj]

/-- a row of truths that the call owns, one of them turned -/
theorem row_upd {w : World} {g S I : Nat} {T : Nat → Bool} (hR : RowAt w g S 4) (hc : ∀ j, j < S → w.cell? ⟨g, 0 + j, none⟩ = some (.bool (T j))) (hI : I < S) (x : Bool) :
    w.frozen? ⟨g, I, none⟩ = false ∧ w.cell? ⟨g, I, none⟩ = some (.bool (T I)) ∧ ∃ W, w.setCell ⟨g, I, none⟩ (.bool x) = W ∧ RowAt W g S 4 ∧ (∀ j, j < S → W.cell? ⟨g, 0 + j, none⟩ = some (.bool (upd T I x j))) ∧ ∀ n w0, n ≤ g → Below n w0 w → Below n w0 W := by
  obtain ⟨r1, r2, r3⟩ := hR.set hI (.bool x)
  have c0 := fun j hj => (show w.cell? ⟨g, j, none⟩ = some (.bool (T j)) by have := hc j hj; rwa [Nat.zero_add] at this)
  refine ⟨hR.free I, c0 I hI, _, rfl, r1, fun j hj => ?_, fun n w0 hn h => h.setCell hn _⟩
  rw [Nat.zero_add]
  by_cases c : j = I
  · subst c; rw [upd_at]; exact r2
  · rw [r3 j c, upd_ne T x c, c0 j hj]

set_option maxHeartbeats 2000000 in
/-- GiveAll of a row of another length -/
theorem rall_no (v rv : Value) (P : Pl) (T R : Nat → Bool) (m : Nat) (w : World) (h : IsAr X w v P T) (hr : Bls w rv m R) (hm : m ≠ P.S) :
    Calls Tryd.prog 35 #[v, rv] w fun e w' => e = .returned (.tuple #[v, .int .i64 2]) ∧ Bel w w' := by
  obtain ⟨bl, ol, cl, pf, cf, pm, cm, p, cap, b, off, cb, rfl, hB, hL⟩ := h.shape
  obtain ⟨br, or, cr, rfl, hRc⟩ := hr
  clear hB hL h hRc
  generalize P.S = S at *
  generalize P.T = TT at *
  generalize P.n = n at *
  generalize (P.W : Int) = V at *
  have tb := two w (.cells #[.slice (some ⟨bl, ol, none⟩) S cl, .slice pf TT cf, .slice pm TT cm, .int .i64 V, .slice p n cap, .slice (some ⟨b, off, none⟩) S cb] 33) (.cells #[.slice none 0 0, .slice none 0 0, .slice none 0 0, .int .i64 0, .slice none 0 0, .slice none 0 0] 33)
  have bt := ((Bel.refl w).alloc (.cells #[.slice (some ⟨bl, ol, none⟩) S cl, .slice pf TT cf, .slice pm TT cm, .int .i64 V, .slice p n cap, .slice (some ⟨b, off, none⟩) S cb] 33)).alloc (.cells #[.slice none 0 0, .slice none 0 0, .slice none 0 0, .int .i64 0, .slice none 0 0, .slice none 0 0] 33)
  generalize hW : (w.alloc (.cells #[.slice (some ⟨bl, ol, none⟩) S cl, .slice pf TT cf, .slice pm TT cm, .int .i64 V, .slice p n cap, .slice (some ⟨b, off, none⟩) S cb] 33)).alloc (.cells #[.slice none 0 0, .slice none 0 0, .slice none 0 0, .int .i64 0, .slice none 0 0, .slice none 0 0] 33) = W at *
  obtain ⟨⟨k0, k1, k2, k3, k4, k5⟩, _⟩ := box6 tb.1
  obtain ⟨⟨z0, z1, z2, z3, z4, z5⟩, f0, f1, f2, f3, f4, f5⟩ := box6 tb.2
  have hz := tb.2
  clear tb
  have d : decide ((m : Int) = (S : Int)) = false := decide_eq_false (by omega)
  have d2 : decide (m = S) = false := decide_eq_false (by omega)
  go_enter Tryd.func35, Tryd.ntmps35
  go_upto_region 1 with fail
  (try rw [hW])
  clear hW
  go_wp2
  (try simp only [Exit.inBlock, Exit.then])
  refine bodyPost_ret (results_cell_row2 rfl _ _ _ 33 _ (0, 0) _ rfl (six_row hz _ _ _ _ _ _) Tryd.underlying33 rfl info_ar) rfl ?_
  exact ⟨rfl, set_bel6 bt (Nat.le_succ _) _ _ _ _ _ _⟩

set_option maxRecDepth 8000 in
set_option maxHeartbeats 4000000 in
/-- GiveAll of a row of the slots' number -/
theorem rall_yes (v rv : Value) (P : Pl) (T R : Nat → Bool) (w : World) (hX : Till X w) (h : IsAr X w v P T) (hr : Bls w rv P.S R) (hS : P.S ≤ 32768) (hS0 : 0 < P.S) :
    Calls Tryd.prog 35 #[v, rv] w fun e w' => (∃ v' c T', e = .returned (.tuple #[v', .int .i64 c]) ∧ GiveAllR P T R P.S c T' ∧ IsAr X w' v' P T') ∧ Bel w w' := by
  have h0 := h
  obtain ⟨bl, ol, cl, pf, cf, pm, cm, p, cap, b, off, cb, rfl, hB, hL⟩ := h.shape
  obtain ⟨br, or, cr, rfl, hRc⟩ := hr
  have hw := fun (W : World) (g : Bel w W) (b' off' cb' : Nat) (T' : Nat → Bool) (hb' : w.heap.size ≤ b') => IsAr.with (w' := W) (b' := b') (off' := off') (cb' := cb') (T' := T') h0 g (hX.new hb')
  have h1 := fun (W : World) (g : Bel w W) => h0.bel g
  clear h h0 hL
  generalize hSS : P.S = S at *
  generalize P.T = TT at *
  generalize P.n = n at *
  generalize (P.W : Int) = V at *
  have tb := two w (.cells #[.slice (some ⟨bl, ol, none⟩) S cl, .slice pf TT cf, .slice pm TT cm, .int .i64 V, .slice p n cap, .slice (some ⟨b, off, none⟩) S cb] 33) (.cells #[.slice none 0 0, .slice none 0 0, .slice none 0 0, .int .i64 0, .slice none 0 0, .slice none 0 0] 33)
  have bt := ((Bel.refl w).alloc (.cells #[.slice (some ⟨bl, ol, none⟩) S cl, .slice pf TT cf, .slice pm TT cm, .int .i64 V, .slice p n cap, .slice (some ⟨b, off, none⟩) S cb] 33)).alloc (.cells #[.slice none 0 0, .slice none 0 0, .slice none 0 0, .int .i64 0, .slice none 0 0, .slice none 0 0] 33)
  have szW : ((w.alloc (.cells #[.slice (some ⟨bl, ol, none⟩) S cl, .slice pf TT cf, .slice pm TT cm, .int .i64 V, .slice p n cap, .slice (some ⟨b, off, none⟩) S cb] 33)).alloc (.cells #[.slice none 0 0, .slice none 0 0, .slice none 0 0, .int .i64 0, .slice none 0 0, .slice none 0 0] 33)).heap.size = w.heap.size + 2 := by show ((w.heap.push _).push _).size = _; simp
  generalize hW : (w.alloc (.cells #[.slice (some ⟨bl, ol, none⟩) S cl, .slice pf TT cf, .slice pm TT cm, .int .i64 V, .slice p n cap, .slice (some ⟨b, off, none⟩) S cb] 33)).alloc (.cells #[.slice none 0 0, .slice none 0 0, .slice none 0 0, .int .i64 0, .slice none 0 0, .slice none 0 0] 33) = W at *
  obtain ⟨⟨k0, k1, k2, k3, k4, k5⟩, _⟩ := box6 tb.1
  have d3 : decide (S = S) = true := decide_eq_true rfl
  obtain ⟨i0, hi, hy0, hy1, hy2⟩ := info_parts info_bool
  have hown : (W.alloc (.cells #[] 4)).ownsRow W.heap.size 4 1 (.slice (some ⟨W.heap.size, 0, none⟩) 0 0) 0 [] := World.ownsRow_made W #[] 0 (Nat.le_refl _) (by unfold maxLen; omega) rfl
  rw [szW] at hown
  have gA := (Bel.refl W).alloc (.cells #[] 4)
  have sA : w.heap.size + 2 ≤ (W.alloc (.cells #[] 4)).heap.size := szW ▸ gA.size
  have hnews := bL_news (T := T) (n := S) (off := off) (b := b) (w := W.alloc (.cells #[] 4)) fun j hj => cell_bel (Bel.trans bt gA) (hB j hj)
  have hidn := Lib.hid (And.intro hnews (And.intro hown gA))
  have l5 := cell_bel gA k5
  have hid := Lib.hid (And.intro hw (And.intro tb (And.intro bt (And.intro hRc (And.intro h1 hSS)))))
  clear hnews hown gA hw hB hRc h1 hSS tb
  go_enter Tryd.func35, Tryd.ntmps35
  go_upto_region 1 with fail
  (try rw [hW])
  clear hW
  go_wp2_with (at_builtin
               refine wpList_append_lies (P := Tryd.prog) _ rfl (.tmp 15) (.tmp 17) 31 rfl (w.heap.size + 2) 4 i0 (.bool false) 1 1 Tryd.underlying31 hi hy0 hy1 hy2 rfl (by decide) (.slice (some ⟨w.heap.size + 2, 0, none⟩) 0 0) 0 [] rfl hidn.out.2.1 ⟨b, off, none⟩ S cb (bL T S) rfl (by rw [bL_len, Nat.mul_one]) hidn.out.1 (bL_one T S) (by omega) (by unfold maxLen; omega) (by omega) sA _ rfl ?_
               intro gg capg w4 hO4 hgrow4 hat4 hlt4
               rw [Nat.zero_add, List.nil_append] at hO4
               rw [Nat.zero_add]
               have hg2 : W.heap.size ≤ gg := by
                 rcases hat4 with e | e
                 · have e1 := Option.some.inj (show some (w.heap.size + 2) = some gg from e)
                   omega
                 · have e2 := hidn.out.2.2.size
                   omega
               have hb4 : Bel W w4 := Below.grown hidn.out.2.2 hgrow4 hidn.out.2.2.size fun x hx => by have e1 := Option.some.inj (show some (w.heap.size + 2) = some x from hx); omega
               obtain ⟨hr4, hc4⟩ := own_cells hO4
               have hid4 := Lib.hid (And.intro hb4 (And.intro hr4 (And.intro hc4 hg2)))
               clear hO4 hgrow4 hat4 hlt4 hb4 hr4 hc4 hg2)
  clear k0 k1 k2 k3 k4 k5 l5 hi hidn sA
  go_loopw [7] (fun i wr => ∃ k : Nat, k ≤ S ∧ i = .int .i64 (k : Nat) ∧ RowAt wr gg S 4 ∧ (∀ j, j < S → wr.cell? ⟨gg, 0 + j, none⟩ = some (.bool (part T R k j))) ∧ (∀ j, j < k → R j = true → T j = true) ∧ Bel W wr) (fun i _ => S - (intOf i).toNat)
  case atStart => exact ⟨0, Nat.zero_le _, rfl, hid4.out.2.1, by rw [part_zero]; exact hid4.out.2.2.1, fun j hj => by omega, hid4.out.1⟩
  case round =>
    obtain ⟨k, hk, rfl, hr0, hc0, hall, hbr⟩ := hrel
    have t1 := (hbr.block w.heap.size (by omega)).trans hid.out.2.1.1
    have t2 := (hbr.block (w.heap.size + 1) (by omega)).trans hid.out.2.1.2
    obtain ⟨⟨k0, k1, k2, k3, k4, k5⟩, _⟩ := box6 t1
    obtain ⟨⟨z0, z1, z2, z3, z4, z5⟩, f0, f1, f2, f3, f4, f5⟩ := box6 t2
    have hb := Bel.trans hid.out.2.2.1 hbr
    have hgg' := hid4.out.2.2.2
    by_cases ck : k < S
    · have cR := cell_bel hb (hid.out.2.2.2.1 k ck)
      have kI : (k : Int) < (S : Int) := by omega
      have kz : (0 : Int) ≤ (k : Int) := by omega
      have d4 : decide (S ≤ k) = false := decide_eq_false (by omega)
      have cT : wr.cell? ⟨gg, k, none⟩ = some (.bool (T k)) := by
        have := hc0 k ck
        rwa [Nat.zero_add, part_here] at this
      have hidh := Lib.hid (And.intro hall (And.intro hb t2))
      clear hall hb t1 t2
      cases hR : R k
      · rw [hR] at cR
        cases hT : T k
        · rw [hT] at cT
          obtain ⟨fz, cx, W5, hW5, r5, hc5, hbl5⟩ := row_upd hr0 hc0 ck false
          have hbr5 := hbl5 W.heap.size W hgg' hbr
          rw [part_here, hT] at cx
          have hid5 := Lib.hid (And.intro hbr5 (And.intro hc5 r5))
          clear hbr hr0 hc0 r5 hc5 hbl5 hbr5 z0 z1 z2 z3 z4 z5 f0 f1 f2 f3 f4 f5
          go_wp2
          go_roundw
          case rel => exact ⟨k + 1, by omega, by go_num, hid5.out.2.2, fun j hj => by
            rw [part_step, hT, hR]
            exact hid5.out.2.1 j hj, fun j hj hc => by
            by_cases y : j = k
            · rw [y, hR] at hc; cases hc
            · exact hidh.out.1 j (by omega) hc, hid5.out.1⟩
          case measure => simp only [intOf]; omega
        · rw [hT] at cT
          obtain ⟨fz, cx, W5, hW5, r5, hc5, hbl5⟩ := row_upd hr0 hc0 ck true
          have hbr5 := hbl5 W.heap.size W hgg' hbr
          rw [part_here, hT] at cx
          have hid5 := Lib.hid (And.intro hbr5 (And.intro hc5 r5))
          clear hbr hr0 hc0 r5 hc5 hbl5 hbr5 z0 z1 z2 z3 z4 z5 f0 f1 f2 f3 f4 f5
          go_wp2
          go_roundw
          case rel => exact ⟨k + 1, by omega, by go_num, hid5.out.2.2, fun j hj => by
            rw [part_step, hT, hR]
            exact hid5.out.2.1 j hj, fun j hj hc => by
            by_cases y : j = k
            · rw [y]; exact hT
            · exact hidh.out.1 j (by omega) hc, hid5.out.1⟩
          case measure => simp only [intOf]; omega
      · rw [hR] at cR
        cases hT : T k
        · rw [hT] at cT
          clear hr0 hc0 hbr
          go_wp2
          (try simp only [Exit.inBlock, Exit.then])
          have hbF := set_bel6 (g := w.heap.size + 1) hidh.out.2.1 (Nat.le_succ _) (.slice (some ⟨bl, ol, none⟩) S cl) (.slice pf TT cf) (.slice pm TT cm) (.int .i64 V) (.slice p n cap) (.slice (some ⟨b, off, none⟩) S cb)
          refine bodyPost_ret (results_cell_row2 rfl _ _ _ 33 _ (0, 0) _ rfl (six_row hidh.out.2.2 _ _ _ _ _ _) Tryd.underlying33 rfl info_ar) rfl ?_
          refine ⟨⟨_, _, T, rfl, ?_, hid.out.2.2.2.2.1 _ hbF⟩, hbF⟩
          unfold GiveAllR
          rw [hid.out.2.2.2.2.2]
          exact Or.inr (Or.inl ⟨rfl, ⟨k, ck, hR, hT⟩, rfl, rfl⟩)
        · rw [hT] at cT
          obtain ⟨fz, cx, W5, hW5, r5, hc5, hbl5⟩ := row_upd hr0 hc0 ck false
          have hbr5 := hbl5 W.heap.size W hgg' hbr
          rw [part_here, hT] at cx
          have hid5 := Lib.hid (And.intro hbr5 (And.intro hc5 r5))
          clear hbr hr0 hc0 r5 hc5 hbl5 hbr5 z0 z1 z2 z3 z4 z5 f0 f1 f2 f3 f4 f5
          go_wp2
          go_roundw
          case rel => exact ⟨k + 1, by omega, by go_num, hid5.out.2.2, fun j hj => by
            rw [part_step, hT, hR]
            exact hid5.out.2.1 j hj, fun j hj hc => by
            by_cases y : j = k
            · rw [y]; exact hT
            · exact hidh.out.1 j (by omega) hc, hid5.out.1⟩
          case measure => simp only [intOf]; omega
    · obtain rfl : k = S := by omega
      have hidh := Lib.hid (And.intro hall (And.intro hb (And.intro t2 hc0)))
      clear hall hb t1 t2 hc0 hr0 hbr
      go_wp2
      (try simp only [Exit.inBlock, Exit.then])
      have hbF := set_bel6 (g := w.heap.size + 1) hidh.out.2.1 (Nat.le_succ _) (.slice (some ⟨bl, ol, none⟩) k cl) (.slice pf TT cf) (.slice pm TT cm) (.int .i64 V) (.slice p n cap) (.slice (some ⟨gg, 0, none⟩) k capg)
      refine bodyPost_ret (results_cell_row2 rfl _ _ _ 33 _ (0, 0) _ rfl (six_row hidh.out.2.2.1 _ _ _ _ _ _) Tryd.underlying33 rfl info_ar) rfl ?_
      refine ⟨⟨_, _, fun i => T i && !R i, rfl, ?_, hid.out.1 _ hbF gg 0 capg _ (by omega) fun j hj => ?_⟩, hbF⟩
      · unfold GiveAllR
        rw [hid.out.2.2.2.2.2]
        exact Or.inr (Or.inr ⟨rfl, hidh.out.1, rfl, rfl⟩)
      · refine (World.cell?_of_block (w := wr) ?_).trans ((hidh.out.2.2.2 j hj).trans (by rw [part_all hj]))
        have ne : gg ≠ w.heap.size + 1 := by omega
        rw [set_heap ne, set_heap ne, set_heap ne, set_heap ne, set_heap ne, set_heap ne]

/-- GiveAll -/
theorem rall (v rv : Value) (P : Pl) (T R : Nat → Bool) (m : Nat) (w : World) (hX : Till X w) (h : IsAr X w v P T) (hr : Bls w rv m R) (hS : P.S ≤ 32768) (hS0 : 0 < P.S) :
    Calls Tryd.prog 35 #[v, rv] w fun e w' => (∃ v' c T', e = .returned (.tuple #[v', .int .i64 c]) ∧ GiveAllR P T R m c T' ∧ IsAr X w' v' P T') ∧ Bel w w' := by
  by_cases hm : m = P.S
  · subst hm
    exact rall_yes v rv P T R w hX h hr hS hS0
  · refine (rall_no v rv P T R m w h hr hm).mono ?_
    rintro e w' ⟨rfl, g⟩
    exact ⟨⟨v, 2, T, rfl, Or.inl ⟨hm, rfl, rfl⟩, h.bel g⟩, g⟩

end Go.Proofs.YtjgjomojcocegaaDoor

/- The document's arenas: New. -/
namespace Go.Proofs.YtjgjomojcocegaaDoor
open Go.ChangeShapes Go.WideShapes Go.ChangeAt Go.RowKit Go.Deep
set_option linter.unusedVariables false
variable {X : Nat → Prop}

/-- a plan, and truths: an arena -/
theorem IsAr.ofQ {w W : World} {bl ol cl cf cm cap b' off' cb' : Nat} {pf pm p : Option Addr} {P : Pl} {T' : Nat → Bool} (h : IsQ w (.agg #[.slice (some ⟨bl, ol, none⟩) P.S cl, .slice pf P.T cf, .slice pm P.T cm, .int .i64 (P.W : Nat), .slice p P.n cap]) P) (g : Bel w W) (hv : AvoidQ X (.agg #[.slice (some ⟨bl, ol, none⟩) P.S cl, .slice pf P.T cf, .slice pm P.T cm, .int .i64 (P.W : Nat), .slice p P.n cap])) (hb' : ¬ X b')
    (hB : ∀ j, j < P.S → W.cell? ⟨b', off' + j, none⟩ = some (.bool (T' j))) :
    IsAr X W (.agg #[.slice (some ⟨bl, ol, none⟩) P.S cl, .slice pf P.T cf, .slice pm P.T cm, .int .i64 (P.W : Nat), .slice p P.n cap, .slice (some ⟨b', off', none⟩) P.S cb']) P T' :=
  ⟨_, _, _, _, _, _, rfl, h.bel g, ⟨b', off', cb', rfl, hB⟩, hv _ _ _ _ _ rfl, Avoid.at hb'⟩

set_option maxRecDepth 8000 in
set_option maxHeartbeats 2000000 in
/-- New of a plan: no slot is taken -/
theorem rnew10 (v : Value) (P : Pl) (w : World) (hX : Till X w) (hv : AvoidQ X v) (h : IsQ w v P) (hS : P.S ≤ 32768) :
    Calls Tryd.prog 32 #[v] w fun e w' => (∃ v', e = .returned v' ∧ IsAr X w' v' P fun _ => false) ∧ Bel w w' := by
  have h0 := h
  obtain ⟨_, _, _, p, cap, rfl, ⟨bl, ol, cl, rfl, hL⟩, hF, hM⟩ := h
  obtain ⟨pf, cf, rfl, _⟩ := nums_slice hF
  obtain ⟨pm, cm, rfl, _⟩ := nums_slice hM
  have hw := fun (W : World) (g : Bel w W) (b' off' cb' : Nat) (T' : Nat → Bool) (hb' : w.heap.size ≤ b') => IsAr.ofQ (W := W) (b' := b') (off' := off') (cb' := cb') (T' := T') h0 g hv (hX.new hb')
  clear h0 hL hF hM hv
  generalize P.S = S at *
  generalize P.T = TT at *
  generalize P.n = n at *
  generalize (P.W : Int) = V at *
  have tb := two w (.cells #[.slice (some ⟨bl, ol, none⟩) S cl, .slice pf TT cf, .slice pm TT cm, .int .i64 V, .slice p n cap] 30) (.cells #[.slice none 0 0, .slice none 0 0, .slice none 0 0, .int .i64 0, .slice none 0 0, .slice none 0 0] 33)
  have bt := ((Bel.refl w).alloc (.cells #[.slice (some ⟨bl, ol, none⟩) S cl, .slice pf TT cf, .slice pm TT cm, .int .i64 V, .slice p n cap] 30)).alloc (.cells #[.slice none 0 0, .slice none 0 0, .slice none 0 0, .int .i64 0, .slice none 0 0, .slice none 0 0] 33)
  have szW : ((w.alloc (.cells #[.slice (some ⟨bl, ol, none⟩) S cl, .slice pf TT cf, .slice pm TT cm, .int .i64 V, .slice p n cap] 30)).alloc (.cells #[.slice none 0 0, .slice none 0 0, .slice none 0 0, .int .i64 0, .slice none 0 0, .slice none 0 0] 33)).heap.size = w.heap.size + 2 := by show ((w.heap.push _).push _).size = _; simp
  generalize hW : (w.alloc (.cells #[.slice (some ⟨bl, ol, none⟩) S cl, .slice pf TT cf, .slice pm TT cm, .int .i64 V, .slice p n cap] 30)).alloc (.cells #[.slice none 0 0, .slice none 0 0, .slice none 0 0, .int .i64 0, .slice none 0 0, .slice none 0 0] 33) = W at *
  obtain ⟨⟨k0, k1, k2, k3, k4⟩, _⟩ := box5 tb.1
  have hmk : ∀ W : World, (Instr.makeSlice 31 (.int .i64 (S : Nat)) (.int .i64 (S : Nat))).run Tryd.prog W = .ok (.slice (some ⟨W.heap.size, 0, none⟩) S S) (W.alloc (.cells (madeCells (#[.bool false] : Array Value) S) 4)) := fun W => by
    obtain ⟨i0, hi, hz0, hz1, hz2⟩ := info_parts info_bool
    have := run_make (P := Tryd.prog) W 31 4 i0 _ Tryd.underlying31 hi hz0 .i64 .i64 S S (by omega) (Int.le_refl _) (by rw [hz2]; omega) (by omega)
    rw [this, hz1, Int.toNat_natCast, Nat.mul_one]
    rfl
  have e : (madeCells (#[.bool false] : Array Value) S).toList = bL (fun _ => false) S := by
    rw [toList_madeCells_one]
    unfold bL
    rw [List.map_const', List.length_range]
  obtain ⟨⟨z0, z1, z2, z3, z4, z5⟩, f0, f1, f2, f3, f4, f5⟩ := box6 tb.2
  have hbZ := set_bel6 (g := w.heap.size + 1) bt (Nat.le_succ _) (.slice (some ⟨bl, ol, none⟩) S cl) (.slice pf TT cf) (.slice pm TT cm) (.int .i64 V) (.slice p n cap) (.slice (some ⟨w.heap.size + 2, 0, none⟩) S S)
  have t6 := six_row tb.2 (.slice (some ⟨bl, ol, none⟩) S cl) (.slice pf TT cf) (.slice pm TT cm) (.int .i64 V) (.slice p n cap) (.slice (some ⟨w.heap.size + 2, 0, none⟩) S S)
  have fin : ∀ Wz : World, Wz.heap.size = w.heap.size + 2 → Bel w Wz → (∀ j, j < S → ((Wz.alloc (.cells (madeCells (#[.bool false] : Array Value) S) 4)).drew).cell? ⟨w.heap.size + 2, 0 + j, none⟩ = some (.bool false)) ∧ Bel w (Wz.alloc (.cells (madeCells (#[.bool false] : Array Value) S) 4)).drew ∧ Bel Wz (Wz.alloc (.cells (madeCells (#[.bool false] : Array Value) S) 4)).drew := by
    intro Wz hs hb
    have bA : Bel Wz (Wz.alloc (.cells (madeCells (#[.bool false] : Array Value) S) 4)).drew := ((Bel.refl Wz).alloc (.cells (madeCells (#[.bool false] : Array Value) S) 4)).drew
    refine ⟨fun j hj => ?_, Bel.trans hb bA, bA⟩
    have h3 := cell_of_row _ Wz.heap.size j (madeCells (#[.bool false] : Array Value) S) _ (0, 0) (heap_alloc_new Wz (.cells (madeCells (#[.bool false] : Array Value) S) 4))
    rw [Nat.zero_add, ← hs]
    refine Eq.trans h3 ?_
    rw [← Array.getElem?_toList, e, bL_get _ hj]
  have hid := Lib.hid (And.intro hw (And.intro t6 (And.intro hbZ fin)))
  clear hw tb e t6 hbZ fin
  go_enter Tryd.func32, Tryd.ntmps32
  go_upto_region 1 with fail
  (try rw [hW])
  clear hW
  go_region_law fail
  all_goals go_wp2
  all_goals (try simp only [Exit.inBlock, Exit.then])
  all_goals
    obtain ⟨hw, t6, hbZ, fin⟩ := hid.out
    obtain ⟨hc, hbF, bA⟩ := fin _ (by rw [World.size_setCell, World.size_setCell, World.size_setCell, World.size_setCell, World.size_setCell, World.size_setCell, szW]) hbZ
    refine bodyPost_ret (results_cell_row rfl _ _ _ 33 _ (0, 0) _ rfl ((bA.block (w.heap.size + 1) (by rw [World.size_setCell, World.size_setCell, World.size_setCell, World.size_setCell, World.size_setCell, World.size_setCell, szW]; omega)).trans t6) Tryd.underlying33 rfl info_ar) rfl ?_
    exact ⟨⟨_, rfl, hw _ hbF (w.heap.size + 2) 0 S _ (by omega) hc⟩, hbF⟩

end Go.Proofs.YtjgjomojcocegaaDoor
