/- With a greater quota a tenant has no fewer slots, pages and words; and its neighbours' regions are as long as they were; for every input, no condition. -/
import Derived.Test.YtlodgbpjeklhpaaRowk
import Derived.Test.YtlodgbpjeklhpaaOpc
import Derived.Test.YtlodgbpjeklhpaaPgo
import Derived.Deep.Cut
import Derived.Deep.DeepCutAuto
import Derived.Deep.RegionHeld3
import Derived.Deep.Slices
import Derived.Deep.AppendLies
import Derived.Lib.MinMax
namespace Go.Proofs.Ytlodgbpjeklhpaa.confMore
open Go.ChangeShapes Go.WideShapes Go.ChangeAt Go.RowKit Go.Deep
set_option linter.unusedVariables false

/-- a tenant's quota turned -/
def more (c : Cf) (t : Nat) (q : Int) : Cf := { c with Q := fun j => if j = t then q else c.Q j }

/-- the cells of a boxed configuration, and that all lies as it lay -/
theorem keep6 {w W : World} {a b c d e f : Value} {t : TypeId} (h : Bel (w.alloc (.cells #[a, b, c, d, e, f] t)) W) :
    Bel (w.alloc (.cells #[a, b, c, d, e, f] t)) W ∧ W.cell? ⟨w.heap.size, 0, none⟩ = some a ∧ W.cell? ⟨w.heap.size, 1, none⟩ = some b ∧ W.cell? ⟨w.heap.size, 2, none⟩ = some c ∧ W.cell? ⟨w.heap.size, 3, none⟩ = some d ∧ W.cell? ⟨w.heap.size, 4, none⟩ = some e ∧ W.cell? ⟨w.heap.size, 5, none⟩ = some f :=
  ⟨h, cf_at h⟩

theorem grow_bel {w0 W w1 : World} {row : Option Nat} (h : Bel w0 W) (hg : W.grownBy w1 row) (hr : ∀ x, row = some x → w0.heap.size ≤ x) : Bel w0 w1 := Below.grown h hg h.size hr

theorem six_sets {w0 w1 : World} {g : Nat} (h : Bel w0 w1) (hg : w0.heap.size ≤ g) (a b c d e f : Value) :
    Bel w0 ((((((w1.setCell ⟨g, 0, none⟩ a).setCell ⟨g, 1, none⟩ b).setCell ⟨g, 2, none⟩ c).setCell ⟨g, 3, none⟩ d).setCell ⟨g, 4, none⟩ e).setCell ⟨g, 5, none⟩ f) :=
  set_bel (set_bel (set_bel (set_bel (set_bel (set_bel h hg _ _) hg _ _) hg _ _) hg _ _) hg _ _) hg _ _
theorem heap_grown {W w1 : World} {row : Option Nat} (hg : W.grownBy w1 row) {k : Nat} (hk : k < W.heap.size) (hr : some k ≠ row) {o : Obj} (h : W.heap[k]? = some o) : w1.heap[k]? = some o := (hg.block k hk hr).trans h
theorem zero_at {w : World} {g : Nat} {a b c d e f : Value} {t : TypeId} (h : w.heap[g]? = some (.cells #[a, b, c, d, e, f] t (0, 0))) :
    w.cell? ⟨g, 0, none⟩ = some a ∧ w.cell? ⟨g, 1, none⟩ = some b ∧ w.cell? ⟨g, 2, none⟩ = some c ∧ w.cell? ⟨g, 3, none⟩ = some d ∧ w.cell? ⟨g, 4, none⟩ = some e ∧ w.cell? ⟨g, 5, none⟩ = some f :=
  ⟨cell_of_row w g 0 _ _ _ h, cell_of_row w g 1 _ _ _ h, cell_of_row w g 2 _ _ _ h, cell_of_row w g 3 _ _ _ h, cell_of_row w g 4 _ _ _ h, cell_of_row w g 5 _ _ _ h⟩

theorem at_world {P : Program} {o : Oper} {a : Act} {K : Act → World → Prop} {Q : Exit → Act → World → Prop} {E c : Prop} [Decidable c] (w : World) (h : if c then Oper.wp P o a w K Q else E) : if c then Oper.wp P o a w K Q else E := h

theorem info_ten : (Try.prog.info? 43).map (fun i => (i.zero, i.size, i.bytes)) = some (some (.agg #[.int .i64 0, .int .i64 0, .int .i64 0, .int .i64 0]), 4, 32) := by kernel_rfl
theorem info_parts {o : Option TypeInfo} {z : Option Value} {s b : Nat} (h : o.map (fun i => (i.zero, i.size, i.bytes)) = some (z, s, b)) : ∃ i, o = some i ∧ i.zero = z ∧ i.size = s ∧ i.bytes = b := by
  cases o with
  | none => cases h
  | some i => simp at h; exact ⟨i, rfl, h.1, h.2.1, h.2.2⟩

/-- the cells of a row of tenants -/
def tenV (c : Cf) (j : Nat) : Value := .int .i64 (if j % 4 = 0 then c.Q (j / 4) else if j % 4 = 1 then c.Tr (j / 4) else if j % 4 = 2 then c.Cp (j / 4) else c.As (j / 4))
def tenL (c : Cf) : List Value := (List.range (c.m * 4)).map (tenV c)
theorem tenL_len (c : Cf) : (tenL c).length = c.m * 4 := by unfold tenL; simp
theorem tenL_get (c : Cf) {j : Nat} (h : j < c.m * 4) : (tenL c)[j]? = some (tenV c j) := by unfold tenL; rw [List.getElem?_map, List.getElem?_range h]; rfl
theorem tenL_one (c : Cf) : ∀ u ∈ tenL c, u.oneCell' = true := by
  intro u hu
  unfold tenL at hu
  obtain ⟨j, _, rfl⟩ := List.mem_map.1 hu
  rfl
theorem tenV_at (c : Cf) (i : Nat) : tenV c (i * 4) = .int .i64 (c.Q i) ∧ tenV c (i * 4 + 1) = .int .i64 (c.Tr i) ∧ tenV c (i * 4 + 2) = .int .i64 (c.Cp i) ∧ tenV c (i * 4 + 3) = .int .i64 (c.As i) := by
  unfold tenV
  refine ⟨?_, ?_, ?_, ?_⟩
  · rw [show i * 4 % 4 = 0 by omega, show i * 4 / 4 = i by omega]; rfl
  · rw [show (i * 4 + 1) % 4 = 1 by omega, show (i * 4 + 1) / 4 = i by omega]; rfl
  · rw [show (i * 4 + 2) % 4 = 2 by omega, show (i * 4 + 2) / 4 = i by omega]; rfl
  · rw [show (i * 4 + 3) % 4 = 3 by omega, show (i * 4 + 3) / 4 = i by omega]; rfl
theorem tenL_news {c : Cf} {w : World} {b off : Nat} (h : ∀ j, j < c.m → Ten w b (off + j * 4) (c.Q j) (c.Tr j) (c.Cp j) (c.As j)) : ∀ j u, (tenL c)[j]? = some u → w.cell? ((⟨b, off, none⟩ : Addr).add j) = some u := by
  intro j u hu
  by_cases x : j < c.m * 4
  · rw [tenL_get c x] at hu
    cases hu
    rw [add_plain]
    obtain ⟨h0, h1, h2, h3⟩ := h (j / 4) (by omega)
    obtain ⟨e0, e1, e2, e3⟩ := tenV_at c (j / 4)
    have : j % 4 = 0 ∨ j % 4 = 1 ∨ j % 4 = 2 ∨ j % 4 = 3 := by omega
    rcases this with m | m | m | m
    · have e : j = j / 4 * 4 := by omega
      generalize j / 4 = i at *
      subst e; rw [e0]; exact h0
    · have e : j = j / 4 * 4 + 1 := by omega
      generalize j / 4 = i at *
      subst e; rw [e1, ← Nat.add_assoc]; exact h1
    · have e : j = j / 4 * 4 + 2 := by omega
      generalize j / 4 = i at *
      subst e; rw [e2, ← Nat.add_assoc]; exact h2
    · have e : j = j / 4 * 4 + 3 := by omega
      generalize j / 4 = i at *
      subst e; rw [e3, ← Nat.add_assoc]; exact h3
  · rw [List.getElem?_eq_none (by rw [tenL_len]; omega)] at hu
    cases hu

theorem ne_row {N g M h : Nat} (hat : some N = some g ∨ g = M) (h1 : h ≠ N) (h2 : h ≠ M) : h ≠ g := by
  rcases hat with e | e
  · injection e with e; omega
  · omega

/-- what lies there behind the making of the other configuration -/
structure More (wb W : World) (h8 g2 k2 : Nat) (cs : Array Value) (c : Cf) : Prop where
  bel : Bel wb W
  box : W.heap[h8]? = some (.cells cs 25 (0, 0))
  r2 : RowAt W g2 (c.m * 4) 43
  t : ∀ j, j < c.m → Ten W g2 (j * 4) (c.Q j) (c.Tr j) (c.Cp j) (c.As j)
  b2 : wb.heap.size ≤ g2
  ne : h8 ≠ g2
  k1 : c.m ≤ k2
  k2 : k2 ≤ 9223372036854775807

theorem more_pages {c : Cf} {t : Nat} {X : Int} {i k : Nat} (h : i ≠ t) : (more c t X).pages i k = c.pages i k := by
  have e : (more c t X).Q i = c.Q i := if_neg h
  show ((more c t X).Q i / c.F k + c.page / c.F k - 1) / (c.page / c.F k) = (c.Q i / c.F k + c.page / c.F k - 1) / (c.page / c.F k)
  rw [e]
theorem more_slots_le {c : Cf} {t : Nat} {X : Int} (hX : c.Q t ≤ X) (ok : c.ok) {i k : Nat} (hk : k < c.n) : c.slots i k ≤ (more c t X).slots i k := by
  refine Int.ediv_le_ediv (by have := (Cf.ok_F ok hk).1; omega) ?_
  show c.Q i ≤ if i = t then X else c.Q i
  by_cases h : i = t
  · rw [if_pos h, h]; exact hX
  · rw [if_neg h]; exact Int.le_refl _
theorem more_pages_le {c : Cf} {t : Nat} {X : Int} (hX : c.Q t ≤ X) (ok : c.ok) {i k : Nat} (hk : k < c.n) : c.pages i k ≤ (more c t X).pages i k := by
  have := more_slots_le hX ok (i := i) hk
  refine Int.ediv_le_ediv (by have := (Cf.each_bd ok hk).1; omega) ?_
  show c.slots i k + c.each k - 1 ≤ (more c t X).slots i k + c.each k - 1
  omega
theorem more_region {c : Cf} {t : Nat} {X : Int} {i : Nat} (h : i ≠ t) : (more c t X).region i = c.region i :=
  sumTo_congr fun k _ => by rw [more_pages h]; rfl
theorem more_region_le {c : Cf} {t : Nat} {X : Int} (hX : c.Q t ≤ X) (ok : c.ok) (i : Nat) : c.region i ≤ (more c t X).region i :=
  sumTo_mono fun k hk => Int.mul_le_mul_of_nonneg_right (more_pages_le hX ok hk) (by have := (Cf.ok_page ok).1; omega)

theorem More.store {wb W : World} {h8 g2 k2 : Nat} {cs : Array Value} {c : Cf} {t : Nat} (M : More wb W h8 g2 k2 cs c) (ht : t < c.m) (X : Int) : More wb (W.setCell ⟨g2, t * 4, none⟩ (.int .i64 X)) h8 g2 k2 cs (more c t X) := by
  obtain ⟨r, s, far⟩ := M.r2.set (j := t * 4) (by omega) (.int .i64 X)
  refine ⟨set_bel M.bel M.b2 _ _, (set_heap M.ne _).trans M.box, r, fun j hj => ?_, M.b2, M.ne, M.k1, M.k2⟩
  obtain ⟨t0, t1, t2, t3⟩ := M.t j hj
  show Ten _ g2 (j * 4) (if j = t then X else c.Q j) (c.Tr j) (c.Cp j) (c.As j)
  by_cases h : j = t
  · subst h
    rw [if_pos rfl]
    exact ⟨s, (far _ (by omega)).trans t1, (far _ (by omega)).trans t2, (far _ (by omega)).trans t3⟩
  · rw [if_neg h]
    exact ⟨(far _ (by omega)).trans t0, (far _ (by omega)).trans t1, (far _ (by omega)).trans t2, (far _ (by omega)).trans t3⟩
theorem More.go {wb W W2 : World} {h8 g2 k2 : Nat} {cs : Array Value} {c : Cf} (M : More wb W h8 g2 k2 cs c) (g : Bel W W2) : More wb W2 h8 g2 k2 cs c :=
  ⟨M.bel.trans g, heap_bel g M.box, M.r2.bel g, fun j hj => (M.t j hj).bel g, M.b2, M.ne, M.k1, M.k2⟩

theorem own_row {w : World} {B g cap : Nat} {c : Cf} (h : w.ownsRow B 43 4 (.slice (some ⟨g, 0, none⟩) (0 + c.m) cap) (0 + c.m) ([] ++ tenL c)) :
    RowAt w g (c.m * 4) 43 ∧ (∀ j, j < c.m → Ten w g (j * 4) (c.Q j) (c.Tr j) (c.Cp j) (c.As j)) ∧ B ≤ g ∧ c.m ≤ cap ∧ cap ≤ 9223372036854775807 := by
  rw [Nat.zero_add, List.nil_append] at h
  have at' := fun j hj => h.cellAt j hj
  rcases h.2 with ⟨e, _⟩ | ⟨g', cap', cur, e, hB, hg, hc, hm, hs, _⟩
  · cases e
  · injection e with e1 e2 e3
    injection e1 with e1
    injection e1 with e1
    subst e1; subst e3
    refine ⟨⟨cur, hg, by rw [hs]; exact Nat.mul_le_mul_right 4 hc⟩, fun j hj => ?_, hB, hc, by unfold maxLen at hm; omega⟩
    obtain ⟨v0, v1, v2, v3⟩ := tenV_at c j
    refine ⟨?_, ?_, ?_, ?_⟩
    · rw [at' _ (by omega), tenL_get c (by omega), v0]
    · rw [at' _ (by omega), tenL_get c (by omega), v1]
    · rw [at' _ (by omega), tenL_get c (by omega), v2]
    · rw [at' _ (by omega), tenL_get c (by omega), v3]

theorem more_made {wb w1 : World} {B g cap : Nat} {c : Cf} (h : w1.ownsRow B 43 4 (.slice (some ⟨g, 0, none⟩) (0 + c.m) cap) (0 + c.m) ([] ++ tenL c)) (hlt : g < w1.heap.size) (kp : Bel wb w1) (le : wb.heap.size ≤ B) (cs : Array Value) :
    More wb (w1.alloc (.cells cs 25)) w1.heap.size g cap cs c := by
  obtain ⟨r, t, hB, k1, k2⟩ := own_row h
  have gA := (Bel.refl w1).alloc (.cells cs 25)
  exact ⟨kp.alloc _, heap_alloc_new w1 _, r.bel gA, fun j hj => (t j hj).bel gA, by omega, by omega, k1, k2⟩

theorem six_row {w : World} {g : Nat} {a b c d e f : Value} {t : TypeId} (h : w.heap[g]? = some (.cells #[a, b, c, d, e, f] t (0, 0))) (a' b' c' d' e' f' : Value) :
    ((((((w.setCell ⟨g, 0, none⟩ a').setCell ⟨g, 1, none⟩ b').setCell ⟨g, 2, none⟩ c').setCell ⟨g, 3, none⟩ d').setCell ⟨g, 4, none⟩ e').setCell ⟨g, 5, none⟩ f').heap[g]? = some (.cells #[a', b', c', d', e', f'] t (0, 0)) :=
  heap_setCell_same _ g 5 _ t f' (heap_setCell_same _ g 4 _ t e' (heap_setCell_same _ g 3 _ t d' (heap_setCell_same _ g 2 _ t c' (heap_setCell_same _ g 1 _ t b' (heap_setCell_same w g 0 _ t a' h)))))
theorem six_far {w : World} {g k : Nat} (h : k ≠ g) (a' b' c' d' e' f' : Value) :
    ((((((w.setCell ⟨g, 0, none⟩ a').setCell ⟨g, 1, none⟩ b').setCell ⟨g, 2, none⟩ c').setCell ⟨g, 3, none⟩ d').setCell ⟨g, 4, none⟩ e').setCell ⟨g, 5, none⟩ f').heap[k]? = w.heap[k]? := by
  rw [set_heap h, set_heap h, set_heap h, set_heap h, set_heap h, set_heap h]

theorem more_set {wb w1 : World} {B g cap h8 : Nat} {c : Cf} {z0 z1 z2 z3 z4 z5 a b d e f i : Value} (h : w1.ownsRow B 43 4 (.slice (some ⟨g, 0, none⟩) (0 + c.m) cap) (0 + c.m) ([] ++ tenL c)) (ne : h8 ≠ g)
    (kp : Bel wb ((((((w1.setCell ⟨h8, 0, none⟩ a).setCell ⟨h8, 1, none⟩ b).setCell ⟨h8, 2, none⟩ d).setCell ⟨h8, 3, none⟩ e).setCell ⟨h8, 4, none⟩ f).setCell ⟨h8, 5, none⟩ i)) (le : wb.heap.size ≤ B) (hz : w1.heap[h8]? = some (.cells #[z0, z1, z2, z3, z4, z5] 25 (0, 0))) :
    More wb ((((((w1.setCell ⟨h8, 0, none⟩ a).setCell ⟨h8, 1, none⟩ b).setCell ⟨h8, 2, none⟩ d).setCell ⟨h8, 3, none⟩ e).setCell ⟨h8, 4, none⟩ f).setCell ⟨h8, 5, none⟩ i) h8 g cap #[a, b, d, e, f, i] c := by
  obtain ⟨r, t, hB, k1, k2⟩ := own_row h
  have far := six_far (w := w1) (fun e => ne e.symm) a b d e f i
  refine ⟨kp, six_row hz _ _ _ _ _ _, r.heap far, fun j hj => ?_, by omega, ne, k1, k2⟩
  obtain ⟨t0, t1, t2, t3⟩ := t j hj
  exact ⟨(cell_heap far).trans t0, (cell_heap far).trans t1, (cell_heap far).trans t2, (cell_heap far).trans t3⟩

set_option maxRecDepth 100000 in
set_option maxHeartbeats 1000000 in
theorem walk_ok (p1 p2 : Option Addr) (c1 c2 : Nat) (c : Cf) (tn : Nat) (quota : Int) (w : World) (hI : IsCf w (.agg #[.slice p1 c.n c1, .int .i64 c.page, .slice p2 c.m c2, .int .i64 c.wk, .int .i64 c.gr, .int .i64 c.gn]) c) (ok : c.ok)
    (hT : ∀ k, k < c.m → ∃ b off, p2 = some ⟨b, off, none⟩ ∧ Ten w b (off + k * 4) (c.Q k) (c.Tr k) (c.Cp k) (c.As k)) (htn : tn ≤ 255) :
    Calls Try.prog 6 #[.agg #[.slice p1 c.n c1, .int .i64 c.page, .slice p2 c.m c2, .int .i64 c.wk, .int .i64 c.gr, .int .i64 c.gn], .int .u8 (tn : Nat), .int .i64 quota] w fun e w' => e = .returned (.bool true) ∧ Bel w w' := by
  have n8 := Cf.ok_n ok
  have m8 := Cf.ok_m ok
  obtain ⟨b2, o2, rfl, _⟩ := hT 0 (by omega)
  have hT2 : ∀ j, j < c.m → Ten w b2 (o2 + j * 4) (c.Q j) (c.Tr j) (c.Cp j) (c.As j) := fun j hj => by
    obtain ⟨b, o, e, h⟩ := hT j hj
    injection e with e
    injection e with e1 e2
    subst e1; subst e2; exact h
  clear hT
  have hb0 : ∀ o, Bel w (w.alloc o) := fun o => (Bel.refl w).alloc o
  have hb := hb0 (.cells #[.slice p1 c.n c1, .int .i64 c.page, .slice (some ⟨b2, o2, none⟩) c.m c2, .int .i64 c.wk, .int .i64 c.gr, .int .i64 c.gn] 25)
  clear hb0
  have g0 := Bel.refl (w.alloc (.cells #[.slice p1 c.n c1, .int .i64 c.page, .slice (some ⟨b2, o2, none⟩) c.m c2, .int .i64 c.wk, .int .i64 c.gr, .int .i64 c.gn] 25))
  generalize hwb : w.alloc (.cells #[.slice p1 c.n c1, .int .i64 c.page, .slice (some ⟨b2, o2, none⟩) c.m c2, .int .i64 c.wk, .int .i64 c.gr, .int .i64 c.gn] 25) = wb at hb
  have hIb := hI.bel hb
  have sm := fun w1 (g : Bel wb w1) => (small_any _ c w1 (hIb.bel g)).mono fun e w' ⟨a, b⟩ => (⟨a, g.trans b⟩ : _ ∧ Bel wb w')
  have aw := fun w1 (g : Bel wb w1) => (awake_any w1).mono fun e w' ⟨a, b⟩ => (⟨a, g.trans b⟩ : _ ∧ Bel wb w')
  rw [decide_eq_true (show c.n ≤ 50 ∧ c.m ≤ 50 by omega)] at sm
  have o1 := fun w1 (g : Bel wb w1) => (pcheck_any _ c w1 (hIb.bel g)).mono fun e w' ⟨a, b⟩ => (⟨a, g.trans b⟩ : _ ∧ Bel wb w')
  rw [Cf.checkC_ok ok] at o1
  have tm : ∃ t : Nat, (tn : Int) % (c.m : Int) = (t : Int) ∧ t < c.m := ⟨tn % c.m, by omega, Nat.mod_lt _ (by omega)⟩
  obtain ⟨t, htm, ht⟩ := tm
  have hid := Lib.hid (And.intro hIb (And.intro ok hT2))
  have hidb := Lib.hid hb
  clear hI hIb ok hT2
  have m1 : (1 : Int) ≤ (c.m : Int) := by omega
  have mI : (c.m : Int) ≤ 8 := by omega
  have xI : (tn : Int) ≤ 255 := by omega
  have x0 : (0 : Int) ≤ (tn : Int) := by omega
  subst hwb
  go_enter Try.func6, Try.ntmps6
  go_upto_region 4 with (first
    | (go_at_call 8; refine (sm _ (by assumption)).mono ?_; rintro e w' ⟨rfl, hg1⟩; obtain ⟨k0, k1, k2, k3, k4, k5⟩ := cf_at hg1)
    | (go_at_call 14; refine (o1 _ (by assumption)).mono ?_; rintro e w5 ⟨rfl, hg2⟩; obtain ⟨k0, k1, k2, k3, k4, k5⟩ := cf_at hg2))
  try simp only [htm]
  clear htm
  go_cut [8] (fun s8 wx => ∃ h8 g2 k2, s8 = .pointer (some ⟨h8, 0, none⟩) ∧ RowKit.Hid (More (w.alloc (.cells #[.slice p1 c.n c1, .int .i64 c.page, .slice (some ⟨b2, o2, none⟩) c.m c2, .int .i64 c.wk, .int .i64 c.gr, .int .i64 c.gn] 25)) wx h8 g2 k2 #[.slice p1 c.n c1, .int .i64 c.page, .slice (some ⟨g2, 0, none⟩) c.m k2, .int .i64 c.wk, .int .i64 c.gr, .int .i64 c.gn] c))
  case first =>
    obtain ⟨i0, hi, hz0, hz1, hz2⟩ := info_parts info_ten
    have news0 := fun W (g : Bel (w.alloc (.cells #[.slice p1 c.n c1, .int .i64 c.page, .slice (some ⟨b2, o2, none⟩) c.m c2, .int .i64 c.wk, .int .i64 c.gr, .int .i64 c.gn] 25)) W) => tenL_news (fun j hj => ((hid.out.2.2 j hj).bel hidb.out).bel g)
    have news := Lib.hid news0
    clear news0
    have hl := Lib.hid (tenL_len c)
    have ho := Lib.hid (tenL_one c)
    have mm1 : 0 + c.m ≤ maxLen := by unfold maxLen; omega
    have mm2 : (0 + c.m) * 32 ≤ 140737488355328 := by omega
    have mp : 0 < c.m := by omega
    have s1 : ∀ o : Obj, (w5.alloc o).heap.size = w5.heap.size + 1 := fun o => by show (w5.heap.push o).size = _; simp
    have ownA : (w5.alloc (.cells #[] 43)).drew.ownsRow w5.heap.size 43 4 (.slice (some ⟨w5.heap.size, 0, none⟩) 0 0) 0 [] := (World.ownsRow_made w5 #[] 0 (Nat.le_refl _) (Nat.zero_le _) rfl).drew
    have ownB : ((w5.alloc (.cells #[] 43)).alloc (.cells #[.slice none 0 0, .int .i64 0, .slice none 0 0, .int .i64 0, .int .i64 0, .int .i64 0] 25)).drew.ownsRow w5.heap.size 43 4 (.slice (some ⟨w5.heap.size, 0, none⟩) 0 0) 0 [] := ((World.ownsRow_made w5 #[] 0 (Nat.le_refl _) (Nat.zero_le _) rfl).alloc _).drew
    have ownC : ((w5.alloc (.cells #[.slice none 0 0, .int .i64 0, .slice none 0 0, .int .i64 0, .int .i64 0, .int .i64 0] 25)).alloc (.cells #[] 43)).drew.ownsRow w5.heap.size 43 4 (.slice (some ⟨w5.heap.size + 1, 0, none⟩) 0 0) 0 [] := by
      have := (World.ownsRow_made (base := w5.heap.size) (e := 43) (size := 4) (w5.alloc (.cells #[.slice none 0 0, .int .i64 0, .slice none 0 0, .int .i64 0, .int .i64 0, .int .i64 0] 25)) #[] 0 (by rw [s1]; omega) (Nat.zero_le _) rfl).drew
      rwa [s1] at this
    have rowB : ((w5.alloc (.cells #[] 43)).alloc (.cells #[.slice none 0 0, .int .i64 0, .slice none 0 0, .int .i64 0, .int .i64 0, .int .i64 0] 25)).drew.heap[w5.heap.size + 1]? = some ((.cells #[.slice none 0 0, .int .i64 0, .slice none 0 0, .int .i64 0, .int .i64 0, .int .i64 0] 25)) := by
      have := heap_alloc_new (w5.alloc (.cells #[] 43)) (.cells #[.slice none 0 0, .int .i64 0, .slice none 0 0, .int .i64 0, .int .i64 0, .int .i64 0] 25)
      rwa [s1] at this
    have rowC : ((w5.alloc (.cells #[.slice none 0 0, .int .i64 0, .slice none 0 0, .int .i64 0, .int .i64 0, .int .i64 0] 25)).alloc (.cells #[] 43)).drew.heap[w5.heap.size]? = some ((.cells #[.slice none 0 0, .int .i64 0, .slice none 0 0, .int .i64 0, .int .i64 0, .int .i64 0] 25)) := row_at (((Bel.refl _).alloc _).drew)
    obtain ⟨N0, eN0⟩ : ∃ N, w5.heap.size = N := ⟨_, rfl⟩
    obtain ⟨N1, eN1⟩ : ∃ N, N0 + 1 = N := ⟨_, rfl⟩
    obtain ⟨N2, eN2⟩ : ∃ N, N1 + 1 = N := ⟨_, rfl⟩
    simp only [eN0, eN1] at rowB rowC ownA ownB ownC
    have factA : RowKit.Hid (∀ w1 : World, (w5.alloc (.cells #[] 43)).drew.grownBy w1 (some N0) → Bel (w.alloc (.cells #[.slice p1 c.n c1, .int .i64 c.page, .slice (some ⟨b2, o2, none⟩) c.m c2, .int .i64 c.wk, .int .i64 c.gr, .int .i64 c.gn] 25)) w1) := Lib.hid fun w1 hg => grow_bel (Bel.drew (Bel.alloc hg2 _)) hg (fun x hx => by injection hx with hx; have := hg2.size; omega)
    have factB : RowKit.Hid (∀ w1 : World, ((w5.alloc (.cells #[] 43)).alloc (.cells #[.slice none 0 0, .int .i64 0, .slice none 0 0, .int .i64 0, .int .i64 0, .int .i64 0] 25)).drew.grownBy w1 (some N0) → Bel (w.alloc (.cells #[.slice p1 c.n c1, .int .i64 c.page, .slice (some ⟨b2, o2, none⟩) c.m c2, .int .i64 c.wk, .int .i64 c.gr, .int .i64 c.gn] 25)) w1 ∧ RowKit.Hid (w1.heap[N1]? = some ((.cells #[.slice none 0 0, .int .i64 0, .slice none 0 0, .int .i64 0, .int .i64 0, .int .i64 0] 25))) ∧ w1.cell? ⟨N1, 0, none⟩ = some (.slice none 0 0) ∧ w1.cell? ⟨N1, 1, none⟩ = some (.int .i64 0) ∧ w1.cell? ⟨N1, 2, none⟩ = some (.slice none 0 0) ∧ w1.cell? ⟨N1, 3, none⟩ = some (.int .i64 0) ∧ w1.cell? ⟨N1, 4, none⟩ = some (.int .i64 0) ∧ w1.cell? ⟨N1, 5, none⟩ = some (.int .i64 0) ∧ w1.frozen? ⟨N1, 0, none⟩ = false ∧ w1.frozen? ⟨N1, 1, none⟩ = false ∧ w1.frozen? ⟨N1, 2, none⟩ = false ∧ w1.frozen? ⟨N1, 3, none⟩ = false ∧ w1.frozen? ⟨N1, 4, none⟩ = false ∧ w1.frozen? ⟨N1, 5, none⟩ = false) := Lib.hid fun w1 hg => by
      have row8 := heap_grown hg (k := N1) (heap_lt rowB) (by intro e; injection e with e; omega) rowB
      obtain ⟨r0, r1, r2, r3, r4, r5⟩ := zero_at row8
      exact ⟨grow_bel (Bel.drew (Bel.alloc (Bel.alloc hg2 _) _)) hg (fun x hx => by injection hx with hx; have := hg2.size; omega), Lib.hid row8, r0, r1, r2, r3, r4, r5, frozen_of_row _ _ 0 _ _ row8, frozen_of_row _ _ 1 _ _ row8, frozen_of_row _ _ 2 _ _ row8, frozen_of_row _ _ 3 _ _ row8, frozen_of_row _ _ 4 _ _ row8, frozen_of_row _ _ 5 _ _ row8⟩
    have factC : RowKit.Hid (∀ w1 : World, ((w5.alloc (.cells #[.slice none 0 0, .int .i64 0, .slice none 0 0, .int .i64 0, .int .i64 0, .int .i64 0] 25)).alloc (.cells #[] 43)).drew.grownBy w1 (some N1) → Bel (w.alloc (.cells #[.slice p1 c.n c1, .int .i64 c.page, .slice (some ⟨b2, o2, none⟩) c.m c2, .int .i64 c.wk, .int .i64 c.gr, .int .i64 c.gn] 25)) w1 ∧ RowKit.Hid (w1.heap[N0]? = some ((.cells #[.slice none 0 0, .int .i64 0, .slice none 0 0, .int .i64 0, .int .i64 0, .int .i64 0] 25))) ∧ w1.cell? ⟨N0, 0, none⟩ = some (.slice none 0 0) ∧ w1.cell? ⟨N0, 1, none⟩ = some (.int .i64 0) ∧ w1.cell? ⟨N0, 2, none⟩ = some (.slice none 0 0) ∧ w1.cell? ⟨N0, 3, none⟩ = some (.int .i64 0) ∧ w1.cell? ⟨N0, 4, none⟩ = some (.int .i64 0) ∧ w1.cell? ⟨N0, 5, none⟩ = some (.int .i64 0) ∧ w1.frozen? ⟨N0, 0, none⟩ = false ∧ w1.frozen? ⟨N0, 1, none⟩ = false ∧ w1.frozen? ⟨N0, 2, none⟩ = false ∧ w1.frozen? ⟨N0, 3, none⟩ = false ∧ w1.frozen? ⟨N0, 4, none⟩ = false ∧ w1.frozen? ⟨N0, 5, none⟩ = false) := Lib.hid fun w1 hg => by
      have row8 := heap_grown hg (k := N0) (heap_lt rowC) (by intro e; injection e with e; omega) rowC
      obtain ⟨r0, r1, r2, r3, r4, r5⟩ := zero_at row8
      exact ⟨grow_bel (Bel.drew (Bel.alloc (Bel.alloc hg2 _) _)) hg (fun x hx => by injection hx with hx; have := hg2.size; omega), Lib.hid row8, r0, r1, r2, r3, r4, r5, frozen_of_row _ _ 0 _ _ row8, frozen_of_row _ _ 1 _ _ row8, frozen_of_row _ _ 2 _ _ row8, frozen_of_row _ _ 3 _ _ row8, frozen_of_row _ _ 4 _ _ row8, frozen_of_row _ _ 5 _ _ row8⟩
    have le8 : (w.alloc (.cells #[.slice p1 c.n c1, .int .i64 c.page, .slice (some ⟨b2, o2, none⟩) c.m c2, .int .i64 c.wk, .int .i64 c.gr, .int .i64 c.gn] 25)).heap.size ≤ N0 := by rw [← eN0]; exact hg2.size
    have le9 : (w.alloc (.cells #[.slice p1 c.n c1, .int .i64 c.page, .slice (some ⟨b2, o2, none⟩) c.m c2, .int .i64 c.wk, .int .i64 c.gr, .int .i64 c.gn] 25)).heap.size ≤ N1 := by omega
    have hNN : RowKit.Hid (N1 ≠ N0 ∧ N1 ≠ N2 ∧ N0 ≠ N1 ∧ N0 ≠ N2) := Lib.hid ⟨by omega, by omega, by omega, by omega⟩
    have hA := Lib.hid ownA
    have hB := Lib.hid ownB
    have hC := Lib.hid ownC
    clear rowB rowC ownA ownB ownC
    clear mI m1 xI x0 n8 m8
    clear s1
    go_region_held3 (fun w' => Bel (w.alloc (.cells #[.slice p1 c.n c1, .int .i64 c.page, .slice (some ⟨b2, o2, none⟩) c.m c2, .int .i64 c.wk, .int .i64 c.gr, .int .i64 c.gn] 25)) w' ∧ w'.cell? ⟨w.heap.size, 0, none⟩ = some (.slice p1 c.n c1) ∧ w'.cell? ⟨w.heap.size, 1, none⟩ = some (.int .i64 c.page) ∧ w'.cell? ⟨w.heap.size, 2, none⟩ = some (.slice (some ⟨b2, o2, none⟩) c.m c2) ∧ w'.cell? ⟨w.heap.size, 3, none⟩ = some (.int .i64 c.wk) ∧ w'.cell? ⟨w.heap.size, 4, none⟩ = some (.int .i64 c.gr) ∧ w'.cell? ⟨w.heap.size, 5, none⟩ = some (.int .i64 c.gn))
      (first | with_reducible exact keep6 (by assumption) | with_reducible exact keep6 (kp2 _ _ _ _ _ _) | with_reducible exact keep6 (Bel.drew (by assumption)) | with_reducible exact keep6 (Bel.alloc (by assumption) _) | with_reducible exact keep6 (Bel.drew (Bel.alloc (by assumption) _)) | with_reducible exact keep6 (Bel.drew (Bel.alloc (Bel.alloc (by assumption) _) _)))
      (first
        | ((with_reducible refine at_world ((w5.alloc (.cells #[] 43)).drew) ?_)
           refine step_append_lies _ (by rfl) (.tmp 42) (.tmp 44) 23 (by rfl) N0 43 i0 _ 4 32 Try.underlying23 hi hz0 hz1 hz2 rfl (by decide) (.slice (some ⟨N0, 0, none⟩) 0 0) 0 [] (by rfl) hA.out ⟨b2, o2, none⟩ c.m c2 (tenL c) (by rfl) hl.out (news.out _ (Bel.drew (Bel.alloc hg2 _))) ho.out mp mm1 mm2 (by show N0 ≤ _; simp [eN0] <;> omega) N1 (by simp [eN0, eN1]) ?_
           intro gg cap w1 hown1 hgrow hat hlt
           have kp1 := factA.out w1 hgrow
           have hg3 := Lib.hid (And.intro hown1 (And.intro hat hlt))
           clear hown1 hgrow hat hlt)
        | ((with_reducible refine at_world (((w5.alloc (.cells #[] 43)).alloc (.cells #[.slice none 0 0, .int .i64 0, .slice none 0 0, .int .i64 0, .int .i64 0, .int .i64 0] 25)).drew) ?_)
           refine step_append_lies _ (by rfl) (.tmp 42) (.tmp 44) 23 (by rfl) N0 43 i0 _ 4 32 Try.underlying23 hi hz0 hz1 hz2 rfl (by decide) (.slice (some ⟨N0, 0, none⟩) 0 0) 0 [] (by rfl) hB.out ⟨b2, o2, none⟩ c.m c2 (tenL c) (by rfl) hl.out (news.out _ (Bel.drew (Bel.alloc (Bel.alloc hg2 _) _))) ho.out mp mm1 mm2 (by show N0 ≤ _; simp [eN0] <;> omega) N2 (by simp [eN0, eN1, eN2]) ?_
           intro gg cap w1 hown1 hgrow hat hlt
           obtain ⟨kp1, fz, r0, r1, r2, r3, r4, r5, f0, f1, f2, f3, f4, f5⟩ := factB.out w1 hgrow
           have kp2 := fun a b c d e f => six_sets kp1 le9 a b c d e f
           have hg3 := Lib.hid (And.intro hown1 (And.intro hat hlt))
           clear hown1 hgrow hat hlt)
        | ((with_reducible refine at_world (((w5.alloc (.cells #[.slice none 0 0, .int .i64 0, .slice none 0 0, .int .i64 0, .int .i64 0, .int .i64 0] 25)).alloc (.cells #[] 43)).drew) ?_)
           refine step_append_lies _ (by rfl) (.tmp 42) (.tmp 44) 23 (by rfl) N0 43 i0 _ 4 32 Try.underlying23 hi hz0 hz1 hz2 rfl (by decide) (.slice (some ⟨N1, 0, none⟩) 0 0) 0 [] (by rfl) hC.out ⟨b2, o2, none⟩ c.m c2 (tenL c) (by rfl) hl.out (news.out _ (Bel.drew (Bel.alloc (Bel.alloc hg2 _) _))) ho.out mp mm1 mm2 (by show N0 ≤ _; simp [eN0] <;> omega) N2 (by simp [eN0, eN1, eN2]) ?_
           intro gg cap w1 hown1 hgrow hat hlt
           obtain ⟨kp1, fz, r0, r1, r2, r3, r4, r5, f0, f1, f2, f3, f4, f5⟩ := factC.out w1 hgrow
           have kp2 := fun a b c d e f => six_sets kp1 le8 a b c d e f
           have hg3 := Lib.hid (And.intro hown1 (And.intro hat hlt))
           clear hown1 hgrow hat hlt))
    all_goals go_wp2_with fail
    all_goals go_meet
    · exact ⟨_, gg, cap, rfl, Lib.hid (more_made hg3.out.1 hg3.out.2.2 kp1 le8 _)⟩
    · exact ⟨_, gg, cap, rfl, Lib.hid (more_set hg3.out.1 (ne_row hg3.out.2.1 hNN.out.1 hNN.out.2.1) (six_sets kp1 le9 _ _ _ _ _ _) le8 fz.out)⟩
    · exact ⟨_, gg, cap, rfl, Lib.hid (more_set hg3.out.1 (ne_row hg3.out.2.1 hNN.out.2.2.1 hNN.out.2.2.2) (six_sets kp1 le8 _ _ _ _ _ _) le8 fz.out)⟩
  case rest =>
    obtain ⟨h8, g2, k2, rfl, hM⟩ := hcut
    obtain ⟨X, hX⟩ : ∃ X, max (c.Q t) quota = X := ⟨_, rfl⟩
    have hXle : c.Q t ≤ X := by omega
    obtain ⟨k0, k1, k2', k3, k4, k5⟩ := cf_at hM.out.bel
    obtain ⟨i0, i1, i2, i3, i4, i5⟩ := zero_at hM.out.box
    obtain ⟨q0, _⟩ := ((hid.out.2.2 t ht).bel hidb.out).bel hM.out.bel
    obtain ⟨old, _⟩ := hM.out.t t ht
    have fz := hM.out.r2.free (t * 4)
    have tI : (t : Int) < (c.m : Int) := by omega
    have t0 : (0 : Int) ≤ (t : Int) := by omega
    have M2 := Lib.hid ((hM.out.store ht X).go (Bel.drew (Bel.refl _)))
    have hidX := Lib.hid hXle
    clear hM hXle
    go_wp2
    go_region
    generalize (wc.setCell ⟨g2, t * 4, none⟩ (.int .i64 X)).drew = W6 at *
    clear k0 k1 k2' k3 k4 k5 i0 i1 i2 i3 i4 i5 q0 fz
    obtain ⟨k0, k1, k2', k3, k4, k5⟩ := cf_at M2.out.bel
    obtain ⟨i0, i1, i2, i3, i4, i5⟩ := zero_at M2.out.box
    have gR := Bel.refl W6
    have isO : RowKit.Hid (∀ W, Bel W6 W → IsCf W (.agg #[.slice p1 c.n c1, .int .i64 c.page, .slice (some ⟨g2, 0, none⟩) c.m k2, .int .i64 c.wk, .int .i64 c.gr, .int .i64 c.gn]) (more c t X)) := Lib.hid fun W g => by
      obtain ⟨vc, vt, e, h1, _⟩ := hid.out.1.bel (M2.out.bel.trans g)
      injection e with e
      injection e with e
      simp only [List.cons.injEq, and_true] at e
      obtain ⟨rfl, _⟩ := e
      have M := M2.out.go g
      exact ⟨_, _, rfl, h1, Or.inr ⟨g2, 0, k2, rfl, (by show 1 ≤ c.m; omega), M.k1, M.k2, fun j hj => by rw [Nat.zero_add]; exact M.t j hj⟩⟩
    have o3 := pcheck_any _ _ W6 (isO.out W6 gR)
    by_cases ok2 : (more c t X).ok
    · rw [Cf.checkC_ok ok2] at o3
      have hid2 := Lib.hid ok2
      clear ok2
      go_wp2_with (go_at_call 14; refine o3.mono ?_; rintro e w6 ⟨rfl, hg3⟩)
      go_loopw [9] (fun i wr => ∃ j : Nat, j ≤ c.m ∧ i = .int .i64 (j : Nat) ∧ Bel W6 wr) (fun i _ => c.m - (intOf i).toNat)
      case atStart => exact ⟨0, Nat.zero_le _, rfl, hg3⟩
      case round =>
        obtain ⟨j, hj, rfl, hbr⟩ := hrel
        clear o3 k0 k1 k2' k3 k4 k5 i0 i1 i2 i3 i4 i5
        obtain ⟨k0, k1, k2', k3, k4, k5⟩ := cf_at (M2.out.bel.trans hbr); obtain ⟨i0, i1, i2, i3, i4, i5⟩ := zero_at (heap_bel hbr M2.out.box)
        by_cases cj : j < c.m
        · obtain ⟨hIb, ok, _⟩ := hid.out
          have ok2 := hid2.out
          have hz := Cf.has_zero ok cj
          have hz2 := Cf.has_zero ok2 (show j < (more c t X).m from cj)
          have a1 := fun w1 (g : Bel W6 w1) => (preg_any _ c j w1 (hIb.bel (M2.out.bel.trans g))).mono fun e w' ⟨a, b⟩ => (⟨a, g.trans b⟩ : _ ∧ Bel W6 w')
          have a2 := fun w1 (g : Bel W6 w1) => (preg_any _ _ j w1 (isO.out w1 g)).mono fun e w' ⟨a, b⟩ => (⟨a, g.trans b⟩ : _ ∧ Bel W6 w')
          rw [Cf.regR_ok hz, Cf.hasE_ok hz, Int.toNat_natCast] at a1
          rw [Cf.regR_ok hz2, Cf.hasE_ok hz2, Int.toNat_natCast] at a2
          have le := more_region_le hidX.out ok j
          have eq : j ≠ t → (more c t X).region j = c.region j := more_region
          have jI : (j : Int) < (c.m : Int) := by omega
          have j0 : (0 : Int) ≤ (j : Int) := by omega
          clear hIb ok ok2 hz hz2
          generalize (more c t X).region j = R2 at *
          generalize c.region j = R1 at *
          have d : decide (R2 < R1) = false := decide_eq_false (by omega)
          by_cases e : j = t
          · subst e
            clear eq
            go_wp2_with (first
              | (go_at_call 18; ((with_reducible refine (a1 _ (by assumption)).mono ?_); rintro e w' ⟨rfl, hg4⟩; obtain ⟨k0, k1, k2', k3, k4, k5⟩ := cf_at (M2.out.bel.trans hg4); obtain ⟨i0, i1, i2, i3, i4, i5⟩ := zero_at (heap_bel hg4 M2.out.box)))
              | (go_at_call 18; ((with_reducible refine (a2 _ (by assumption)).mono ?_); rintro e w' ⟨rfl, hg5⟩; obtain ⟨k0, k1, k2', k3, k4, k5⟩ := cf_at (M2.out.bel.trans hg5); obtain ⟨i0, i1, i2, i3, i4, i5⟩ := zero_at (heap_bel hg5 M2.out.box))))
            go_roundw
            case rel => exact ⟨j + 1, by omega, by go_num, hg5⟩
            case measure => simp only [intOf]; omega
          · have e2 : ((j : Int) != (t : Int)) = true := by rw [bne_iff_ne]; omega
            have e3 : ¬ ((j : Int) = (t : Int)) := by omega
            have e4 := eq e
            subst e4
            clear eq
            go_wp2_with (first
              | (go_at_call 18; ((with_reducible refine (a1 _ (by assumption)).mono ?_); rintro e w' ⟨rfl, hg4⟩; obtain ⟨k0, k1, k2', k3, k4, k5⟩ := cf_at (M2.out.bel.trans hg4); obtain ⟨i0, i1, i2, i3, i4, i5⟩ := zero_at (heap_bel hg4 M2.out.box)))
              | (go_at_call 18; ((with_reducible refine (a2 _ (by assumption)).mono ?_); rintro e w' ⟨rfl, hg5⟩; obtain ⟨k0, k1, k2', k3, k4, k5⟩ := cf_at (M2.out.bel.trans hg5); obtain ⟨i0, i1, i2, i3, i4, i5⟩ := zero_at (heap_bel hg5 M2.out.box))))
            go_roundw
            case rel => exact ⟨j + 1, by omega, by go_num, hg5⟩
            case measure => simp only [intOf]; omega
        · obtain rfl : j = c.m := by omega
          go_wp2
          go_loopw [14] (fun i wr => ∃ k : Nat, k ≤ c.n ∧ i = .int .i64 (k : Nat) ∧ Bel W6 wr) (fun i _ => c.n - (intOf i).toNat)
          case atStart => exact ⟨0, Nat.zero_le _, rfl, hbr⟩
          case round =>
            obtain ⟨k, hk, rfl, hbr⟩ := hrel
            clear k0 k1 k2' k3 k4 k5 i0 i1 i2 i3 i4 i5
            obtain ⟨k0, k1, k2', k3, k4, k5⟩ := cf_at (M2.out.bel.trans hbr); obtain ⟨i0, i1, i2, i3, i4, i5⟩ := zero_at (heap_bel hbr M2.out.box)
            by_cases ck : k < c.n
            · obtain ⟨hIb, ok, _⟩ := hid.out
              have ok2 := hid2.out
              have hz := Cf.has_of ok ht ck
              have hz2 := Cf.has_of ok2 (show t < (more c t X).m from ht) (show k < (more c t X).n from ck)
              have s1 := fun w1 (g : Bel W6 w1) => (pslots_any _ c t k w1 (hIb.bel (M2.out.bel.trans g))).mono fun e w' ⟨a, b⟩ => (⟨a, g.trans b⟩ : _ ∧ Bel W6 w')
              have s2 := fun w1 (g : Bel W6 w1) => (pslots_any _ _ t k w1 (isO.out w1 g)).mono fun e w' ⟨a, b⟩ => (⟨a, g.trans b⟩ : _ ∧ Bel W6 w')
              have a1 := fun w1 (g : Bel W6 w1) => (ppages_any _ c t k w1 (hIb.bel (M2.out.bel.trans g))).mono fun e w' ⟨a, b⟩ => (⟨a, g.trans b⟩ : _ ∧ Bel W6 w')
              have a2 := fun w1 (g : Bel W6 w1) => (ppages_any _ _ t k w1 (isO.out w1 g)).mono fun e w' ⟨a, b⟩ => (⟨a, g.trans b⟩ : _ ∧ Bel W6 w')
              rw [Cf.hasE_ok hz] at s1 a1
              rw [Cf.hasE_ok hz2] at s2 a2
              rw [Cf.slotsR_ok hz, Int.toNat_natCast, Int.toNat_natCast] at s1
              rw [Cf.slotsR_ok hz2, Int.toNat_natCast, Int.toNat_natCast] at s2
              rw [Cf.pagesR_ok hz, Int.toNat_natCast, Int.toNat_natCast] at a1
              rw [Cf.pagesR_ok hz2, Int.toNat_natCast, Int.toNat_natCast] at a2
              have le1 := more_slots_le hidX.out ok (i := t) ck
              have le2 := more_pages_le hidX.out ok (i := t) ck
              have b1 := (Cf.slots_bd ok ht ck).1
              have b2' := (Cf.pages_bd ok ht ck).1
              have kI : (k : Int) < (c.n : Int) := by omega
              have kz : (0 : Int) ≤ (k : Int) := by omega
              clear hIb ok ok2 hz hz2
              generalize (more c t X).slots t k = S2 at *
              generalize (more c t X).pages t k = P2 at *
              generalize c.slots t k = S1 at *
              generalize c.pages t k = P1 at *
              have d1 : decide (S2 < S1) = false := decide_eq_false (by omega)
              have d2 : decide (P2 < P1) = false := decide_eq_false (by omega)
              have d3 : decide (S1 < 1) = false := decide_eq_false (by omega)
              have d4 : decide (P1 < 1) = false := decide_eq_false (by omega)
              go_wp2_with (first
                | (go_at_call 10; ((with_reducible refine (s1 _ (by assumption)).mono ?_); rintro e w' ⟨rfl, hg4⟩; obtain ⟨k0, k1, k2', k3, k4, k5⟩ := cf_at (M2.out.bel.trans hg4); obtain ⟨i0, i1, i2, i3, i4, i5⟩ := zero_at (heap_bel hg4 M2.out.box)))
                | (go_at_call 10; ((with_reducible refine (s2 _ (by assumption)).mono ?_); rintro e w' ⟨rfl, hg5⟩; obtain ⟨k0, k1, k2', k3, k4, k5⟩ := cf_at (M2.out.bel.trans hg5); obtain ⟨i0, i1, i2, i3, i4, i5⟩ := zero_at (heap_bel hg5 M2.out.box)))
                | (go_at_call 12; ((with_reducible refine (a1 _ (by assumption)).mono ?_); rintro e w' ⟨rfl, hg6⟩; obtain ⟨k0, k1, k2', k3, k4, k5⟩ := cf_at (M2.out.bel.trans hg6); obtain ⟨i0, i1, i2, i3, i4, i5⟩ := zero_at (heap_bel hg6 M2.out.box)))
                | (go_at_call 12; ((with_reducible refine (a2 _ (by assumption)).mono ?_); rintro e w' ⟨rfl, hg7⟩; obtain ⟨k0, k1, k2', k3, k4, k5⟩ := cf_at (M2.out.bel.trans hg7); obtain ⟨i0, i1, i2, i3, i4, i5⟩ := zero_at (heap_bel hg7 M2.out.box))))
              go_roundw
              case rel => exact ⟨k + 1, by omega, by go_num, hg7⟩
              case measure => simp only [intOf]; omega
            · obtain rfl : k = c.n := by omega
              go_wp2_with (go_at_call 9; refine (aw _ (M2.out.bel.trans (by assumption))).mono ?_; rintro e w7 ⟨rfl, hg4⟩)
              go_ret
              exact ⟨rfl, hidb.out.trans hg4⟩
    · rw [Cf.checkC_no ok2] at o3
      clear ok2
      go_wp2_with (first
        | (go_at_call 14; refine o3.mono ?_; rintro e w6 ⟨rfl, hg3⟩)
        | (go_at_call 9; refine (aw _ (M2.out.bel.trans (by assumption))).mono ?_; rintro e w7 ⟨rfl, hg4⟩))
      go_ret
      exact ⟨rfl, hidb.out.trans hg4⟩

set_option maxRecDepth 100000 in
set_option maxHeartbeats 2000000 in
theorem walk (v : Value) (c : Cf) (tn : Nat) (htn : tn ≤ 255) (quota : Int) (w : World) (h : IsCf w v c) :
    Calls Try.prog 6 #[v, .int .u8 (tn : Nat), .int .i64 quota] w fun e w' => e = .returned (.bool true) ∧ Below w.heap.size w w' := by
  have hI := h
  obtain ⟨vc, vt, rfl, hN, hT⟩ := h
  obtain ⟨p1, c1, rfl, _, hN⟩ := nums_at hN
  obtain ⟨p2, c2, rfl, _, hT⟩ := tens_at hT
  by_cases ok : c.ok
  · exact walk_ok p1 p2 c1 c2 c tn quota w hI ok hT htn
  · clear hN hT
    have hb0 : ∀ o, Bel w (w.alloc o) := fun o => (Bel.refl w).alloc o
    have hb := hb0 (.cells #[.slice p1 c.n c1, .int .i64 c.page, .slice p2 c.m c2, .int .i64 c.wk, .int .i64 c.gr, .int .i64 c.gn] 25)
    clear hb0
    have g0 := Bel.refl (w.alloc (.cells #[.slice p1 c.n c1, .int .i64 c.page, .slice p2 c.m c2, .int .i64 c.wk, .int .i64 c.gr, .int .i64 c.gn] 25))
    have g1 : ∀ o, Bel (w.alloc (.cells #[.slice p1 c.n c1, .int .i64 c.page, .slice p2 c.m c2, .int .i64 c.wk, .int .i64 c.gr, .int .i64 c.gn] 25)) ((w.alloc (.cells #[.slice p1 c.n c1, .int .i64 c.page, .slice p2 c.m c2, .int .i64 c.wk, .int .i64 c.gr, .int .i64 c.gn] 25)).alloc o) := fun o => g0.alloc o
    generalize hwb : w.alloc (.cells #[.slice p1 c.n c1, .int .i64 c.page, .slice p2 c.m c2, .int .i64 c.wk, .int .i64 c.gr, .int .i64 c.gn] 25) = wb at hb
    have hIb := hI.bel hb
    have sm := fun w1 (g : Bel wb w1) => (small_any _ c w1 (hIb.bel g)).mono fun e w' ⟨a, b⟩ => (⟨a, g.trans b⟩ : _ ∧ Bel wb w')
    have aw := fun w1 (g : Bel wb w1) => (awake_any w1).mono fun e w' ⟨a, b⟩ => (⟨a, g.trans b⟩ : _ ∧ Bel wb w')
    have ch := fun w1 (g : Bel wb w1) => (pcheck_any _ c w1 (hIb.bel g)).mono fun e w' ⟨a, b⟩ => (⟨a, g.trans b⟩ : _ ∧ Bel wb w')
    rw [Cf.checkC_no ok] at ch
    by_cases s : c.n ≤ 50 ∧ c.m ≤ 50
    · rw [decide_eq_true s] at sm
      clear hI hIb s ok
      subst hwb
      go_enter Try.func6, Try.ntmps6
      go_wp2_with (first
        | (go_at_call 8; refine (sm _ (by first | assumption | exact g1 _)).mono ?_; rintro e w' ⟨rfl, hg⟩; obtain ⟨k0, k1, k2, k3, k4, k5⟩ := cf_at hg)
        | (go_at_call 14; refine (ch _ (by assumption)).mono ?_; rintro e w' ⟨rfl, hg1⟩)
        | (go_at_call 9; refine (aw _ (by assumption)).mono ?_; rintro e w' ⟨rfl, hg2⟩))
      go_ret
      exact ⟨rfl, hb.trans hg2⟩
    · rw [decide_eq_false s] at sm
      clear hI hIb s ok
      subst hwb
      go_enter Try.func6, Try.ntmps6
      go_wp2_with (first
        | (go_at_call 8; refine (sm _ (by first | assumption | exact g1 _)).mono ?_; rintro e w' ⟨rfl, hg⟩; obtain ⟨k0, k1, k2, k3, k4, k5⟩ := cf_at hg)
        | (go_at_call 9; refine (aw _ (by assumption)).mono ?_; rintro e w' ⟨rfl, hg2⟩))
      go_ret
      exact ⟨rfl, hb.trans hg2⟩

/-! The row. -/
set_option maxRecDepth 100000 in
theorem lifted (os : Os) (started : os.Started) (H : Type) (enc : TypeId × Value → H) :
    ReturnsInHanded {} Try.checked os 6 .any (Rows.confMoreSpec.pre6 enc Try.prog Try.f6 Rows.confMoreRow.domain false) (Rows.confMoreSpec.post enc Try.prog Try.f6 false true false false) := by
  refine lift_law (C := Try.checked) own started (by kernel_rfl) Try.func6 laid rowed full (by rw [Try.params6]; decide) rfl (by kernel_rfl) Try.underlying4
    (fun ds h => by rw [Try.params6] at h; match ds, h with | [_, _, _], _ => rfl)
    (ChangeSpec.witness6 (enc := enc) (C := Try.checked) false ⟨#[], #[.agg #[.slice none 0 0, .int .i64 0, .slice none 0 0, .int .i64 0, .int .i64 0, .int .i64 0], .int .u8 0, .int .i64 0], []⟩ 8 (by kernel_rfl) (by kernel_rfl) (by kernel_rfl) (by kernel_rfl)) ?_
  intro W base args ds p hval hA
  change ∀ (j : Nat) t v, Try.f6.params[j]? = some t → args[j]? = some v → Value.okWide Try.prog W .any base t v at hval
  change DataW.TrodAll enc Try.prog W 0 (fun _ => true) true Try.f6.params.toList args.toList ds p at hA
  rw [Try.params6] at hA hval
  obtain ⟨v0, vs0, d0, ds0, p0, q0, hargs, rfl, rfl, h0, r0⟩ := trodAll_cons hA
  obtain ⟨v1, vs1, d1, ds1, p1, q1, hargs1, rfl, rfl, h1, r1⟩ := trodAll_cons r0
  obtain ⟨v2, vs2, d2, ds2, p2, q2, hargs2, rfl, rfl, h2, r2⟩ := trodAll_cons r1
  obtain ⟨rfl, rfl, rfl⟩ := trodAll_nil r2
  subst hargs2
  subst hargs1
  obtain rfl : args = #[v0, v1, v2] := by cases args; simp_all
  obtain ⟨c, hI, _⟩ := get_cf (hval 0 25 v0 rfl rfl) h0
  obtain ⟨tn, rfl, htn⟩ := get_u8 Try.underlying5 (hval 1 5 v1 rfl rfl) h1
  obtain ⟨quota, rfl, _, _⟩ := get_i64 Try.underlying3 (hval 2 3 v2 rfl rfl) h2
  exact walk v0 c tn htn quota W hI

theorem over : Rows.confMoreRow.holds Try.pinned (OpenSpec.ofChange Rows.confMoreSpec) :=
  OpenClaim.holds_of_wide 6 Try.f6 rfl rfl rfl rfl rfl rfl rfl ⟨rfl, rfl, rfl, rfl, rfl⟩ rfl rfl rfl rfl rfl (by kernel_rfl) Try.func6 (by kernel_rfl)
    (of_decide_eq_true (by kernel_rfl)) (by unfold Func.isWrapper; first | (rw [if_pos (by decide +kernel)]; kernel_rfl) | (rw [if_neg (by decide +kernel)]; exact ⟨rfl, rfl⟩))
    (fun os started H enc _ => lifted os started H enc)

/-- The statement. -/
theorem proved : Rows.ConfMoreSaid :=
  over
#print axioms proved
end Go.Proofs.Ytlodgbpjeklhpaa.confMore
