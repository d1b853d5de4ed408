/- What is told of one tenant does not hang on the others, but its base; and what is done to what Own told is not seen; for every input, no condition. -/
import Derived.Test.YtlodgbpjeklhpaaRowk
import Derived.Test.YtlodgbpjeklhpaaOpc
import Derived.Test.YtlodgbpjeklhpaaPgo
import Derived.Deep.Cut
import Derived.Deep.DeepCutAuto
namespace Go.Proofs.Ytlodgbpjeklhpaa.confApart
open Go.ChangeShapes Go.WideShapes Go.ChangeAt Go.RowKit Go.Joins
set_option linter.unusedVariables false

/-- the first i tenants but tenant t are another -/
def mix (c : Cf) (i t : Nat) (q r p a : Int) : Cf :=
  { c with Q := fun j => if j < i ∧ j ≠ t then q else c.Q j, Tr := fun j => if j < i ∧ j ≠ t then r else c.Tr j, Cp := fun j => if j < i ∧ j ≠ t then p else c.Cp j, As := fun j => if j < i ∧ j ≠ t then a else c.As j }

theorem mix_region (c : Cf) (i t : Nat) (q r p a : Int) : (mix c i t q r p a).region t = c.region t := by
  have e : (mix c i t q r p a).Q t = c.Q t := if_neg fun x => x.2 rfl
  have e2 : ∀ k, (mix c i t q r p a).pages t k = c.pages t k := fun k => by
    show ((mix c i t q r p a).Q t / c.F k + c.page / c.F k - 1) / (c.page / c.F k) = (c.Q t / c.F k + c.page / c.F k - 1) / (c.page / c.F k)
    rw [e]
  exact sumTo_congr fun k _ => by rw [e2 k]; rfl

theorem mix_zero (c : Cf) (t : Nat) (q r p a : Int) (j : Nat) : (mix c 0 t q r p a).Q j = c.Q j ∧ (mix c 0 t q r p a).Tr j = c.Tr j ∧ (mix c 0 t q r p a).Cp j = c.Cp j ∧ (mix c 0 t q r p a).As j = c.As j := by
  have z : ¬ (j < 0 ∧ j ≠ t) := fun x => absurd x.1 (Nat.not_lt_zero _)
  refine ⟨?_, ?_, ?_, ?_⟩
  · show (if j < 0 ∧ j ≠ t then q else c.Q j) = _; rw [if_neg z]
  · show (if j < 0 ∧ j ≠ t then r else c.Tr j) = _; rw [if_neg z]
  · show (if j < 0 ∧ j ≠ t then p else c.Cp j) = _; rw [if_neg z]
  · show (if j < 0 ∧ j ≠ t then a else c.As j) = _; rw [if_neg z]

/-- what holds at the head of the first loop -/
structure Inv (wb wr : World) (h8 g1 g2 : Nat) (cs : Array Value) (c : Cf) (F : Nat → Int) : Prop where
  bel : Bel wb wr
  box : wr.heap[h8]? = some (.cells cs 25 (0, 0))
  r1 : RowAt wr g1 c.n 3
  r2 : RowAt wr g2 (c.m * 4) 43
  n : ∀ j, j < c.n → wr.cell? ⟨g1, j, none⟩ = some (.int .i64 (F j))
  t : ∀ j, j < c.m → Ten wr g2 (j * 4) (c.Q j) (c.Tr j) (c.Cp j) (c.As j)

theorem Inv.store {wb wr : World} {h8 g1 g2 : Nat} {cs : Array Value} {c : Cf} {F : Nat → Int} {j t : Nat} {q r p a : Int} (V : Inv wb wr h8 g1 g2 cs (mix c j t q r p a) F) (hg : wb.heap.size ≤ g2) (h1 : h8 ≠ g2) (h2 : g1 ≠ g2) (hj : j < c.m) (e : j ≠ t) :
    Inv wb ((((wr.setCell ⟨g2, j * 4, none⟩ (.int .i64 q)).setCell ⟨g2, j * 4 + 1, none⟩ (.int .i64 r)).setCell ⟨g2, j * 4 + 2, none⟩ (.int .i64 p)).setCell ⟨g2, j * 4 + 3, none⟩ (.int .i64 a)) h8 g1 g2 cs (mix c (j + 1) t q r p a) F := by
  obtain ⟨W, hW, r2, nw, far, hp, hbl⟩ := V.r2.set4 (o := j * 4) (by show j * 4 + 4 ≤ c.m * 4; omega) (.int .i64 q) (.int .i64 r) (.int .i64 p) (.int .i64 a)
  rw [hW]
  refine ⟨hbl _ V.bel hg, (hp _ h1).trans V.box, V.r1.heap (hp _ h2), r2, fun i hi => (cell_heap (hp _ h2)).trans (V.n i hi), fun i hi => ?_⟩
  show Ten W g2 (i * 4) (if i < j + 1 ∧ i ≠ t then q else c.Q i) (if i < j + 1 ∧ i ≠ t then r else c.Tr i) (if i < j + 1 ∧ i ≠ t then p else c.Cp i) (if i < j + 1 ∧ i ≠ t then a else c.As i)
  by_cases x : i = j
  · subst x
    have z : i < i + 1 ∧ i ≠ t := ⟨by omega, e⟩
    rw [if_pos z, if_pos z, if_pos z, if_pos z]
    exact nw
  · have old := V.t i hi
    change Ten wr g2 (i * 4) (if i < j ∧ i ≠ t then q else c.Q i) (if i < j ∧ i ≠ t then r else c.Tr i) (if i < j ∧ i ≠ t then p else c.Cp i) (if i < j ∧ i ≠ t then a else c.As i) at old
    have e : ∀ x y : Int, (if i < j + 1 ∧ i ≠ t then x else y) = (if i < j ∧ i ≠ t then x else y) := fun x y => by
      by_cases z : i < j ∧ i ≠ t
      · rw [if_pos z, if_pos ⟨by omega, z.2⟩]
      · rw [if_neg z, if_neg fun u => z ⟨by omega, u.2⟩]
    rw [e, e, e, e]
    obtain ⟨o0, o1, o2, o3⟩ := old
    exact ⟨(far _ (by omega)).trans o0, (far _ (by omega)).trans o1, (far _ (by omega)).trans o2, (far _ (by omega)).trans o3⟩

theorem Inv.go {wb wr w2 : World} {h8 g1 g2 : Nat} {cs : Array Value} {c : Cf} {F : Nat → Int} (V : Inv wb wr h8 g1 g2 cs c F) (g : Bel wr w2) : Inv wb w2 h8 g1 g2 cs c F :=
  ⟨V.bel.trans g, heap_bel g V.box, V.r1.bel g, V.r2.bel g, fun j hj => cell_bel g (V.n j hj), fun j hj => (V.t j hj).bel g⟩
theorem Inv.isCf {wb wr : World} {h8 g1 g2 k1 k2 : Nat} {cs : Array Value} {c : Cf} (V : Inv wb wr h8 g1 g2 cs c c.F) (hn : 1 ≤ c.n) (hm : 1 ≤ c.m) (a1 : c.n ≤ k1) (a2 : k1 ≤ 9223372036854775807) (a3 : c.m ≤ k2) (a4 : k2 ≤ 9223372036854775807) :
    IsCf wr (.agg #[.slice (some ⟨g1, 0, none⟩) c.n k1, .int .i64 c.page, .slice (some ⟨g2, 0, none⟩) c.m k2, .int .i64 c.wk, .int .i64 c.gr, .int .i64 c.gn]) c :=
  ⟨_, _, rfl, Or.inr ⟨g1, 0, k1, rfl, hn, a1, a2, fun j hj => by rw [Nat.zero_add]; exact V.n j hj⟩, Or.inr ⟨g2, 0, k2, rfl, hm, a3, a4, fun j hj => by rw [Nat.zero_add]; exact V.t j hj⟩⟩

/-- what holds at the head of the second loop -/
structure Inv2 (wb wr : World) (h8 g1 n : Nat) (cs : Array Value) : Prop where
  bel : Bel wb wr
  box : wr.heap[h8]? = some (.cells cs 25 (0, 0))
  r1 : RowAt wr g1 n 3
theorem Inv2.store {wb wr : World} {h8 g1 n j : Nat} {cs : Array Value} (V : Inv2 wb wr h8 g1 n cs) (hg : wb.heap.size ≤ g1) (h1 : h8 ≠ g1) (hj : j < n) (u : Value) : Inv2 wb (wr.setCell ⟨g1, j, none⟩ u) h8 g1 n cs :=
  ⟨set_bel V.bel hg _ _, (set_heap h1 _).trans V.box, (V.r1.set hj u).1⟩

set_option maxRecDepth 100000 in
set_option maxHeartbeats 1000000 in
theorem walk_ok (p1 p2 : Option Addr) (c1 c2 : Nat) (c : Cf) (tn : Nat) (q r p a : Int) (w : World) (hI : IsCf w (.agg #[.slice p1 c.n c1, .int .i64 c.page, .slice p2 c.m c2, .int .i64 c.wk, .int .i64 c.gr, .int .i64 c.gn]) c) (ok : c.ok) (htn : tn ≤ 255) :
    Calls Try.prog 5 #[.agg #[.slice p1 c.n c1, .int .i64 c.page, .slice p2 c.m c2, .int .i64 c.wk, .int .i64 c.gr, .int .i64 c.gn], .int .u8 (tn : Nat), .agg #[.int .i64 q, .int .i64 r, .int .i64 p, .int .i64 a]] w fun e w' => e = .returned (.bool true) ∧ Bel w w' := by
  have hb0 : ∀ o o', Bel w ((w.alloc o).alloc o') := fun o o' => ((Bel.refl w).alloc o).alloc o'
  have hb := hb0 (.cells #[.slice p1 c.n c1, .int .i64 c.page, .slice p2 c.m c2, .int .i64 c.wk, .int .i64 c.gr, .int .i64 c.gn] 25) (.cells #[.int .i64 q, .int .i64 r, .int .i64 p, .int .i64 a] 43)
  clear hb0
  have g0 := Bel.refl ((w.alloc (.cells #[.slice p1 c.n c1, .int .i64 c.page, .slice p2 c.m c2, .int .i64 c.wk, .int .i64 c.gr, .int .i64 c.gn] 25)).alloc (.cells #[.int .i64 q, .int .i64 r, .int .i64 p, .int .i64 a] 43))
  have cfAt : ∀ W, Bel ((w.alloc (.cells #[.slice p1 c.n c1, .int .i64 c.page, .slice p2 c.m c2, .int .i64 c.wk, .int .i64 c.gr, .int .i64 c.gn] 25)).alloc (.cells #[.int .i64 q, .int .i64 r, .int .i64 p, .int .i64 a] 43)) W → _ := fun W g => cf_at (((Bel.refl _).alloc _).trans g)
  have otAt : ∀ W, Bel ((w.alloc (.cells #[.slice p1 c.n c1, .int .i64 c.page, .slice p2 c.m c2, .int .i64 c.wk, .int .i64 c.gr, .int .i64 c.gn] 25)).alloc (.cells #[.int .i64 q, .int .i64 r, .int .i64 p, .int .i64 a] 43)) W →
      W.cell? ⟨w.heap.size + 1, 0, none⟩ = some (.int .i64 q) ∧ W.cell? ⟨w.heap.size + 1, 1, none⟩ = some (.int .i64 r) ∧ W.cell? ⟨w.heap.size + 1, 2, none⟩ = some (.int .i64 p) ∧ W.cell? ⟨w.heap.size + 1, 3, none⟩ = some (.int .i64 a) := fun W g => by
    have s1 : ∀ o : Obj, (w.alloc o).heap.size = w.heap.size + 1 := fun o => by show (w.heap.push o).size = _; simp
    have := fun j => agg_at g j
    simp only [s1] at this
    exact ⟨this 0, this 1, this 2, this 3⟩
  generalize hwb : (w.alloc (.cells #[.slice p1 c.n c1, .int .i64 c.page, .slice p2 c.m c2, .int .i64 c.wk, .int .i64 c.gr, .int .i64 c.gn] 25)).alloc (.cells #[.int .i64 q, .int .i64 r, .int .i64 p, .int .i64 a] 43) = wb at hb
  have hIb := hI.bel hb
  have sm := fun w1 (g : Bel wb w1) => (small_any _ c w1 (hIb.bel g)).mono fun e w' ⟨a, b⟩ => (⟨a, g.trans b⟩ : _ ∧ Bel wb w')
  have aw := fun w1 (g : Bel wb w1) => (awake_any w1).mono fun e w' ⟨a, b⟩ => (⟨a, g.trans b⟩ : _ ∧ Bel wb w')
  have n8 := Cf.ok_n ok
  have m8 := Cf.ok_m ok
  rw [decide_eq_true (show c.n ≤ 50 ∧ c.m ≤ 50 by omega)] at sm
  have o1 := fun w1 (g : Bel wb w1) => (pcheck_any _ c w1 (hIb.bel g)).mono fun e w' ⟨a, b⟩ => (⟨a, g.trans b⟩ : _ ∧ Bel wb w')
  rw [Cf.checkC_ok ok] at o1
  have ow := fun w1 (g : Bel wb w1) => pown_fresh _ c w1 (hIb.bel g) ok
  have tm : ∃ t : Nat, (tn : Int) % (c.m : Int) = (t : Int) ∧ t < c.m := ⟨tn % c.m, by omega, Nat.mod_lt _ (by omega)⟩
  obtain ⟨t, htm, ht⟩ := tm
  have rg := fun w1 (g : Bel wb w1) => (preg_any _ c t w1 (hIb.bel g)).mono fun e w' ⟨a, b⟩ => (⟨a, g.trans b⟩ : _ ∧ Bel wb w')
  rw [Cf.regR_ok (Cf.has_zero ok ht), Cf.hasE_ok (Cf.has_zero ok ht), Int.toNat_natCast] at rg
  have hid := Lib.hid (And.intro hIb (And.intro ok (And.intro cfAt otAt)))
  have hidb := Lib.hid hb
  clear hI hIb ok cfAt otAt
  have m1 : (1 : Int) ≤ (c.m : Int) := by omega
  have mI : (c.m : Int) ≤ 8 := by omega
  have xI : (tn : Int) ≤ 255 := by omega
  have x0 : (0 : Int) ≤ (tn : Int) := by omega
  subst hwb
  go_enter Try.func5, Try.ntmps5
  go_upto_region 5 with (first
    | (go_at_call 8; refine (sm _ (by assumption)).mono ?_; rintro e w' ⟨rfl, hg1⟩; obtain ⟨k0, k1, k2, k3, k4, k5⟩ := hid.out.2.2.1 _ hg1)
    | (go_at_call 14; refine (o1 _ (by assumption)).mono ?_; rintro e w5 ⟨rfl, hg2⟩; obtain ⟨k0, k1, k2, k3, k4, k5⟩ := hid.out.2.2.1 _ hg2)
    | (go_at_call 17; refine (ow _ hg2).mono ?_; rintro e w6 ⟨g1, kk1, g2, kk2, rfl, kb1, kb2, kb3, kb4, O⟩; obtain ⟨k0, k1, k2, k3, k4, k5⟩ := hid.out.2.2.1 _ (hg2.trans O.bel)))
  obtain ⟨h8, hh8⟩ : ∃ h8, w6.heap.size = h8 := ⟨_, rfl⟩
  have I0 : Inv ((w.alloc (.cells #[.slice p1 c.n c1, .int .i64 c.page, .slice p2 c.m c2, .int .i64 c.wk, .int .i64 c.gr, .int .i64 c.gn] 25)).alloc (.cells #[.int .i64 q, .int .i64 r, .int .i64 p, .int .i64 a] 43)) (w6.alloc (.cells #[.slice (some ⟨g1, 0, none⟩) c.n kk1, .int .i64 c.page, .slice (some ⟨g2, 0, none⟩) c.m kk2, .int .i64 c.wk, .int .i64 c.gr, .int .i64 c.gn] 25)) h8 g1 g2 #[.slice (some ⟨g1, 0, none⟩) c.n kk1, .int .i64 c.page, .slice (some ⟨g2, 0, none⟩) c.m kk2, .int .i64 c.wk, .int .i64 c.gr, .int .i64 c.gn] (mix c 0 t q r p a) c.F := by
    have gA := (Bel.refl w6).alloc (.cells #[.slice (some ⟨g1, 0, none⟩) c.n kk1, .int .i64 c.page, .slice (some ⟨g2, 0, none⟩) c.m kk2, .int .i64 c.wk, .int .i64 c.gr, .int .i64 c.gn] 25)
    have e := mix_zero c t q r p a
    refine ⟨(hg2.trans O.bel).trans gA, by rw [← hh8]; exact heap_alloc_new w6 _, O.r1.bel gA, O.r2.bel gA, fun j hj => cell_bel gA (O.n j hj), fun j hj => ?_⟩
    rw [(e j).1, (e j).2.1, (e j).2.2.1, (e j).2.2.2]
    exact (O.t j hj).bel gA
  rw [hh8]
  have l1 : g1 < h8 := by have := O.r1; obtain ⟨cur, h, _⟩ := this; have := heap_lt h; omega
  have l2 : g2 < h8 := by have := O.r2; obtain ⟨cur, h, _⟩ := this; have := heap_lt h; omega
  have sz := hg2.size
  have f1 : w5.heap.size ≤ g1 := O.b1
  have f2 : w5.heap.size ≤ g2 := O.b2
  have hne := O.ne
  generalize w6.alloc (.cells #[.slice (some ⟨g1, 0, none⟩) c.n kk1, .int .i64 c.page, .slice (some ⟨g2, 0, none⟩) c.m kk2, .int .i64 c.wk, .int .i64 c.gr, .int .i64 c.gn] 25) = W7 at *
  have boxAt : ∀ W : World, W.heap[h8]? = some (.cells #[.slice (some ⟨g1, 0, none⟩) c.n kk1, .int .i64 c.page, .slice (some ⟨g2, 0, none⟩) c.m kk2, .int .i64 c.wk, .int .i64 c.gr, .int .i64 c.gn] 25 (0, 0)) → W.cell? ⟨h8, 0, none⟩ = some (.slice (some ⟨g1, 0, none⟩) c.n kk1) ∧ W.cell? ⟨h8, 1, none⟩ = some (.int .i64 c.page) ∧ W.cell? ⟨h8, 2, none⟩ = some (.slice (some ⟨g2, 0, none⟩) c.m kk2) ∧ W.cell? ⟨h8, 3, none⟩ = some (.int .i64 c.wk) ∧ W.cell? ⟨h8, 4, none⟩ = some (.int .i64 c.gr) ∧ W.cell? ⟨h8, 5, none⟩ = some (.int .i64 c.gn) := fun W h =>
    ⟨cell_of_row W h8 0 _ _ _ h, cell_of_row W h8 1 _ _ _ h, cell_of_row W h8 2 _ _ _ h, cell_of_row W h8 3 _ _ _ h, cell_of_row W h8 4 _ _ _ h, cell_of_row W h8 5 _ _ _ h⟩
  clear hh8 O
  obtain ⟨i0, i1, i2, i3, i4, i5⟩ := boxAt W7 I0.box
  clear k0 k1 k2 k3 k4 k5
  obtain ⟨k0, k1, k2, k3, k4, k5⟩ := hid.out.2.2.1 _ I0.bel
  have hidI := Lib.hid I0
  have hidx := Lib.hid boxAt
  have hids := Lib.hid (And.intro sz (And.intro f1 f2))
  clear I0 boxAt sz f1 f2 hg1 hg2 o1 ow sm g0
  go_wp2
  go_loopw [9] (fun i wr => ∃ j : Nat, j ≤ c.m ∧ i = .int .i64 (j : Nat) ∧ RowKit.Hid (Inv ((w.alloc (.cells #[.slice p1 c.n c1, .int .i64 c.page, .slice p2 c.m c2, .int .i64 c.wk, .int .i64 c.gr, .int .i64 c.gn] 25)).alloc (.cells #[.int .i64 q, .int .i64 r, .int .i64 p, .int .i64 a] 43)) wr h8 g1 g2 #[.slice (some ⟨g1, 0, none⟩) c.n kk1, .int .i64 c.page, .slice (some ⟨g2, 0, none⟩) c.m kk2, .int .i64 c.wk, .int .i64 c.gr, .int .i64 c.gn] (mix c j t q r p a) c.F)) (fun i _ => c.m - (intOf i).toNat)
  case atStart => exact ⟨0, Nat.zero_le _, rfl, hidI⟩
  case round =>
    obtain ⟨j, hj, rfl, hV⟩ := hrel
    clear k0 k1 k2 k3 k4 k5 i0 i1 i2 i3 i4 i5
    obtain ⟨k0, k1, k2, k3, k4, k5⟩ := hid.out.2.2.1 _ hV.out.bel
    obtain ⟨i0, i1, i2, i3, i4, i5⟩ := hidx.out _ hV.out.box
    by_cases cj : j < c.m
    · have jI : (j : Int) < (c.m : Int) := by omega
      have j0 : (0 : Int) ≤ (j : Int) := by omega
      by_cases e : j = t
      · subst e
        have V2 : RowKit.Hid (Inv ((w.alloc (.cells #[.slice p1 c.n c1, .int .i64 c.page, .slice p2 c.m c2, .int .i64 c.wk, .int .i64 c.gr, .int .i64 c.gn] 25)).alloc (.cells #[.int .i64 q, .int .i64 r, .int .i64 p, .int .i64 a] 43)) wr h8 g1 g2 #[.slice (some ⟨g1, 0, none⟩) c.n kk1, .int .i64 c.page, .slice (some ⟨g2, 0, none⟩) c.m kk2, .int .i64 c.wk, .int .i64 c.gr, .int .i64 c.gn] (mix c (j + 1) j q r p a) c.F) := by
          have V := hV.out
          refine Lib.hid ⟨V.bel, V.box, V.r1, V.r2, V.n, fun i hi => ?_⟩
          have := V.t i hi
          have e : ∀ x y : Int, (if i < j + 1 ∧ i ≠ j then x else y) = (if i < j ∧ i ≠ j then x else y) := fun x y => by
            by_cases z : i < j ∧ i ≠ j
            · rw [if_pos z, if_pos ⟨by omega, z.2⟩]
            · rw [if_neg z, if_neg fun u => z ⟨by omega, u.2⟩]
          show Ten wr g2 (i * 4) (if i < j + 1 ∧ i ≠ j then q else c.Q i) (if i < j + 1 ∧ i ≠ j then r else c.Tr i) (if i < j + 1 ∧ i ≠ j then p else c.Cp i) (if i < j + 1 ∧ i ≠ j then a else c.As i)
          rw [e, e, e, e]
          exact this
        clear hV
        go_wp2
        go_roundw
        case rel => exact ⟨j + 1, by omega, by go_num, V2⟩
        case measure => simp only [intOf]; omega
      · have e2 : ((j : Int) == (t : Int)) = false := by rw [beq_eq_false_iff_ne]; omega
        have e3 : ¬ ((j : Int) = (t : Int)) := by omega
        obtain ⟨u0, u1, u2, u3⟩ := hid.out.2.2.2 _ hV.out.bel
        obtain ⟨t0, t1, t2, t3⟩ := hV.out.t j cj
        have z0 := hV.out.r2.free (j * 4)
        have z1 := hV.out.r2.free (j * 4 + 1)
        have z2 := hV.out.r2.free (j * 4 + 2)
        have z3 := hV.out.r2.free (j * 4 + 3)
        generalize (mix c j t q r p a).Q j = y0 at t0
        generalize (mix c j t q r p a).Tr j = y1 at t1
        generalize (mix c j t q r p a).Cp j = y2 at t2
        generalize (mix c j t q r p a).As j = y3 at t3
        have V2 := Lib.hid (Inv.store hV.out (by have := hids.out; omega) (by omega) hne cj e)
        clear hV
        go_wp2
        go_roundw
        case rel => exact ⟨j + 1, by omega, by go_num, V2⟩
        case measure => simp only [intOf]; omega
    · obtain rfl : j = c.m := by omega
      obtain ⟨hIb, ok, _, _⟩ := hid.out
      have isO := fun W (V : Inv ((w.alloc (.cells #[.slice p1 c.n c1, .int .i64 c.page, .slice p2 c.m c2, .int .i64 c.wk, .int .i64 c.gr, .int .i64 c.gn] 25)).alloc (.cells #[.int .i64 q, .int .i64 r, .int .i64 p, .int .i64 a] 43)) W h8 g1 g2 #[.slice (some ⟨g1, 0, none⟩) c.n kk1, .int .i64 c.page, .slice (some ⟨g2, 0, none⟩) c.m kk2, .int .i64 c.wk, .int .i64 c.gr, .int .i64 c.gn] (mix c c.m t q r p a) c.F) => (show IsCf W (.agg #[.slice (some ⟨g1, 0, none⟩) c.n kk1, .int .i64 c.page, .slice (some ⟨g2, 0, none⟩) c.m kk2, .int .i64 c.wk, .int .i64 c.gr, .int .i64 c.gn]) (mix c c.m t q r p a) from Inv.isCf (c := mix c c.m t q r p a) V n8.1 m8.1 kb1 kb2 kb3 kb4)
      have rgx := fun W (g : Bel ((w.alloc (.cells #[.slice p1 c.n c1, .int .i64 c.page, .slice p2 c.m c2, .int .i64 c.wk, .int .i64 c.gr, .int .i64 c.gn] 25)).alloc (.cells #[.int .i64 q, .int .i64 r, .int .i64 p, .int .i64 a] 43)) W) => preg_any _ c t W (hIb.bel g)
      rw [Cf.regR_ok (Cf.has_zero ok ht), Cf.hasE_ok (Cf.has_zero ok ht), Int.toNat_natCast] at rgx
      have cko := fun W (V : Inv ((w.alloc (.cells #[.slice p1 c.n c1, .int .i64 c.page, .slice p2 c.m c2, .int .i64 c.wk, .int .i64 c.gr, .int .i64 c.gn] 25)).alloc (.cells #[.int .i64 q, .int .i64 r, .int .i64 p, .int .i64 a] 43)) W h8 g1 g2 #[.slice (some ⟨g1, 0, none⟩) c.n kk1, .int .i64 c.page, .slice (some ⟨g2, 0, none⟩) c.m kk2, .int .i64 c.wk, .int .i64 c.gr, .int .i64 c.gn] (mix c c.m t q r p a) c.F) => pcheck_any _ _ W (isO W V)
      have rgo := fun W (V : Inv ((w.alloc (.cells #[.slice p1 c.n c1, .int .i64 c.page, .slice p2 c.m c2, .int .i64 c.wk, .int .i64 c.gr, .int .i64 c.gn] 25)).alloc (.cells #[.int .i64 q, .int .i64 r, .int .i64 p, .int .i64 a] 43)) W h8 g1 g2 #[.slice (some ⟨g1, 0, none⟩) c.n kk1, .int .i64 c.page, .slice (some ⟨g2, 0, none⟩) c.m kk2, .int .i64 c.wk, .int .i64 c.gr, .int .i64 c.gn] (mix c c.m t q r p a) c.F) => preg_any _ _ t W (isO W V)
      have ck := fun W (g : Bel ((w.alloc (.cells #[.slice p1 c.n c1, .int .i64 c.page, .slice p2 c.m c2, .int .i64 c.wk, .int .i64 c.gr, .int .i64 c.gn] 25)).alloc (.cells #[.int .i64 q, .int .i64 r, .int .i64 p, .int .i64 a] 43)) W) => pcheck_any _ c W (hIb.bel g)
      rw [Cf.checkC_ok ok] at ck
      have key : ((mix c c.m t q r p a).checkC = 0 ∧ (mix c c.m t q r p a).regR t = c.region t ∧ (mix c c.m t q r p a).hasE t 0 = 0) ∨ (mix c c.m t q r p a).checkC = 2 := by
        by_cases ok2 : (mix c c.m t q r p a).ok
        · have hz : (mix c c.m t q r p a).has t 0 := Cf.has_zero ok2 ht
          exact Or.inl ⟨Cf.checkC_ok ok2, by rw [Cf.regR_ok hz, Int.toNat_natCast, mix_region], Cf.hasE_ok hz⟩
        · exact Or.inr (Cf.checkC_no ok2)
      clear hIb ok isO rg
      generalize (mix c c.m t q r p a).checkC = R1 at *
      generalize (mix c c.m t q r p a).regR t = R2 at *
      generalize (mix c c.m t q r p a).hasE t 0 = R3 at *
      generalize c.region t = R0 at *
      rcases key with ⟨rfl, rfl, rfl⟩ | rfl
      all_goals
        go_wp2_with (first
          | (go_at_call 18; (with_reducible refine (rgx _ hV.out.bel).mono ?_); rintro e wA ⟨rfl, hA⟩
             have VA := Lib.hid (hV.out.go hA)
             clear k0 k1 k2 k3 k4 k5 i0 i1 i2 i3 i4 i5
             obtain ⟨k0, k1, k2, k3, k4, k5⟩ := hid.out.2.2.1 _ VA.out.bel
             obtain ⟨i0, i1, i2, i3, i4, i5⟩ := hidx.out _ VA.out.box)
          | (go_at_call 14; (with_reducible refine (cko _ VA.out).mono ?_); rintro e wB ⟨rfl, hB⟩
             have VB := Lib.hid (VA.out.go hB)
             clear k0 k1 k2 k3 k4 k5 i0 i1 i2 i3 i4 i5
             obtain ⟨k0, k1, k2, k3, k4, k5⟩ := hid.out.2.2.1 _ VB.out.bel
             obtain ⟨i0, i1, i2, i3, i4, i5⟩ := hidx.out _ VB.out.box)
          | (go_at_call 18; (with_reducible refine (rgo _ VB.out).mono ?_); rintro e wC ⟨rfl, hC⟩
             have VC := Lib.hid (VB.out.go hC)
             clear k0 k1 k2 k3 k4 k5 i0 i1 i2 i3 i4 i5
             obtain ⟨k0, k1, k2, k3, k4, k5⟩ := hid.out.2.2.1 _ VC.out.bel
             obtain ⟨i0, i1, i2, i3, i4, i5⟩ := hidx.out _ VC.out.box))
        go_loopw [14] (fun i wr => ∃ j : Nat, j ≤ c.n ∧ i = .int .i64 (j : Nat) ∧ RowKit.Hid (Inv2 ((w.alloc (.cells #[.slice p1 c.n c1, .int .i64 c.page, .slice p2 c.m c2, .int .i64 c.wk, .int .i64 c.gr, .int .i64 c.gn] 25)).alloc (.cells #[.int .i64 q, .int .i64 r, .int .i64 p, .int .i64 a] 43)) wr h8 g1 c.n #[.slice (some ⟨g1, 0, none⟩) c.n kk1, .int .i64 c.page, .slice (some ⟨g2, 0, none⟩) c.m kk2, .int .i64 c.wk, .int .i64 c.gr, .int .i64 c.gn])) (fun i _ => c.n - (intOf i).toNat)
        case atStart => first | exact ⟨0, Nat.zero_le _, rfl, Lib.hid ⟨VC.out.bel, VC.out.box, VC.out.r1⟩⟩ | exact ⟨0, Nat.zero_le _, rfl, Lib.hid ⟨VB.out.bel, VB.out.box, VB.out.r1⟩⟩
        case round =>
          obtain ⟨j, hj, rfl, hU⟩ := hrel
          clear k0 k1 k2 k3 k4 k5 i0 i1 i2 i3 i4 i5
          obtain ⟨k0, k1, k2, k3, k4, k5⟩ := hid.out.2.2.1 _ hU.out.bel
          obtain ⟨i0, i1, i2, i3, i4, i5⟩ := hidx.out _ hU.out.box
          by_cases cj : j < c.n
          · have jI : (j : Int) < (c.n : Int) := by omega
            have j0 : (0 : Int) ≤ (j : Int) := by omega
            obtain ⟨old, hold⟩ := hU.out.r1.there cj
            have z0 := hU.out.r1.free j
            have U2 := Lib.hid (Inv2.store hU.out (by have := hids.out; omega) (by omega) cj (.int .i64 0))
            clear hU
            go_wp2
            go_roundw
            case rel => exact ⟨j + 1, by omega, by go_num, U2⟩
            case measure => simp only [intOf]; omega
          · obtain rfl : j = c.n := by omega
            go_wp2_with (first
              | (go_at_call 18; (with_reducible refine (rgx _ hU.out.bel).mono ?_); rintro e wD ⟨rfl, hD⟩
                 have gD := hU.out.bel.trans hD
                 clear k0 k1 k2 k3 k4 k5
                 obtain ⟨k0, k1, k2, k3, k4, k5⟩ := hid.out.2.2.1 _ gD)
              | (go_at_call 14; (with_reducible refine (ck _ gD).mono ?_); rintro e wE ⟨rfl, hE⟩
                 have gE := gD.trans hE)
              | (go_at_call 9; refine (aw _ gE).mono ?_; rintro e wF ⟨rfl, hF⟩))
            go_ret
            exact ⟨rfl, hidb.out.trans hF⟩

set_option maxRecDepth 100000 in
set_option maxHeartbeats 2000000 in
theorem walk (v : Value) (c : Cf) (tn : Nat) (htn : tn ≤ 255) (q r p a : Int) (w : World) (h : IsCf w v c) :
    Calls Try.prog 5 #[v, .int .u8 (tn : Nat), .agg #[.int .i64 q, .int .i64 r, .int .i64 p, .int .i64 a]] w fun e w' => e = .returned (.bool true) ∧ Below w.heap.size w w' := by
  have hI := h
  obtain ⟨vc, vt, rfl, hN, hT⟩ := h
  obtain ⟨p1, c1, rfl, _, hN⟩ := nums_at hN
  obtain ⟨p2, c2, rfl, _, hT⟩ := tens_at hT
  by_cases ok : c.ok
  · exact walk_ok p1 p2 c1 c2 c tn q r p a w hI ok htn
  · clear hN hT
    have hb0 : ∀ o, Bel w (w.alloc o) := fun o => (Bel.refl w).alloc o
    have hb := hb0 (.cells #[.slice p1 c.n c1, .int .i64 c.page, .slice p2 c.m c2, .int .i64 c.wk, .int .i64 c.gr, .int .i64 c.gn] 25)
    clear hb0
    have g0 := Bel.refl (w.alloc (.cells #[.slice p1 c.n c1, .int .i64 c.page, .slice p2 c.m c2, .int .i64 c.wk, .int .i64 c.gr, .int .i64 c.gn] 25))
    have g1 : ∀ o, Bel (w.alloc (.cells #[.slice p1 c.n c1, .int .i64 c.page, .slice p2 c.m c2, .int .i64 c.wk, .int .i64 c.gr, .int .i64 c.gn] 25)) ((w.alloc (.cells #[.slice p1 c.n c1, .int .i64 c.page, .slice p2 c.m c2, .int .i64 c.wk, .int .i64 c.gr, .int .i64 c.gn] 25)).alloc o) := fun o => g0.alloc o
    generalize hwb : w.alloc (.cells #[.slice p1 c.n c1, .int .i64 c.page, .slice p2 c.m c2, .int .i64 c.wk, .int .i64 c.gr, .int .i64 c.gn] 25) = wb at hb
    have hIb := hI.bel hb
    have sm := fun w1 (g : Bel wb w1) => (small_any _ c w1 (hIb.bel g)).mono fun e w' ⟨a, b⟩ => (⟨a, g.trans b⟩ : _ ∧ Bel wb w')
    have aw := fun w1 (g : Bel wb w1) => (awake_any w1).mono fun e w' ⟨a, b⟩ => (⟨a, g.trans b⟩ : _ ∧ Bel wb w')
    have ch := fun w1 (g : Bel wb w1) => (pcheck_any _ c w1 (hIb.bel g)).mono fun e w' ⟨a, b⟩ => (⟨a, g.trans b⟩ : _ ∧ Bel wb w')
    rw [Cf.checkC_no ok] at ch
    by_cases s : c.n ≤ 50 ∧ c.m ≤ 50
    · rw [decide_eq_true s] at sm
      clear hI hIb s ok
      subst hwb
      go_enter Try.func5, Try.ntmps5
      go_wp2_with (first
        | (go_at_call 8; refine (sm _ (by first | assumption | exact g1 _)).mono ?_; rintro e w' ⟨rfl, hg⟩; obtain ⟨k0, k1, k2, k3, k4, k5⟩ := cf_at hg)
        | (go_at_call 14; refine (ch _ (by assumption)).mono ?_; rintro e w' ⟨rfl, hg1⟩)
        | (go_at_call 9; refine (aw _ (by assumption)).mono ?_; rintro e w' ⟨rfl, hg2⟩))
      go_ret
      exact ⟨rfl, hb.trans hg2⟩
    · rw [decide_eq_false s] at sm
      clear hI hIb s ok
      subst hwb
      go_enter Try.func5, Try.ntmps5
      go_wp2_with (first
        | (go_at_call 8; refine (sm _ (by first | assumption | exact g1 _)).mono ?_; rintro e w' ⟨rfl, hg⟩; obtain ⟨k0, k1, k2, k3, k4, k5⟩ := cf_at hg)
        | (go_at_call 9; refine (aw _ (by assumption)).mono ?_; rintro e w' ⟨rfl, hg2⟩))
      go_ret
      exact ⟨rfl, hb.trans hg2⟩

/-! The row. -/
set_option maxRecDepth 100000 in
theorem lifted (os : Os) (started : os.Started) (H : Type) (enc : TypeId × Value → H) :
    ReturnsInHanded {} Try.checked os 5 .any (Rows.confApartSpec.pre6 enc Try.prog Try.f5 Rows.confApartRow.domain false) (Rows.confApartSpec.post enc Try.prog Try.f5 false true false false) := by
  refine lift_law (C := Try.checked) own started (by kernel_rfl) Try.func5 laid rowed full (by rw [Try.params5]; decide) rfl (by kernel_rfl) Try.underlying4
    (fun ds h => by rw [Try.params5] at h; match ds, h with | [_, _, _], _ => rfl)
    (ChangeSpec.witness6 (enc := enc) (C := Try.checked) false ⟨#[], #[.agg #[.slice none 0 0, .int .i64 0, .slice none 0 0, .int .i64 0, .int .i64 0, .int .i64 0], .int .u8 0, .agg #[.int .i64 0, .int .i64 0, .int .i64 0, .int .i64 0]], []⟩ 8 (by kernel_rfl) (by kernel_rfl) (by kernel_rfl) (by kernel_rfl)) ?_
  intro W base args ds p hval hA
  change ∀ (j : Nat) t v, Try.f5.params[j]? = some t → args[j]? = some v → Value.okWide Try.prog W .any base t v at hval
  change DataW.TrodAll enc Try.prog W 0 (fun _ => true) true Try.f5.params.toList args.toList ds p at hA
  rw [Try.params5] at hA hval
  obtain ⟨v0, vs0, d0, ds0, p0, q0, hargs, rfl, rfl, h0, r0⟩ := trodAll_cons hA
  obtain ⟨v1, vs1, d1, ds1, p1, q1, hargs1, rfl, rfl, h1, r1⟩ := trodAll_cons r0
  obtain ⟨v2, vs2, d2, ds2, p2, q2, hargs2, rfl, rfl, h2, r2⟩ := trodAll_cons r1
  obtain ⟨rfl, rfl, rfl⟩ := trodAll_nil r2
  subst hargs2
  subst hargs1
  obtain rfl : args = #[v0, v1, v2] := by cases args; simp_all
  obtain ⟨c, hI, _⟩ := get_cf (hval 0 25 v0 rfl rfl) h0
  obtain ⟨tn, rfl, htn⟩ := get_u8 Try.underlying5 (hval 1 5 v1 rfl rfl) h1
  obtain ⟨q, r, p, a, rfl⟩ := get_ten (hval 2 43 v2 rfl rfl) h2
  exact walk v0 c tn htn q r p a W hI

theorem over : Rows.confApartRow.holds Try.pinned (OpenSpec.ofChange Rows.confApartSpec) :=
  OpenClaim.holds_of_wide 5 Try.f5 rfl rfl rfl rfl rfl rfl rfl ⟨rfl, rfl, rfl, rfl, rfl⟩ rfl rfl rfl rfl rfl (by kernel_rfl) Try.func5 (by kernel_rfl)
    (of_decide_eq_true (by kernel_rfl)) (by unfold Func.isWrapper; first | (rw [if_pos (by decide +kernel)]; kernel_rfl) | (rw [if_neg (by decide +kernel)]; exact ⟨rfl, rfl⟩))
    (fun os started H enc _ => lifted os started H enc)

/-- The statement. -/
theorem proved : Rows.ConfApartSaid :=
  over
#print axioms proved
end Go.Proofs.Ytlodgbpjeklhpaa.confApart
