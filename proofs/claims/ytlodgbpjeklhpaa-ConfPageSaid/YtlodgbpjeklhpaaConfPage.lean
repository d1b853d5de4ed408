/- With a greater page a tenant has no more pages of a class, and as many slots; for every input, no condition. -/
import Derived.Test.YtlodgbpjeklhpaaRowk
import Derived.Test.YtlodgbpjeklhpaaOpc
import Derived.Test.YtlodgbpjeklhpaaAwk
import Derived.Lib.MinMax
import Derived.Deep.Cut
import Derived.Deep.DeepCutAuto
namespace Go.Proofs.Ytlodgbpjeklhpaa.confPage
open Go.ChangeShapes Go.WideShapes Go.ChangeAt Go.RowKit Go.Joins
set_option linter.unusedVariables false

theorem each_le {c : Cf} {X : Int} (h : c.page ≤ X) (ok : c.ok) {k : Nat} (hk : k < c.n) : c.each k ≤ ({ c with page := X } : Cf).each k :=
  Int.ediv_le_ediv (by have := (Cf.ok_F ok hk).1; omega) h
theorem pages_le {c : Cf} {X : Int} (h : c.page ≤ X) (ok : c.ok) {t k : Nat} (ht : t < c.m) (hk : k < c.n) : ({ c with page := X } : Cf).pages t k ≤ c.pages t k := by
  obtain ⟨e1, _⟩ := Cf.each_bd ok hk
  have e2 := each_le h ok hk
  obtain ⟨z1, z2, z3, z4⟩ := Cf.pages_bd ok ht hk
  by_cases x : ({ c with page := X } : Cf).pages t k ≤ c.pages t k
  · exact x
  · have := (ceil_lt (s := c.slots t k) (e := ({ c with page := X } : Cf).each k) (p := c.pages t k) (by omega)).2 (by exact Int.not_le.1 x)
    have := Int.mul_le_mul_of_nonneg_left e2 (show 0 ≤ c.pages t k by omega)
    omega

set_option maxRecDepth 100000 in
set_option maxHeartbeats 4000000 in
theorem walk_ok (p1 p2 : Option Addr) (c1 c2 : Nat) (c : Cf) (tn : Nat) (pg : Int) (w : World) (hI : IsCf w (.agg #[.slice p1 c.n c1, .int .i64 c.page, .slice p2 c.m c2, .int .i64 c.wk, .int .i64 c.gr, .int .i64 c.gn]) c) (ok : c.ok)
    (hN : ∀ k, k < c.n → ∃ b off, p1 = some ⟨b, off, none⟩ ∧ w.cell? ⟨b, off + k, none⟩ = some (.int .i64 (c.F k))) (htn : tn ≤ 255) :
    Calls Try.prog 7 #[.agg #[.slice p1 c.n c1, .int .i64 c.page, .slice p2 c.m c2, .int .i64 c.wk, .int .i64 c.gr, .int .i64 c.gn], .int .u8 (tn : Nat), .int .i64 pg] w fun e w' => e = .returned (.bool true) ∧ Bel w w' := by
  have hb0 : ∀ o, Bel w (w.alloc o) := fun o => (Bel.refl w).alloc o
  have hb := hb0 (.cells #[.slice p1 c.n c1, .int .i64 c.page, .slice p2 c.m c2, .int .i64 c.wk, .int .i64 c.gr, .int .i64 c.gn] 25)
  clear hb0
  have g0 := Bel.refl (w.alloc (.cells #[.slice p1 c.n c1, .int .i64 c.page, .slice p2 c.m c2, .int .i64 c.wk, .int .i64 c.gr, .int .i64 c.gn] 25))
  obtain ⟨X, hX⟩ : ∃ X, max c.page pg = X := ⟨_, rfl⟩
  have hXle : c.page ≤ X := by omega
  generalize hwb : w.alloc (.cells #[.slice p1 c.n c1, .int .i64 c.page, .slice p2 c.m c2, .int .i64 c.wk, .int .i64 c.gr, .int .i64 c.gn] 25) = wb at hb
  have hIb := hI.bel hb
  have sm := fun w1 (g : Bel wb w1) => (small_any _ c w1 (hIb.bel g)).mono fun e w' ⟨a, b⟩ => (⟨a, g.trans b⟩ : _ ∧ Bel wb w')
  have aw := fun w1 (g : Bel wb w1) => (awake_any w1).mono fun e w' ⟨a, b⟩ => (⟨a, g.trans b⟩ : _ ∧ Bel wb w')
  have n8 := Cf.ok_n ok
  have m8 := Cf.ok_m ok
  obtain ⟨pg1, pg2, pg3⟩ := Cf.ok_page ok
  rw [decide_eq_true (show c.n ≤ 50 ∧ c.m ≤ 50 by omega)] at sm
  have o1 := fun w1 (g : Bel wb w1) => (pcheck_any _ c w1 (hIb.bel g)).mono fun e w' ⟨a, b⟩ => (⟨a, g.trans b⟩ : _ ∧ Bel wb w')
  rw [Cf.checkC_ok ok] at o1
  -- the other configuration
  have hI2 : ∀ W, Bel wb W → IsCf W (.agg #[.slice p1 c.n c1, .int .i64 X, .slice p2 c.m c2, .int .i64 c.wk, .int .i64 c.gr, .int .i64 c.gn]) { c with page := X } := fun W g => by
    obtain ⟨vc, vt, e, h1, h2⟩ := hIb.bel g
    injection e with e
    injection e with e
    simp only [List.cons.injEq, and_true] at e
    obtain ⟨rfl, _, rfl, _⟩ := e
    exact ⟨_, _, rfl, h1, h2⟩
  have o2 := fun w1 (g : Bel wb w1) => (pcheck_any _ _ w1 (hI2 w1 g)).mono fun e w' ⟨a, b⟩ => (⟨a, b⟩ : _ ∧ Bel w1 w')
  have ok2 : ({ c with page := X } : Cf).ok ↔ X ≤ 64 := ⟨fun x => x.1.2.1.2, fun x => ⟨⟨ok.1.1, ⟨Int.le_trans pg3 hXle, x⟩, ok.1.2.2⟩, ok.2⟩⟩
  have tm : ∃ t : Nat, (tn : Int) % (c.m : Int) = (t : Int) ∧ t < c.m := ⟨tn % c.m, by omega, Nat.mod_lt _ (by omega)⟩
  obtain ⟨t, htm, ht⟩ := tm
  have hid := Lib.hid (And.intro hIb (And.intro ok (And.intro hN (And.intro hI2 ok2))))
  have hidb := Lib.hid (And.intro hb hXle)
  have hidx := Lib.hid pg3
  clear hI hIb ok hN hI2 ok2 hXle pg3
  subst hwb
  have m1 : (1 : Int) ≤ (c.m : Int) := by omega
  have mI : (c.m : Int) ≤ 8 := by omega
  have xI : (tn : Int) ≤ 255 := by omega
  have x0 : (0 : Int) ≤ (tn : Int) := by omega
  go_enter Try.func7, Try.ntmps7
  go_upto_region 6 with (first
    | (go_at_call 8; refine (sm _ (by assumption)).mono ?_; rintro e w' ⟨rfl, hg1⟩; obtain ⟨k0, k1, k2, k3, k4, k5⟩ := cf_at hg1)
    | (go_at_call 14; refine (o1 _ (by assumption)).mono ?_; rintro e w5 ⟨rfl, hg2⟩; obtain ⟨k0, k1, k2, k3, k4, k5⟩ := cf_at hg2
       have gA := (Bel.refl w5).alloc (.cells #[.slice p1 c.n c1, .int .i64 c.page, .slice p2 c.m c2, .int .i64 c.wk, .int .i64 c.gr, .int .i64 c.gn] 25)
       obtain ⟨i0, i1, i2, i3, i4, i5⟩ := cf_at (hg2.trans gA)))
  clear k0 k1 k2 k3 k4 k5 i0 i1 i2 i3 i4 i5
  have gB := (Bel.refl w5).alloc (.cells #[.slice p1 c.n c1, .int .i64 X, .slice p2 c.m c2, .int .i64 c.wk, .int .i64 c.gr, .int .i64 c.gn] 25)
  obtain ⟨l0, l1, l2, l3, l4, l5⟩ := cf_at (Bel.refl (w5.alloc (.cells #[.slice p1 c.n c1, .int .i64 X, .slice p2 c.m c2, .int .i64 c.wk, .int .i64 c.gr, .int .i64 c.gn] 25)))
  generalize w5.alloc (.cells #[.slice p1 c.n c1, .int .i64 X, .slice p2 c.m c2, .int .i64 c.wk, .int .i64 c.gr, .int .i64 c.gn] 25) = W3 at *
  have G3 := hg2.trans gB
  obtain ⟨k0, k1, k2, k3, k4, k5⟩ := cf_at G3
  have o3 := o2 W3 G3
  have gR := Bel.refl W3
  simp only [htm]
  clear o1 sm hg1 hg2 gA gB g0
  by_cases x64 : X ≤ 64
  · have ok2 := hid.out.2.2.2.2.2 x64
    rw [Cf.checkC_ok ok2] at o3
    have hid2 := Lib.hid ok2
    clear ok2
    go_wp2_with (go_at_call 14; refine o3.mono ?_; rintro e w6 ⟨rfl, hg3⟩)
    go_loopw [9] (fun i wr => ∃ k : Nat, k ≤ c.n ∧ i = .int .i64 (k : Nat) ∧ Bel W3 wr) (fun i _ => c.n - (intOf i).toNat)
    case atStart => exact ⟨0, Nat.zero_le _, rfl, hg3⟩
    case round =>
      obtain ⟨k, hk, rfl, hbr⟩ := hrel
      clear o3
      have K := cf_at (G3.trans hbr)
      have L0 := cell_bel hbr l0
      have L1 := cell_bel hbr l1
      have L2 := cell_bel hbr l2
      have L3 := cell_bel hbr l3
      have L4 := cell_bel hbr l4
      have L5 := cell_bel hbr l5
      clear k0 k1 k2 k3 k4 k5
      obtain ⟨k0, k1, k2, k3, k4, k5⟩ := K
      by_cases ck : k < c.n
      · obtain ⟨hIb, ok, hN, hI2, _⟩ := hid.out
        have ok2 := hid2.out
        obtain ⟨bb, oo, rfl, cF⟩ := hN k ck
        have cF0 := cell_bel (hidb.out.1.trans G3) cF
        have hz := Cf.has_of ok ht ck
        have hz2 := Cf.has_of ok2 ht ck
        have s1 := fun w1 (g : Bel W3 w1) => (pslots_any _ c t k w1 (hIb.bel (G3.trans g))).mono fun e w' ⟨a, b⟩ => (⟨a, g.trans b⟩ : _ ∧ Bel W3 w')
        have s2 := fun w1 (g : Bel W3 w1) => (pslots_any _ _ t k w1 (hI2 w1 (G3.trans g))).mono fun e w' ⟨a, b⟩ => (⟨a, g.trans b⟩ : _ ∧ Bel W3 w')
        have a1 := fun w1 (g : Bel W3 w1) => (ppages_any _ c t k w1 (hIb.bel (G3.trans g))).mono fun e w' ⟨a, b⟩ => (⟨a, g.trans b⟩ : _ ∧ Bel W3 w')
        have a2 := fun w1 (g : Bel W3 w1) => (ppages_any _ _ t k w1 (hI2 w1 (G3.trans g))).mono fun e w' ⟨a, b⟩ => (⟨a, g.trans b⟩ : _ ∧ Bel W3 w')
        rw [Cf.hasE_ok hz] at s1 a1
        rw [Cf.hasE_ok hz2] at s2 a2
        rw [Cf.slotsR_ok hz, Int.toNat_natCast, Int.toNat_natCast] at s1
        rw [Cf.slotsR_ok hz2, Int.toNat_natCast, Int.toNat_natCast, show ({ c with page := X } : Cf).slots t k = c.slots t k from rfl] at s2
        rw [Cf.pagesR_ok hz, Int.toNat_natCast, Int.toNat_natCast] at a1
        rw [Cf.pagesR_ok hz2, Int.toNat_natCast, Int.toNat_natCast] at a2
        obtain ⟨f1, f2, _⟩ := Cf.ok_F ok ck
        obtain ⟨b1, b2, _⟩ := Cf.slots_bd ok ht ck
        obtain ⟨e1, e2, _⟩ := Cf.each_bd ok2 ck
        obtain ⟨z1, z2, z3, z4⟩ := Cf.pages_bd ok2 ht ck
        have le := pages_le hidb.out.2 ok ht ck
        have eE : X / c.F k = ({ c with page := X } : Cf).each k := rfl
        change (({ c with page := X } : Cf).pages t k - 1) * ({ c with page := X } : Cf).each k < c.slots t k at z4
        have kI : (k : Int) < (c.n : Int) := by omega
        have kz : (0 : Int) ≤ (k : Int) := by omega
        clear hIb ok hN hI2 ok2 hz hz2 cF z3
        generalize ({ c with page := X } : Cf).pages t k = P2 at *
        generalize ({ c with page := X } : Cf).each k = E at *
        generalize c.pages t k = P at *
        generalize c.slots t k = S at *
        generalize c.F k = f at *
        have X0 : 0 ≤ X := by have := hidb.out.2; omega
        have d1 : decide (P < P2) = false := decide_eq_false (by omega)
        have y0 : 0 ≤ (P2 - 1) * E := Int.mul_nonneg (by omega) (by omega)
        generalize hY : (P2 - 1) * E = Y at *
        have W64 : ∀ x : Int, 0 ≤ x → x ≤ 100000 → IntKind.i64.wrap x = x := fun x h1 h2 => by rw [IntKind.wrap_i64]; omega
        have eW : IntKind.i64.wrap (X.tdiv f) = E := by rw [Int.tdiv_eq_ediv_of_nonneg X0, eE]; exact W64 _ (by omega) (by omega)
        obtain ⟨i1, j1⟩ : ∃ i, IntKind.i64.wrap (P2 - 1) = i := ⟨_, rfl⟩
        obtain ⟨i2, j2⟩ : ∃ i, IntKind.i64.wrap Y = i := ⟨_, rfl⟩
        have l1' := W64 (P2 - 1) (by omega) (by omega)
        have l2' := W64 Y (by omega) (by omega)
        rw [j1] at l1'
        rw [j2] at l2'
        rw [← l1'] at hY
        have d2 : decide (S ≤ i2) = false := decide_eq_false (by omega)
        clear W64 l1' l2' z4 y0 le
        go_wp2_with (first
          | (go_at_call 10; ((with_reducible refine (s1 _ (by assumption)).mono ?_); rintro e w' ⟨rfl, hg4⟩; have K := cf_at (G3.trans hg4); obtain ⟨k0, k1, k2, k3, k4, k5⟩ := K; have L0 := cell_bel hg4 l0; have L1 := cell_bel hg4 l1; have L2 := cell_bel hg4 l2; have L3 := cell_bel hg4 l3; have L4 := cell_bel hg4 l4; have L5 := cell_bel hg4 l5))
          | (go_at_call 10; ((with_reducible refine (s2 _ (by assumption)).mono ?_); rintro e w' ⟨rfl, hg5⟩; have K := cf_at (G3.trans hg5); obtain ⟨k0, k1, k2, k3, k4, k5⟩ := K; have L0 := cell_bel hg5 l0; have L1 := cell_bel hg5 l1; have L2 := cell_bel hg5 l2; have L3 := cell_bel hg5 l3; have L4 := cell_bel hg5 l4; have L5 := cell_bel hg5 l5))
          | (go_at_call 12; ((with_reducible refine (a1 _ (by assumption)).mono ?_); rintro e w' ⟨rfl, hg6⟩; have K := cf_at (G3.trans hg6); obtain ⟨k0, k1, k2, k3, k4, k5⟩ := K; have L0 := cell_bel hg6 l0; have L1 := cell_bel hg6 l1; have L2 := cell_bel hg6 l2; have L3 := cell_bel hg6 l3; have L4 := cell_bel hg6 l4; have L5 := cell_bel hg6 l5))
          | (go_at_call 12; ((with_reducible refine (a2 _ (by assumption)).mono ?_); rintro e w' ⟨rfl, hg7⟩; have K := cf_at (G3.trans hg7); obtain ⟨k0, k1, k2, k3, k4, k5⟩ := K; have L0 := cell_bel hg7 l0; have L1 := cell_bel hg7 l1; have L2 := cell_bel hg7 l2; have L3 := cell_bel hg7 l3; have L4 := cell_bel hg7 l4; have L5 := cell_bel hg7 l5; have cF1 := cell_bel hg7 cF0)))
        go_quiet (fail)
        go_wp2
        go_roundw
        case rel => exact ⟨k + 1, by omega, by go_num, hg7.then_drewN _⟩
        case measure => simp only [intOf]; omega
      · obtain rfl : k = c.n := by omega
        go_wp2_with (go_at_call 9; refine (aw _ (G3.trans (by assumption))).mono ?_; rintro e w7 ⟨rfl, hg4⟩)
        go_ret
        exact ⟨rfl, hidb.out.1.trans hg4⟩
  · have ok2 : ¬ ({ c with page := X } : Cf).ok := fun h => x64 (hid.out.2.2.2.2.1 h)
    rw [Cf.checkC_no ok2] at o3
    have x64' : 64 < X := by omega
    clear ok2
    go_wp2_with (first
      | (go_at_call 14; refine o3.mono ?_; rintro e w6 ⟨rfl, hg3⟩; have L1 := cell_bel hg3 l1)
      | (go_at_call 9; refine (aw _ (G3.trans (by assumption))).mono ?_; rintro e w7 ⟨rfl, hg4⟩))
    go_ret
    exact ⟨rfl, hidb.out.1.trans hg4⟩

set_option maxRecDepth 100000 in
set_option maxHeartbeats 2000000 in
theorem walk (v : Value) (c : Cf) (tn : Nat) (htn : tn ≤ 255) (pg : Int) (w : World) (h : IsCf w v c) :
    Calls Try.prog 7 #[v, .int .u8 (tn : Nat), .int .i64 pg] w fun e w' => e = .returned (.bool true) ∧ Below w.heap.size w w' := by
  have hI := h
  obtain ⟨vc, vt, rfl, hN, hT⟩ := h
  obtain ⟨p1, c1, rfl, _, hN⟩ := nums_at hN
  obtain ⟨p2, c2, rfl, _, hT⟩ := tens_at hT
  by_cases ok : c.ok
  · exact walk_ok p1 p2 c1 c2 c tn pg w hI ok hN htn
  · clear hN hT
    have hb0 : ∀ o, Bel w (w.alloc o) := fun o => (Bel.refl w).alloc o
    have hb := hb0 (.cells #[.slice p1 c.n c1, .int .i64 c.page, .slice p2 c.m c2, .int .i64 c.wk, .int .i64 c.gr, .int .i64 c.gn] 25)
    clear hb0
    have g0 := Bel.refl (w.alloc (.cells #[.slice p1 c.n c1, .int .i64 c.page, .slice p2 c.m c2, .int .i64 c.wk, .int .i64 c.gr, .int .i64 c.gn] 25))
    have g1 : ∀ o, Bel (w.alloc (.cells #[.slice p1 c.n c1, .int .i64 c.page, .slice p2 c.m c2, .int .i64 c.wk, .int .i64 c.gr, .int .i64 c.gn] 25)) ((w.alloc (.cells #[.slice p1 c.n c1, .int .i64 c.page, .slice p2 c.m c2, .int .i64 c.wk, .int .i64 c.gr, .int .i64 c.gn] 25)).alloc o) := fun o => g0.alloc o
    generalize hwb : w.alloc (.cells #[.slice p1 c.n c1, .int .i64 c.page, .slice p2 c.m c2, .int .i64 c.wk, .int .i64 c.gr, .int .i64 c.gn] 25) = wb at hb
    have hIb := hI.bel hb
    have sm := fun w1 (g : Bel wb w1) => (small_any _ c w1 (hIb.bel g)).mono fun e w' ⟨a, b⟩ => (⟨a, g.trans b⟩ : _ ∧ Bel wb w')
    have aw := fun w1 (g : Bel wb w1) => (awake_any w1).mono fun e w' ⟨a, b⟩ => (⟨a, g.trans b⟩ : _ ∧ Bel wb w')
    have ch := fun w1 (g : Bel wb w1) => (pcheck_any _ c w1 (hIb.bel g)).mono fun e w' ⟨a, b⟩ => (⟨a, g.trans b⟩ : _ ∧ Bel wb w')
    rw [Cf.checkC_no ok] at ch
    by_cases s : c.n ≤ 50 ∧ c.m ≤ 50
    · rw [decide_eq_true s] at sm
      clear hI hIb s ok
      subst hwb
      go_enter Try.func7, Try.ntmps7
      go_wp2_with (first
        | (go_at_call 8; refine (sm _ (by first | assumption | exact g1 _)).mono ?_; rintro e w' ⟨rfl, hg⟩; obtain ⟨k0, k1, k2, k3, k4, k5⟩ := cf_at hg)
        | (go_at_call 14; refine (ch _ (by assumption)).mono ?_; rintro e w' ⟨rfl, hg1⟩)
        | (go_at_call 9; refine (aw _ (by assumption)).mono ?_; rintro e w' ⟨rfl, hg2⟩))
      go_ret
      exact ⟨rfl, hb.trans hg2⟩
    · rw [decide_eq_false s] at sm
      clear hI hIb s ok
      subst hwb
      go_enter Try.func7, Try.ntmps7
      go_wp2_with (first
        | (go_at_call 8; refine (sm _ (by first | assumption | exact g1 _)).mono ?_; rintro e w' ⟨rfl, hg⟩; obtain ⟨k0, k1, k2, k3, k4, k5⟩ := cf_at hg)
        | (go_at_call 9; refine (aw _ (by assumption)).mono ?_; rintro e w' ⟨rfl, hg2⟩))
      go_ret
      exact ⟨rfl, hb.trans hg2⟩

/-! The row. -/
set_option maxRecDepth 100000 in
theorem lifted (os : Os) (started : os.Started) (H : Type) (enc : TypeId × Value → H) :
    ReturnsInHanded {} Try.checked os 7 .any (Rows.confPageSpec.pre6 enc Try.prog Try.f7 Rows.confPageRow.domain false) (Rows.confPageSpec.post enc Try.prog Try.f7 false true false false) := by
  refine lift_law (C := Try.checked) own started (by kernel_rfl) Try.func7 laid rowed full (by rw [Try.params7]; decide) rfl (by kernel_rfl) Try.underlying4
    (fun ds h => by rw [Try.params7] at h; match ds, h with | [_, _, _], _ => rfl)
    (ChangeSpec.witness6 (enc := enc) (C := Try.checked) false ⟨#[], #[.agg #[.slice none 0 0, .int .i64 0, .slice none 0 0, .int .i64 0, .int .i64 0, .int .i64 0], .int .u8 0, .int .i64 0], []⟩ 8 (by kernel_rfl) (by kernel_rfl) (by kernel_rfl) (by kernel_rfl)) ?_
  intro W base args ds p hval hA
  change ∀ (j : Nat) t v, Try.f7.params[j]? = some t → args[j]? = some v → Value.okWide Try.prog W .any base t v at hval
  change DataW.TrodAll enc Try.prog W 0 (fun _ => true) true Try.f7.params.toList args.toList ds p at hA
  rw [Try.params7] at hA hval
  obtain ⟨v0, vs0, d0, ds0, p0, q0, hargs, rfl, rfl, h0, r0⟩ := trodAll_cons hA
  obtain ⟨v1, vs1, d1, ds1, p1, q1, hargs1, rfl, rfl, h1, r1⟩ := trodAll_cons r0
  obtain ⟨v2, vs2, d2, ds2, p2, q2, hargs2, rfl, rfl, h2, r2⟩ := trodAll_cons r1
  obtain ⟨rfl, rfl, rfl⟩ := trodAll_nil r2
  subst hargs2
  subst hargs1
  obtain rfl : args = #[v0, v1, v2] := by cases args; simp_all
  obtain ⟨c, hI, _⟩ := get_cf (hval 0 25 v0 rfl rfl) h0
  obtain ⟨tn, rfl, htn⟩ := get_u8 Try.underlying5 (hval 1 5 v1 rfl rfl) h1
  obtain ⟨pg, rfl, _, _⟩ := get_i64 Try.underlying3 (hval 2 3 v2 rfl rfl) h2
  exact walk v0 c tn htn pg W hI

theorem over : Rows.confPageRow.holds Try.pinned (OpenSpec.ofChange Rows.confPageSpec) :=
  OpenClaim.holds_of_wide 7 Try.f7 rfl rfl rfl rfl rfl rfl rfl ⟨rfl, rfl, rfl, rfl, rfl⟩ rfl rfl rfl rfl rfl (by kernel_rfl) Try.func7 (by kernel_rfl)
    (of_decide_eq_true (by kernel_rfl)) (by unfold Func.isWrapper; first | (rw [if_pos (by decide +kernel)]; kernel_rfl) | (rw [if_neg (by decide +kernel)]; exact ⟨rfl, rfl⟩))
    (fun os started H enc _ => lifted os started H enc)

/-- The statement. -/
theorem proved : Rows.ConfPageSaid :=
  over
#print axioms proved
end Go.Proofs.Ytlodgbpjeklhpaa.confPage
