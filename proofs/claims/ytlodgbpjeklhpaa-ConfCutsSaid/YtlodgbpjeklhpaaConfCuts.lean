/- Regions do not touch: each begins where the one ahead of it ends, the last one ends with all words; and a region has, of each class, slots enough for the quota, and fewer than a page's slots more; for every input, no condition. -/
import Derived.Test.YtlodgbpjeklhpaaRowk
import Derived.Test.YtlodgbpjeklhpaaOpc
import Derived.Test.YtlodgbpjeklhpaaAwk
import Derived.Deep.RegionHeld3
namespace Go.Proofs.Ytlodgbpjeklhpaa.confCuts
open Go.ChangeShapes Go.WideShapes Go.ChangeAt Go.RowKit Go.Joins
set_option linter.unusedVariables false

/-- the words of a tenant's first classes -/
def wordsTo (c : Cf) (t j : Nat) : Int := sumTo (fun k => c.pages t k * c.page) j
theorem wordsTo_succ (c : Cf) (t j : Nat) : wordsTo c t (j + 1) = wordsTo c t j + c.pages t j * c.page := rfl

set_option maxRecDepth 100000 in
set_option maxHeartbeats 4000000 in
theorem walk_ok (p1 p2 : Option Addr) (c1 c2 : Nat) (c : Cf) (w : World) (hI : IsCf w (.agg #[.slice p1 c.n c1, .int .i64 c.page, .slice p2 c.m c2, .int .i64 c.wk, .int .i64 c.gr, .int .i64 c.gn]) c) (ok : c.ok)
    (hN : ∀ k, k < c.n → ∃ b off, p1 = some ⟨b, off, none⟩ ∧ w.cell? ⟨b, off + k, none⟩ = some (.int .i64 (c.F k))) (hT : ∀ k, k < c.m → ∃ b off, p2 = some ⟨b, off, none⟩ ∧ Ten w b (off + k * 4) (c.Q k) (c.Tr k) (c.Cp k) (c.As k)) :
    Calls Try.prog 4 #[.agg #[.slice p1 c.n c1, .int .i64 c.page, .slice p2 c.m c2, .int .i64 c.wk, .int .i64 c.gr, .int .i64 c.gn]] w fun e w' => e = .returned (.bool true) ∧ Bel w w' := by
  have hb0 : ∀ o, Bel w (w.alloc o) := fun o => (Bel.refl w).alloc o
  have hb := hb0 (.cells #[.slice p1 c.n c1, .int .i64 c.page, .slice p2 c.m c2, .int .i64 c.wk, .int .i64 c.gr, .int .i64 c.gn] 25)
  clear hb0
  have g0 := Bel.refl (w.alloc (.cells #[.slice p1 c.n c1, .int .i64 c.page, .slice p2 c.m c2, .int .i64 c.wk, .int .i64 c.gr, .int .i64 c.gn] 25))
  generalize hwb : w.alloc (.cells #[.slice p1 c.n c1, .int .i64 c.page, .slice p2 c.m c2, .int .i64 c.wk, .int .i64 c.gr, .int .i64 c.gn] 25) = wb at hb
  have hIb := hI.bel hb
  have sm := fun w1 (g : Bel wb w1) => (small_any _ c w1 (hIb.bel g)).mono fun e w' ⟨a, b⟩ => (⟨a, g.trans b⟩ : _ ∧ Bel wb w')
  have aw := fun w1 (g : Bel wb w1) => (awake_any w1).mono fun e w' ⟨a, b⟩ => (⟨a, g.trans b⟩ : _ ∧ Bel wb w')
  have n8 := Cf.ok_n ok
  have m8 := Cf.ok_m ok
  obtain ⟨pg1, pg2, _⟩ := Cf.ok_page ok
  rw [decide_eq_true (show c.n ≤ 50 ∧ c.m ≤ 50 by omega)] at sm
  have o1 := fun w1 (g : Bel wb w1) => (pcheck_any _ c w1 (hIb.bel g)).mono fun e w' ⟨a, b⟩ => (⟨a, g.trans b⟩ : _ ∧ Bel wb w')
  have o2 := fun w1 (g : Bel wb w1) => (ptot_any _ c w1 (hIb.bel g)).mono fun e w' ⟨a, b⟩ => (⟨a, g.trans b⟩ : _ ∧ Bel wb w')
  rw [Cf.checkC_ok ok] at o1 o2
  rw [Cf.totR_ok ok] at o2
  have hid := Lib.hid (And.intro hIb (And.intro ok (And.intro hN hT)))
  have hidb := Lib.hid hb
  clear hI hIb ok hN hT
  subst hwb
  go_enter Try.func4, Try.ntmps4
  go_wp2_with (first
    | (go_at_call 8; refine (sm _ (by assumption)).mono ?_; rintro e w' ⟨rfl, hg1⟩; obtain ⟨k0, k1, k2, k3, k4, k5⟩ := cf_at hg1)
    | (go_at_call 14; refine (o1 _ (by assumption)).mono ?_; rintro e w' ⟨rfl, hg2⟩; obtain ⟨k0, k1, k2, k3, k4, k5⟩ := cf_at hg2))
  clear k0 k1 k2 k3 k4 k5
  go_loopw [3, 4] (fun a i wr => ∃ t : Nat, t ≤ c.m ∧ i = .int .i64 (t : Nat) ∧ a = .int .i64 (c.base t) ∧ Bel (w.alloc (.cells #[.slice p1 c.n c1, .int .i64 c.page, .slice p2 c.m c2, .int .i64 c.wk, .int .i64 c.gr, .int .i64 c.gn] 25)) wr) (fun _ i _ => c.m - (intOf i).toNat)
  case atStart => exact ⟨0, Nat.zero_le _, rfl, rfl, hg2⟩
  case round =>
    obtain ⟨t, ht, rfl, rfl, hbr⟩ := hrel
    clear hg1 hg2 g0
    obtain ⟨k0, k1, k2, k3, k4, k5⟩ := cf_at hbr
    by_cases ct : t < c.m
    · obtain ⟨hIb, ok, hN, hT⟩ := hid.out
      have hz := Cf.has_zero ok ct
      have oB := fun w1 g => (pbase_any _ c t w1 (hIb.bel g)).mono fun e w' ⟨a, b⟩ => (⟨a, g.trans b⟩ : _ ∧ Bel _ w')
      have oR := fun w1 g => (preg_any _ c t w1 (hIb.bel g)).mono fun e w' ⟨a, b⟩ => (⟨a, g.trans b⟩ : _ ∧ Bel _ w')
      rw [Cf.hasE_ok hz] at oB oR
      rw [Cf.baseR_ok hz, Int.toNat_natCast] at oB
      rw [Cf.regR_ok hz, Int.toNat_natCast, show c.region t = wordsTo c t c.n from rfl] at oR
      obtain ⟨x1, x2⟩ := Cf.base_bd ok ht
      have tI : (t : Int) < (c.m : Int) := by omega
      have t0 : (0 : Int) ≤ (t : Int) := by omega
      clear hIb ok hN hT hz
      go_wp2_with (first
        | (go_at_call 20; refine (oB _ (by assumption)).mono ?_; rintro e w' ⟨rfl, hg3⟩; obtain ⟨k0, k1, k2, k3, k4, k5⟩ := cf_at hg3)
        | (go_at_call 18; refine (oR _ (by assumption)).mono ?_; rintro e w' ⟨rfl, hg4⟩; obtain ⟨k0, k1, k2, k3, k4, k5⟩ := cf_at hg4))
      clear k0 k1 k2 k3 k4 k5
      go_loopw [9, 10] (fun a i wr => ∃ k : Nat, k ≤ c.n ∧ i = .int .i64 (k : Nat) ∧ a = .int .i64 (wordsTo c t k) ∧ Bel (w.alloc (.cells #[.slice p1 c.n c1, .int .i64 c.page, .slice p2 c.m c2, .int .i64 c.wk, .int .i64 c.gr, .int .i64 c.gn] 25)) wr) (fun _ i _ => c.n - (intOf i).toNat)
      case atStart => exact ⟨0, Nat.zero_le _, rfl, rfl, hg4⟩
      case round =>
        obtain ⟨k, hk, rfl, rfl, hbr2⟩ := hrel
        clear hg3 hg4 hbr
        obtain ⟨k0, k1, k2, k3, k4, k5⟩ := cf_at hbr2
        by_cases ck : k < c.n
        · obtain ⟨hIb, ok, hN, hT⟩ := hid.out
          obtain ⟨bb, oo, rfl, cF⟩ := hN k ck
          obtain ⟨bb2, oo2, rfl, cT⟩ := hT t ct
          have cF0 := cell_bel hidb.out cF
          have cQ0 := cell_bel hidb.out cT.1
          have hz := Cf.has_of ok ct ck
          have oS := fun w1 g => (pslots_any _ c t k w1 (hIb.bel g)).mono fun e w' ⟨a, b⟩ => (⟨a, g.trans b⟩ : _ ∧ Bel _ w')
          have oP := fun w1 g => (ppages_any _ c t k w1 (hIb.bel g)).mono fun e w' ⟨a, b⟩ => (⟨a, g.trans b⟩ : _ ∧ Bel _ w')
          rw [Cf.hasE_ok hz] at oS oP
          rw [Cf.slotsR_ok hz, Int.toNat_natCast, Int.toNat_natCast] at oS
          rw [Cf.pagesR_ok hz, Int.toNat_natCast, Int.toNat_natCast] at oP
          obtain ⟨f1, f2, _⟩ := Cf.ok_F ok ck
          obtain ⟨q1, q2, _⟩ := Cf.ok_Q ok ct
          obtain ⟨s1, s2, s3, s4⟩ := Cf.slots_bd ok ct ck
          obtain ⟨e1, e2, _⟩ := Cf.each_bd ok ck
          obtain ⟨z1, z2, z3, z4⟩ := Cf.pages_bd ok ct ck
          obtain ⟨y1, y2⟩ := Cf.words_bd ok ct ck
          obtain ⟨v1, v2⟩ := Cf.region_to ok ct hk
          have eE : c.page / c.F k = c.each k := rfl
          have hS := wordsTo_succ c t k
          have kI : (k : Int) < (c.n : Int) := by omega
          have kz : (0 : Int) ≤ (k : Int) := by omega
          change 0 ≤ wordsTo c t k at v1
          change wordsTo c t k ≤ 2097152 at v2
          have hidS := Lib.hid hS
          clear hIb ok hN hT hz cF cT hS oB oR
          rw [Int.sub_mul, Int.one_mul] at z4
          have X2 : (c.slots t k + 1) * c.F k = c.slots t k * c.F k + c.F k := by rw [Int.add_mul, Int.one_mul]
          generalize wordsTo c t k = V at *
          generalize c.pages t k = P at *
          generalize c.slots t k = S at *
          generalize c.each k = E at *
          generalize c.F k = f at *
          generalize c.Q t = q at *
          generalize hPG : P * c.page = PG at *
          have W64 : ∀ x : Int, 0 ≤ x → x ≤ 100000 → IntKind.i64.wrap x = x := fun x h1 h2 => by rw [IntKind.wrap_i64]; omega
          generalize hX1 : S * f = x1' at *
          generalize hX2 : (S + 1) * f = x2' at *
          generalize hX3 : P * E = x3' at *
          have eW : IntKind.i64.wrap (c.page.tdiv f) = E := by rw [Int.tdiv_eq_ediv_of_nonneg (by omega), eE, IntKind.wrap_i64]; omega
          obtain ⟨i1, j1⟩ : ∃ i, IntKind.i64.wrap x1' = i := ⟨_, rfl⟩
          obtain ⟨i2, j2⟩ : ∃ i, IntKind.i64.wrap x2' = i := ⟨_, rfl⟩
          obtain ⟨i3, j3⟩ : ∃ i, IntKind.i64.wrap x3' = i := ⟨_, rfl⟩
          obtain ⟨i4, j4⟩ : ∃ i, IntKind.i64.wrap (S + E) = i := ⟨_, rfl⟩
          obtain ⟨i5, j5⟩ : ∃ i, IntKind.i64.wrap (S + 1) = i := ⟨_, rfl⟩
          have l1 := W64 x1' (by omega) (by omega)
          have l2 := W64 x2' (by omega) (by omega)
          have l3 := W64 x3' (by omega) (by omega)
          have l4 := W64 (S + E) (by omega) (by omega)
          have l5 := W64 (S + 1) (by omega) (by omega)
          rw [j1] at l1
          rw [j2] at l2
          rw [j3] at l3
          rw [j4] at l4
          rw [j5] at l5
          rw [← l5] at hX2
          have d1 : decide (q < i1) = false := decide_eq_false (by omega)
          have d2 : decide (i2 ≤ q) = false := decide_eq_false (by omega)
          have d3 : decide (i3 < S) = false := decide_eq_false (by omega)
          have d4 : decide (i4 ≤ i3) = false := decide_eq_false (by omega)
          clear W64 l1 l2 l3 l4 l5 X2 s3 s4 z3 z4
          go_wp2_with (first
            | (go_at_call 10; refine (oS _ (by assumption)).mono ?_; rintro e w' ⟨rfl, hg5⟩; obtain ⟨k0, k1, k2, k3, k4, k5⟩ := cf_at hg5)
            | (go_at_call 12; refine (oP _ (by assumption)).mono ?_; rintro e w' ⟨rfl, hg6⟩; obtain ⟨k0, k1, k2, k3, k4, k5⟩ := cf_at hg6; have cF1 := cell_bel hg6 cF0; have cQ1 := cell_bel hg6 cQ0))
          go_quiet (fail)
          go_wp2
          go_quiet (fail)
          go_wp2
          go_roundw
          case rel => exact ⟨k + 1, by omega, by go_num, by rw [hidS.out], hg6.then_drewN _⟩
          case measure => simp only [intOf]; omega
        · obtain rfl : k = c.n := by omega
          obtain ⟨_, ok, _, _⟩ := hid.out
          obtain ⟨v1, v2⟩ := Cf.region_bd ok ct
          have hS := Cf.base_succ c t
          have hidS := Lib.hid hS
          change 0 ≤ wordsTo c t c.n at v1
          change wordsTo c t c.n ≤ 2097152 at v2
          clear ok hS
          go_wp2
          go_roundw
          case rel => exact ⟨t + 1, by omega, by go_num, by rw [hidS.out]; rfl, hbr2⟩
          case measure => simp only [intOf]; omega
    · obtain rfl : t = c.m := by omega
      go_wp2_with (first
        | (go_at_call 22; refine (o2 _ (by assumption)).mono ?_; rintro e w' ⟨rfl, hg3⟩)
        | (go_at_call 9; refine (aw _ (by assumption)).mono ?_; rintro e w' ⟨rfl, hg4⟩))
      go_ret
      exact ⟨rfl, hb.trans hg4⟩

set_option maxRecDepth 100000 in
set_option maxHeartbeats 2000000 in
theorem walk (v : Value) (c : Cf) (w : World) (h : IsCf w v c) :
    Calls Try.prog 4 #[v] w fun e w' => e = .returned (.bool true) ∧ Below w.heap.size w w' := by
  have hI := h
  obtain ⟨vc, vt, rfl, hN, hT⟩ := h
  obtain ⟨p1, c1, rfl, _, hN⟩ := nums_at hN
  obtain ⟨p2, c2, rfl, _, hT⟩ := tens_at hT
  by_cases ok : c.ok
  · exact walk_ok p1 p2 c1 c2 c w hI ok hN hT
  · clear hN hT
    have hb0 : ∀ o, Bel w (w.alloc o) := fun o => (Bel.refl w).alloc o
    have hb := hb0 (.cells #[.slice p1 c.n c1, .int .i64 c.page, .slice p2 c.m c2, .int .i64 c.wk, .int .i64 c.gr, .int .i64 c.gn] 25)
    clear hb0
    have g0 := Bel.refl (w.alloc (.cells #[.slice p1 c.n c1, .int .i64 c.page, .slice p2 c.m c2, .int .i64 c.wk, .int .i64 c.gr, .int .i64 c.gn] 25))
    have g1 : ∀ o, Bel (w.alloc (.cells #[.slice p1 c.n c1, .int .i64 c.page, .slice p2 c.m c2, .int .i64 c.wk, .int .i64 c.gr, .int .i64 c.gn] 25)) ((w.alloc (.cells #[.slice p1 c.n c1, .int .i64 c.page, .slice p2 c.m c2, .int .i64 c.wk, .int .i64 c.gr, .int .i64 c.gn] 25)).alloc o) := fun o => g0.alloc o
    generalize hwb : w.alloc (.cells #[.slice p1 c.n c1, .int .i64 c.page, .slice p2 c.m c2, .int .i64 c.wk, .int .i64 c.gr, .int .i64 c.gn] 25) = wb at hb
    have hIb := hI.bel hb
    have sm := fun w1 (g : Bel wb w1) => (small_any _ c w1 (hIb.bel g)).mono fun e w' ⟨a, b⟩ => (⟨a, g.trans b⟩ : _ ∧ Bel wb w')
    have aw := fun w1 (g : Bel wb w1) => (awake_any w1).mono fun e w' ⟨a, b⟩ => (⟨a, g.trans b⟩ : _ ∧ Bel wb w')
    have ch := fun w1 (g : Bel wb w1) => (pcheck_any _ c w1 (hIb.bel g)).mono fun e w' ⟨a, b⟩ => (⟨a, g.trans b⟩ : _ ∧ Bel wb w')
    rw [Cf.checkC_no ok] at ch
    by_cases s : c.n ≤ 50 ∧ c.m ≤ 50
    · rw [decide_eq_true s] at sm
      clear hI hIb s ok
      subst hwb
      go_enter Try.func4, Try.ntmps4
      go_wp2_with (first
        | (go_at_call 8; refine (sm _ (by first | assumption | exact g1 _)).mono ?_; rintro e w' ⟨rfl, hg⟩; obtain ⟨k0, k1, k2, k3, k4, k5⟩ := cf_at hg)
        | (go_at_call 14; refine (ch _ (by assumption)).mono ?_; rintro e w' ⟨rfl, hg1⟩)
        | (go_at_call 9; refine (aw _ (by assumption)).mono ?_; rintro e w' ⟨rfl, hg2⟩))
      go_ret
      exact ⟨rfl, hb.trans hg2⟩
    · rw [decide_eq_false s] at sm
      clear hI hIb s ok
      subst hwb
      go_enter Try.func4, Try.ntmps4
      go_wp2_with (first
        | (go_at_call 8; refine (sm _ (by first | assumption | exact g1 _)).mono ?_; rintro e w' ⟨rfl, hg⟩; obtain ⟨k0, k1, k2, k3, k4, k5⟩ := cf_at hg)
        | (go_at_call 9; refine (aw _ (by assumption)).mono ?_; rintro e w' ⟨rfl, hg2⟩))
      go_ret
      exact ⟨rfl, hb.trans hg2⟩

/-! The row. -/
set_option maxRecDepth 100000 in
theorem lifted (os : Os) (started : os.Started) (H : Type) (enc : TypeId × Value → H) :
    ReturnsInHanded {} Try.checked os 4 .any (Rows.confCutsSpec.pre6 enc Try.prog Try.f4 Rows.confCutsRow.domain false) (Rows.confCutsSpec.post enc Try.prog Try.f4 false true false false) := by
  refine lift_law (C := Try.checked) own started (by kernel_rfl) Try.func4 laid rowed full (by rw [Try.params4]; decide) rfl (by kernel_rfl) Try.underlying4
    (fun ds h => by rw [Try.params4] at h; match ds, h with | [_], _ => rfl)
    (ChangeSpec.witness6 (enc := enc) (C := Try.checked) false ⟨#[], #[.agg #[.slice none 0 0, .int .i64 0, .slice none 0 0, .int .i64 0, .int .i64 0, .int .i64 0]], []⟩ 8 (by kernel_rfl) (by kernel_rfl) (by kernel_rfl) (by kernel_rfl)) ?_
  intro W base args ds p hval hA
  change ∀ (j : Nat) t v, Try.f4.params[j]? = some t → args[j]? = some v → Value.okWide Try.prog W .any base t v at hval
  change DataW.TrodAll enc Try.prog W 0 (fun _ => true) true Try.f4.params.toList args.toList ds p at hA
  rw [Try.params4] at hA hval
  obtain ⟨v0, vs0, d0, ds0, p0, q0, hargs, rfl, rfl, h0, r0⟩ := trodAll_cons hA
  obtain ⟨rfl, rfl, rfl⟩ := trodAll_nil r0
  obtain rfl : args = #[v0] := by cases args; simp_all
  obtain ⟨c, hI, _⟩ := get_cf (hval 0 25 v0 rfl rfl) h0
  exact walk v0 c W hI

theorem over : Rows.confCutsRow.holds Try.pinned (OpenSpec.ofChange Rows.confCutsSpec) :=
  OpenClaim.holds_of_wide 4 Try.f4 rfl rfl rfl rfl rfl rfl rfl ⟨rfl, rfl, rfl, rfl, rfl⟩ rfl rfl rfl rfl rfl (by kernel_rfl) Try.func4 (by kernel_rfl)
    (of_decide_eq_true (by kernel_rfl)) (by unfold Func.isWrapper; first | (rw [if_pos (by decide +kernel)]; kernel_rfl) | (rw [if_neg (by decide +kernel)]; exact ⟨rfl, rfl⟩))
    (fun os started H enc _ => lifted os started H enc)

/-- The statement. -/
theorem proved : Rows.ConfCutsSaid :=
  over
#print axioms proved
end Go.Proofs.Ytlodgbpjeklhpaa.confCuts
