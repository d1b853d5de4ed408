/- Whatever the configuration, the tenant and the class, the program answers as the document, or both refuse, and Own tells the same configuration; for every input, no condition. -/
import Derived.Test.YtlodgbpjeklhpaaRowk
import Derived.Test.YtlodgbpjeklhpaaOpc
import Derived.Test.YtlodgbpjeklhpaaAwk
import Derived.Deep.RegionHeld3
namespace Go.Proofs.Ytlodgbpjeklhpaa.confTells
open Go.ChangeShapes Go.WideShapes Go.ChangeAt Go.RowKit Go.Joins

/-- the cells of a boxed configuration, and that all lies as it lay -/
theorem keep6 {w W : World} {a b c d e f : Value} {t : TypeId} (h : Bel (w.alloc (.cells #[a, b, c, d, e, f] t)) W) :
    Bel (w.alloc (.cells #[a, b, c, d, e, f] t)) W ∧ W.cell? ⟨w.heap.size, 0, none⟩ = some a ∧ W.cell? ⟨w.heap.size, 1, none⟩ = some b ∧ W.cell? ⟨w.heap.size, 2, none⟩ = some c ∧ W.cell? ⟨w.heap.size, 3, none⟩ = some d ∧ W.cell? ⟨w.heap.size, 4, none⟩ = some e ∧ W.cell? ⟨w.heap.size, 5, none⟩ = some f :=
  ⟨h, cf_at h⟩

set_option maxRecDepth 100000 in
set_option maxHeartbeats 4000000 in
theorem walk (v : Value) (c : Cf) (t k : Int) (w : World) (h : IsCf w v c) :
    Calls Try.prog 3 #[v, .int .i64 t, .int .i64 k] w fun e w' => e = .returned (.bool true) ∧ Below w.heap.size w w' := by
  have hI := h
  obtain ⟨vc, vt, rfl, hN, hT⟩ := h
  obtain ⟨p1, c1, rfl, _⟩ := nums_slice hN
  obtain ⟨p2, c2, rfl, _⟩ := tens_slice hT
  clear hN hT
  have hb0 : ∀ o, Bel w (w.alloc o) := fun o => (Bel.refl w).alloc o
  have hb := hb0 (.cells #[.slice p1 c.n c1, .int .i64 c.page, .slice p2 c.m c2, .int .i64 c.wk, .int .i64 c.gr, .int .i64 c.gn] 25)
  clear hb0
  have g0 := Bel.refl (w.alloc (.cells #[.slice p1 c.n c1, .int .i64 c.page, .slice p2 c.m c2, .int .i64 c.wk, .int .i64 c.gr, .int .i64 c.gn] 25))
  generalize hwb : w.alloc (.cells #[.slice p1 c.n c1, .int .i64 c.page, .slice p2 c.m c2, .int .i64 c.wk, .int .i64 c.gr, .int .i64 c.gn] 25) = wb at hb
  have hIb := hI.bel hb
  have sm := fun w1 (g : Bel wb w1) => (small_any _ c w1 (hIb.bel g)).mono fun e w' ⟨a, b⟩ => (⟨a, g.trans b⟩ : _ ∧ Bel wb w')
  have aw := fun w1 (g : Bel wb w1) => (awake_any w1).mono fun e w' ⟨a, b⟩ => (⟨a, g.trans b⟩ : _ ∧ Bel wb w')
  by_cases s : c.n ≤ 50 ∧ c.m ≤ 50
  · rw [decide_eq_true s] at sm
    have o1 := fun w1 (g : Bel wb w1) => (pslots_any _ c t k w1 (hIb.bel g)).mono fun e w' ⟨a, b⟩ => (⟨a, g.trans b⟩ : _ ∧ Bel wb w')
    have o2 := fun w1 (g : Bel wb w1) => (rslots_any _ c t k w1 (hIb.bel g)).mono fun e w' ⟨a, b⟩ => (⟨a, g.trans b⟩ : _ ∧ Bel wb w')
    have o3 := fun w1 (g : Bel wb w1) => (ppages_any _ c t k w1 (hIb.bel g)).mono fun e w' ⟨a, b⟩ => (⟨a, g.trans b⟩ : _ ∧ Bel wb w')
    have o4 := fun w1 (g : Bel wb w1) => (rpages_any _ c t k w1 (hIb.bel g)).mono fun e w' ⟨a, b⟩ => (⟨a, g.trans b⟩ : _ ∧ Bel wb w')
    have o5 := fun w1 (g : Bel wb w1) => (preg_any _ c t w1 (hIb.bel g)).mono fun e w' ⟨a, b⟩ => (⟨a, g.trans b⟩ : _ ∧ Bel wb w')
    have o6 := fun w1 (g : Bel wb w1) => (rreg_any _ c t w1 (hIb.bel g)).mono fun e w' ⟨a, b⟩ => (⟨a, g.trans b⟩ : _ ∧ Bel wb w')
    have o7 := fun w1 (g : Bel wb w1) => (pbase_any _ c t w1 (hIb.bel g)).mono fun e w' ⟨a, b⟩ => (⟨a, g.trans b⟩ : _ ∧ Bel wb w')
    have o8 := fun w1 (g : Bel wb w1) => (rbase_any _ c t w1 (hIb.bel g)).mono fun e w' ⟨a, b⟩ => (⟨a, g.trans b⟩ : _ ∧ Bel wb w')
    have o9 := fun w1 (g : Bel wb w1) => (ptot_any _ c w1 (hIb.bel g)).mono fun e w' ⟨a, b⟩ => (⟨a, g.trans b⟩ : _ ∧ Bel wb w')
    have oA := fun w1 (g : Bel wb w1) => (rtot_any _ c w1 (hIb.bel g)).mono fun e w' ⟨a, b⟩ => (⟨a, g.trans b⟩ : _ ∧ Bel wb w')
    have oB := fun w1 (g : Bel wb w1) => (pcheck_any _ c w1 (hIb.bel g)).mono fun e w' ⟨a, b⟩ => (⟨a, g.trans b⟩ : _ ∧ Bel wb w')
    have oC := fun w1 (g : Bel wb w1) => (rck_any _ c w1 (hIb.bel g)).mono fun e w' ⟨a, b⟩ => (⟨a, g.trans b⟩ : _ ∧ Bel wb w')
    have oD := fun w1 (g : Bel wb w1) => (pown_any _ c w1 (hIb.bel g) s.1 s.2).mono fun e w' ⟨v', a, i, b⟩ => (⟨v', a, i, g.trans b⟩ : ∃ v', e = Ending.returned v' ∧ IsCf w' v' c ∧ Bel wb w')
    have oE := fun w1 (g : Bel wb w1) v' (i : IsCf w1 v' c) => (rsame_true v' _ c w1 i (hIb.bel g)).mono fun e w' ⟨a, b⟩ => (⟨a, g.trans b⟩ : _ ∧ Bel wb w')
    clear hI hIb s
    generalize c.slotsR t k = S1 at *
    generalize c.pagesR t k = S2 at *
    generalize c.hasE t k = E1 at *
    generalize c.hasE t 0 = E2 at *
    generalize c.regR t = S3 at *
    generalize c.baseR t = S4 at *
    generalize c.totR = S5 at *
    generalize c.checkC = E3 at *
    subst hwb
    go_enter Try.func3, Try.ntmps3
    go_wp2_with (first
      | (go_at_call 8; refine (sm _ (by assumption)).mono ?_; rintro e w' ⟨rfl, hg1⟩; obtain ⟨k0, k1, k2, k3, k4, k5⟩ := cf_at hg1)
      | (go_at_call 10; refine (o1 _ (by assumption)).mono ?_; rintro e w' ⟨rfl, hg2⟩; obtain ⟨k0, k1, k2, k3, k4, k5⟩ := cf_at hg2)
      | (go_at_call 11; refine (o2 _ (by assumption)).mono ?_; rintro e w' ⟨rfl, hg3⟩; obtain ⟨k0, k1, k2, k3, k4, k5⟩ := cf_at hg3)
      | (go_at_call 12; refine (o3 _ (by assumption)).mono ?_; rintro e w' ⟨rfl, hg4⟩; obtain ⟨k0, k1, k2, k3, k4, k5⟩ := cf_at hg4)
      | (go_at_call 13; refine (o4 _ (by assumption)).mono ?_; rintro e w' ⟨rfl, hg5⟩; obtain ⟨k0, k1, k2, k3, k4, k5⟩ := cf_at hg5))
    go_region_held3 (fun w' => Bel (w.alloc (.cells #[.slice p1 c.n c1, .int .i64 c.page, .slice p2 c.m c2, .int .i64 c.wk, .int .i64 c.gr, .int .i64 c.gn] 25)) w' ∧ w'.cell? ⟨w.heap.size, 0, none⟩ = some (.slice p1 c.n c1) ∧ w'.cell? ⟨w.heap.size, 1, none⟩ = some (.int .i64 c.page) ∧ w'.cell? ⟨w.heap.size, 2, none⟩ = some (.slice p2 c.m c2) ∧ w'.cell? ⟨w.heap.size, 3, none⟩ = some (.int .i64 c.wk) ∧ w'.cell? ⟨w.heap.size, 4, none⟩ = some (.int .i64 c.gr) ∧ w'.cell? ⟨w.heap.size, 5, none⟩ = some (.int .i64 c.gn))
      (first | exact keep6 (by assumption) | exact keep6 (Bel.drew (by assumption)))
      (first
        | (go_at_call 14; refine (oB _ (by first | assumption | exact Bel.drew (by assumption))).mono ?_; rintro e w' ⟨rfl, hg6⟩)
        | (go_at_call 15; refine (oC _ (by first | assumption | exact Bel.drew (by assumption))).mono ?_; rintro e w' ⟨rfl, hg7⟩)
        | (go_at_call 17; refine (oD _ (by first | assumption | exact Bel.drew (by assumption))).mono ?_; rintro e w' ⟨v', rfl, iv, hg8⟩)
        | (go_at_call 16; refine (oE _ (by first | assumption | exact Bel.drew (by assumption)) _ (by first | assumption | exact IsCf.bel iv (by assumption))).mono ?_; rintro e w' ⟨rfl, hg9⟩))
    obtain ⟨k0, k1, k2, k3, k4, k5⟩ := cf_at hg9
    go_wp2_with (first
      | (go_at_call 18; refine (o5 _ (by first | assumption | exact Bel.drew (by assumption))).mono ?_; rintro e w' ⟨rfl, hgA⟩; obtain ⟨k0, k1, k2, k3, k4, k5⟩ := cf_at hgA)
      | (go_at_call 19; refine (o6 _ (by first | assumption | exact Bel.drew (by assumption))).mono ?_; rintro e w' ⟨rfl, hgB⟩; obtain ⟨k0, k1, k2, k3, k4, k5⟩ := cf_at hgB)
      | (go_at_call 20; refine (o7 _ (by first | assumption | exact Bel.drew (by assumption))).mono ?_; rintro e w' ⟨rfl, hgC⟩; obtain ⟨k0, k1, k2, k3, k4, k5⟩ := cf_at hgC)
      | (go_at_call 21; refine (o8 _ (by first | assumption | exact Bel.drew (by assumption))).mono ?_; rintro e w' ⟨rfl, hgD⟩; obtain ⟨k0, k1, k2, k3, k4, k5⟩ := cf_at hgD)
      | (go_at_call 22; refine (o9 _ (by first | assumption | exact Bel.drew (by assumption))).mono ?_; rintro e w' ⟨rfl, hgE⟩; obtain ⟨k0, k1, k2, k3, k4, k5⟩ := cf_at hgE)
      | (go_at_call 23; refine (oA _ (by first | assumption | exact Bel.drew (by assumption))).mono ?_; rintro e w' ⟨rfl, hgF⟩; obtain ⟨k0, k1, k2, k3, k4, k5⟩ := cf_at hgF)
      | (go_at_call 9; refine (aw _ (by first | assumption | exact Bel.drew (by assumption))).mono ?_; rintro e w' ⟨rfl, hgG⟩))
    go_ret
    exact ⟨rfl, hb.trans hgG⟩
  · rw [decide_eq_false s] at sm
    clear hI hIb s
    subst hwb
    go_enter Try.func3, Try.ntmps3
    go_wp2_with (first
      | (go_at_call 8; refine (sm _ (by assumption)).mono ?_; rintro e w' ⟨rfl, hg⟩; obtain ⟨k0, k1, k2, k3, k4, k5⟩ := cf_at hg)
      | (go_at_call 9; refine (aw _ (by assumption)).mono ?_; rintro e w' ⟨rfl, hg2⟩))
    go_ret
    exact ⟨rfl, hb.trans hg2⟩

/-! The row. -/
set_option maxRecDepth 100000 in
theorem lifted (os : Os) (started : os.Started) (H : Type) (enc : TypeId × Value → H) :
    ReturnsInHanded {} Try.checked os 3 .any (Rows.confTellsSpec.pre6 enc Try.prog Try.f3 Rows.confTellsRow.domain false) (Rows.confTellsSpec.post enc Try.prog Try.f3 false true false false) := by
  refine lift_law (C := Try.checked) own started (by kernel_rfl) Try.func3 laid rowed full (by rw [Try.params3]; decide) rfl (by kernel_rfl) Try.underlying4
    (fun ds h => by rw [Try.params3] at h; match ds, h with | [_, _, _], _ => rfl)
    (ChangeSpec.witness6 (enc := enc) (C := Try.checked) false ⟨#[], #[.agg #[.slice none 0 0, .int .i64 0, .slice none 0 0, .int .i64 0, .int .i64 0, .int .i64 0], .int .i64 0, .int .i64 0], []⟩ 8 (by kernel_rfl) (by kernel_rfl) (by kernel_rfl) (by kernel_rfl)) ?_
  intro W base args ds p hval hA
  change ∀ (j : Nat) t v, Try.f3.params[j]? = some t → args[j]? = some v → Value.okWide Try.prog W .any base t v at hval
  change DataW.TrodAll enc Try.prog W 0 (fun _ => true) true Try.f3.params.toList args.toList ds p at hA
  rw [Try.params3] at hA hval
  obtain ⟨v0, vs0, d0, ds0, p0, q0, hargs, rfl, rfl, h0, r0⟩ := trodAll_cons hA
  obtain ⟨v1, vs1, d1, ds1, p1, q1, hargs1, rfl, rfl, h1, r1⟩ := trodAll_cons r0
  obtain ⟨v2, vs2, d2, ds2, p2, q2, hargs2, rfl, rfl, h2, r2⟩ := trodAll_cons r1
  obtain ⟨rfl, rfl, rfl⟩ := trodAll_nil r2
  subst hargs2
  subst hargs1
  obtain rfl : args = #[v0, v1, v2] := by cases args; simp_all
  obtain ⟨c, hI, _⟩ := get_cf (hval 0 25 v0 rfl rfl) h0
  obtain ⟨t, rfl, _, _⟩ := get_i64 Try.underlying3 (hval 1 3 v1 rfl rfl) h1
  obtain ⟨k, rfl, _, _⟩ := get_i64 Try.underlying3 (hval 2 3 v2 rfl rfl) h2
  exact walk v0 c t k W hI

theorem over : Rows.confTellsRow.holds Try.pinned (OpenSpec.ofChange Rows.confTellsSpec) :=
  OpenClaim.holds_of_wide 3 Try.f3 rfl rfl rfl rfl rfl rfl rfl ⟨rfl, rfl, rfl, rfl, rfl⟩ rfl rfl rfl rfl rfl (by kernel_rfl) Try.func3 (by kernel_rfl)
    (of_decide_eq_true (by kernel_rfl)) (by unfold Func.isWrapper; first | (rw [if_pos (by decide +kernel)]; kernel_rfl) | (rw [if_neg (by decide +kernel)]; exact ⟨rfl, rfl⟩))
    (fun os started H enc _ => lifted os started H enc)

/-- The statement. -/
theorem proved : Rows.ConfTellsSaid :=
  over
#print axioms proved
end Go.Proofs.Ytlodgbpjeklhpaa.confTells
