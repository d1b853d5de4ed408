/- Compare is an order, and where no NaN is, Equal is its 0, but of the two zeros, for any three words. -/
import Derived.Test.YtagempkaophnaaaRows
import Derived.Test.YtagempkaophnaaaOrd
import Derived.Test.YtagempkaophnaaaFacts
import Derived.WalkKit
import Derived.ProofKit
import Derived.OpenShut
namespace Go.Proofs.Ytagempkaophnaaa.realOrder
open Go.ChangeShapes Go.WideShapes Go.ChangeAt Go.RowKit
set_option linter.unusedVariables false      -- a walk need not use every 'w<i>' (that an integer argument fits its kind)

theorem own : ownKnob Try.prog.godebug = none := by kernel_rfl

/-! The walk. -/
set_option maxHeartbeats 2000000 in
theorem walk (a0 : Int) (a1 : Int) (a2 : Int) (w0 : (Lit.int .u64 a0).wf = true) (w1 : (Lit.int .u64 a1).wf = true) (w2 : (Lit.int .u64 a2).wf = true) (w : World) :
    Calls Try.prog 7 #[.int .u64 a0, .int .u64 a1, .int .u64 a2] w fun e w' => e = .returned (.bool true) ∧ Grown w w' := by
  obtain ⟨h0, h1⟩ := wf_ubd w0
  obtain ⟨g0, g1⟩ := wf_ubd w1
  obtain ⟨f0, f1⟩ := wf_ubd w2
  have c1 := fun w => compare_any a0 a1 w h0 h1 g0 g1
  have c2 := fun w => compare_any a1 a2 w g0 g1 f0 f1
  have c3 := fun w => compare_any a0 a2 w h0 h1 f0 f1
  have c4 := fun w => compare_any a1 a0 w g0 g1 h0 h1
  have c5 := fun w => compare_any a0 a0 w h0 h1 h0 h1
  have c6 := fun w => rkind_any a0 w h0 h1
  have c7 := fun w => rkind_any a1 w g0 g1
  have c8 := fun w => equal_any a0 a1 w
  have la : a0.toNat < 18446744073709551616 := by omega
  have lb : a1.toNat < 18446744073709551616 := by omega
  have hk := order_kinds la lb
  have inj := rk_inj (canonN_lt la) (canonN_lt lb)
  unfold cmpN at c1 c2 c3 c4 c5
  rw [cmpI_eq rfl] at c5
  generalize eqN a0.toNat a1.toNat = E at *
  generalize kindN a0.toNat = k at *
  generalize kindN a1.toNat = j at *
  generalize sgn a0.toNat = s1 at *
  generalize sgn a1.toNat = s2 at *
  generalize canonN a0.toNat = A at *
  generalize canonN a1.toNat = B at *
  generalize rk A = p at *
  generalize rk B = q at *
  generalize rk (canonN a2.toNat) = r at *
  rcases Int.lt_trichotomy p q with o | o | o
  · have ne : ¬ A = B := fun g => by have := inj.2 g; omega
    have hk' : ((k == 0) = true ∧ (k == j) = false ∧ E = false) ∨ ((k == 0) = false ∧ (j == 0) = true ∧ (k == j) = false ∧ E = false) ∨ ((k == 0) = false ∧ (j == 0) = false ∧ ((k == 4) = false ∧ E = false ∨ (k == 4) = true ∧ (j == 4) = false ∧ E = false ∨ (k == 4) = true ∧ (j == 4) = true ∧ E = true)) := by
      rcases hk with ⟨x1, x2, x3⟩ | ⟨x1, x2, x3, x4⟩ | ⟨x1, x2, _, x4⟩
      · exact Or.inl ⟨x1, x2.trans (decide_eq_false ne), x3⟩
      · exact Or.inr (Or.inl ⟨x1, x2, x3.trans (decide_eq_false ne), x4⟩)
      · exact Or.inr (Or.inr ⟨x1, x2, x4 ne⟩)
    rw [cmpI_lt o] at c1
    rw [cmpI_gt o] at c4
    rcases Int.lt_trichotomy q r with u | u | u
    · rw [cmpI_lt u] at c2
      rw [cmpI_lt (by omega)] at c3
      exact ord_mc a0 a1 a2 k j s1 s2 E w c1 c2 c3 c4 c5 c6 c7 c8 hk'
    · rw [cmpI_eq u] at c2
      rw [cmpI_lt (by omega)] at c3
      exact ord_mb a0 a1 a2 k j s1 s2 E w c1 c2 c3 c4 c5 c6 c7 c8 hk'
    · rw [cmpI_gt u] at c2
      exact ord_ma a0 a1 a2 _ k j s1 s2 E w c1 c2 c3 c4 c5 c6 c7 c8 hk'
  · have eq : A = B := inj.1 o
    have hk' : ((k == 0) = true ∧ (k == j) = true ∧ E = false) ∨ ((k == 0) = false ∧ (j == 0) = true ∧ (k == j) = true ∧ E = false) ∨ ((k == 0) = false ∧ (j == 0) = false ∧ E = true) := by
      rcases hk with ⟨x1, x2, x3⟩ | ⟨x1, x2, x3, x4⟩ | ⟨x1, x2, x3, _⟩
      · exact Or.inl ⟨x1, x2.trans (decide_eq_true eq), x3⟩
      · exact Or.inr (Or.inl ⟨x1, x2, x3.trans (decide_eq_true eq), x4⟩)
      · exact Or.inr (Or.inr ⟨x1, x2, x3 eq⟩)
    rw [cmpI_eq o] at c1
    rw [cmpI_eq o.symm] at c4
    rcases Int.lt_trichotomy q r with u | u | u
    · rw [cmpI_lt u] at c2
      rw [cmpI_lt (by omega)] at c3
      exact ord_zc a0 a1 a2 k j s1 s2 E w c1 c2 c3 c4 c5 c6 c7 c8 hk'
    · rw [cmpI_eq u] at c2
      rw [cmpI_eq (by omega)] at c3
      exact ord_zb a0 a1 a2 k j s1 s2 E w c1 c2 c3 c4 c5 c6 c7 c8 hk'
    · rw [cmpI_gt u] at c2
      exact ord_za a0 a1 a2 _ k j s1 s2 E w c1 c2 c3 c4 c5 c6 c7 c8 hk'
  · have ne : ¬ A = B := fun g => by have := inj.2 g; omega
    have hk' : ((k == 0) = true ∧ (k == j) = false ∧ E = false) ∨ ((k == 0) = false ∧ (j == 0) = true ∧ (k == j) = false ∧ E = false) ∨ ((k == 0) = false ∧ (j == 0) = false ∧ ((k == 4) = false ∧ E = false ∨ (k == 4) = true ∧ (j == 4) = false ∧ E = false ∨ (k == 4) = true ∧ (j == 4) = true ∧ E = true)) := by
      rcases hk with ⟨x1, x2, x3⟩ | ⟨x1, x2, x3, x4⟩ | ⟨x1, x2, _, x4⟩
      · exact Or.inl ⟨x1, x2.trans (decide_eq_false ne), x3⟩
      · exact Or.inr (Or.inl ⟨x1, x2, x3.trans (decide_eq_false ne), x4⟩)
      · exact Or.inr (Or.inr ⟨x1, x2, x4 ne⟩)
    rw [cmpI_gt o] at c1
    rw [cmpI_lt o] at c4
    exact ord_p a0 a1 a2 _ _ k j s1 s2 E w c1 c2 c3 c4 c5 c6 c7 c8 hk'

/-! The row. -/
set_option maxRecDepth 100000 in
theorem lifted (os : Os) (started : os.Started) (H : Type) (enc : TypeId × Value → H) :
    ReturnsInHanded {} Try.checked os 7 .any (Rows.realOrderSpec.pre6 enc Try.prog Try.f7 Rows.realOrderRow.domain false) (Rows.realOrderSpec.post enc Try.prog Try.f7 false true false false) := by
  refine returnsInHanded_of_change (C := Try.checked) own started (by kernel_rfl) Try.func7
    (ChangeSpec.witness6 (enc := enc) (C := Try.checked) false ⟨#[], #[.int .u64 0, .int .u64 0, .int .u64 0], []⟩ 8 (by kernel_rfl) (by kernel_rfl) (by kernel_rfl) (by kernel_rfl)) ?_
  intro W base args ds gs before hval0 hW hcnd _
  have hval : ∀ (j : Nat) t v, Try.f7.params[j]? = some t → args[j]? = some v → Value.okWide Try.prog W .any base t v := hval0
  have hW' := hW
  obtain ⟨p, q, hA0, hV, rfl, hfz, hnd⟩ := hW
  have hA : DataW.TrodAll enc Try.prog W 0 (fun _ => true) true Try.f7.params.toList args.toList ds p := hA0
  rw [Try.params7] at hA hval
  obtain ⟨v0, vs0, d0, ds0, p0, q0, hargs, rfl, rfl, h0, r0⟩ := trodAll_cons hA
  obtain ⟨v1, vs1, d1, ds1, p1, q1, rfl, rfl, rfl, h1, r1⟩ := trodAll_cons r0
  obtain ⟨v2, vs2, d2, ds2, p2, q2, rfl, rfl, rfl, h2, r2⟩ := trodAll_cons r1
  obtain ⟨rfl, rfl, rfl⟩ := trodAll_nil r2
  obtain rfl : args = #[v0, v1, v2] := by cases args; simp_all
  obtain ⟨rfl, rfl⟩ := trodVars_none hV
  obtain ⟨a0, rfl, rfl, rfl, w0⟩ := open_int Try.underlying22 (hval 0 22 v0 rfl rfl) h0
  obtain ⟨a1, rfl, rfl, rfl, w1⟩ := open_int Try.underlying22 (hval 1 22 v1 rfl rfl) h1
  obtain ⟨a2, rfl, rfl, rfl, w2⟩ := open_int Try.underlying22 (hval 2 22 v2 rfl rfl) h2
  clear hA0 hval0
  simp only [List.append_nil] at hW'
  refine (walk a0 a1 a2 w0 w1 w2 W).mono fun e W' ⟨he, hg⟩ => ?_
  subst he
  exact ⟨_, rfl, post_of_same (pa := []) (pv := []) hW' (fun _ _ _ => (trodAll_cons_mk (shut_bool Try.underlying4 _) trodAll_mk0)) (fun sp _ => (trodAll_cons_mk (shut_int Try.underlying22 w0) (trodAll_cons_mk (shut_int Try.underlying22 w1) (trodAll_cons_mk (shut_int Try.underlying22 w2) trodAll_mk0)))) (fun _ _ => rfl) rfl
    (hg.frame _) hg.2.1 (ok_one (by kernel_rfl) rfl (okWide_bool_mk Try.underlying4 _))⟩

theorem over : Rows.realOrderRow.holds Try.pinned (OpenSpec.ofChange Rows.realOrderSpec) :=
  OpenClaim.holds_of_wide 7 Try.f7 rfl rfl rfl rfl rfl rfl rfl ⟨rfl, rfl, rfl, rfl, rfl⟩ rfl rfl rfl rfl rfl (by kernel_rfl) Try.func7 (by kernel_rfl)
    (of_decide_eq_true (by kernel_rfl)) (by unfold Func.isWrapper; first | (rw [if_pos (by decide +kernel)]; kernel_rfl) | (rw [if_neg (by decide +kernel)]; exact ⟨rfl, rfl⟩))
    (fun os started H enc _ => lifted os started H enc)

/-- The statement. -/
theorem proved : Rows.RealOrderSaid :=
  over
#print axioms proved
end Go.Proofs.Ytagempkaophnaaa.realOrder
