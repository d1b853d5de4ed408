/- For any three int64s: of greater counts the sum, the product and a seventh of it are not less, of a greater first one the difference is not less, of a greater second one not more; no condition. -/
import Derived.Test.YtclfpmmiplandaaMore
import Derived.Test.YtclfpmmiplandaaAwake
import Derived.WalkKit
import Derived.ProofKit
import Derived.OpenShut
namespace Go.Proofs.Ytclfpmmiplandaa.satRises
open Go.ChangeShapes Go.WideShapes Go.ChangeAt Go.RowKit
set_option linter.unusedVariables false      -- a walk need not use every 'w<i>' (that an integer argument fits its kind)

theorem own : ownKnob Try.prog.godebug = none := by kernel_rfl

/-! The walk. -/
set_option maxHeartbeats 2000000 in
theorem walk (a0 : Int) (a1 : Int) (a2 : Int) (w0 : (Lit.int .i64 a0).wf = true) (w1 : (Lit.int .i64 a1).wf = true) (w2 : (Lit.int .i64 a2).wf = true) (w : World) :
    Calls Try.prog 6 #[.int .i64 a0, .int .i64 a1, .int .i64 a2] w fun e w' => e = .returned (.bool true) ∧ Grown w w' := by
  obtain ⟨l0, u0⟩ := wf_bd w0
  obtain ⟨l1, u1⟩ := wf_bd w1
  obtain ⟨l2, u2⟩ := wf_bd w2
  have c1 := fun w => clip_any (min a0 a1) w (by omega) (by omega)
  have c2 := fun w => clip_any (max a0 a1) w (by omega) (by omega)
  have c3 := fun w => clip_any a2 w l2 u2
  obtain ⟨bx0, bx1⟩ := cnt_bd (min a0 a1)
  obtain ⟨by0, by1⟩ := cnt_bd (max a0 a1)
  obtain ⟨bz0, bz1⟩ := cnt_bd a2
  have m1 : cnt (min a0 a1) ≤ cnt (max a0 a1) := cnt_mono (by omega)
  generalize cnt (min a0 a1) = x at *
  generalize cnt (max a0 a1) = y at *
  generalize cnt a2 = z at *
  obtain ⟨s1, s2, p1, p2, d1, d2, e1, e2, k1, k2, A1, A2, M1, M2, S1, S2, S3, S4, K1, K2, i1, i2, i3, i4, i5⟩ := rises_core x y z m1 bx0 by1 bz0 bz1
  go_enter Try.func6, Try.ntmps6
  go_wp2_with (first
    | (go_at_call 11; ((with_reducible refine (c1 _).mono ?_); rintro e w' ⟨rfl, hw⟩; rw [hw]))
    | (go_at_call 11; ((with_reducible refine (c2 _).mono ?_); rintro e w' ⟨rfl, hw⟩; rw [hw]))
    | (go_at_call 11; ((with_reducible refine (c3 _).mono ?_); rintro e w' ⟨rfl, hw⟩; rw [hw]))
    | (go_at_call 13; ((with_reducible refine (A1 _).mono ?_); rintro e w' ⟨rfl, hw⟩; rw [hw]))
    | (go_at_call 13; ((with_reducible refine (A2 _).mono ?_); rintro e w' ⟨rfl, hw⟩; rw [hw]))
    | (go_at_call 15; ((with_reducible refine (S1 _).mono ?_); rintro e w' ⟨rfl, hw⟩; rw [hw]))
    | (go_at_call 15; ((with_reducible refine (S2 _).mono ?_); rintro e w' ⟨rfl, hw⟩; rw [hw]))
    | (go_at_call 15; ((with_reducible refine (S3 _).mono ?_); rintro e w' ⟨rfl, hw⟩; rw [hw]))
    | (go_at_call 15; ((with_reducible refine (S4 _).mono ?_); rintro e w' ⟨rfl, hw⟩; rw [hw]))
    | (go_at_call 18; ((with_reducible refine (M1 _).mono ?_); rintro e w' ⟨rfl, hg⟩))
    | (go_at_call 18; ((with_reducible refine (M2 _).mono ?_); rintro e w' ⟨rfl, hg⟩))
    | (go_at_call 20; ((with_reducible refine (K1 _).mono ?_); rintro e w' ⟨rfl, hg⟩))
    | (go_at_call 20; ((with_reducible refine (K2 _).mono ?_); rintro e w' ⟨rfl, hg⟩))
    | (go_at_call 17; refine (awake_any _).mono ?_; rintro e w' ⟨rfl, hg⟩))
  all_goals
    go_ret
    refine ⟨rfl, ?_⟩
    repeat (first | assumption | exact Grown.refl _ | refine grown_trans ?_ (by assumption))

/-! The row. -/
set_option maxRecDepth 100000 in
theorem lifted (os : Os) (started : os.Started) (H : Type) (enc : TypeId × Value → H) :
    ReturnsInHanded {} Try.checked os 6 .any (Rows.satRisesSpec.pre6 enc Try.prog Try.f6 Rows.satRisesRow.domain false) (Rows.satRisesSpec.post enc Try.prog Try.f6 false true false false) := by
  refine returnsInHanded_of_change (C := Try.checked) own started (by kernel_rfl) Try.func6
    (ChangeSpec.witness6 (enc := enc) (C := Try.checked) false ⟨#[], #[.int .i64 0, .int .i64 0, .int .i64 0], []⟩ 8 (by kernel_rfl) (by kernel_rfl) (by kernel_rfl) (by kernel_rfl)) ?_
  intro W base args ds gs before hval0 hW hcnd _
  have hval : ∀ (j : Nat) t v, Try.f6.params[j]? = some t → args[j]? = some v → Value.okWide Try.prog W .any base t v := hval0
  have hW' := hW
  obtain ⟨p, q, hA0, hV, rfl, hfz, hnd⟩ := hW
  have hA : DataW.TrodAll enc Try.prog W 0 (fun _ => true) true Try.f6.params.toList args.toList ds p := hA0
  rw [Try.params6] at hA hval
  obtain ⟨v0, vs0, d0, ds0, p0, q0, hargs, rfl, rfl, h0, r0⟩ := trodAll_cons hA
  obtain ⟨v1, vs1, d1, ds1, p1, q1, rfl, rfl, rfl, h1, r1⟩ := trodAll_cons r0
  obtain ⟨v2, vs2, d2, ds2, p2, q2, rfl, rfl, rfl, h2, r2⟩ := trodAll_cons r1
  obtain ⟨rfl, rfl, rfl⟩ := trodAll_nil r2
  obtain rfl : args = #[v0, v1, v2] := by cases args; simp_all
  obtain ⟨rfl, rfl⟩ := trodVars_none hV
  obtain ⟨a0, rfl, rfl, rfl, w0⟩ := open_int Try.underlying2 (hval 0 2 v0 rfl rfl) h0
  obtain ⟨a1, rfl, rfl, rfl, w1⟩ := open_int Try.underlying2 (hval 1 2 v1 rfl rfl) h1
  obtain ⟨a2, rfl, rfl, rfl, w2⟩ := open_int Try.underlying2 (hval 2 2 v2 rfl rfl) h2
  clear hA0 hval0
  simp only [List.append_nil] at hW'
  refine (walk a0 a1 a2 w0 w1 w2 W).mono fun e W' ⟨he, hg⟩ => ?_
  subst he
  exact ⟨_, rfl, post_of_same (pa := []) (pv := []) hW' (fun _ _ _ => (trodAll_cons_mk (shut_bool Try.underlying4 _) trodAll_mk0)) (fun sp _ => (trodAll_cons_mk (shut_int Try.underlying2 w0) (trodAll_cons_mk (shut_int Try.underlying2 w1) (trodAll_cons_mk (shut_int Try.underlying2 w2) trodAll_mk0)))) (fun _ _ => rfl) rfl
    (hg.frame _) hg.2.1 (ok_one (by kernel_rfl) rfl (okWide_bool_mk Try.underlying4 _))⟩

theorem over : Rows.satRisesRow.holds Try.pinned (OpenSpec.ofChange Rows.satRisesSpec) :=
  OpenClaim.holds_of_wide 6 Try.f6 rfl rfl rfl rfl rfl rfl rfl ⟨rfl, rfl, rfl, rfl, rfl⟩ rfl rfl rfl rfl rfl (by kernel_rfl) Try.func6 (by kernel_rfl)
    (of_decide_eq_true (by kernel_rfl)) (by unfold Func.isWrapper; first | (rw [if_pos (by decide +kernel)]; kernel_rfl) | (rw [if_neg (by decide +kernel)]; exact ⟨rfl, rfl⟩))
    (fun os started H enc _ => lifted os started H enc)

/-- The statement. -/
theorem proved : Rows.SatRisesSaid :=
  over
#print axioms proved
end Go.Proofs.Ytclfpmmiplandaa.satRises
