/- For any two int64s: of counts 0 adds nothing, 1 multiplies by nothing, a count less itself is 0, and Scale by the same is undone; no condition. -/
import Derived.Test.YtclfpmmiplandaaMore
import Derived.Test.YtclfpmmiplandaaAwake
import Derived.WalkKit
import Derived.ProofKit
import Derived.OpenShut
namespace Go.Proofs.Ytclfpmmiplandaa.satSame
open Go.ChangeShapes Go.WideShapes Go.ChangeAt Go.RowKit
set_option linter.unusedVariables false      -- a walk need not use every 'w<i>' (that an integer argument fits its kind)

theorem own : ownKnob Try.prog.godebug = none := by kernel_rfl

/-! The walk. -/
set_option maxHeartbeats 2000000 in
theorem walk (a0 : Int) (a1 : Int) (w0 : (Lit.int .i64 a0).wf = true) (w1 : (Lit.int .i64 a1).wf = true) (w : World) :
    Calls Try.prog 10 #[.int .i64 a0, .int .i64 a1] w fun e w' => e = .returned (.bool true) ∧ Grown w w' := by
  obtain ⟨l0, u0⟩ := wf_bd w0
  obtain ⟨l1, u1⟩ := wf_bd w1
  have c1 := fun w => clip_any a0 w l0 u0
  have c2 := fun w => clip_any a1 w l1 u1
  obtain ⟨bx0, bx1⟩ := cnt_bd a0
  obtain ⟨by0, by1⟩ := cnt_bd a1
  generalize cnt a0 = x at *
  generalize cnt a1 = y at *
  obtain ⟨p, M1, A1, S1, S2, M2, M3, K1, K2, K3, bp0, bp1⟩ := same_core x y bx0 bx1 by0 by1
  by_cases hy : y < 1
  · by_cases hp : p = 4611686018427387904
    · have hp' : (p == 4611686018427387904) = true := by simp [hp]
      clear hp K2 K3
      go_enter Try.func10, Try.ntmps10
      go_wp2_with (first
        | (go_at_call 11; ((with_reducible refine (c1 _).mono ?_); rintro e w' ⟨rfl, hw⟩; rw [hw]))
        | (go_at_call 11; ((with_reducible refine (c2 _).mono ?_); rintro e w' ⟨rfl, hw⟩; rw [hw]))
        | (go_at_call 13; ((with_reducible refine (A1 _).mono ?_); rintro e w' ⟨rfl, hw⟩; rw [hw]))
        | (go_at_call 15; ((with_reducible refine (S1 _).mono ?_); rintro e w' ⟨rfl, hw⟩; rw [hw]))
        | (go_at_call 15; ((with_reducible refine (S2 _).mono ?_); rintro e w' ⟨rfl, hw⟩; rw [hw]))
        | (go_at_call 18; ((with_reducible refine (M1 _).mono ?_); rintro e w' ⟨rfl, hg⟩))
        | (go_at_call 18; ((with_reducible refine (M2 _).mono ?_); rintro e w' ⟨rfl, hg⟩))
        | (go_at_call 18; ((with_reducible refine (M3 _).mono ?_); rintro e w' ⟨rfl, hg⟩))
        | (go_at_call 20; ((with_reducible refine (K1 _).mono ?_); rintro e w' ⟨rfl, hg⟩))
        | (go_at_call 17; refine (awake_any _).mono ?_; rintro e w' ⟨rfl, hg⟩))
      all_goals
        go_ret
        refine ⟨rfl, ?_⟩
        repeat (first | assumption | exact Grown.refl _ | refine grown_trans ?_ (by assumption))
    · have hp' : (p == 4611686018427387904) = false := by simp [hp]
      clear hp K2 K3
      go_enter Try.func10, Try.ntmps10
      go_wp2_with (first
        | (go_at_call 11; ((with_reducible refine (c1 _).mono ?_); rintro e w' ⟨rfl, hw⟩; rw [hw]))
        | (go_at_call 11; ((with_reducible refine (c2 _).mono ?_); rintro e w' ⟨rfl, hw⟩; rw [hw]))
        | (go_at_call 13; ((with_reducible refine (A1 _).mono ?_); rintro e w' ⟨rfl, hw⟩; rw [hw]))
        | (go_at_call 15; ((with_reducible refine (S1 _).mono ?_); rintro e w' ⟨rfl, hw⟩; rw [hw]))
        | (go_at_call 15; ((with_reducible refine (S2 _).mono ?_); rintro e w' ⟨rfl, hw⟩; rw [hw]))
        | (go_at_call 18; ((with_reducible refine (M1 _).mono ?_); rintro e w' ⟨rfl, hg⟩))
        | (go_at_call 18; ((with_reducible refine (M2 _).mono ?_); rintro e w' ⟨rfl, hg⟩))
        | (go_at_call 18; ((with_reducible refine (M3 _).mono ?_); rintro e w' ⟨rfl, hg⟩))
        | (go_at_call 20; ((with_reducible refine (K1 _).mono ?_); rintro e w' ⟨rfl, hg⟩))
        | (go_at_call 17; refine (awake_any _).mono ?_; rintro e w' ⟨rfl, hg⟩))
      all_goals
        go_ret
        refine ⟨rfl, ?_⟩
        repeat (first | assumption | exact Grown.refl _ | refine grown_trans ?_ (by assumption))
  · have K2' := K2 (by omega)
    by_cases hp : p = 4611686018427387904
    · have hp' : (p == 4611686018427387904) = true := by simp [hp]
      clear hp K2 K3
      go_enter Try.func10, Try.ntmps10
      go_wp2_with (first
        | (go_at_call 11; ((with_reducible refine (c1 _).mono ?_); rintro e w' ⟨rfl, hw⟩; rw [hw]))
        | (go_at_call 11; ((with_reducible refine (c2 _).mono ?_); rintro e w' ⟨rfl, hw⟩; rw [hw]))
        | (go_at_call 13; ((with_reducible refine (A1 _).mono ?_); rintro e w' ⟨rfl, hw⟩; rw [hw]))
        | (go_at_call 15; ((with_reducible refine (S1 _).mono ?_); rintro e w' ⟨rfl, hw⟩; rw [hw]))
        | (go_at_call 15; ((with_reducible refine (S2 _).mono ?_); rintro e w' ⟨rfl, hw⟩; rw [hw]))
        | (go_at_call 18; ((with_reducible refine (M1 _).mono ?_); rintro e w' ⟨rfl, hg⟩))
        | (go_at_call 18; ((with_reducible refine (M2 _).mono ?_); rintro e w' ⟨rfl, hg⟩))
        | (go_at_call 18; ((with_reducible refine (M3 _).mono ?_); rintro e w' ⟨rfl, hg⟩))
        | (go_at_call 20; ((with_reducible refine (K1 _).mono ?_); rintro e w' ⟨rfl, hg⟩))
        | (go_at_call 20; ((with_reducible refine (K2' _).mono ?_); rintro e w' ⟨rfl, hg⟩))
        | (go_at_call 17; refine (awake_any _).mono ?_; rintro e w' ⟨rfl, hg⟩))
      all_goals
        go_ret
        refine ⟨rfl, ?_⟩
        repeat (first | assumption | exact Grown.refl _ | refine grown_trans ?_ (by assumption))
    · have K3' := K3 (by omega) (by omega)
      have hp' : (p == 4611686018427387904) = false := by simp [hp]
      clear hp K2 K3
      go_enter Try.func10, Try.ntmps10
      go_wp2_with (first
        | (go_at_call 11; ((with_reducible refine (c1 _).mono ?_); rintro e w' ⟨rfl, hw⟩; rw [hw]))
        | (go_at_call 11; ((with_reducible refine (c2 _).mono ?_); rintro e w' ⟨rfl, hw⟩; rw [hw]))
        | (go_at_call 13; ((with_reducible refine (A1 _).mono ?_); rintro e w' ⟨rfl, hw⟩; rw [hw]))
        | (go_at_call 15; ((with_reducible refine (S1 _).mono ?_); rintro e w' ⟨rfl, hw⟩; rw [hw]))
        | (go_at_call 15; ((with_reducible refine (S2 _).mono ?_); rintro e w' ⟨rfl, hw⟩; rw [hw]))
        | (go_at_call 18; ((with_reducible refine (M1 _).mono ?_); rintro e w' ⟨rfl, hg⟩))
        | (go_at_call 18; ((with_reducible refine (M2 _).mono ?_); rintro e w' ⟨rfl, hg⟩))
        | (go_at_call 18; ((with_reducible refine (M3 _).mono ?_); rintro e w' ⟨rfl, hg⟩))
        | (go_at_call 20; ((with_reducible refine (K1 _).mono ?_); rintro e w' ⟨rfl, hg⟩))
        | (go_at_call 20; ((with_reducible refine (K2' _).mono ?_); rintro e w' ⟨rfl, hg⟩))
        | (go_at_call 20; ((with_reducible refine (K3' _).mono ?_); rintro e w' ⟨rfl, hg⟩))
        | (go_at_call 17; refine (awake_any _).mono ?_; rintro e w' ⟨rfl, hg⟩))
      all_goals
        go_ret
        refine ⟨rfl, ?_⟩
        repeat (first | assumption | exact Grown.refl _ | refine grown_trans ?_ (by assumption))

/-! The row. -/
set_option maxRecDepth 100000 in
theorem lifted (os : Os) (started : os.Started) (H : Type) (enc : TypeId × Value → H) :
    ReturnsInHanded {} Try.checked os 10 .any (Rows.satSameSpec.pre6 enc Try.prog Try.f10 Rows.satSameRow.domain false) (Rows.satSameSpec.post enc Try.prog Try.f10 false true false false) := by
  refine returnsInHanded_of_change (C := Try.checked) own started (by kernel_rfl) Try.func10
    (ChangeSpec.witness6 (enc := enc) (C := Try.checked) false ⟨#[], #[.int .i64 0, .int .i64 0], []⟩ 8 (by kernel_rfl) (by kernel_rfl) (by kernel_rfl) (by kernel_rfl)) ?_
  intro W base args ds gs before hval0 hW hcnd _
  have hval : ∀ (j : Nat) t v, Try.f10.params[j]? = some t → args[j]? = some v → Value.okWide Try.prog W .any base t v := hval0
  have hW' := hW
  obtain ⟨p, q, hA0, hV, rfl, hfz, hnd⟩ := hW
  have hA : DataW.TrodAll enc Try.prog W 0 (fun _ => true) true Try.f10.params.toList args.toList ds p := hA0
  rw [Try.params10] at hA hval
  obtain ⟨v0, vs0, d0, ds0, p0, q0, hargs, rfl, rfl, h0, r0⟩ := trodAll_cons hA
  obtain ⟨v1, vs1, d1, ds1, p1, q1, rfl, rfl, rfl, h1, r1⟩ := trodAll_cons r0
  obtain ⟨rfl, rfl, rfl⟩ := trodAll_nil r1
  obtain rfl : args = #[v0, v1] := by cases args; simp_all
  obtain ⟨rfl, rfl⟩ := trodVars_none hV
  obtain ⟨a0, rfl, rfl, rfl, w0⟩ := open_int Try.underlying2 (hval 0 2 v0 rfl rfl) h0
  obtain ⟨a1, rfl, rfl, rfl, w1⟩ := open_int Try.underlying2 (hval 1 2 v1 rfl rfl) h1
  clear hA0 hval0
  simp only [List.append_nil] at hW'
  refine (walk a0 a1 w0 w1 W).mono fun e W' ⟨he, hg⟩ => ?_
  subst he
  exact ⟨_, rfl, post_of_same (pa := []) (pv := []) hW' (fun _ _ _ => (trodAll_cons_mk (shut_bool Try.underlying4 _) trodAll_mk0)) (fun sp _ => (trodAll_cons_mk (shut_int Try.underlying2 w0) (trodAll_cons_mk (shut_int Try.underlying2 w1) trodAll_mk0))) (fun _ _ => rfl) rfl
    (hg.frame _) hg.2.1 (ok_one (by kernel_rfl) rfl (okWide_bool_mk Try.underlying4 _))⟩

theorem over : Rows.satSameRow.holds Try.pinned (OpenSpec.ofChange Rows.satSameSpec) :=
  OpenClaim.holds_of_wide 10 Try.f10 rfl rfl rfl rfl rfl rfl rfl ⟨rfl, rfl, rfl, rfl, rfl⟩ rfl rfl rfl rfl rfl (by kernel_rfl) Try.func10 (by kernel_rfl)
    (of_decide_eq_true (by kernel_rfl)) (by unfold Func.isWrapper; first | (rw [if_pos (by decide +kernel)]; kernel_rfl) | (rw [if_neg (by decide +kernel)]; exact ⟨rfl, rfl⟩))
    (fun os started H enc _ => lifted os started H enc)

/-- The statement. -/
theorem proved : Rows.SatSameSaid :=
  over
#print axioms proved
end Go.Proofs.Ytclfpmmiplandaa.satSame
