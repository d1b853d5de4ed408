/- For any three int64s: of two counts that are together not above the greatest, the units of the parts are those of both together or one more; no condition. -/
import Derived.Test.YtclfpmmiplandaaTurns
import Derived.Test.YtclfpmmiplandaaAwake
import Derived.WalkKit
import Derived.ProofKit
import Derived.OpenShut
namespace Go.Proofs.Ytclfpmmiplandaa.satUnitsOf
open Go.ChangeShapes Go.WideShapes Go.ChangeAt Go.RowKit
set_option linter.unusedVariables false      -- a walk need not use every 'w<i>' (that an integer argument fits its kind)

theorem own : ownKnob Try.prog.godebug = none := by kernel_rfl

/-! The walk. -/
theorem walk (a0 : Int) (a1 : Int) (a2 : Int) (w0 : (Lit.int .i64 a0).wf = true) (w1 : (Lit.int .i64 a1).wf = true) (w2 : (Lit.int .i64 a2).wf = true) (w : World) :
    Calls Try.prog 9 #[.int .i64 a0, .int .i64 a1, .int .i64 a2] w fun e w' => e = .returned (.bool true) ∧ Grown w w' := by
  obtain ⟨l0, u0⟩ := wf_bd w0
  obtain ⟨l1, u1⟩ := wf_bd w1
  obtain ⟨l2, u2⟩ := wf_bd w2
  have c1 := fun w => clip_any a0 w l0 u0
  have c2 := fun w => clip_any a1 w l1 u1
  have c3 := fun w => clip_any a2 w l2 u2
  obtain ⟨bx0, bx1⟩ := cnt_bd a0
  obtain ⟨by0, by1⟩ := cnt_bd a1
  obtain ⟨bz0, bz1⟩ := cnt_bd a2
  generalize cnt a0 = x at *
  generalize cnt a1 = y at *
  generalize cnt a2 = z at *
  by_cases hg : 4611686018427387904 - y < x
  · go_enter Try.func9, Try.ntmps9
    go_wp2_with (first
      | (go_at_call 11; ((with_reducible refine (c1 _).mono ?_); rintro e w' ⟨rfl, hw⟩; rw [hw]))
      | (go_at_call 11; ((with_reducible refine (c2 _).mono ?_); rintro e w' ⟨rfl, hw⟩; rw [hw]))
      | (go_at_call 11; ((with_reducible refine (c3 _).mono ?_); rintro e w' ⟨rfl, hw⟩; rw [hw]))
      | (go_at_call 17; refine (awake_any _).mono ?_; rintro e w' ⟨rfl, hg⟩))
    all_goals
      go_ret
      refine ⟨rfl, ?_⟩
      repeat (first | assumption | exact Grown.refl _ | refine grown_trans ?_ (by assumption))
  · obtain ⟨n, m, k, U1, U2, U3, hn, n0, n1, m0, m1⟩ : ∃ n m k : Int,
        (∀ w, Calls Try.prog 22 #[.int .i64 x, .int .i64 (if z < 1 then 1 else z)] w fun e w' => e = .returned (.int .i64 n) ∧ w' = w) ∧
        (∀ w, Calls Try.prog 22 #[.int .i64 y, .int .i64 (if z < 1 then 1 else z)] w fun e w' => e = .returned (.int .i64 m) ∧ w' = w) ∧
        (∀ w, Calls Try.prog 22 #[.int .i64 (x + y), .int .i64 (if z < 1 then 1 else z)] w fun e w' => e = .returned (.int .i64 k) ∧ w' = w) ∧
        (n + m = k ∨ n + m = k + 1) ∧ 0 ≤ n ∧ n ≤ x ∧ 0 ≤ m ∧ m ≤ y := by
      have bu : 1 ≤ (if z < 1 then 1 else z) ∧ (if z < 1 then 1 else z) ≤ 4611686018427387904 := by split <;> omega
      generalize (if z < 1 then 1 else z) = u at *
      obtain ⟨p1, p2⟩ := units_bd x u bx0 bx1 bu.1
      obtain ⟨q1, q2⟩ := units_bd y u by0 by1 bu.1
      exact ⟨_, _, _, fun w => units_any x u w (by omega) (by omega) (by omega) (by omega), fun w => units_any y u w (by omega) (by omega) (by omega) (by omega), fun w => units_any (x + y) u w (by omega) (by omega) (by omega) (by omega), units_parts x y u bx0 by0 (by omega) bu.1, p1, p2, q1, q2⟩
    have H := Lib.hid hn; clear hn
    rcases H.out with hk | hk
    · subst hk
      clear H
      by_cases hz : z < 1
      all_goals
        simp only [hz, if_true, if_false] at U1 U2 U3
        go_enter Try.func9, Try.ntmps9
        go_wp2_with (first
          | (go_at_call 11; ((with_reducible refine (c1 _).mono ?_); rintro e w' ⟨rfl, hw⟩; rw [hw]))
          | (go_at_call 11; ((with_reducible refine (c2 _).mono ?_); rintro e w' ⟨rfl, hw⟩; rw [hw]))
          | (go_at_call 11; ((with_reducible refine (c3 _).mono ?_); rintro e w' ⟨rfl, hw⟩; rw [hw]))
          | (go_at_call 22; ((with_reducible refine (U1 _).mono ?_); rintro e w' ⟨rfl, hw⟩; rw [hw]))
          | (go_at_call 22; ((with_reducible refine (U2 _).mono ?_); rintro e w' ⟨rfl, hw⟩; rw [hw]))
          | (go_at_call 22; ((with_reducible refine (U3 _).mono ?_); rintro e w' ⟨rfl, hw⟩; rw [hw]))
          | (go_at_call 17; refine (awake_any _).mono ?_; rintro e w' ⟨rfl, hg⟩))
        all_goals
          go_ret
          refine ⟨rfl, ?_⟩
          repeat (first | assumption | exact Grown.refl _ | refine grown_trans ?_ (by assumption))
    · have e1 : (n + m == k) = false := by simp; omega
      have e2 : (n + m == k + 1) = true := by simp; omega
      have k0 : 0 ≤ k + 1 := by omega
      have k1 : k ≤ 4611686018427387904 := by omega
      clear H hk
      by_cases hz : z < 1
      all_goals
        simp only [hz, if_true, if_false] at U1 U2 U3
        go_enter Try.func9, Try.ntmps9
        go_wp2_with (first
          | (go_at_call 11; ((with_reducible refine (c1 _).mono ?_); rintro e w' ⟨rfl, hw⟩; rw [hw]))
          | (go_at_call 11; ((with_reducible refine (c2 _).mono ?_); rintro e w' ⟨rfl, hw⟩; rw [hw]))
          | (go_at_call 11; ((with_reducible refine (c3 _).mono ?_); rintro e w' ⟨rfl, hw⟩; rw [hw]))
          | (go_at_call 22; ((with_reducible refine (U1 _).mono ?_); rintro e w' ⟨rfl, hw⟩; rw [hw]))
          | (go_at_call 22; ((with_reducible refine (U2 _).mono ?_); rintro e w' ⟨rfl, hw⟩; rw [hw]))
          | (go_at_call 22; ((with_reducible refine (U3 _).mono ?_); rintro e w' ⟨rfl, hw⟩; rw [hw]))
          | (go_at_call 17; refine (awake_any _).mono ?_; rintro e w' ⟨rfl, hg⟩))
        all_goals
          go_ret
          refine ⟨rfl, ?_⟩
          repeat (first | assumption | exact Grown.refl _ | refine grown_trans ?_ (by assumption))

/-! The row. -/
set_option maxRecDepth 100000 in
theorem lifted (os : Os) (started : os.Started) (H : Type) (enc : TypeId × Value → H) :
    ReturnsInHanded {} Try.checked os 9 .any (Rows.satUnitsOfSpec.pre6 enc Try.prog Try.f9 Rows.satUnitsOfRow.domain false) (Rows.satUnitsOfSpec.post enc Try.prog Try.f9 false true false false) := by
  refine returnsInHanded_of_change (C := Try.checked) own started (by kernel_rfl) Try.func9
    (ChangeSpec.witness6 (enc := enc) (C := Try.checked) false ⟨#[], #[.int .i64 0, .int .i64 0, .int .i64 0], []⟩ 8 (by kernel_rfl) (by kernel_rfl) (by kernel_rfl) (by kernel_rfl)) ?_
  intro W base args ds gs before hval0 hW hcnd _
  have hval : ∀ (j : Nat) t v, Try.f9.params[j]? = some t → args[j]? = some v → Value.okWide Try.prog W .any base t v := hval0
  have hW' := hW
  obtain ⟨p, q, hA0, hV, rfl, hfz, hnd⟩ := hW
  have hA : DataW.TrodAll enc Try.prog W 0 (fun _ => true) true Try.f9.params.toList args.toList ds p := hA0
  rw [Try.params9] at hA hval
  obtain ⟨v0, vs0, d0, ds0, p0, q0, hargs, rfl, rfl, h0, r0⟩ := trodAll_cons hA
  obtain ⟨v1, vs1, d1, ds1, p1, q1, rfl, rfl, rfl, h1, r1⟩ := trodAll_cons r0
  obtain ⟨v2, vs2, d2, ds2, p2, q2, rfl, rfl, rfl, h2, r2⟩ := trodAll_cons r1
  obtain ⟨rfl, rfl, rfl⟩ := trodAll_nil r2
  obtain rfl : args = #[v0, v1, v2] := by cases args; simp_all
  obtain ⟨rfl, rfl⟩ := trodVars_none hV
  obtain ⟨a0, rfl, rfl, rfl, w0⟩ := open_int Try.underlying2 (hval 0 2 v0 rfl rfl) h0
  obtain ⟨a1, rfl, rfl, rfl, w1⟩ := open_int Try.underlying2 (hval 1 2 v1 rfl rfl) h1
  obtain ⟨a2, rfl, rfl, rfl, w2⟩ := open_int Try.underlying2 (hval 2 2 v2 rfl rfl) h2
  clear hA0 hval0
  simp only [List.append_nil] at hW'
  refine (walk a0 a1 a2 w0 w1 w2 W).mono fun e W' ⟨he, hg⟩ => ?_
  subst he
  exact ⟨_, rfl, post_of_same (pa := []) (pv := []) hW' (fun _ _ _ => (trodAll_cons_mk (shut_bool Try.underlying4 _) trodAll_mk0)) (fun sp _ => (trodAll_cons_mk (shut_int Try.underlying2 w0) (trodAll_cons_mk (shut_int Try.underlying2 w1) (trodAll_cons_mk (shut_int Try.underlying2 w2) trodAll_mk0)))) (fun _ _ => rfl) rfl
    (hg.frame _) hg.2.1 (ok_one (by kernel_rfl) rfl (okWide_bool_mk Try.underlying4 _))⟩

theorem over : Rows.satUnitsOfRow.holds Try.pinned (OpenSpec.ofChange Rows.satUnitsOfSpec) :=
  OpenClaim.holds_of_wide 9 Try.f9 rfl rfl rfl rfl rfl rfl rfl ⟨rfl, rfl, rfl, rfl, rfl⟩ rfl rfl rfl rfl rfl (by kernel_rfl) Try.func9 (by kernel_rfl)
    (of_decide_eq_true (by kernel_rfl)) (by unfold Func.isWrapper; first | (rw [if_pos (by decide +kernel)]; kernel_rfl) | (rw [if_neg (by decide +kernel)]; exact ⟨rfl, rfl⟩))
    (fun os started H enc _ => lifted os started H enc)

/-- The statement. -/
theorem proved : Rows.SatUnitsOfSaid :=
  over
#print axioms proved
end Go.Proofs.Ytclfpmmiplandaa.satUnitsOf
