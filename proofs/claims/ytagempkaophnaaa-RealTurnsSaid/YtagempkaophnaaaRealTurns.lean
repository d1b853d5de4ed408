/- With both signs turned the order of two words is turned, for any two words of which none is a NaN; with a NaN their sum is the NaN. -/
import Derived.Test.YtagempkaophnaaaRows
import Derived.Test.YtagempkaophnaaaTwo
import Derived.WalkKit
import Derived.ProofKit
import Derived.OpenShut
namespace Go.Proofs.Ytagempkaophnaaa.realTurns
open Go.ChangeShapes Go.WideShapes Go.ChangeAt Go.RowKit
set_option linter.unusedVariables false      -- a walk need not use every 'w<i>' (that an integer argument fits its kind)

theorem own : ownKnob Try.prog.godebug = none := by kernel_rfl

/-! The walk. -/
set_option maxHeartbeats 2000000 in
theorem walk (a0 : Int) (a1 : Int) (w0 : (Lit.int .u64 a0).wf = true) (w1 : (Lit.int .u64 a1).wf = true) (w : World) :
    Calls Try.prog 10 #[.int .u64 a0, .int .u64 a1] w fun e w' => e = .returned (.bool true) ∧ Grown w w' := by
  obtain ⟨h0, h1⟩ := wf_ubd w0
  obtain ⟨g0, g1⟩ := wf_ubd w1
  have c1 := fun w => rkind_any a0 w h0 h1
  have c2 := fun w => rkind_any a1 w g0 g1
  obtain ⟨a, rfl⟩ := Int.eq_ofNat_of_zero_le h0
  obtain ⟨b, rfl⟩ := Int.eq_ofNat_of_zero_le g0
  simp only [Int.toNat_natCast] at c1 c2
  have la : a < 18446744073709551616 := by omega
  have lb : b < 18446744073709551616 := by omega
  have ka := kind_nan a
  have kb := kind_nan b
  by_cases n : nanN a = true ∨ nanN b = true
  · have s := fun w => sum_two a b w la lb
    rw [show canonN (addN a b) = 9221120237041090560 by rw [add_nan n]; decide] at s
    have c3 : ∀ w, Calls Try.prog 17 #[.int .u64 9221120237041090560] w fun e w' => e = .returned (.int .u64 9221120237041090560) ∧ w' = w := fun w => canon_any 9221120237041090560 w (by omega) (by omega)
    cases na : nanN a
    · have nb : nanN b = true := by rw [na] at n; rcases n with n | n; cases n; exact n
      rw [na] at ka
      rw [nb] at kb
      clear n na nb h0 h1 g0 g1 w0 w1 la lb
      go_enter Try.func10, Try.ntmps10
      go_wp2_with (first
        | (go_at_call 14; ((with_reducible refine (c1 _).mono ?_); rintro e w' ⟨rfl, hw⟩; rw [hw]))
        | (go_at_call 14; ((with_reducible refine (c2 _).mono ?_); rintro e w' ⟨rfl, hw⟩; rw [hw]))
        | (go_at_call 24; refine (s _).mono ?_; rintro e w' ⟨rfl, hg⟩)
        | (go_at_call 17; refine (c3 _).mono ?_; rintro e w' ⟨rfl, hw⟩; rw [hw])
        | (go_at_call 19; refine (awake_any _).mono ?_; rintro e w' ⟨rfl, hg⟩))
      go_ret
      refine ⟨rfl, ?_⟩
      repeat (first | assumption | exact Grown.refl _ | refine grown_trans ?_ (by assumption))
    · rw [na] at ka
      clear n na kb h0 h1 g0 g1 w0 w1 la lb
      go_enter Try.func10, Try.ntmps10
      go_wp2_with (first
        | (go_at_call 14; ((with_reducible refine (c1 _).mono ?_); rintro e w' ⟨rfl, hw⟩; rw [hw]))
        | (go_at_call 14; ((with_reducible refine (c2 _).mono ?_); rintro e w' ⟨rfl, hw⟩; rw [hw]))
        | (go_at_call 24; refine (s _).mono ?_; rintro e w' ⟨rfl, hg⟩)
        | (go_at_call 17; refine (c3 _).mono ?_; rintro e w' ⟨rfl, hw⟩; rw [hw])
        | (go_at_call 19; refine (awake_any _).mono ?_; rintro e w' ⟨rfl, hg⟩))
      go_ret
      refine ⟨rfl, ?_⟩
      repeat (first | assumption | exact Grown.refl _ | refine grown_trans ?_ (by assumption))
  · have na : nanN a = false := by
      cases h : nanN a
      · rfl
      · exact absurd (Or.inl h) n
    have nb : nanN b = false := by
      cases h : nanN b
      · rfl
      · exact absurd (Or.inr h) n
    rw [na] at ka
    rw [nb] at kb
    have fa := flip_lt la
    have fb := flip_lt lb
    have d1 := fun w => compare_any (flipN a : Nat) (flipN b : Nat) w (by omega) (by omega) (by omega) (by omega)
    have d2 := fun w => compare_any (b : Nat) (a : Nat) w (by omega) (by omega) (by omega) (by omega)
    have d3 := fun w => equal_any (flipN a : Nat) (flipN b : Nat) w
    have d4 := fun w => equal_any (a : Nat) (b : Nat) w
    simp only [Int.toNat_natCast] at d1 d2 d3 d4
    rw [flip_cmp la lb na nb] at d1
    rw [flip_eq la lb na nb] at d3
    have xa := u64_flip la
    have xb := u64_flip lb
    generalize flipN a = p at *
    generalize flipN b = q at *
    generalize cmpN b a = c at *
    generalize eqN a b = t at *
    clear n na nb h0 h1 g0 g1 w0 w1 la lb fa fb
    go_enter Try.func10, Try.ntmps10
    go_wp2_with (first
      | (go_at_call 14; ((with_reducible refine (c1 _).mono ?_); rintro e w' ⟨rfl, hw⟩; rw [hw]))
      | (go_at_call 14; ((with_reducible refine (c2 _).mono ?_); rintro e w' ⟨rfl, hw⟩; rw [hw]))
      | (go_at_call 22; ((with_reducible refine (d1 _).mono ?_); rintro e w' ⟨rfl, hw⟩; rw [hw]))
      | (go_at_call 22; ((with_reducible refine (d2 _).mono ?_); rintro e w' ⟨rfl, hw⟩; rw [hw]))
      | (go_at_call 20; ((with_reducible refine (d3 _).mono ?_); rintro e w' ⟨rfl, hw⟩; rw [hw]))
      | (go_at_call 20; ((with_reducible refine (d4 _).mono ?_); rintro e w' ⟨rfl, hw⟩; rw [hw]))
      | (go_at_call 19; refine (awake_any _).mono ?_; rintro e w' ⟨rfl, hg⟩))
    go_ret
    refine ⟨rfl, ?_⟩
    repeat (first | assumption | exact Grown.refl _ | refine grown_trans ?_ (by assumption))

/-! The row. -/
set_option maxRecDepth 100000 in
theorem lifted (os : Os) (started : os.Started) (H : Type) (enc : TypeId × Value → H) :
    ReturnsInHanded {} Try.checked os 10 .any (Rows.realTurnsSpec.pre6 enc Try.prog Try.f10 Rows.realTurnsRow.domain false) (Rows.realTurnsSpec.post enc Try.prog Try.f10 false true false false) := by
  refine returnsInHanded_of_change (C := Try.checked) own started (by kernel_rfl) Try.func10
    (ChangeSpec.witness6 (enc := enc) (C := Try.checked) false ⟨#[], #[.int .u64 0, .int .u64 0], []⟩ 8 (by kernel_rfl) (by kernel_rfl) (by kernel_rfl) (by kernel_rfl)) ?_
  intro W base args ds gs before hval0 hW hcnd _
  have hval : ∀ (j : Nat) t v, Try.f10.params[j]? = some t → args[j]? = some v → Value.okWide Try.prog W .any base t v := hval0
  have hW' := hW
  obtain ⟨p, q, hA0, hV, rfl, hfz, hnd⟩ := hW
  have hA : DataW.TrodAll enc Try.prog W 0 (fun _ => true) true Try.f10.params.toList args.toList ds p := hA0
  rw [Try.params10] at hA hval
  obtain ⟨v0, vs0, d0, ds0, p0, q0, hargs, rfl, rfl, h0, r0⟩ := trodAll_cons hA
  obtain ⟨v1, vs1, d1, ds1, p1, q1, rfl, rfl, rfl, h1, r1⟩ := trodAll_cons r0
  obtain ⟨rfl, rfl, rfl⟩ := trodAll_nil r1
  obtain rfl : args = #[v0, v1] := by cases args; simp_all
  obtain ⟨rfl, rfl⟩ := trodVars_none hV
  obtain ⟨a0, rfl, rfl, rfl, w0⟩ := open_int Try.underlying22 (hval 0 22 v0 rfl rfl) h0
  obtain ⟨a1, rfl, rfl, rfl, w1⟩ := open_int Try.underlying22 (hval 1 22 v1 rfl rfl) h1
  clear hA0 hval0
  simp only [List.append_nil] at hW'
  refine (walk a0 a1 w0 w1 W).mono fun e W' ⟨he, hg⟩ => ?_
  subst he
  exact ⟨_, rfl, post_of_same (pa := []) (pv := []) hW' (fun _ _ _ => (trodAll_cons_mk (shut_bool Try.underlying4 _) trodAll_mk0)) (fun sp _ => (trodAll_cons_mk (shut_int Try.underlying22 w0) (trodAll_cons_mk (shut_int Try.underlying22 w1) trodAll_mk0))) (fun _ _ => rfl) rfl
    (hg.frame _) hg.2.1 (ok_one (by kernel_rfl) rfl (okWide_bool_mk Try.underlying4 _))⟩

theorem over : Rows.realTurnsRow.holds Try.pinned (OpenSpec.ofChange Rows.realTurnsSpec) :=
  OpenClaim.holds_of_wide 10 Try.f10 rfl rfl rfl rfl rfl rfl rfl ⟨rfl, rfl, rfl, rfl, rfl⟩ rfl rfl rfl rfl rfl (by kernel_rfl) Try.func10 (by kernel_rfl)
    (of_decide_eq_true (by kernel_rfl)) (by unfold Func.isWrapper; first | (rw [if_pos (by decide +kernel)]; kernel_rfl) | (rw [if_neg (by decide +kernel)]; exact ⟨rfl, rfl⟩))
    (fun os started H enc _ => lifted os started H enc)

/-- The statement. -/
theorem proved : Rows.RealTurnsSaid :=
  over
#print axioms proved
end Go.Proofs.Ytagempkaophnaaa.realTurns
