/- Floats of greater numbers do not stand ahead, and a word and +0 is the word, but of -0. -/
import Derived.Test.YtagempkaophnaaaRows
import Derived.Test.YtagempkaophnaaaTwo
import Derived.WalkKit
import Derived.ProofKit
import Derived.OpenShut
namespace Go.Proofs.Ytagempkaophnaaa.realRises
open Go.ChangeShapes Go.WideShapes Go.ChangeAt Go.RowKit
set_option linter.unusedVariables false      -- a walk need not use every 'w<i>' (that an integer argument fits its kind)

theorem own : ownKnob Try.prog.godebug = none := by kernel_rfl

/-! The walk. -/
set_option maxHeartbeats 2000000 in
theorem walk (a0 : Int) (a1 : Int) (a2 : Int) (w0 : (Lit.int .i64 a0).wf = true) (w1 : (Lit.int .i64 a1).wf = true) (w2 : (Lit.int .u64 a2).wf = true) (w : World) :
    Calls Try.prog 11 #[.int .i64 a0, .int .i64 a1, .int .u64 a2] w fun e w' => e = .returned (.bool true) ∧ Grown w w' := by
  obtain ⟨h0, h1⟩ := wf_bd w0
  obtain ⟨g0, g1⟩ := wf_bd w1
  obtain ⟨f0, f1⟩ := wf_ubd w2
  have c5 := fun w => canon_any a2 w f0 f1
  obtain ⟨x, rfl⟩ := Int.eq_ofNat_of_zero_le f0
  simp only [Int.toNat_natCast] at c5
  have lx : x < 18446744073709551616 := by omega
  have s : ∀ w : World, Calls Try.prog 24 #[.slice (some ⟨w.heap.size, 0, none⟩) 2 2] (w.alloc (.cells #[.int .u64 (x : Int), .int .u64 0] 22)) fun e w' => e = .returned (.int .u64 (canonN (addN x 0) : Nat)) ∧ Grown w w' :=
    fun w => sum_two x 0 w lx (by omega)
  rw [add_zero lx] at s
  have ex : ((x : Int) == 9223372036854775808) = decide (x = 9223372036854775808) := by rw [beq_dec]; exact decide_eq_decide.2 (by omega)
  have ex2 : ((x : Int) != 9223372036854775808) = decide (¬ x = 9223372036854775808) := by rw [bne_dec]; exact decide_eq_decide.2 (by omega)
  have c1 := fun w => of_any a0 w h0 h1
  have c2 := fun w => of_any a1 w g0 g1
  have l1 := (ofN_lt (n := a0) (by omega)).2
  have l2 := (ofN_lt (n := a1) (by omega)).2
  rcases Int.lt_trichotomy a0 a1 with c | c | c
  · have c3 := fun w => compare_any (ofN a0 : Nat) (ofN a1 : Nat) w (by omega) (by omega) (by omega) (by omega)
    simp only [Int.toNat_natCast] at c3
    have cr := cmp_rises h0 (Int.le_of_lt c) g1
    have cd : decide (cmpN (ofN a0) (ofN a1) ≤ 0) = true := decide_eq_true (by omega)
    generalize cmpN (ofN a0) (ofN a1) = z at *
    generalize exactN a0 = t0 at *
    generalize exactN a1 = t1 at *
    generalize ofN a0 = m0 at *
    generalize ofN a1 = m1 at *
    by_cases k : x = 9223372036854775808
    · rw [if_pos k] at s
      rw [decide_eq_true k] at ex
      rw [decide_eq_false (fun g => g k)] at ex2
      clear k lx h0 h1 g0 g1 f0 f1 w0 w1 w2 l1 l2 cr
      go_enter Try.func11, Try.ntmps11
      go_wp2_with (first
        | (go_at_call 28; ((with_reducible refine (c1 _).mono ?_); rintro e w' ⟨rfl, hw⟩; rw [hw]))
        | (go_at_call 28; ((with_reducible refine (c2 _).mono ?_); rintro e w' ⟨rfl, hw⟩; rw [hw]))
        | (go_at_call 24; refine (s _).mono ?_; rintro e w' ⟨rfl, hg⟩)
        | (go_at_call 22; refine (c3 _).mono ?_; rintro e w' ⟨rfl, hw⟩; rw [hw])
        | (go_at_call 17; refine (c5 _).mono ?_; rintro e w' ⟨rfl, hw⟩; rw [hw])
        | (go_at_call 19; refine (awake_any _).mono ?_; rintro e w' ⟨rfl, hg⟩))
      go_ret
      refine ⟨rfl, ?_⟩
      repeat (first | assumption | exact Grown.refl _ | refine grown_trans ?_ (by assumption))
    · rw [if_neg k] at s
      rw [decide_eq_false k] at ex
      rw [decide_eq_true k] at ex2
      generalize canonN x = cx at *
      clear k lx h0 h1 g0 g1 f0 f1 w0 w1 w2 l1 l2 cr
      go_enter Try.func11, Try.ntmps11
      go_wp2_with (first
        | (go_at_call 28; ((with_reducible refine (c1 _).mono ?_); rintro e w' ⟨rfl, hw⟩; rw [hw]))
        | (go_at_call 28; ((with_reducible refine (c2 _).mono ?_); rintro e w' ⟨rfl, hw⟩; rw [hw]))
        | (go_at_call 24; refine (s _).mono ?_; rintro e w' ⟨rfl, hg⟩)
        | (go_at_call 22; refine (c3 _).mono ?_; rintro e w' ⟨rfl, hw⟩; rw [hw])
        | (go_at_call 17; refine (c5 _).mono ?_; rintro e w' ⟨rfl, hw⟩; rw [hw])
        | (go_at_call 19; refine (awake_any _).mono ?_; rintro e w' ⟨rfl, hg⟩))
      go_ret
      refine ⟨rfl, ?_⟩
      repeat (first | assumption | exact Grown.refl _ | refine grown_trans ?_ (by assumption))
  · subst c
    have c3 := fun w => compare_any (ofN a0 : Nat) (ofN a0 : Nat) w (by omega) (by omega) (by omega) (by omega)
    simp only [Int.toNat_natCast] at c3
    have cr := cmp_rises h0 (Int.le_refl _) h1
    have cd : decide (cmpN (ofN a0) (ofN a0) ≤ 0) = true := decide_eq_true (by omega)
    generalize cmpN (ofN a0) (ofN a0) = z at *
    generalize exactN a0 = t0 at *
    generalize ofN a0 = m0 at *
    by_cases k : x = 9223372036854775808
    · rw [if_pos k] at s
      rw [decide_eq_true k] at ex
      rw [decide_eq_false (fun g => g k)] at ex2
      clear k lx h0 h1 g0 g1 f0 f1 w0 w1 w2 l1 l2 cr
      go_enter Try.func11, Try.ntmps11
      go_wp2_with (first
        | (go_at_call 28; ((with_reducible refine (c1 _).mono ?_); rintro e w' ⟨rfl, hw⟩; rw [hw]))
        | (go_at_call 28; ((with_reducible refine (c2 _).mono ?_); rintro e w' ⟨rfl, hw⟩; rw [hw]))
        | (go_at_call 24; refine (s _).mono ?_; rintro e w' ⟨rfl, hg⟩)
        | (go_at_call 22; refine (c3 _).mono ?_; rintro e w' ⟨rfl, hw⟩; rw [hw])
        | (go_at_call 17; refine (c5 _).mono ?_; rintro e w' ⟨rfl, hw⟩; rw [hw])
        | (go_at_call 19; refine (awake_any _).mono ?_; rintro e w' ⟨rfl, hg⟩))
      go_ret
      refine ⟨rfl, ?_⟩
      repeat (first | assumption | exact Grown.refl _ | refine grown_trans ?_ (by assumption))
    · rw [if_neg k] at s
      rw [decide_eq_false k] at ex
      rw [decide_eq_true k] at ex2
      generalize canonN x = cx at *
      clear k lx h0 h1 g0 g1 f0 f1 w0 w1 w2 l1 l2 cr
      go_enter Try.func11, Try.ntmps11
      go_wp2_with (first
        | (go_at_call 28; ((with_reducible refine (c1 _).mono ?_); rintro e w' ⟨rfl, hw⟩; rw [hw]))
        | (go_at_call 28; ((with_reducible refine (c2 _).mono ?_); rintro e w' ⟨rfl, hw⟩; rw [hw]))
        | (go_at_call 24; refine (s _).mono ?_; rintro e w' ⟨rfl, hg⟩)
        | (go_at_call 22; refine (c3 _).mono ?_; rintro e w' ⟨rfl, hw⟩; rw [hw])
        | (go_at_call 17; refine (c5 _).mono ?_; rintro e w' ⟨rfl, hw⟩; rw [hw])
        | (go_at_call 19; refine (awake_any _).mono ?_; rintro e w' ⟨rfl, hg⟩))
      go_ret
      refine ⟨rfl, ?_⟩
      repeat (first | assumption | exact Grown.refl _ | refine grown_trans ?_ (by assumption))
  · have c3 := fun w => compare_any (ofN a1 : Nat) (ofN a0 : Nat) w (by omega) (by omega) (by omega) (by omega)
    simp only [Int.toNat_natCast] at c3
    have cr := cmp_rises g0 (Int.le_of_lt c) h1
    have cd : decide (cmpN (ofN a1) (ofN a0) ≤ 0) = true := decide_eq_true (by omega)
    generalize cmpN (ofN a1) (ofN a0) = z at *
    generalize exactN a0 = t0 at *
    generalize exactN a1 = t1 at *
    generalize ofN a0 = m0 at *
    generalize ofN a1 = m1 at *
    by_cases k : x = 9223372036854775808
    · rw [if_pos k] at s
      rw [decide_eq_true k] at ex
      rw [decide_eq_false (fun g => g k)] at ex2
      clear k lx h0 h1 g0 g1 f0 f1 w0 w1 w2 l1 l2 cr
      go_enter Try.func11, Try.ntmps11
      go_wp2_with (first
        | (go_at_call 28; ((with_reducible refine (c1 _).mono ?_); rintro e w' ⟨rfl, hw⟩; rw [hw]))
        | (go_at_call 28; ((with_reducible refine (c2 _).mono ?_); rintro e w' ⟨rfl, hw⟩; rw [hw]))
        | (go_at_call 24; refine (s _).mono ?_; rintro e w' ⟨rfl, hg⟩)
        | (go_at_call 22; refine (c3 _).mono ?_; rintro e w' ⟨rfl, hw⟩; rw [hw])
        | (go_at_call 17; refine (c5 _).mono ?_; rintro e w' ⟨rfl, hw⟩; rw [hw])
        | (go_at_call 19; refine (awake_any _).mono ?_; rintro e w' ⟨rfl, hg⟩))
      go_ret
      refine ⟨rfl, ?_⟩
      repeat (first | assumption | exact Grown.refl _ | refine grown_trans ?_ (by assumption))
    · rw [if_neg k] at s
      rw [decide_eq_false k] at ex
      rw [decide_eq_true k] at ex2
      generalize canonN x = cx at *
      clear k lx h0 h1 g0 g1 f0 f1 w0 w1 w2 l1 l2 cr
      go_enter Try.func11, Try.ntmps11
      go_wp2_with (first
        | (go_at_call 28; ((with_reducible refine (c1 _).mono ?_); rintro e w' ⟨rfl, hw⟩; rw [hw]))
        | (go_at_call 28; ((with_reducible refine (c2 _).mono ?_); rintro e w' ⟨rfl, hw⟩; rw [hw]))
        | (go_at_call 24; refine (s _).mono ?_; rintro e w' ⟨rfl, hg⟩)
        | (go_at_call 22; refine (c3 _).mono ?_; rintro e w' ⟨rfl, hw⟩; rw [hw])
        | (go_at_call 17; refine (c5 _).mono ?_; rintro e w' ⟨rfl, hw⟩; rw [hw])
        | (go_at_call 19; refine (awake_any _).mono ?_; rintro e w' ⟨rfl, hg⟩))
      go_ret
      refine ⟨rfl, ?_⟩
      repeat (first | assumption | exact Grown.refl _ | refine grown_trans ?_ (by assumption))

/-! The row. -/
set_option maxRecDepth 100000 in
theorem lifted (os : Os) (started : os.Started) (H : Type) (enc : TypeId × Value → H) :
    ReturnsInHanded {} Try.checked os 11 .any (Rows.realRisesSpec.pre6 enc Try.prog Try.f11 Rows.realRisesRow.domain false) (Rows.realRisesSpec.post enc Try.prog Try.f11 false true false false) := by
  refine returnsInHanded_of_change (C := Try.checked) own started (by kernel_rfl) Try.func11
    (ChangeSpec.witness6 (enc := enc) (C := Try.checked) false ⟨#[], #[.int .i64 0, .int .i64 0, .int .u64 0], []⟩ 8 (by kernel_rfl) (by kernel_rfl) (by kernel_rfl) (by kernel_rfl)) ?_
  intro W base args ds gs before hval0 hW hcnd _
  have hval : ∀ (j : Nat) t v, Try.f11.params[j]? = some t → args[j]? = some v → Value.okWide Try.prog W .any base t v := hval0
  have hW' := hW
  obtain ⟨p, q, hA0, hV, rfl, hfz, hnd⟩ := hW
  have hA : DataW.TrodAll enc Try.prog W 0 (fun _ => true) true Try.f11.params.toList args.toList ds p := hA0
  rw [Try.params11] at hA hval
  obtain ⟨v0, vs0, d0, ds0, p0, q0, hargs, rfl, rfl, h0, r0⟩ := trodAll_cons hA
  obtain ⟨v1, vs1, d1, ds1, p1, q1, rfl, rfl, rfl, h1, r1⟩ := trodAll_cons r0
  obtain ⟨v2, vs2, d2, ds2, p2, q2, rfl, rfl, rfl, h2, r2⟩ := trodAll_cons r1
  obtain ⟨rfl, rfl, rfl⟩ := trodAll_nil r2
  obtain rfl : args = #[v0, v1, v2] := by cases args; simp_all
  obtain ⟨rfl, rfl⟩ := trodVars_none hV
  obtain ⟨a0, rfl, rfl, rfl, w0⟩ := open_int Try.underlying2 (hval 0 2 v0 rfl rfl) h0
  obtain ⟨a1, rfl, rfl, rfl, w1⟩ := open_int Try.underlying2 (hval 1 2 v1 rfl rfl) h1
  obtain ⟨a2, rfl, rfl, rfl, w2⟩ := open_int Try.underlying22 (hval 2 22 v2 rfl rfl) h2
  clear hA0 hval0
  simp only [List.append_nil] at hW'
  refine (walk a0 a1 a2 w0 w1 w2 W).mono fun e W' ⟨he, hg⟩ => ?_
  subst he
  exact ⟨_, rfl, post_of_same (pa := []) (pv := []) hW' (fun _ _ _ => (trodAll_cons_mk (shut_bool Try.underlying4 _) trodAll_mk0)) (fun sp _ => (trodAll_cons_mk (shut_int Try.underlying2 w0) (trodAll_cons_mk (shut_int Try.underlying2 w1) (trodAll_cons_mk (shut_int Try.underlying22 w2) trodAll_mk0)))) (fun _ _ => rfl) rfl
    (hg.frame _) hg.2.1 (ok_one (by kernel_rfl) rfl (okWide_bool_mk Try.underlying4 _))⟩

theorem over : Rows.realRisesRow.holds Try.pinned (OpenSpec.ofChange Rows.realRisesSpec) :=
  OpenClaim.holds_of_wide 11 Try.f11 rfl rfl rfl rfl rfl rfl rfl ⟨rfl, rfl, rfl, rfl, rfl⟩ rfl rfl rfl rfl rfl (by kernel_rfl) Try.func11 (by kernel_rfl)
    (of_decide_eq_true (by kernel_rfl)) (by unfold Func.isWrapper; first | (rw [if_pos (by decide +kernel)]; kernel_rfl) | (rw [if_neg (by decide +kernel)]; exact ⟨rfl, rfl⟩))
    (fun os started H enc _ => lifted os started H enc)

/-- The statement. -/
theorem proved : Rows.RealRisesSaid :=
  over
#print axioms proved
end Go.Proofs.Ytagempkaophnaaa.realRises
