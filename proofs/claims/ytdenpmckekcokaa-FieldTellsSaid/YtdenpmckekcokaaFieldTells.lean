/- Get and Set are the document's, for any word and any field. -/
import Derived.Test.YtdenpmckekcokaaOpen
namespace Go.Proofs.Ytdenpmckekcokaa.fieldTells
open Go.ChangeShapes Go.WideShapes Go.ChangeAt Go.RowKit
set_option linter.unusedVariables false

/-! The walk. -/
set_option maxRecDepth 100000 in
set_option maxHeartbeats 2000000 in
theorem walk (u x : Nat) (f m : Int) (w : World) (hu : u < 18446744073709551616) (h0 : -9223372036854775808 ≤ f) (h1 : f ≤ 9223372036854775807) (g0 : -9223372036854775808 ≤ m) (g1 : m ≤ 9223372036854775807) (hx : x < 18446744073709551616) :
    Calls Try.prog 3 #[.int .u64 (u : Nat), .agg #[.int .i64 f, .int .i64 m, .int .u64 (x : Nat)]] w fun e w' => e = .returned (.bool true) ∧ Below w.heap.size w w' := by
  have a1 := fun w => (get_any u f m w hu h0 h1 g0 g1).mono fun e w' ⟨a, b⟩ => (⟨a, Bel.of_drew b⟩ : _ ∧ Bel w w')
  have a2 := fun w => rget_any u f m w hu h0 h1 g0 g1
  have a3 := fun w => (set_any u f m x w hu hx h0 h1 g0 g1).mono fun e w' ⟨a, b⟩ => (⟨a, Bel.of_drew b⟩ : _ ∧ Bel w w')
  have a4 := fun w => rset_any u f m x w hu hx h0 h1 g0 g1
  generalize getR u f m = A at *
  generalize getE f m = B at *
  generalize setR u f m x = C at *
  generalize setE f m x = D at *
  have hb0 : Bel w (w.alloc (.cells #[.int .i64 f, .int .i64 m, .int .u64 (x : Nat)] 24)) := (Bel.refl w).alloc _
  go_enter Try.func3, Try.ntmps3
  go_wp2_with (first
    | (go_at_call 9; refine (a1 _).mono ?_; rintro e w' ⟨rfl, hg1⟩; obtain ⟨c0, c1, c2⟩ := part_at hg1)
    | (go_at_call 10; refine (a2 _).mono ?_; rintro e w' ⟨rfl, hw⟩; rw [hw])
    | (go_at_call 11; refine (a3 _).mono ?_; rintro e w' ⟨rfl, hg3⟩; obtain ⟨d0, d1, d2⟩ := part_at (hg1.trans hg3))
    | (go_at_call 12; refine (a4 _).mono ?_; rintro e w' ⟨rfl, hw⟩; rw [hw])
    | (go_at_call 13; refine (awake_any _).mono ?_; rintro e w' ⟨rfl, hg5⟩))
  go_ret
  exact ⟨rfl, hb0.trans (hg1.trans (hg3.trans hg5))⟩

/-! The row. -/
set_option maxRecDepth 100000 in
theorem lifted (os : Os) (started : os.Started) (H : Type) (enc : TypeId × Value → H) :
    ReturnsInHanded {} Try.checked os 3 .any (Rows.fieldTellsSpec.pre6 enc Try.prog Try.f3 Rows.fieldTellsRow.domain false) (Rows.fieldTellsSpec.post enc Try.prog Try.f3 false true false false) := by
  refine lift_law (C := Try.checked) own started (by kernel_rfl) Try.func3 laid rowed full (by rw [Try.params3]; decide) rfl (by kernel_rfl) Try.underlying4
    (fun ds h => by rw [Try.params3] at h; match ds, h with | [_, _], _ => rfl)
    (ChangeSpec.witness6 (enc := enc) (C := Try.checked) false ⟨#[], #[.int .u64 0, .agg #[.int .i64 0, .int .i64 0, .int .u64 0]], []⟩ 8 (by kernel_rfl) (by kernel_rfl) (by kernel_rfl) (by kernel_rfl)) ?_
  intro W base args ds p hval hA
  change ∀ (j : Nat) t v, Try.f3.params[j]? = some t → args[j]? = some v → Value.okWide Try.prog W .any base t v at hval
  change DataW.TrodAll enc Try.prog W 0 (fun _ => true) true Try.f3.params.toList args.toList ds p at hA
  rw [Try.params3] at hA hval
  obtain ⟨v0, vs0, d0, ds0, p0, q0, hargs, rfl, rfl, h0, r0⟩ := trodAll_cons hA
  obtain ⟨v1, vs1, d1, ds1, p1, q1, hargs1, rfl, rfl, h1, r1⟩ := trodAll_cons r0
  obtain ⟨rfl, rfl, rfl⟩ := trodAll_nil r1
  subst hargs1
  obtain rfl : args = #[v0, v1] := by cases args; simp_all
  obtain ⟨u, rfl, hu⟩ := get_u64 Try.underlying22 (hval 0 22 v0 rfl rfl) h0
  obtain ⟨f, m, x, rfl, f0, f1, m0, m1, hx⟩ := get_part (hval 1 24 v1 rfl rfl) h1
  exact walk u x f m W hu f0 f1 m0 m1 hx

theorem over : Rows.fieldTellsRow.holds Try.pinned (OpenSpec.ofChange Rows.fieldTellsSpec) :=
  OpenClaim.holds_of_wide 3 Try.f3 rfl rfl rfl rfl rfl rfl rfl ⟨rfl, rfl, rfl, rfl, rfl⟩ rfl rfl rfl rfl rfl (by kernel_rfl) Try.func3 (by kernel_rfl)
    (of_decide_eq_true (by kernel_rfl)) (by unfold Func.isWrapper; first | (rw [if_pos (by decide +kernel)]; kernel_rfl) | (rw [if_neg (by decide +kernel)]; exact ⟨rfl, rfl⟩))
    (fun os started H enc _ => lifted os started H enc)

/-- The statement. -/
theorem proved : Rows.FieldTellsSaid :=
  over
#print axioms proved
end Go.Proofs.Ytdenpmckekcokaa.fieldTells
