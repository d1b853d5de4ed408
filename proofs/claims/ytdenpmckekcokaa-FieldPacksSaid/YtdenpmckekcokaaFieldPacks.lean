/- Pack and Unpack are the document's, for any widths, values and word; the law itself lets more than 100 of them go. -/
import Derived.Test.YtdenpmckekcokaaOpen
namespace Go.Proofs.Ytdenpmckekcokaa.fieldPacks
open Go.ChangeShapes Go.WideShapes Go.ChangeAt Go.RowKit
set_option linter.unusedVariables false

/-! The walk. -/
set_option maxRecDepth 100000 in
set_option maxHeartbeats 2000000 in
theorem walk (ws vs : Value) (n m u : Nat) (F : Nat → Int) (g : Nat → Nat) (w : World) (hF : Nums w ws n F) (hg : Words w vs m g) (hFb : ∀ j, -9223372036854775808 ≤ F j ∧ F j ≤ 9223372036854775807) (hgb : ∀ j, g j < 18446744073709551616)
    (hu : u < 18446744073709551616) (hn : n ≤ 9223372036854775807) (hm : m ≤ 9223372036854775807) :
    Calls Try.prog 4 #[ws, vs, .int .u64 (u : Nat)] w fun e w' => e = .returned (.bool true) ∧ Below w.heap.size w w' := by
  have a1 := fun w' (h : Bel w w') => pack_any ws vs n m F g w' (hF.bel h) (hg.bel h) hFb hgb
  have a2 := fun w' (h : Bel w w') => rpack_any ws vs n m F g w' (hF.bel h) (hg.bel h) hFb hgb
  have a3 := fun w' (h : Bel w w') => unpack_any ws n u F w' (hF.bel h) hFb hu
  have a4 := fun w' (h : Bel w w') => runpack_any ws n u F w' (hF.bel h) hFb hu
  have a5 : ∀ (l k : Value) (w' : World), Words w' l (unN F n u) (unG F u) → Words w' k (unN F n u) (unG F u) → Calls Try.prog 18 #[l, k] w' fun e w'' => e = .returned (.bool true) ∧ Bel w' w'' := fun l k w' h1 h2 => by
    have h := same_any l k _ _ _ _ w' h1 h2
    rw [sameB_refl] at h
    exact h
  unfold UnAns at a3 a4
  obtain ⟨p, cap, rfl⟩ := slice_cases hF
  obtain ⟨q, cap2, rfl⟩ := slice_cases hg
  generalize packR F n g m = A at *
  generalize packE F n g m = B at *
  generalize unE F n u = E at *
  generalize unN F n u = N at *
  generalize unG F u = G at *
  clear hF hg hFb hgb hu
  by_cases c : n ≤ 100
  · by_cases c2 : m ≤ 100
    · have d1 : decide (100 < (n : Int)) = false := decide_eq_false (by omega)
      have d2 : decide (100 < (m : Int)) = false := decide_eq_false (by omega)
      go_enter Try.func4, Try.ntmps4
      go_wp2_with (first
        | (go_at_call 14; refine (a1 _ (Bel.refl _)).mono ?_; rintro e w' ⟨rfl, hg1⟩)
        | (go_at_call 15; refine (a2 _ hg1).mono ?_; rintro e w' ⟨rfl, hg2⟩)
        | (go_at_call 16; refine (a3 _ (hg1.trans hg2)).mono ?_; rintro e w' ⟨l, rfl, hl, hg3⟩)
        | (go_at_call 17; refine (a4 _ (hg1.trans (hg2.trans hg3))).mono ?_; rintro e w' ⟨k, rfl, hk, hg4⟩)
        | (go_at_call 18; refine (a5 l k _ (hl.bel hg4) hk).mono ?_; rintro e w' ⟨rfl, hg5⟩)
        | (go_at_call 13; refine (awake_any _).mono ?_; rintro e w' ⟨rfl, hg6⟩))
      go_ret
      exact ⟨rfl, hg1.trans (hg2.trans (hg3.trans (hg4.trans (hg5.trans hg6))))⟩
    · have d1 : decide (100 < (n : Int)) = false := decide_eq_false (by omega)
      have d2 : decide (100 < (m : Int)) = true := decide_eq_true (by omega)
      clear a1 a2 a3 a4 a5
      go_enter Try.func4, Try.ntmps4
      go_wp2_with (go_at_call 13; refine (awake_any _).mono ?_; rintro e w' ⟨rfl, hg6⟩)
      go_ret
      exact ⟨rfl, hg6⟩
  · have d1 : decide (100 < (n : Int)) = true := decide_eq_true (by omega)
    clear a1 a2 a3 a4 a5
    go_enter Try.func4, Try.ntmps4
    go_wp2_with (go_at_call 13; refine (awake_any _).mono ?_; rintro e w' ⟨rfl, hg6⟩)
    go_ret
    exact ⟨rfl, hg6⟩

/-! The row. -/
set_option maxRecDepth 100000 in
theorem lifted (os : Os) (started : os.Started) (H : Type) (enc : TypeId × Value → H) :
    ReturnsInHanded {} Try.checked os 4 .any (Rows.fieldPacksSpec.pre6 enc Try.prog Try.f4 Rows.fieldPacksRow.domain false) (Rows.fieldPacksSpec.post enc Try.prog Try.f4 false true false false) := by
  refine lift_law (C := Try.checked) own started (by kernel_rfl) Try.func4 laid rowed full (by rw [Try.params4]; decide) rfl (by kernel_rfl) Try.underlying4
    (fun ds h => by rw [Try.params4] at h; match ds, h with | [_, _, _], _ => rfl)
    (ChangeSpec.witness6 (enc := enc) (C := Try.checked) false ⟨#[], #[.slice none 0 0, .slice none 0 0, .int .u64 0], []⟩ 8 (by kernel_rfl) (by kernel_rfl) (by kernel_rfl) (by kernel_rfl)) ?_
  intro W base args ds p hval hA
  change ∀ (j : Nat) t v, Try.f4.params[j]? = some t → args[j]? = some v → Value.okWide Try.prog W .any base t v at hval
  change DataW.TrodAll enc Try.prog W 0 (fun _ => true) true Try.f4.params.toList args.toList ds p at hA
  rw [Try.params4] at hA hval
  obtain ⟨v0, vs0, d0, ds0, p0, q0, hargs, rfl, rfl, h0, r0⟩ := trodAll_cons hA
  obtain ⟨v1, vs1, d1, ds1, p1, q1, hargs1, rfl, rfl, h1, r1⟩ := trodAll_cons r0
  obtain ⟨v2, vs2, d2, ds2, p2, q2, hargs2, rfl, rfl, h2, r2⟩ := trodAll_cons r1
  obtain ⟨rfl, rfl, rfl⟩ := trodAll_nil r2
  subst hargs2
  subst hargs1
  obtain rfl : args = #[v0, v1, v2] := by cases args; simp_all
  obtain ⟨n, F, hF, hFb, hn⟩ := get_nums Try.underlying34 Try.underlying3 cells3 (hval 0 34 v0 rfl rfl) h0
  obtain ⟨m, g, hg, hgb, hm⟩ := get_words Try.underlying35 Try.underlying22 cells22 (hval 1 35 v1 rfl rfl) h1
  obtain ⟨u, rfl, hu⟩ := get_u64 Try.underlying22 (hval 2 22 v2 rfl rfl) h2
  exact walk v0 v1 n m u F g W hF hg hFb hgb hu hn hm

theorem over : Rows.fieldPacksRow.holds Try.pinned (OpenSpec.ofChange Rows.fieldPacksSpec) :=
  OpenClaim.holds_of_wide 4 Try.f4 rfl rfl rfl rfl rfl rfl rfl ⟨rfl, rfl, rfl, rfl, rfl⟩ rfl rfl rfl rfl rfl (by kernel_rfl) Try.func4 (by kernel_rfl)
    (of_decide_eq_true (by kernel_rfl)) (by unfold Func.isWrapper; first | (rw [if_pos (by decide +kernel)]; kernel_rfl) | (rw [if_neg (by decide +kernel)]; exact ⟨rfl, rfl⟩))
    (fun os started H enc _ => lifted os started H enc)

/-- The statement. -/
theorem proved : Rows.FieldPacksSaid :=
  over
#print axioms proved
end Go.Proofs.Ytdenpmckekcokaa.fieldPacks
