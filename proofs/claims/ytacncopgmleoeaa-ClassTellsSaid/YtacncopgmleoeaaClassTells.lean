/- Classes of words: whatever the classes and the words, the program answers as the document, or both refuse; for every input, no condition. -/
import Derived.Test.YtacncopgmleoeaaRowk
import Derived.Test.YtacncopgmleoeaaOpen
namespace Go.Proofs.Ytacncopgmleoeaa.classTells
open Go.ChangeShapes Go.WideShapes Go.ChangeAt Go.RowKit
set_option linter.unusedVariables false

/-! The walk. -/
set_option maxRecDepth 100000 in
set_option maxHeartbeats 2000000 in
theorem walk (v : Value) (n : Nat) (F : Nat → Int) (u : Int) (w : World) (hN : Nums w v n F) :
    Calls Try.prog 3 #[v, .int .i64 u] w fun e w' => e = .returned (.bool true) ∧ Below w.heap.size w w' := by
  have aw := fun w1 (g : Bel w w1) => (awake_any w1).mono fun e w' ⟨a, b⟩ => (⟨a, g.trans b⟩ : _ ∧ Bel w w')
  obtain ⟨p, cap, rfl, hb⟩ := nums_slice hN
  have g0 := Bel.refl w
  by_cases c : 50 < n
  · have cI : (50 : Int) < (n : Int) := by omega
    clear hN
    go_enter Try.func3, Try.ntmps3
    go_wp2_with (go_at_call 6; refine (aw _ (by assumption)).mono ?_; rintro e w' ⟨rfl, hg⟩)
    go_ret
    exact ⟨rfl, hg⟩
  · have c1 : decide (50 < n) = false := decide_eq_false c
    have c2 : decide ((50 : Int) < (n : Int)) = false := decide_eq_false (by omega)
    have o1 := fun w1 (g : Bel w w1) => (of_any _ n F u w1 (hN.bel g)).mono fun e w' ⟨a, b⟩ => (⟨a, g.trans b⟩ : _ ∧ Bel w w')
    have o2 := fun w1 (g : Bel w w1) => (rof_any _ n F u w1 (hN.bel g)).mono fun e w' ⟨a, b⟩ => (⟨a, g.trans b⟩ : _ ∧ Bel w w')
    have o3 := fun w1 (g : Bel w w1) => (round_any _ n F u w1 (hN.bel g)).mono fun e w' ⟨a, b⟩ => (⟨a, g.trans b⟩ : _ ∧ Bel w w')
    have o4 := fun w1 (g : Bel w w1) => (rround_any _ n F u w1 (hN.bel g)).mono fun e w' ⟨a, b⟩ => (⟨a, g.trans b⟩ : _ ∧ Bel w w')
    have o5 := fun w1 (g : Bel w w1) => (waste_any _ n F u w1 (hN.bel g)).mono fun e w' ⟨a, b⟩ => (⟨a, g.trans b⟩ : _ ∧ Bel w w')
    have o6 := fun w1 (g : Bel w w1) => (rwaste_any _ n F u w1 (hN.bel g)).mono fun e w' ⟨a, b⟩ => (⟨a, g.trans b⟩ : _ ∧ Bel w w')
    have o7 := fun w1 (g : Bel w w1) => (check_any _ n F w1 (hN.bel g)).mono fun e w' ⟨a, b⟩ => (⟨a, g.trans (Bel.of_eq b)⟩ : _ ∧ Bel w w')
    have o8 := fun w1 (g : Bel w w1) => (rcheck_any _ n F w1 (hN.bel g)).mono fun e w' ⟨a, b⟩ => (⟨a, g.trans b⟩ : _ ∧ Bel w w')
    clear hN c
    generalize ofN n F u = A at *
    generalize ofE n F u = B at *
    generalize roundV n F u = C at *
    generalize wasteV n F u = D at *
    generalize checkV n F = E at *
    go_enter Try.func3, Try.ntmps3
    go_wp2_with (first
      | (go_at_call 7; refine (o1 _ (by assumption)).mono ?_; rintro e w' ⟨rfl, hg1⟩)
      | (go_at_call 8; refine (o2 _ (by assumption)).mono ?_; rintro e w' ⟨rfl, hg2⟩)
      | (go_at_call 9; refine (o3 _ (by assumption)).mono ?_; rintro e w' ⟨rfl, hg3⟩)
      | (go_at_call 10; refine (o4 _ (by assumption)).mono ?_; rintro e w' ⟨rfl, hg4⟩)
      | (go_at_call 11; refine (o5 _ (by assumption)).mono ?_; rintro e w' ⟨rfl, hg5⟩)
      | (go_at_call 12; refine (o6 _ (by assumption)).mono ?_; rintro e w' ⟨rfl, hg6⟩)
      | (go_at_call 13; refine (o7 _ (by assumption)).mono ?_; rintro e w' ⟨rfl, hg7⟩)
      | (go_at_call 14; refine (o8 _ (by assumption)).mono ?_; rintro e w' ⟨rfl, hg8⟩)
      | (go_at_call 6; refine (aw _ (by assumption)).mono ?_; rintro e w' ⟨rfl, hg9⟩))
    go_ret
    exact ⟨rfl, hg9⟩

/-! The row. -/
set_option maxRecDepth 100000 in
theorem lifted (os : Os) (started : os.Started) (H : Type) (enc : TypeId × Value → H) :
    ReturnsInHanded {} Try.checked os 3 .any (Rows.classTellsSpec.pre6 enc Try.prog Try.f3 Rows.classTellsRow.domain false) (Rows.classTellsSpec.post enc Try.prog Try.f3 false true false false) := by
  refine lift_law (C := Try.checked) own started (by kernel_rfl) Try.func3 laid rowed full (by rw [Try.params3]; decide) rfl (by kernel_rfl) Try.underlying4
    (fun ds h => by rw [Try.params3] at h; match ds, h with | [_, _], _ => rfl)
    (ChangeSpec.witness6 (enc := enc) (C := Try.checked) false ⟨#[], #[.slice none 0 0, .int .i64 0], []⟩ 8 (by kernel_rfl) (by kernel_rfl) (by kernel_rfl) (by kernel_rfl)) ?_
  intro W base args ds p hval hA
  change ∀ (j : Nat) t v, Try.f3.params[j]? = some t → args[j]? = some v → Value.okWide Try.prog W .any base t v at hval
  change DataW.TrodAll enc Try.prog W 0 (fun _ => true) true Try.f3.params.toList args.toList ds p at hA
  rw [Try.params3] at hA hval
  obtain ⟨v0, vs0, d0, ds0, p0, q0, hargs, rfl, rfl, h0, r0⟩ := trodAll_cons hA
  obtain ⟨v1, vs1, d1, ds1, p1, q1, hargs1, rfl, rfl, h1, r1⟩ := trodAll_cons r0
  obtain ⟨rfl, rfl, rfl⟩ := trodAll_nil r1
  subst hargs1
  obtain rfl : args = #[v0, v1] := by cases args; simp_all
  obtain ⟨n, F, hN, hF, _⟩ := get_nums Try.underlying22 Try.underlying3 cells3 (hval 0 22 v0 rfl rfl) h0
  obtain ⟨u, rfl, _, _⟩ := get_i64 Try.underlying3 (hval 1 3 v1 rfl rfl) h1
  exact walk v0 n F u W hN

theorem over : Rows.classTellsRow.holds Try.pinned (OpenSpec.ofChange Rows.classTellsSpec) :=
  OpenClaim.holds_of_wide 3 Try.f3 rfl rfl rfl rfl rfl rfl rfl ⟨rfl, rfl, rfl, rfl, rfl⟩ rfl rfl rfl rfl rfl (by kernel_rfl) Try.func3 (by kernel_rfl)
    (of_decide_eq_true (by kernel_rfl)) (by unfold Func.isWrapper; first | (rw [if_pos (by decide +kernel)]; kernel_rfl) | (rw [if_neg (by decide +kernel)]; exact ⟨rfl, rfl⟩))
    (fun os started H enc _ => lifted os started H enc)

/-- The statement. -/
theorem proved : Rows.ClassTellsSaid :=
  over
#print axioms proved
end Go.Proofs.Ytacncopgmleoeaa.classTells
