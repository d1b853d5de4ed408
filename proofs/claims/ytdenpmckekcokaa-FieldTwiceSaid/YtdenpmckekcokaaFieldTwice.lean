/- A field that is set twice has what was set last, and two fields with no bit in common may be set in any order. -/
import Derived.Test.YtdenpmckekcokaaOpen
namespace Go.Proofs.Ytdenpmckekcokaa.fieldTwice
open Go.ChangeShapes Go.WideShapes Go.ChangeAt Go.RowKit
set_option linter.unusedVariables false

/-! The walk. -/
theorem end_bel {w : World} {a b : Obj} {w' : World} {q : Nat} (h : Bel (((w.alloc a).alloc b).drewN q) w') : Below w.heap.size w w' := ((bel_two w a b).then_drewN q).trans h

/-- the law answers true, and all that lay there lies as it lay -/
def Post (w : World) (e : Ending) (w' : World) : Prop := e = .returned (.bool true) ∧ Below w.heap.size w w'

set_option maxRecDepth 100000 in
set_option maxHeartbeats 2000000 in
theorem walk_no (u x y : Nat) (f m f2 m2 E : Int) (w : World) (hE : ((E : Int) != 0) = true)
    (a1 : ∀ w, Calls Try.prog 11 #[.int .u64 (u : Nat), .int .i64 f, .int .i64 m, .int .u64 (x : Nat)] w fun e w' => e = .returned (.tuple #[.int .u64 0, .int .i64 E]) ∧ ∃ q, w' = w.drewN q) :
    Calls Try.prog 8 #[.int .u64 (u : Nat), .agg #[.int .i64 f, .int .i64 m, .int .u64 (x : Nat)], .agg #[.int .i64 f2, .int .i64 m2, .int .u64 (y : Nat)]] w (Post w) := by
  go_enter Try.func8, Try.ntmps8
  go_wp2_with (first
    | (go_at_call 11; ((with_reducible refine (a1 _).mono ?_); rintro e w' ⟨rfl, qa1, hw⟩; rw [hw]))
    | (go_at_call 13; refine (awake_any _).mono ?_; rintro e w' ⟨rfl, hg6⟩))
  go_ret
  exact ⟨rfl, end_bel hg6⟩

set_option maxRecDepth 100000 in
set_option maxHeartbeats 2000000 in
theorem walk_other (u x y F M A Z : Nat) (f2 m2 E : Int) (w : World) (hE : ((E : Int) != 0) = true)
    (a1 : ∀ w, Calls Try.prog 11 #[.int .u64 (u : Nat), .int .i64 (F : Nat), .int .i64 (M : Nat), .int .u64 (x : Nat)] w fun e w' => e = .returned (.tuple #[.int .u64 (A : Nat), .int .i64 0]) ∧ ∃ q, w' = w.drewN q)
    (a2 : ∀ w, Calls Try.prog 11 #[.int .u64 (A : Nat), .int .i64 (F : Nat), .int .i64 (M : Nat), .int .u64 0] w fun e w' => e = .returned (.tuple #[.int .u64 (Z : Nat), .int .i64 0]) ∧ ∃ q, w' = w.drewN q)
    (a3 : ∀ w, Calls Try.prog 11 #[.int .u64 (u : Nat), .int .i64 (F : Nat), .int .i64 (M : Nat), .int .u64 0] w fun e w' => e = .returned (.tuple #[.int .u64 (Z : Nat), .int .i64 0]) ∧ ∃ q, w' = w.drewN q)
    (a4 : ∀ w, Calls Try.prog 11 #[.int .u64 (u : Nat), .int .i64 f2, .int .i64 m2, .int .u64 (y : Nat)] w fun e w' => e = .returned (.tuple #[.int .u64 0, .int .i64 E]) ∧ ∃ q, w' = w.drewN q) :
    Calls Try.prog 8 #[.int .u64 (u : Nat), .agg #[.int .i64 (F : Nat), .int .i64 (M : Nat), .int .u64 (x : Nat)], .agg #[.int .i64 f2, .int .i64 m2, .int .u64 (y : Nat)]] w (Post w) := by
  go_enter Try.func8, Try.ntmps8
  go_wp2_with (first
    | (go_at_call 11; ((with_reducible refine (a1 _).mono ?_); rintro e w' ⟨rfl, qa1, hw⟩; rw [hw]))
    | (go_at_call 11; ((with_reducible refine (a2 _).mono ?_); rintro e w' ⟨rfl, qa2, hw⟩; rw [hw]))
    | (go_at_call 11; ((with_reducible refine (a3 _).mono ?_); rintro e w' ⟨rfl, qa3, hw⟩; rw [hw]))
    | (go_at_call 11; ((with_reducible refine (a4 _).mono ?_); rintro e w' ⟨rfl, qa4, hw⟩; rw [hw]))
    | (go_at_call 13; refine (awake_any _).mono ?_; rintro e w' ⟨rfl, hg6⟩))
  go_ret
  exact ⟨rfl, end_bel hg6⟩

set_option maxRecDepth 100000 in
set_option maxHeartbeats 2000000 in
theorem walk_meet (u x y F M F2 M2 A Z B : Nat) (w : World) (hs : F + M ≤ 64) (hs2 : F2 + M2 ≤ 64) (h : F2 < F + M) (h2 : F < F2 + M2)
    (a1 : ∀ w, Calls Try.prog 11 #[.int .u64 (u : Nat), .int .i64 (F : Nat), .int .i64 (M : Nat), .int .u64 (x : Nat)] w fun e w' => e = .returned (.tuple #[.int .u64 (A : Nat), .int .i64 0]) ∧ ∃ q, w' = w.drewN q)
    (a2 : ∀ w, Calls Try.prog 11 #[.int .u64 (A : Nat), .int .i64 (F : Nat), .int .i64 (M : Nat), .int .u64 0] w fun e w' => e = .returned (.tuple #[.int .u64 (Z : Nat), .int .i64 0]) ∧ ∃ q, w' = w.drewN q)
    (a3 : ∀ w, Calls Try.prog 11 #[.int .u64 (u : Nat), .int .i64 (F : Nat), .int .i64 (M : Nat), .int .u64 0] w fun e w' => e = .returned (.tuple #[.int .u64 (Z : Nat), .int .i64 0]) ∧ ∃ q, w' = w.drewN q)
    (a4 : ∀ w, Calls Try.prog 11 #[.int .u64 (u : Nat), .int .i64 (F2 : Nat), .int .i64 (M2 : Nat), .int .u64 (y : Nat)] w fun e w' => e = .returned (.tuple #[.int .u64 (B : Nat), .int .i64 0]) ∧ ∃ q, w' = w.drewN q) :
    Calls Try.prog 8 #[.int .u64 (u : Nat), .agg #[.int .i64 (F : Nat), .int .i64 (M : Nat), .int .u64 (x : Nat)], .agg #[.int .i64 (F2 : Nat), .int .i64 (M2 : Nat), .int .u64 (y : Nat)]] w (Post w) := by
  have t1 : decide ((F2 : Int) < (F : Int) + (M : Int)) = true := decide_eq_true (by omega)
  have t2 : decide ((F : Int) < (F2 : Int) + (M2 : Int)) = true := decide_eq_true (by omega)
  go_enter Try.func8, Try.ntmps8
  go_wp2_with (first
    | (go_at_call 11; ((with_reducible refine (a1 _).mono ?_); rintro e w' ⟨rfl, qa1, hw⟩; rw [hw]))
    | (go_at_call 11; ((with_reducible refine (a2 _).mono ?_); rintro e w' ⟨rfl, qa2, hw⟩; rw [hw]))
    | (go_at_call 11; ((with_reducible refine (a3 _).mono ?_); rintro e w' ⟨rfl, qa3, hw⟩; rw [hw]))
    | (go_at_call 11; ((with_reducible refine (a4 _).mono ?_); rintro e w' ⟨rfl, qa4, hw⟩; rw [hw]))
    | (go_at_call 13; refine (awake_any _).mono ?_; rintro e w' ⟨rfl, hg6⟩))
  go_ret
  exact ⟨rfl, end_bel hg6⟩

set_option maxRecDepth 100000 in
set_option maxHeartbeats 2000000 in
theorem walk_behind (u x y F M F2 M2 A Z B C : Nat) (w : World) (hs : F + M ≤ 64) (hs2 : F2 + M2 ≤ 64) (h : ¬ F2 < F + M)
    (a1 : ∀ w, Calls Try.prog 11 #[.int .u64 (u : Nat), .int .i64 (F : Nat), .int .i64 (M : Nat), .int .u64 (x : Nat)] w fun e w' => e = .returned (.tuple #[.int .u64 (A : Nat), .int .i64 0]) ∧ ∃ q, w' = w.drewN q)
    (a2 : ∀ w, Calls Try.prog 11 #[.int .u64 (A : Nat), .int .i64 (F : Nat), .int .i64 (M : Nat), .int .u64 0] w fun e w' => e = .returned (.tuple #[.int .u64 (Z : Nat), .int .i64 0]) ∧ ∃ q, w' = w.drewN q)
    (a3 : ∀ w, Calls Try.prog 11 #[.int .u64 (u : Nat), .int .i64 (F : Nat), .int .i64 (M : Nat), .int .u64 0] w fun e w' => e = .returned (.tuple #[.int .u64 (Z : Nat), .int .i64 0]) ∧ ∃ q, w' = w.drewN q)
    (a4 : ∀ w, Calls Try.prog 11 #[.int .u64 (u : Nat), .int .i64 (F2 : Nat), .int .i64 (M2 : Nat), .int .u64 (y : Nat)] w fun e w' => e = .returned (.tuple #[.int .u64 (B : Nat), .int .i64 0]) ∧ ∃ q, w' = w.drewN q)
    (a5 : ∀ w, Calls Try.prog 11 #[.int .u64 (A : Nat), .int .i64 (F2 : Nat), .int .i64 (M2 : Nat), .int .u64 (y : Nat)] w fun e w' => e = .returned (.tuple #[.int .u64 (C : Nat), .int .i64 0]) ∧ ∃ q, w' = w.drewN q)
    (a6 : ∀ w, Calls Try.prog 11 #[.int .u64 (B : Nat), .int .i64 (F : Nat), .int .i64 (M : Nat), .int .u64 (x : Nat)] w fun e w' => e = .returned (.tuple #[.int .u64 (C : Nat), .int .i64 0]) ∧ ∃ q, w' = w.drewN q) :
    Calls Try.prog 8 #[.int .u64 (u : Nat), .agg #[.int .i64 (F : Nat), .int .i64 (M : Nat), .int .u64 (x : Nat)], .agg #[.int .i64 (F2 : Nat), .int .i64 (M2 : Nat), .int .u64 (y : Nat)]] w (Post w) := by
  have t1 : decide ((F2 : Int) < (F : Int) + (M : Int)) = false := decide_eq_false (by omega)
  go_enter Try.func8, Try.ntmps8
  go_wp2_with (first
    | (go_at_call 11; ((with_reducible refine (a1 _).mono ?_); rintro e w' ⟨rfl, qa1, hw⟩; rw [hw]))
    | (go_at_call 11; ((with_reducible refine (a2 _).mono ?_); rintro e w' ⟨rfl, qa2, hw⟩; rw [hw]))
    | (go_at_call 11; ((with_reducible refine (a3 _).mono ?_); rintro e w' ⟨rfl, qa3, hw⟩; rw [hw]))
    | (go_at_call 11; ((with_reducible refine (a4 _).mono ?_); rintro e w' ⟨rfl, qa4, hw⟩; rw [hw]))
    | (go_at_call 11; ((with_reducible refine (a5 _).mono ?_); rintro e w' ⟨rfl, qa5, hw⟩; rw [hw]))
    | (go_at_call 11; ((with_reducible refine (a6 _).mono ?_); rintro e w' ⟨rfl, qa6, hw⟩; rw [hw]))
    | (go_at_call 13; refine (awake_any _).mono ?_; rintro e w' ⟨rfl, hg6⟩))
  go_ret
  exact ⟨rfl, end_bel hg6⟩

set_option maxRecDepth 100000 in
set_option maxHeartbeats 2000000 in
theorem walk_ahead (u x y F M F2 M2 A Z B C : Nat) (w : World) (hs : F + M ≤ 64) (hs2 : F2 + M2 ≤ 64) (h : F2 < F + M) (h2 : ¬ F < F2 + M2)
    (a1 : ∀ w, Calls Try.prog 11 #[.int .u64 (u : Nat), .int .i64 (F : Nat), .int .i64 (M : Nat), .int .u64 (x : Nat)] w fun e w' => e = .returned (.tuple #[.int .u64 (A : Nat), .int .i64 0]) ∧ ∃ q, w' = w.drewN q)
    (a2 : ∀ w, Calls Try.prog 11 #[.int .u64 (A : Nat), .int .i64 (F : Nat), .int .i64 (M : Nat), .int .u64 0] w fun e w' => e = .returned (.tuple #[.int .u64 (Z : Nat), .int .i64 0]) ∧ ∃ q, w' = w.drewN q)
    (a3 : ∀ w, Calls Try.prog 11 #[.int .u64 (u : Nat), .int .i64 (F : Nat), .int .i64 (M : Nat), .int .u64 0] w fun e w' => e = .returned (.tuple #[.int .u64 (Z : Nat), .int .i64 0]) ∧ ∃ q, w' = w.drewN q)
    (a4 : ∀ w, Calls Try.prog 11 #[.int .u64 (u : Nat), .int .i64 (F2 : Nat), .int .i64 (M2 : Nat), .int .u64 (y : Nat)] w fun e w' => e = .returned (.tuple #[.int .u64 (B : Nat), .int .i64 0]) ∧ ∃ q, w' = w.drewN q)
    (a5 : ∀ w, Calls Try.prog 11 #[.int .u64 (A : Nat), .int .i64 (F2 : Nat), .int .i64 (M2 : Nat), .int .u64 (y : Nat)] w fun e w' => e = .returned (.tuple #[.int .u64 (C : Nat), .int .i64 0]) ∧ ∃ q, w' = w.drewN q)
    (a6 : ∀ w, Calls Try.prog 11 #[.int .u64 (B : Nat), .int .i64 (F : Nat), .int .i64 (M : Nat), .int .u64 (x : Nat)] w fun e w' => e = .returned (.tuple #[.int .u64 (C : Nat), .int .i64 0]) ∧ ∃ q, w' = w.drewN q) :
    Calls Try.prog 8 #[.int .u64 (u : Nat), .agg #[.int .i64 (F : Nat), .int .i64 (M : Nat), .int .u64 (x : Nat)], .agg #[.int .i64 (F2 : Nat), .int .i64 (M2 : Nat), .int .u64 (y : Nat)]] w (Post w) := by
  have t1 : decide ((F2 : Int) < (F : Int) + (M : Int)) = true := decide_eq_true (by omega)
  have t2 : decide ((F : Int) < (F2 : Int) + (M2 : Int)) = false := decide_eq_false (by omega)
  go_enter Try.func8, Try.ntmps8
  go_wp2_with (first
    | (go_at_call 11; ((with_reducible refine (a1 _).mono ?_); rintro e w' ⟨rfl, qa1, hw⟩; rw [hw]))
    | (go_at_call 11; ((with_reducible refine (a2 _).mono ?_); rintro e w' ⟨rfl, qa2, hw⟩; rw [hw]))
    | (go_at_call 11; ((with_reducible refine (a3 _).mono ?_); rintro e w' ⟨rfl, qa3, hw⟩; rw [hw]))
    | (go_at_call 11; ((with_reducible refine (a4 _).mono ?_); rintro e w' ⟨rfl, qa4, hw⟩; rw [hw]))
    | (go_at_call 11; ((with_reducible refine (a5 _).mono ?_); rintro e w' ⟨rfl, qa5, hw⟩; rw [hw]))
    | (go_at_call 11; ((with_reducible refine (a6 _).mono ?_); rintro e w' ⟨rfl, qa6, hw⟩; rw [hw]))
    | (go_at_call 13; refine (awake_any _).mono ?_; rintro e w' ⟨rfl, hg6⟩))
  go_ret
  exact ⟨rfl, end_bel hg6⟩

theorem walk (u x y : Nat) (f m f2 m2 : Int) (w : World) (hu : u < 18446744073709551616) (h0 : -9223372036854775808 ≤ f) (h1 : f ≤ 9223372036854775807) (g0 : -9223372036854775808 ≤ m) (g1 : m ≤ 9223372036854775807) (hx : x < 18446744073709551616)
    (k0 : -9223372036854775808 ≤ f2) (k1 : f2 ≤ 9223372036854775807) (l0 : -9223372036854775808 ≤ m2) (l1 : m2 ≤ 9223372036854775807) (hy : y < 18446744073709551616) :
    Calls Try.prog 8 #[.int .u64 (u : Nat), .agg #[.int .i64 f, .int .i64 m, .int .u64 (x : Nat)], .agg #[.int .i64 f2, .int .i64 m2, .int .u64 (y : Nat)]] w (Post w) := by
  have a1 := fun w => set_any u f m x w hu hx h0 h1 g0 g1
  cases c : okF f m
  · rw [setR_no c, setE_no c] at a1
    exact walk_no u x y f m f2 m2 2 w rfl a1
  · obtain ⟨F, M, rfl, rfl, s1, s2⟩ := okF_true c
    by_cases hv : x < 2 ^ M
    · rw [setR_ok s1 s2 hv, setE_ok s1 s2 hv] at a1
      have z := Nat.two_pow_pos M
      have hA := setV_lt s2 hv hu
      have a2 := fun w => set_ok (setV u F M x) F M 0 w hA s1 s2 z
      rw [set_twice s2 hv z hu] at a2
      have a3 := fun w => set_ok u F M 0 w hu s1 s2 z
      have a4 := fun w => set_any u f2 m2 y w hu hy k0 k1 l0 l1
      cases c2 : okF f2 m2
      · rw [setR_no c2, setE_no c2] at a4
        exact walk_other u x y F M _ _ f2 m2 2 w rfl a1 a2 a3 a4
      · obtain ⟨F2, M2, rfl, rfl, r1, r2⟩ := okF_true c2
        by_cases hy2 : y < 2 ^ M2
        · rw [setR_ok r1 r2 hy2, setE_ok r1 r2 hy2] at a4
          have hB := setV_lt r2 hy2 hu
          have a5 := fun w => set_ok (setV u F M x) F2 M2 y w hA r1 r2 hy2
          have a6 := fun w => set_ok (setV u F2 M2 y) F M x w hB s1 s2 hv
          by_cases d1 : F2 < F + M
          · by_cases d2 : F < F2 + M2
            · exact walk_meet u x y F M F2 M2 _ _ _ w s2 r2 d1 d2 a1 a2 a3 a4
            · rw [set_turn s2 hv r2 hy2 hu (Or.inl (by omega))] at a5
              exact walk_ahead u x y F M F2 M2 _ _ _ _ w s2 r2 d1 d2 a1 a2 a3 a4 a5 a6
          · rw [set_turn s2 hv r2 hy2 hu (Or.inr (by omega))] at a5
            exact walk_behind u x y F M F2 M2 _ _ _ _ w s2 r2 d1 a1 a2 a3 a4 a5 a6
        · rw [setR_big r1 r2 hy2, setE_big r1 r2 hy2] at a4
          exact walk_other u x y F M _ _ F2 M2 4 w rfl a1 a2 a3 a4
    · rw [setR_big s1 s2 hv, setE_big s1 s2 hv] at a1
      exact walk_no u x y F M f2 m2 4 w rfl a1

/-! The row. -/
set_option maxRecDepth 100000 in
theorem lifted (os : Os) (started : os.Started) (H : Type) (enc : TypeId × Value → H) :
    ReturnsInHanded {} Try.checked os 8 .any (Rows.fieldTwiceSpec.pre6 enc Try.prog Try.f8 Rows.fieldTwiceRow.domain false) (Rows.fieldTwiceSpec.post enc Try.prog Try.f8 false true false false) := by
  refine lift_law (C := Try.checked) own started (by kernel_rfl) Try.func8 laid rowed full (by rw [Try.params8]; decide) rfl (by kernel_rfl) Try.underlying4
    (fun ds h => by rw [Try.params8] at h; match ds, h with | [_, _, _], _ => rfl)
    (ChangeSpec.witness6 (enc := enc) (C := Try.checked) false ⟨#[], #[.int .u64 0, .agg #[.int .i64 0, .int .i64 0, .int .u64 0], .agg #[.int .i64 0, .int .i64 0, .int .u64 0]], []⟩ 8 (by kernel_rfl) (by kernel_rfl) (by kernel_rfl) (by kernel_rfl)) ?_
  intro W base args ds p hval hA
  change ∀ (j : Nat) t v, Try.f8.params[j]? = some t → args[j]? = some v → Value.okWide Try.prog W .any base t v at hval
  change DataW.TrodAll enc Try.prog W 0 (fun _ => true) true Try.f8.params.toList args.toList ds p at hA
  rw [Try.params8] at hA hval
  obtain ⟨v0, vs0, d0, ds0, p0, q0, hargs, rfl, rfl, h0, r0⟩ := trodAll_cons hA
  obtain ⟨v1, vs1, d1, ds1, p1, q1, hargs1, rfl, rfl, h1, r1⟩ := trodAll_cons r0
  obtain ⟨v2, vs2, d2, ds2, p2, q2, hargs2, rfl, rfl, h2, r2⟩ := trodAll_cons r1
  obtain ⟨rfl, rfl, rfl⟩ := trodAll_nil r2
  subst hargs2
  subst hargs1
  obtain rfl : args = #[v0, v1, v2] := by cases args; simp_all
  obtain ⟨u, rfl, hu⟩ := get_u64 Try.underlying22 (hval 0 22 v0 rfl rfl) h0
  obtain ⟨f, m, x, rfl, f0, f1, m0, m1, hx⟩ := get_part (hval 1 24 v1 rfl rfl) h1
  obtain ⟨f2, m2, y, rfl, g0, g1, k0, k1, hy⟩ := get_part (hval 2 24 v2 rfl rfl) h2
  exact walk u x y f m f2 m2 W hu f0 f1 m0 m1 hx g0 g1 k0 k1 hy

theorem over : Rows.fieldTwiceRow.holds Try.pinned (OpenSpec.ofChange Rows.fieldTwiceSpec) :=
  OpenClaim.holds_of_wide 8 Try.f8 rfl rfl rfl rfl rfl rfl rfl ⟨rfl, rfl, rfl, rfl, rfl⟩ rfl rfl rfl rfl rfl (by kernel_rfl) Try.func8 (by kernel_rfl)
    (of_decide_eq_true (by kernel_rfl)) (by unfold Func.isWrapper; first | (rw [if_pos (by decide +kernel)]; kernel_rfl) | (rw [if_neg (by decide +kernel)]; exact ⟨rfl, rfl⟩))
    (fun os started H enc _ => lifted os started H enc)

/-- The statement. -/
theorem proved : Rows.FieldTwiceSaid :=
  over
#print axioms proved
end Go.Proofs.Ytdenpmckekcokaa.fieldTwice
