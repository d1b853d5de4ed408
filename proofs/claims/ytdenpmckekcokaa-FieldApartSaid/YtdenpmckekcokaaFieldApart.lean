/- What is set is got, and no other field is changed that has none of its bits, for any word and any two fields. -/
import Derived.Test.YtdenpmckekcokaaOpen
namespace Go.Proofs.Ytdenpmckekcokaa.fieldApart
open Go.ChangeShapes Go.WideShapes Go.ChangeAt Go.RowKit
set_option linter.unusedVariables false

/-! The walk. -/
theorem end_bel {w : World} {a b : Obj} {w' : World} {q : Nat} (h : Bel (((w.alloc a).alloc b).drewN q) w') : Below w.heap.size w w' := ((bel_two w a b).then_drewN q).trans h

/-- what is set is not refused: and then -/
def Post (w : World) (e : Ending) (w' : World) : Prop := e = .returned (.bool true) ∧ Below w.heap.size w w'

set_option maxRecDepth 100000 in
set_option maxHeartbeats 2000000 in
theorem walk_no (u x y : Nat) (f m f2 m2 E : Int) (w : World) (hE : ((E : Int) != 0) = true) (a1 : ∀ w, Calls Try.prog 11 #[.int .u64 (u : Nat), .int .i64 f, .int .i64 m, .int .u64 (x : Nat)] w fun e w' => e = .returned (.tuple #[.int .u64 0, .int .i64 E]) ∧ ∃ q, w' = w.drewN q) :
    Calls Try.prog 5 #[.int .u64 (u : Nat), .agg #[.int .i64 f, .int .i64 m, .int .u64 (x : Nat)], .agg #[.int .i64 f2, .int .i64 m2, .int .u64 (y : Nat)]] w (Post w) := by
  go_enter Try.func5, Try.ntmps5
  go_wp2_with (first
    | (go_at_call 11; refine (a1 _).mono ?_; rintro e w' ⟨rfl, q1, hw⟩; rw [hw])
    | (go_at_call 13; refine (awake_any _).mono ?_; rintro e w' ⟨rfl, hg6⟩))
  go_ret
  exact ⟨rfl, end_bel hg6⟩

set_option maxRecDepth 100000 in
set_option maxHeartbeats 2000000 in
theorem walk_other (u x y F M N : Nat) (f2 m2 : Int) (w : World)
    (a1 : ∀ w, Calls Try.prog 11 #[.int .u64 (u : Nat), .int .i64 (F : Nat), .int .i64 (M : Nat), .int .u64 (x : Nat)] w fun e w' => e = .returned (.tuple #[.int .u64 (N : Nat), .int .i64 0]) ∧ ∃ q, w' = w.drewN q)
    (a2 : ∀ w, Calls Try.prog 9 #[.int .u64 (N : Nat), .int .i64 (F : Nat), .int .i64 (M : Nat)] w fun e w' => e = .returned (.tuple #[.int .u64 (x : Nat), .int .i64 0]) ∧ ∃ q, w' = w.drewN q)
    (a3 : ∀ w, Calls Try.prog 9 #[.int .u64 (u : Nat), .int .i64 f2, .int .i64 m2] w fun e w' => e = .returned (.tuple #[.int .u64 0, .int .i64 2]) ∧ ∃ q, w' = w.drewN q)
    (a4 : ∀ w, Calls Try.prog 9 #[.int .u64 (N : Nat), .int .i64 f2, .int .i64 m2] w fun e w' => e = .returned (.tuple #[.int .u64 0, .int .i64 2]) ∧ ∃ q, w' = w.drewN q) :
    Calls Try.prog 5 #[.int .u64 (u : Nat), .agg #[.int .i64 (F : Nat), .int .i64 (M : Nat), .int .u64 (x : Nat)], .agg #[.int .i64 f2, .int .i64 m2, .int .u64 (y : Nat)]] w (Post w) := by
  go_enter Try.func5, Try.ntmps5
  go_wp2_with (first
    | (go_at_call 11; refine (a1 _).mono ?_; rintro e w' ⟨rfl, q1, hw⟩; rw [hw])
    | (go_at_call 9; ((with_reducible refine (a2 _).mono ?_); rintro e w' ⟨rfl, q2, hw⟩; rw [hw]))
    | (go_at_call 9; ((with_reducible refine (a3 _).mono ?_); rintro e w' ⟨rfl, q3, hw⟩; rw [hw]))
    | (go_at_call 9; ((with_reducible refine (a4 _).mono ?_); rintro e w' ⟨rfl, q4, hw⟩; rw [hw]))
    | (go_at_call 13; refine (awake_any _).mono ?_; rintro e w' ⟨rfl, hg6⟩))
  go_ret
  exact ⟨rfl, end_bel hg6⟩

set_option maxRecDepth 100000 in
set_option maxHeartbeats 2000000 in
theorem walk_behind (u x y F M F2 M2 N A B : Nat) (w : World) (hs : F + M ≤ 64) (hs2 : F2 + M2 ≤ 64) (h : F + M ≤ F2)
    (a1 : ∀ w, Calls Try.prog 11 #[.int .u64 (u : Nat), .int .i64 (F : Nat), .int .i64 (M : Nat), .int .u64 (x : Nat)] w fun e w' => e = .returned (.tuple #[.int .u64 (N : Nat), .int .i64 0]) ∧ ∃ q, w' = w.drewN q)
    (a2 : ∀ w, Calls Try.prog 9 #[.int .u64 (N : Nat), .int .i64 (F : Nat), .int .i64 (M : Nat)] w fun e w' => e = .returned (.tuple #[.int .u64 (x : Nat), .int .i64 0]) ∧ ∃ q, w' = w.drewN q)
    (a3 : ∀ w, Calls Try.prog 9 #[.int .u64 (u : Nat), .int .i64 (F2 : Nat), .int .i64 (M2 : Nat)] w fun e w' => e = .returned (.tuple #[.int .u64 (A : Nat), .int .i64 0]) ∧ ∃ q, w' = w.drewN q)
    (a4 : ∀ w, Calls Try.prog 9 #[.int .u64 (N : Nat), .int .i64 (F2 : Nat), .int .i64 (M2 : Nat)] w fun e w' => e = .returned (.tuple #[.int .u64 (A : Nat), .int .i64 0]) ∧ ∃ q, w' = w.drewN q) :
    Calls Try.prog 5 #[.int .u64 (u : Nat), .agg #[.int .i64 (F : Nat), .int .i64 (M : Nat), .int .u64 (x : Nat)], .agg #[.int .i64 (F2 : Nat), .int .i64 (M2 : Nat), .int .u64 (y : Nat)]] w (Post w) := by
  have t1 : decide ((F : Int) + (M : Int) ≤ (F2 : Int)) = true := decide_eq_true (by omega)
  go_enter Try.func5, Try.ntmps5
  go_wp2_with (first
    | (go_at_call 11; refine (a1 _).mono ?_; rintro e w' ⟨rfl, q1, hw⟩; rw [hw])
    | (go_at_call 9; ((with_reducible refine (a2 _).mono ?_); rintro e w' ⟨rfl, q2, hw⟩; rw [hw]))
    | (go_at_call 9; ((with_reducible refine (a3 _).mono ?_); rintro e w' ⟨rfl, q3, hw⟩; rw [hw]))
    | (go_at_call 9; ((with_reducible refine (a4 _).mono ?_); rintro e w' ⟨rfl, q4, hw⟩; rw [hw]))
    | (go_at_call 13; refine (awake_any _).mono ?_; rintro e w' ⟨rfl, hg6⟩))
  go_ret
  exact ⟨rfl, end_bel hg6⟩

set_option maxRecDepth 100000 in
set_option maxHeartbeats 2000000 in
theorem walk_ahead (u x y F M F2 M2 N A B : Nat) (w : World) (hs : F + M ≤ 64) (hs2 : F2 + M2 ≤ 64) (h : ¬ F + M ≤ F2) (h2 : F2 + M2 ≤ F)
    (a1 : ∀ w, Calls Try.prog 11 #[.int .u64 (u : Nat), .int .i64 (F : Nat), .int .i64 (M : Nat), .int .u64 (x : Nat)] w fun e w' => e = .returned (.tuple #[.int .u64 (N : Nat), .int .i64 0]) ∧ ∃ q, w' = w.drewN q)
    (a2 : ∀ w, Calls Try.prog 9 #[.int .u64 (N : Nat), .int .i64 (F : Nat), .int .i64 (M : Nat)] w fun e w' => e = .returned (.tuple #[.int .u64 (x : Nat), .int .i64 0]) ∧ ∃ q, w' = w.drewN q)
    (a3 : ∀ w, Calls Try.prog 9 #[.int .u64 (u : Nat), .int .i64 (F2 : Nat), .int .i64 (M2 : Nat)] w fun e w' => e = .returned (.tuple #[.int .u64 (A : Nat), .int .i64 0]) ∧ ∃ q, w' = w.drewN q)
    (a4 : ∀ w, Calls Try.prog 9 #[.int .u64 (N : Nat), .int .i64 (F2 : Nat), .int .i64 (M2 : Nat)] w fun e w' => e = .returned (.tuple #[.int .u64 (A : Nat), .int .i64 0]) ∧ ∃ q, w' = w.drewN q) :
    Calls Try.prog 5 #[.int .u64 (u : Nat), .agg #[.int .i64 (F : Nat), .int .i64 (M : Nat), .int .u64 (x : Nat)], .agg #[.int .i64 (F2 : Nat), .int .i64 (M2 : Nat), .int .u64 (y : Nat)]] w (Post w) := by
  have t1 : decide ((F : Int) + (M : Int) ≤ (F2 : Int)) = false := decide_eq_false (by omega)
  have t2 : decide ((F2 : Int) + (M2 : Int) ≤ (F : Int)) = true := decide_eq_true (by omega)
  go_enter Try.func5, Try.ntmps5
  go_wp2_with (first
    | (go_at_call 11; refine (a1 _).mono ?_; rintro e w' ⟨rfl, q1, hw⟩; rw [hw])
    | (go_at_call 9; ((with_reducible refine (a2 _).mono ?_); rintro e w' ⟨rfl, q2, hw⟩; rw [hw]))
    | (go_at_call 9; ((with_reducible refine (a3 _).mono ?_); rintro e w' ⟨rfl, q3, hw⟩; rw [hw]))
    | (go_at_call 9; ((with_reducible refine (a4 _).mono ?_); rintro e w' ⟨rfl, q4, hw⟩; rw [hw]))
    | (go_at_call 13; refine (awake_any _).mono ?_; rintro e w' ⟨rfl, hg6⟩))
  go_ret
  exact ⟨rfl, end_bel hg6⟩

set_option maxRecDepth 100000 in
set_option maxHeartbeats 2000000 in
theorem walk_meet (u x y F M F2 M2 N A B : Nat) (w : World) (hs : F + M ≤ 64) (hs2 : F2 + M2 ≤ 64) (h : ¬ F + M ≤ F2) (h2 : ¬ F2 + M2 ≤ F)
    (a1 : ∀ w, Calls Try.prog 11 #[.int .u64 (u : Nat), .int .i64 (F : Nat), .int .i64 (M : Nat), .int .u64 (x : Nat)] w fun e w' => e = .returned (.tuple #[.int .u64 (N : Nat), .int .i64 0]) ∧ ∃ q, w' = w.drewN q)
    (a2 : ∀ w, Calls Try.prog 9 #[.int .u64 (N : Nat), .int .i64 (F : Nat), .int .i64 (M : Nat)] w fun e w' => e = .returned (.tuple #[.int .u64 (x : Nat), .int .i64 0]) ∧ ∃ q, w' = w.drewN q)
    (a3 : ∀ w, Calls Try.prog 9 #[.int .u64 (u : Nat), .int .i64 (F2 : Nat), .int .i64 (M2 : Nat)] w fun e w' => e = .returned (.tuple #[.int .u64 (A : Nat), .int .i64 0]) ∧ ∃ q, w' = w.drewN q)
    (a4 : ∀ w, Calls Try.prog 9 #[.int .u64 (N : Nat), .int .i64 (F2 : Nat), .int .i64 (M2 : Nat)] w fun e w' => e = .returned (.tuple #[.int .u64 (B : Nat), .int .i64 0]) ∧ ∃ q, w' = w.drewN q) :
    Calls Try.prog 5 #[.int .u64 (u : Nat), .agg #[.int .i64 (F : Nat), .int .i64 (M : Nat), .int .u64 (x : Nat)], .agg #[.int .i64 (F2 : Nat), .int .i64 (M2 : Nat), .int .u64 (y : Nat)]] w (Post w) := by
  have t1 : decide ((F : Int) + (M : Int) ≤ (F2 : Int)) = false := decide_eq_false (by omega)
  have t2 : decide ((F2 : Int) + (M2 : Int) ≤ (F : Int)) = false := decide_eq_false (by omega)
  go_enter Try.func5, Try.ntmps5
  go_wp2_with (first
    | (go_at_call 11; refine (a1 _).mono ?_; rintro e w' ⟨rfl, q1, hw⟩; rw [hw])
    | (go_at_call 9; ((with_reducible refine (a2 _).mono ?_); rintro e w' ⟨rfl, q2, hw⟩; rw [hw]))
    | (go_at_call 9; ((with_reducible refine (a3 _).mono ?_); rintro e w' ⟨rfl, q3, hw⟩; rw [hw]))
    | (go_at_call 9; ((with_reducible refine (a4 _).mono ?_); rintro e w' ⟨rfl, q4, hw⟩; rw [hw]))
    | (go_at_call 13; refine (awake_any _).mono ?_; rintro e w' ⟨rfl, hg6⟩))
  go_ret
  exact ⟨rfl, end_bel hg6⟩

theorem walk (u x y : Nat) (f m f2 m2 : Int) (w : World) (hu : u < 18446744073709551616) (h0 : -9223372036854775808 ≤ f) (h1 : f ≤ 9223372036854775807) (g0 : -9223372036854775808 ≤ m) (g1 : m ≤ 9223372036854775807) (hx : x < 18446744073709551616)
    (k0 : -9223372036854775808 ≤ f2) (k1 : f2 ≤ 9223372036854775807) (l0 : -9223372036854775808 ≤ m2) (l1 : m2 ≤ 9223372036854775807) :
    Calls Try.prog 5 #[.int .u64 (u : Nat), .agg #[.int .i64 f, .int .i64 m, .int .u64 (x : Nat)], .agg #[.int .i64 f2, .int .i64 m2, .int .u64 (y : Nat)]] w (Post w) := by
  have a1 := fun w => set_any u f m x w hu hx h0 h1 g0 g1
  cases c : okF f m
  · rw [setR_no c, setE_no c] at a1
    exact walk_no u x y f m f2 m2 2 w rfl a1
  · obtain ⟨F, M, rfl, rfl, s1, s2⟩ := okF_true c
    by_cases hv : x < 2 ^ M
    · rw [setR_ok s1 s2 hv, setE_ok s1 s2 hv] at a1
      have hN := setV_lt s2 hv hu
      have a2 := fun w => get_ok (setV u F M x) F M w hN s1 s2
      rw [get_set s2 hv hu] at a2
      have a3 := fun (u : Nat) (hu : u < 18446744073709551616) w => get_any u f2 m2 w hu k0 k1 l0 l1
      cases c2 : okF f2 m2
      · have a3' : ∀ (v : Nat), v < 18446744073709551616 → ∀ w, Calls Try.prog 9 #[.int .u64 (v : Nat), .int .i64 f2, .int .i64 m2] w fun e w' => e = .returned (.tuple #[.int .u64 0, .int .i64 2]) ∧ ∃ q, w' = w.drewN q := fun v hv w => by
          have h := a3 v hv w
          unfold getR getE at h
          rw [c2] at h
          exact h
        exact walk_other u x y F M (setV u F M x) f2 m2 w a1 a2 (a3' u hu) (a3' _ hN)
      · obtain ⟨F2, M2, rfl, rfl, r1, r2⟩ := okF_true c2
        have b3 := fun w => get_ok u F2 M2 w hu r1 r2
        have b4 := fun w => get_ok (setV u F M x) F2 M2 w hN r1 r2
        by_cases d1 : F + M ≤ F2
        · rw [get_apart s2 hv hu (Or.inr d1)] at b4
          exact walk_behind u x y F M F2 M2 _ _ 0 w s2 r2 d1 a1 a2 b3 b4
        · by_cases d2 : F2 + M2 ≤ F
          · rw [get_apart s2 hv hu (Or.inl d2)] at b4
            exact walk_ahead u x y F M F2 M2 _ _ 0 w s2 r2 d1 d2 a1 a2 b3 b4
          · exact walk_meet u x y F M F2 M2 _ _ _ w s2 r2 d1 d2 a1 a2 b3 b4
    · rw [setR_big s1 s2 hv, setE_big s1 s2 hv] at a1
      exact walk_no u x y F M f2 m2 4 w rfl a1

/-! The row. -/
set_option maxRecDepth 100000 in
theorem lifted (os : Os) (started : os.Started) (H : Type) (enc : TypeId × Value → H) :
    ReturnsInHanded {} Try.checked os 5 .any (Rows.fieldApartSpec.pre6 enc Try.prog Try.f5 Rows.fieldApartRow.domain false) (Rows.fieldApartSpec.post enc Try.prog Try.f5 false true false false) := by
  refine lift_law (C := Try.checked) own started (by kernel_rfl) Try.func5 laid rowed full (by rw [Try.params5]; decide) rfl (by kernel_rfl) Try.underlying4
    (fun ds h => by rw [Try.params5] at h; match ds, h with | [_, _, _], _ => rfl)
    (ChangeSpec.witness6 (enc := enc) (C := Try.checked) false ⟨#[], #[.int .u64 0, .agg #[.int .i64 0, .int .i64 0, .int .u64 0], .agg #[.int .i64 0, .int .i64 0, .int .u64 0]], []⟩ 8 (by kernel_rfl) (by kernel_rfl) (by kernel_rfl) (by kernel_rfl)) ?_
  intro W base args ds p hval hA
  change ∀ (j : Nat) t v, Try.f5.params[j]? = some t → args[j]? = some v → Value.okWide Try.prog W .any base t v at hval
  change DataW.TrodAll enc Try.prog W 0 (fun _ => true) true Try.f5.params.toList args.toList ds p at hA
  rw [Try.params5] at hA hval
  obtain ⟨v0, vs0, d0, ds0, p0, q0, hargs, rfl, rfl, h0, r0⟩ := trodAll_cons hA
  obtain ⟨v1, vs1, d1, ds1, p1, q1, hargs1, rfl, rfl, h1, r1⟩ := trodAll_cons r0
  obtain ⟨v2, vs2, d2, ds2, p2, q2, hargs2, rfl, rfl, h2, r2⟩ := trodAll_cons r1
  obtain ⟨rfl, rfl, rfl⟩ := trodAll_nil r2
  subst hargs2
  subst hargs1
  obtain rfl : args = #[v0, v1, v2] := by cases args; simp_all
  obtain ⟨u, rfl, hu⟩ := get_u64 Try.underlying22 (hval 0 22 v0 rfl rfl) h0
  obtain ⟨f, m, x, rfl, f0, f1, m0, m1, hx⟩ := get_part (hval 1 24 v1 rfl rfl) h1
  obtain ⟨f2, m2, y, rfl, g0, g1, k0, k1, hy⟩ := get_part (hval 2 24 v2 rfl rfl) h2
  exact walk u x y f m f2 m2 W hu f0 f1 m0 m1 hx g0 g1 k0 k1

theorem over : Rows.fieldApartRow.holds Try.pinned (OpenSpec.ofChange Rows.fieldApartSpec) :=
  OpenClaim.holds_of_wide 5 Try.f5 rfl rfl rfl rfl rfl rfl rfl ⟨rfl, rfl, rfl, rfl, rfl⟩ rfl rfl rfl rfl rfl (by kernel_rfl) Try.func5 (by kernel_rfl)
    (of_decide_eq_true (by kernel_rfl)) (by unfold Func.isWrapper; first | (rw [if_pos (by decide +kernel)]; kernel_rfl) | (rw [if_neg (by decide +kernel)]; exact ⟨rfl, rfl⟩))
    (fun os started H enc _ => lifted os started H enc)

/-- The statement. -/
theorem proved : Rows.FieldApartSaid :=
  over
#print axioms proved
end Go.Proofs.Ytdenpmckekcokaa.fieldApart
