/- An order: its walks, one for each way that three words may stand. -/
import Derived.Test.YtagempkaophnaaaEnds
namespace Go.Proofs.Ytagempkaophnaaa
open Go.ChangeShapes Go.WideShapes Go.ChangeAt Go.RowKit

set_option maxHeartbeats 4000000 in
theorem ord_p (a0 a1 a2 y z k j : Int) (s1 s2 E : Bool) (w : World)
    (c1 : ∀ w, Calls Try.prog 22 #[.int .u64 a0, .int .u64 a1] w fun e w' => e = .returned (.int .i64 1) ∧ w' = w)
    (c2 : ∀ w, Calls Try.prog 22 #[.int .u64 a1, .int .u64 a2] w fun e w' => e = .returned (.int .i64 y) ∧ w' = w)
    (c3 : ∀ w, Calls Try.prog 22 #[.int .u64 a0, .int .u64 a2] w fun e w' => e = .returned (.int .i64 z) ∧ w' = w)
    (c4 : ∀ w, Calls Try.prog 22 #[.int .u64 a1, .int .u64 a0] w fun e w' => e = .returned (.int .i64 (-1)) ∧ w' = w)
    (c5 : ∀ w, Calls Try.prog 22 #[.int .u64 a0, .int .u64 a0] w fun e w' => e = .returned (.int .i64 0) ∧ w' = w)
    (c6 : ∀ w, Calls Try.prog 14 #[.int .u64 a0] w fun e w' => e = .returned (.tuple #[.int .u8 k, .bool s1]) ∧ w' = w)
    (c7 : ∀ w, Calls Try.prog 14 #[.int .u64 a1] w fun e w' => e = .returned (.tuple #[.int .u8 j, .bool s2]) ∧ w' = w)
    (c8 : ∀ w, Calls Try.prog 20 #[.int .u64 a0, .int .u64 a1] w fun e w' => e = .returned (.bool E) ∧ w' = w)
    (hk : ((k == 0) = true ∧ (k == j) = false ∧ E = false) ∨ ((k == 0) = false ∧ (j == 0) = true ∧ (k == j) = false ∧ E = false) ∨ ((k == 0) = false ∧ (j == 0) = false ∧ ((k == 4) = false ∧ E = false ∨ (k == 4) = true ∧ (j == 4) = false ∧ E = false ∨ (k == 4) = true ∧ (j == 4) = true ∧ E = true))) :
    Calls Try.prog 7 #[.int .u64 a0, .int .u64 a1, .int .u64 a2] w fun e w' => e = .returned (.bool true) ∧ Grown w w' := by
  rcases hk with ⟨h1, h2, rfl⟩ | ⟨h1, h2, h3, rfl⟩ | ⟨h1, h2, ⟨h3, rfl⟩ | ⟨h3, h4, rfl⟩ | ⟨h3, h4, rfl⟩⟩
  all_goals
    go_enter Try.func7, Try.ntmps7
    go_wp2_with (first
      | (go_at_call 22; ((with_reducible refine (c1 _).mono ?_); rintro e w' ⟨rfl, hw⟩; rw [hw]))
      | (go_at_call 22; ((with_reducible refine (c2 _).mono ?_); rintro e w' ⟨rfl, hw⟩; rw [hw]))
      | (go_at_call 22; ((with_reducible refine (c3 _).mono ?_); rintro e w' ⟨rfl, hw⟩; rw [hw]))
      | (go_at_call 22; ((with_reducible refine (c4 _).mono ?_); rintro e w' ⟨rfl, hw⟩; rw [hw]))
      | (go_at_call 22; ((with_reducible refine (c5 _).mono ?_); rintro e w' ⟨rfl, hw⟩; rw [hw]))
      | (go_at_call 14; ((with_reducible refine (c6 _).mono ?_); rintro e w' ⟨rfl, hw⟩; rw [hw]))
      | (go_at_call 14; ((with_reducible refine (c7 _).mono ?_); rintro e w' ⟨rfl, hw⟩; rw [hw]))
      | (go_at_call 20; ((with_reducible refine (c8 _).mono ?_); rintro e w' ⟨rfl, hw⟩; rw [hw]))
      | (go_at_call 19; refine (awake_any _).mono ?_; rintro e w' ⟨rfl, hg⟩))
    go_ret
    refine ⟨rfl, ?_⟩
    repeat (first | assumption | exact Grown.refl _ | refine grown_trans ?_ (by assumption))

set_option maxHeartbeats 4000000 in
theorem ord_ma (a0 a1 a2 z k j : Int) (s1 s2 E : Bool) (w : World)
    (c1 : ∀ w, Calls Try.prog 22 #[.int .u64 a0, .int .u64 a1] w fun e w' => e = .returned (.int .i64 (-1)) ∧ w' = w)
    (c2 : ∀ w, Calls Try.prog 22 #[.int .u64 a1, .int .u64 a2] w fun e w' => e = .returned (.int .i64 1) ∧ w' = w)
    (c3 : ∀ w, Calls Try.prog 22 #[.int .u64 a0, .int .u64 a2] w fun e w' => e = .returned (.int .i64 z) ∧ w' = w)
    (c4 : ∀ w, Calls Try.prog 22 #[.int .u64 a1, .int .u64 a0] w fun e w' => e = .returned (.int .i64 1) ∧ w' = w)
    (c5 : ∀ w, Calls Try.prog 22 #[.int .u64 a0, .int .u64 a0] w fun e w' => e = .returned (.int .i64 0) ∧ w' = w)
    (c6 : ∀ w, Calls Try.prog 14 #[.int .u64 a0] w fun e w' => e = .returned (.tuple #[.int .u8 k, .bool s1]) ∧ w' = w)
    (c7 : ∀ w, Calls Try.prog 14 #[.int .u64 a1] w fun e w' => e = .returned (.tuple #[.int .u8 j, .bool s2]) ∧ w' = w)
    (c8 : ∀ w, Calls Try.prog 20 #[.int .u64 a0, .int .u64 a1] w fun e w' => e = .returned (.bool E) ∧ w' = w)
    (hk : ((k == 0) = true ∧ (k == j) = false ∧ E = false) ∨ ((k == 0) = false ∧ (j == 0) = true ∧ (k == j) = false ∧ E = false) ∨ ((k == 0) = false ∧ (j == 0) = false ∧ ((k == 4) = false ∧ E = false ∨ (k == 4) = true ∧ (j == 4) = false ∧ E = false ∨ (k == 4) = true ∧ (j == 4) = true ∧ E = true))) :
    Calls Try.prog 7 #[.int .u64 a0, .int .u64 a1, .int .u64 a2] w fun e w' => e = .returned (.bool true) ∧ Grown w w' := by
  rcases hk with ⟨h1, h2, rfl⟩ | ⟨h1, h2, h3, rfl⟩ | ⟨h1, h2, ⟨h3, rfl⟩ | ⟨h3, h4, rfl⟩ | ⟨h3, h4, rfl⟩⟩
  all_goals
    go_enter Try.func7, Try.ntmps7
    go_wp2_with (first
      | (go_at_call 22; ((with_reducible refine (c1 _).mono ?_); rintro e w' ⟨rfl, hw⟩; rw [hw]))
      | (go_at_call 22; ((with_reducible refine (c2 _).mono ?_); rintro e w' ⟨rfl, hw⟩; rw [hw]))
      | (go_at_call 22; ((with_reducible refine (c3 _).mono ?_); rintro e w' ⟨rfl, hw⟩; rw [hw]))
      | (go_at_call 22; ((with_reducible refine (c4 _).mono ?_); rintro e w' ⟨rfl, hw⟩; rw [hw]))
      | (go_at_call 22; ((with_reducible refine (c5 _).mono ?_); rintro e w' ⟨rfl, hw⟩; rw [hw]))
      | (go_at_call 14; ((with_reducible refine (c6 _).mono ?_); rintro e w' ⟨rfl, hw⟩; rw [hw]))
      | (go_at_call 14; ((with_reducible refine (c7 _).mono ?_); rintro e w' ⟨rfl, hw⟩; rw [hw]))
      | (go_at_call 20; ((with_reducible refine (c8 _).mono ?_); rintro e w' ⟨rfl, hw⟩; rw [hw]))
      | (go_at_call 19; refine (awake_any _).mono ?_; rintro e w' ⟨rfl, hg⟩))
    go_ret
    refine ⟨rfl, ?_⟩
    repeat (first | assumption | exact Grown.refl _ | refine grown_trans ?_ (by assumption))

set_option maxHeartbeats 4000000 in
theorem ord_mb (a0 a1 a2 k j : Int) (s1 s2 E : Bool) (w : World)
    (c1 : ∀ w, Calls Try.prog 22 #[.int .u64 a0, .int .u64 a1] w fun e w' => e = .returned (.int .i64 (-1)) ∧ w' = w)
    (c2 : ∀ w, Calls Try.prog 22 #[.int .u64 a1, .int .u64 a2] w fun e w' => e = .returned (.int .i64 0) ∧ w' = w)
    (c3 : ∀ w, Calls Try.prog 22 #[.int .u64 a0, .int .u64 a2] w fun e w' => e = .returned (.int .i64 (-1)) ∧ w' = w)
    (c4 : ∀ w, Calls Try.prog 22 #[.int .u64 a1, .int .u64 a0] w fun e w' => e = .returned (.int .i64 1) ∧ w' = w)
    (c5 : ∀ w, Calls Try.prog 22 #[.int .u64 a0, .int .u64 a0] w fun e w' => e = .returned (.int .i64 0) ∧ w' = w)
    (c6 : ∀ w, Calls Try.prog 14 #[.int .u64 a0] w fun e w' => e = .returned (.tuple #[.int .u8 k, .bool s1]) ∧ w' = w)
    (c7 : ∀ w, Calls Try.prog 14 #[.int .u64 a1] w fun e w' => e = .returned (.tuple #[.int .u8 j, .bool s2]) ∧ w' = w)
    (c8 : ∀ w, Calls Try.prog 20 #[.int .u64 a0, .int .u64 a1] w fun e w' => e = .returned (.bool E) ∧ w' = w)
    (hk : ((k == 0) = true ∧ (k == j) = false ∧ E = false) ∨ ((k == 0) = false ∧ (j == 0) = true ∧ (k == j) = false ∧ E = false) ∨ ((k == 0) = false ∧ (j == 0) = false ∧ ((k == 4) = false ∧ E = false ∨ (k == 4) = true ∧ (j == 4) = false ∧ E = false ∨ (k == 4) = true ∧ (j == 4) = true ∧ E = true))) :
    Calls Try.prog 7 #[.int .u64 a0, .int .u64 a1, .int .u64 a2] w fun e w' => e = .returned (.bool true) ∧ Grown w w' := by
  rcases hk with ⟨h1, h2, rfl⟩ | ⟨h1, h2, h3, rfl⟩ | ⟨h1, h2, ⟨h3, rfl⟩ | ⟨h3, h4, rfl⟩ | ⟨h3, h4, rfl⟩⟩
  all_goals
    go_enter Try.func7, Try.ntmps7
    go_wp2_with (first
      | (go_at_call 22; ((with_reducible refine (c1 _).mono ?_); rintro e w' ⟨rfl, hw⟩; rw [hw]))
      | (go_at_call 22; ((with_reducible refine (c2 _).mono ?_); rintro e w' ⟨rfl, hw⟩; rw [hw]))
      | (go_at_call 22; ((with_reducible refine (c3 _).mono ?_); rintro e w' ⟨rfl, hw⟩; rw [hw]))
      | (go_at_call 22; ((with_reducible refine (c4 _).mono ?_); rintro e w' ⟨rfl, hw⟩; rw [hw]))
      | (go_at_call 22; ((with_reducible refine (c5 _).mono ?_); rintro e w' ⟨rfl, hw⟩; rw [hw]))
      | (go_at_call 14; ((with_reducible refine (c6 _).mono ?_); rintro e w' ⟨rfl, hw⟩; rw [hw]))
      | (go_at_call 14; ((with_reducible refine (c7 _).mono ?_); rintro e w' ⟨rfl, hw⟩; rw [hw]))
      | (go_at_call 20; ((with_reducible refine (c8 _).mono ?_); rintro e w' ⟨rfl, hw⟩; rw [hw]))
      | (go_at_call 19; refine (awake_any _).mono ?_; rintro e w' ⟨rfl, hg⟩))
    go_ret
    refine ⟨rfl, ?_⟩
    repeat (first | assumption | exact Grown.refl _ | refine grown_trans ?_ (by assumption))

set_option maxHeartbeats 4000000 in
theorem ord_mc (a0 a1 a2 k j : Int) (s1 s2 E : Bool) (w : World)
    (c1 : ∀ w, Calls Try.prog 22 #[.int .u64 a0, .int .u64 a1] w fun e w' => e = .returned (.int .i64 (-1)) ∧ w' = w)
    (c2 : ∀ w, Calls Try.prog 22 #[.int .u64 a1, .int .u64 a2] w fun e w' => e = .returned (.int .i64 (-1)) ∧ w' = w)
    (c3 : ∀ w, Calls Try.prog 22 #[.int .u64 a0, .int .u64 a2] w fun e w' => e = .returned (.int .i64 (-1)) ∧ w' = w)
    (c4 : ∀ w, Calls Try.prog 22 #[.int .u64 a1, .int .u64 a0] w fun e w' => e = .returned (.int .i64 1) ∧ w' = w)
    (c5 : ∀ w, Calls Try.prog 22 #[.int .u64 a0, .int .u64 a0] w fun e w' => e = .returned (.int .i64 0) ∧ w' = w)
    (c6 : ∀ w, Calls Try.prog 14 #[.int .u64 a0] w fun e w' => e = .returned (.tuple #[.int .u8 k, .bool s1]) ∧ w' = w)
    (c7 : ∀ w, Calls Try.prog 14 #[.int .u64 a1] w fun e w' => e = .returned (.tuple #[.int .u8 j, .bool s2]) ∧ w' = w)
    (c8 : ∀ w, Calls Try.prog 20 #[.int .u64 a0, .int .u64 a1] w fun e w' => e = .returned (.bool E) ∧ w' = w)
    (hk : ((k == 0) = true ∧ (k == j) = false ∧ E = false) ∨ ((k == 0) = false ∧ (j == 0) = true ∧ (k == j) = false ∧ E = false) ∨ ((k == 0) = false ∧ (j == 0) = false ∧ ((k == 4) = false ∧ E = false ∨ (k == 4) = true ∧ (j == 4) = false ∧ E = false ∨ (k == 4) = true ∧ (j == 4) = true ∧ E = true))) :
    Calls Try.prog 7 #[.int .u64 a0, .int .u64 a1, .int .u64 a2] w fun e w' => e = .returned (.bool true) ∧ Grown w w' := by
  rcases hk with ⟨h1, h2, rfl⟩ | ⟨h1, h2, h3, rfl⟩ | ⟨h1, h2, ⟨h3, rfl⟩ | ⟨h3, h4, rfl⟩ | ⟨h3, h4, rfl⟩⟩
  all_goals
    go_enter Try.func7, Try.ntmps7
    go_wp2_with (first
      | (go_at_call 22; ((with_reducible refine (c1 _).mono ?_); rintro e w' ⟨rfl, hw⟩; rw [hw]))
      | (go_at_call 22; ((with_reducible refine (c2 _).mono ?_); rintro e w' ⟨rfl, hw⟩; rw [hw]))
      | (go_at_call 22; ((with_reducible refine (c3 _).mono ?_); rintro e w' ⟨rfl, hw⟩; rw [hw]))
      | (go_at_call 22; ((with_reducible refine (c4 _).mono ?_); rintro e w' ⟨rfl, hw⟩; rw [hw]))
      | (go_at_call 22; ((with_reducible refine (c5 _).mono ?_); rintro e w' ⟨rfl, hw⟩; rw [hw]))
      | (go_at_call 14; ((with_reducible refine (c6 _).mono ?_); rintro e w' ⟨rfl, hw⟩; rw [hw]))
      | (go_at_call 14; ((with_reducible refine (c7 _).mono ?_); rintro e w' ⟨rfl, hw⟩; rw [hw]))
      | (go_at_call 20; ((with_reducible refine (c8 _).mono ?_); rintro e w' ⟨rfl, hw⟩; rw [hw]))
      | (go_at_call 19; refine (awake_any _).mono ?_; rintro e w' ⟨rfl, hg⟩))
    go_ret
    refine ⟨rfl, ?_⟩
    repeat (first | assumption | exact Grown.refl _ | refine grown_trans ?_ (by assumption))

set_option maxHeartbeats 4000000 in
theorem ord_za (a0 a1 a2 z k j : Int) (s1 s2 E : Bool) (w : World)
    (c1 : ∀ w, Calls Try.prog 22 #[.int .u64 a0, .int .u64 a1] w fun e w' => e = .returned (.int .i64 0) ∧ w' = w)
    (c2 : ∀ w, Calls Try.prog 22 #[.int .u64 a1, .int .u64 a2] w fun e w' => e = .returned (.int .i64 1) ∧ w' = w)
    (c3 : ∀ w, Calls Try.prog 22 #[.int .u64 a0, .int .u64 a2] w fun e w' => e = .returned (.int .i64 z) ∧ w' = w)
    (c4 : ∀ w, Calls Try.prog 22 #[.int .u64 a1, .int .u64 a0] w fun e w' => e = .returned (.int .i64 0) ∧ w' = w)
    (c5 : ∀ w, Calls Try.prog 22 #[.int .u64 a0, .int .u64 a0] w fun e w' => e = .returned (.int .i64 0) ∧ w' = w)
    (c6 : ∀ w, Calls Try.prog 14 #[.int .u64 a0] w fun e w' => e = .returned (.tuple #[.int .u8 k, .bool s1]) ∧ w' = w)
    (c7 : ∀ w, Calls Try.prog 14 #[.int .u64 a1] w fun e w' => e = .returned (.tuple #[.int .u8 j, .bool s2]) ∧ w' = w)
    (c8 : ∀ w, Calls Try.prog 20 #[.int .u64 a0, .int .u64 a1] w fun e w' => e = .returned (.bool E) ∧ w' = w)
    (hk : ((k == 0) = true ∧ (k == j) = true ∧ E = false) ∨ ((k == 0) = false ∧ (j == 0) = true ∧ (k == j) = true ∧ E = false) ∨ ((k == 0) = false ∧ (j == 0) = false ∧ E = true)) :
    Calls Try.prog 7 #[.int .u64 a0, .int .u64 a1, .int .u64 a2] w fun e w' => e = .returned (.bool true) ∧ Grown w w' := by
  rcases hk with ⟨h1, h2, rfl⟩ | ⟨h1, h2, h3, rfl⟩ | ⟨h1, h2, rfl⟩
  all_goals
    go_enter Try.func7, Try.ntmps7
    go_wp2_with (first
      | (go_at_call 22; ((with_reducible refine (c1 _).mono ?_); rintro e w' ⟨rfl, hw⟩; rw [hw]))
      | (go_at_call 22; ((with_reducible refine (c2 _).mono ?_); rintro e w' ⟨rfl, hw⟩; rw [hw]))
      | (go_at_call 22; ((with_reducible refine (c3 _).mono ?_); rintro e w' ⟨rfl, hw⟩; rw [hw]))
      | (go_at_call 22; ((with_reducible refine (c4 _).mono ?_); rintro e w' ⟨rfl, hw⟩; rw [hw]))
      | (go_at_call 22; ((with_reducible refine (c5 _).mono ?_); rintro e w' ⟨rfl, hw⟩; rw [hw]))
      | (go_at_call 14; ((with_reducible refine (c6 _).mono ?_); rintro e w' ⟨rfl, hw⟩; rw [hw]))
      | (go_at_call 14; ((with_reducible refine (c7 _).mono ?_); rintro e w' ⟨rfl, hw⟩; rw [hw]))
      | (go_at_call 20; ((with_reducible refine (c8 _).mono ?_); rintro e w' ⟨rfl, hw⟩; rw [hw]))
      | (go_at_call 19; refine (awake_any _).mono ?_; rintro e w' ⟨rfl, hg⟩))
    go_ret
    refine ⟨rfl, ?_⟩
    repeat (first | assumption | exact Grown.refl _ | refine grown_trans ?_ (by assumption))

set_option maxHeartbeats 4000000 in
theorem ord_zb (a0 a1 a2 k j : Int) (s1 s2 E : Bool) (w : World)
    (c1 : ∀ w, Calls Try.prog 22 #[.int .u64 a0, .int .u64 a1] w fun e w' => e = .returned (.int .i64 0) ∧ w' = w)
    (c2 : ∀ w, Calls Try.prog 22 #[.int .u64 a1, .int .u64 a2] w fun e w' => e = .returned (.int .i64 0) ∧ w' = w)
    (c3 : ∀ w, Calls Try.prog 22 #[.int .u64 a0, .int .u64 a2] w fun e w' => e = .returned (.int .i64 0) ∧ w' = w)
    (c4 : ∀ w, Calls Try.prog 22 #[.int .u64 a1, .int .u64 a0] w fun e w' => e = .returned (.int .i64 0) ∧ w' = w)
    (c5 : ∀ w, Calls Try.prog 22 #[.int .u64 a0, .int .u64 a0] w fun e w' => e = .returned (.int .i64 0) ∧ w' = w)
    (c6 : ∀ w, Calls Try.prog 14 #[.int .u64 a0] w fun e w' => e = .returned (.tuple #[.int .u8 k, .bool s1]) ∧ w' = w)
    (c7 : ∀ w, Calls Try.prog 14 #[.int .u64 a1] w fun e w' => e = .returned (.tuple #[.int .u8 j, .bool s2]) ∧ w' = w)
    (c8 : ∀ w, Calls Try.prog 20 #[.int .u64 a0, .int .u64 a1] w fun e w' => e = .returned (.bool E) ∧ w' = w)
    (hk : ((k == 0) = true ∧ (k == j) = true ∧ E = false) ∨ ((k == 0) = false ∧ (j == 0) = true ∧ (k == j) = true ∧ E = false) ∨ ((k == 0) = false ∧ (j == 0) = false ∧ E = true)) :
    Calls Try.prog 7 #[.int .u64 a0, .int .u64 a1, .int .u64 a2] w fun e w' => e = .returned (.bool true) ∧ Grown w w' := by
  rcases hk with ⟨h1, h2, rfl⟩ | ⟨h1, h2, h3, rfl⟩ | ⟨h1, h2, rfl⟩
  all_goals
    go_enter Try.func7, Try.ntmps7
    go_wp2_with (first
      | (go_at_call 22; ((with_reducible refine (c1 _).mono ?_); rintro e w' ⟨rfl, hw⟩; rw [hw]))
      | (go_at_call 22; ((with_reducible refine (c2 _).mono ?_); rintro e w' ⟨rfl, hw⟩; rw [hw]))
      | (go_at_call 22; ((with_reducible refine (c3 _).mono ?_); rintro e w' ⟨rfl, hw⟩; rw [hw]))
      | (go_at_call 22; ((with_reducible refine (c4 _).mono ?_); rintro e w' ⟨rfl, hw⟩; rw [hw]))
      | (go_at_call 22; ((with_reducible refine (c5 _).mono ?_); rintro e w' ⟨rfl, hw⟩; rw [hw]))
      | (go_at_call 14; ((with_reducible refine (c6 _).mono ?_); rintro e w' ⟨rfl, hw⟩; rw [hw]))
      | (go_at_call 14; ((with_reducible refine (c7 _).mono ?_); rintro e w' ⟨rfl, hw⟩; rw [hw]))
      | (go_at_call 20; ((with_reducible refine (c8 _).mono ?_); rintro e w' ⟨rfl, hw⟩; rw [hw]))
      | (go_at_call 19; refine (awake_any _).mono ?_; rintro e w' ⟨rfl, hg⟩))
    go_ret
    refine ⟨rfl, ?_⟩
    repeat (first | assumption | exact Grown.refl _ | refine grown_trans ?_ (by assumption))

set_option maxHeartbeats 4000000 in
theorem ord_zc (a0 a1 a2 k j : Int) (s1 s2 E : Bool) (w : World)
    (c1 : ∀ w, Calls Try.prog 22 #[.int .u64 a0, .int .u64 a1] w fun e w' => e = .returned (.int .i64 0) ∧ w' = w)
    (c2 : ∀ w, Calls Try.prog 22 #[.int .u64 a1, .int .u64 a2] w fun e w' => e = .returned (.int .i64 (-1)) ∧ w' = w)
    (c3 : ∀ w, Calls Try.prog 22 #[.int .u64 a0, .int .u64 a2] w fun e w' => e = .returned (.int .i64 (-1)) ∧ w' = w)
    (c4 : ∀ w, Calls Try.prog 22 #[.int .u64 a1, .int .u64 a0] w fun e w' => e = .returned (.int .i64 0) ∧ w' = w)
    (c5 : ∀ w, Calls Try.prog 22 #[.int .u64 a0, .int .u64 a0] w fun e w' => e = .returned (.int .i64 0) ∧ w' = w)
    (c6 : ∀ w, Calls Try.prog 14 #[.int .u64 a0] w fun e w' => e = .returned (.tuple #[.int .u8 k, .bool s1]) ∧ w' = w)
    (c7 : ∀ w, Calls Try.prog 14 #[.int .u64 a1] w fun e w' => e = .returned (.tuple #[.int .u8 j, .bool s2]) ∧ w' = w)
    (c8 : ∀ w, Calls Try.prog 20 #[.int .u64 a0, .int .u64 a1] w fun e w' => e = .returned (.bool E) ∧ w' = w)
    (hk : ((k == 0) = true ∧ (k == j) = true ∧ E = false) ∨ ((k == 0) = false ∧ (j == 0) = true ∧ (k == j) = true ∧ E = false) ∨ ((k == 0) = false ∧ (j == 0) = false ∧ E = true)) :
    Calls Try.prog 7 #[.int .u64 a0, .int .u64 a1, .int .u64 a2] w fun e w' => e = .returned (.bool true) ∧ Grown w w' := by
  rcases hk with ⟨h1, h2, rfl⟩ | ⟨h1, h2, h3, rfl⟩ | ⟨h1, h2, rfl⟩
  all_goals
    go_enter Try.func7, Try.ntmps7
    go_wp2_with (first
      | (go_at_call 22; ((with_reducible refine (c1 _).mono ?_); rintro e w' ⟨rfl, hw⟩; rw [hw]))
      | (go_at_call 22; ((with_reducible refine (c2 _).mono ?_); rintro e w' ⟨rfl, hw⟩; rw [hw]))
      | (go_at_call 22; ((with_reducible refine (c3 _).mono ?_); rintro e w' ⟨rfl, hw⟩; rw [hw]))
      | (go_at_call 22; ((with_reducible refine (c4 _).mono ?_); rintro e w' ⟨rfl, hw⟩; rw [hw]))
      | (go_at_call 22; ((with_reducible refine (c5 _).mono ?_); rintro e w' ⟨rfl, hw⟩; rw [hw]))
      | (go_at_call 14; ((with_reducible refine (c6 _).mono ?_); rintro e w' ⟨rfl, hw⟩; rw [hw]))
      | (go_at_call 14; ((with_reducible refine (c7 _).mono ?_); rintro e w' ⟨rfl, hw⟩; rw [hw]))
      | (go_at_call 20; ((with_reducible refine (c8 _).mono ?_); rintro e w' ⟨rfl, hw⟩; rw [hw]))
      | (go_at_call 19; refine (awake_any _).mono ?_; rintro e w' ⟨rfl, hg⟩))
    go_ret
    refine ⟨rfl, ?_⟩
    repeat (first | assumption | exact Grown.refl _ | refine grown_trans ?_ (by assumption))

end Go.Proofs.Ytagempkaophnaaa
