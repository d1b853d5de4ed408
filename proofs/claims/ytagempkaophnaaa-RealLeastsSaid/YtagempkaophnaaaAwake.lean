/- The calls whose answers the document fixes (awake) answer true. -/
import Derived.Test.YtagempkaophnaaaSum
namespace Go.Proofs.Ytagempkaophnaaa
open Go.ChangeShapes Go.WideShapes Go.ChangeAt Go.RowKit

theorem aw_kind1 (w : World) : Calls Try.prog 13 #[.int .u64 18442240474082183868] w fun e w' => e = .returned (.tuple #[.int .u8 0, .bool true]) ∧ w' = w := kind_any 18442240474082183868 w (by omega) (by omega)
theorem aw_kind2 (w : World) : Calls Try.prog 13 #[.int .u64 9223372036854775808] w fun e w' => e = .returned (.tuple #[.int .u8 4, .bool true]) ∧ w' = w := kind_any 9223372036854775808 w (by omega) (by omega)
theorem aw_kind3 (w : World) : Calls Try.prog 13 #[.int .u64 1] w fun e w' => e = .returned (.tuple #[.int .u8 3, .bool false]) ∧ w' = w := kind_any 1 w (by omega) (by omega)
theorem aw_of (w : World) : Calls Try.prog 28 #[.int .i64 9007199254740993] w fun e w' => e = .returned (.tuple #[.int .u64 4845873199050653696, .bool false]) ∧ w' = w := by
  have h := of_any 9007199254740993 w (by omega) (by omega)
  rwa [show ofN 9007199254740993 = 4845873199050653696 by kernel_rfl, show exactN 9007199254740993 = false by kernel_rfl] at h
theorem aw_whole1 (w : World) : Calls Try.prog 15 #[.int .u64 4890909195324358656] w fun e w' => e = .returned (.tuple #[.int .i64 0, .bool false]) ∧ w' = w := by
  have h := whole_any 4890909195324358656 w (by omega) (by omega)
  rwa [show wholeV (Int.toNat 4890909195324358656) = 0 by kernel_rfl, show wholeOk (Int.toNat 4890909195324358656) = false by kernel_rfl] at h
theorem aw_whole2 (w : World) : Calls Try.prog 15 #[.int .u64 14114281232179134464] w fun e w' => e = .returned (.tuple #[.int .i64 (-9223372036854775808), .bool true]) ∧ w' = w := by
  have h := whole_any 14114281232179134464 w (by omega) (by omega)
  rwa [show wholeV (Int.toNat 14114281232179134464) = -9223372036854775808 by kernel_rfl, show wholeOk (Int.toNat 14114281232179134464) = true by kernel_rfl] at h
theorem aw_eq1 (w : World) : Calls Try.prog 20 #[.int .u64 9223372036854775808, .int .u64 0] w fun e w' => e = .returned (.bool true) ∧ w' = w := by
  have h := equal_any 9223372036854775808 0 w
  rwa [show eqN (Int.toNat 9223372036854775808) (Int.toNat 0) = true by kernel_rfl] at h
theorem aw_eq2 (w : World) : Calls Try.prog 20 #[.int .u64 9221120237041090560, .int .u64 9221120237041090560] w fun e w' => e = .returned (.bool false) ∧ w' = w := by
  have h := equal_any 9221120237041090560 9221120237041090560 w
  rwa [show eqN (Int.toNat 9221120237041090560) (Int.toNat 9221120237041090560) = false by kernel_rfl] at h
theorem aw_cmp1 (w : World) : Calls Try.prog 22 #[.int .u64 9223372036854775808, .int .u64 0] w fun e w' => e = .returned (.int .i64 (-1)) ∧ w' = w := by
  have h := compare_any 9223372036854775808 0 w (by omega) (by omega) (by omega) (by omega)
  rwa [show cmpN (Int.toNat 9223372036854775808) (Int.toNat 0) = -1 by kernel_rfl] at h
theorem aw_cmp2 (w : World) : Calls Try.prog 22 #[.int .u64 9221120237041090560, .int .u64 18442240474082183868] w fun e w' => e = .returned (.int .i64 0) ∧ w' = w := by
  have h := compare_any 9221120237041090560 18442240474082183868 w (by omega) (by omega) (by omega) (by omega)
  rwa [show cmpN (Int.toNat 9221120237041090560) (Int.toNat 18442240474082183868) = 0 by kernel_rfl] at h

theorem made_cell (w : World) (l : List Nat) (j : Nat) {c : Array Value} (hj : j < l.length) (hc : c = (l.map (fun x : Nat => Value.int .u64 (x : Int))).toArray) :
    (w.alloc (.cells c 22)).cell? ⟨w.heap.size, 0 + j, none⟩ = some (.int .u64 ((l.getD j 0 : Nat) : Int)) := by
  subst hc
  have e1 := (MapKept.heap_alloc w (.cells (l.map (fun x : Nat => Value.int .u64 (x : Int))).toArray 22)).1
  unfold World.cell?
  rw [e1]
  show (l.map (fun x : Nat => Value.int .u64 (x : Int))).toArray[0 + j]? = _
  rw [Nat.zero_add, List.getElem?_toArray, List.getElem?_map, List.getD_eq_getElem?_getD, List.getElem?_eq_getElem hj]
  rfl

theorem small_cells (l : List Nat) (h : ∀ x ∈ l, x < 18446744073709551616) (j : Nat) : l.getD j 0 < 18446744073709551616 := by
  rw [List.getD_eq_getElem?_getD]
  by_cases c : j < l.length
  · rw [List.getElem?_eq_getElem c]
    exact h _ (List.getElem_mem c)
  · rw [List.getElem?_eq_none (by omega)]
    exact (by omega : (0 : Nat) < 18446744073709551616)

theorem aw_sum1 (w : World) : Calls Try.prog 24 #[.slice (some ⟨w.heap.size, 0, none⟩) 2 2] (w.alloc (.cells #[.int .u64 9218868437227405312, .int .u64 18442240474082181120] 22)) fun e w' => e = .returned (.int .u64 9221120237041090560) ∧ Grown w w' := by
  have h := sum_any (.slice (some ⟨w.heap.size, 0, none⟩) 2 2) 2 (fun j => ([9218868437227405312, 18442240474082181120] : List Nat).getD j 0) (w.alloc (.cells #[.int .u64 9218868437227405312, .int .u64 18442240474082181120] 22))
    (Or.inr ⟨w.heap.size, 0, 2, rfl, by omega, by omega, by omega, fun j hj => made_cell w _ j hj rfl⟩) (small_cells _ (by decide))
  rw [show sumN (fun j => ([9218868437227405312, 18442240474082181120] : List Nat).getD j 0) 2 = 9221120237041090560 by kernel_rfl] at h
  exact h.mono fun e w' ⟨a, b⟩ => ⟨a, grown_trans (Grown.alloc (Grown.refl w) _ _) b.2⟩
theorem aw_sum2 (w : World) : Calls Try.prog 24 #[.slice (some ⟨w.heap.size, 0, none⟩) 1 1] (w.alloc (.cells #[.int .u64 9223372036854775808] 22)) fun e w' => e = .returned (.int .u64 9223372036854775808) ∧ Grown w w' := by
  have h := sum_any (.slice (some ⟨w.heap.size, 0, none⟩) 1 1) 1 (fun j => ([9223372036854775808] : List Nat).getD j 0) (w.alloc (.cells #[.int .u64 9223372036854775808] 22))
    (Or.inr ⟨w.heap.size, 0, 1, rfl, by omega, by omega, by omega, fun j hj => made_cell w _ j hj rfl⟩) (small_cells _ (by decide))
  rw [show sumN (fun j => ([9223372036854775808] : List Nat).getD j 0) 1 = 9223372036854775808 by kernel_rfl] at h
  exact h.mono fun e w' ⟨a, b⟩ => ⟨a, grown_trans (Grown.alloc (Grown.refl w) _ _) b.2⟩
theorem aw_sum3 (w : World) : Calls Try.prog 24 #[.slice (some ⟨w.heap.size, 0, none⟩) 2 2] (w.alloc (.cells #[.int .u64 9223372036854775808, .int .u64 0] 22)) fun e w' => e = .returned (.int .u64 0) ∧ Grown w w' := by
  have h := sum_any (.slice (some ⟨w.heap.size, 0, none⟩) 2 2) 2 (fun j => ([9223372036854775808, 0] : List Nat).getD j 0) (w.alloc (.cells #[.int .u64 9223372036854775808, .int .u64 0] 22))
    (Or.inr ⟨w.heap.size, 0, 2, rfl, by omega, by omega, by omega, fun j hj => made_cell w _ j hj rfl⟩) (small_cells _ (by decide))
  rw [show sumN (fun j => ([9223372036854775808, 0] : List Nat).getD j 0) 2 = 0 by kernel_rfl] at h
  exact h.mono fun e w' ⟨a, b⟩ => ⟨a, grown_trans (Grown.alloc (Grown.refl w) _ _) b.2⟩
theorem aw_sum4 (w : World) : Calls Try.prog 24 #[.slice (some ⟨w.heap.size, 0, none⟩) 3 3] (w.alloc (.cells #[.int .u64 4607182418800017408, .int .u64 4845873199050653696, .int .u64 14069245235905429504] 22)) fun e w' => e = .returned (.int .u64 0) ∧ Grown w w' := by
  have h := sum_any (.slice (some ⟨w.heap.size, 0, none⟩) 3 3) 3 (fun j => ([4607182418800017408, 4845873199050653696, 14069245235905429504] : List Nat).getD j 0) (w.alloc (.cells #[.int .u64 4607182418800017408, .int .u64 4845873199050653696, .int .u64 14069245235905429504] 22))
    (Or.inr ⟨w.heap.size, 0, 3, rfl, by omega, by omega, by omega, fun j hj => made_cell w _ j hj rfl⟩) (small_cells _ (by decide))
  rw [show sumN (fun j => ([4607182418800017408, 4845873199050653696, 14069245235905429504] : List Nat).getD j 0) 3 = 0 by kernel_rfl] at h
  exact h.mono fun e w' ⟨a, b⟩ => ⟨a, grown_trans (Grown.alloc (Grown.refl w) _ _) b.2⟩

set_option maxHeartbeats 2000000 in
theorem awake_any (w : World) : Calls Try.prog 19 #[] w fun e w' => e = .returned (.bool true) ∧ Grown w w' := by
  go_enter Try.func19, Try.ntmps19
  go_wp2_with (first
    | (go_at_call 13; ((with_reducible refine (aw_kind1 _).mono ?_); rintro e w' ⟨rfl, hw⟩; rw [hw]))
    | (go_at_call 13; ((with_reducible refine (aw_kind2 _).mono ?_); rintro e w' ⟨rfl, hw⟩; rw [hw]))
    | (go_at_call 13; ((with_reducible refine (aw_kind3 _).mono ?_); rintro e w' ⟨rfl, hw⟩; rw [hw]))
    | (go_at_call 28; ((with_reducible refine (aw_of _).mono ?_); rintro e w' ⟨rfl, hw⟩; rw [hw]))
    | (go_at_call 15; ((with_reducible refine (aw_whole1 _).mono ?_); rintro e w' ⟨rfl, hw⟩; rw [hw]))
    | (go_at_call 15; ((with_reducible refine (aw_whole2 _).mono ?_); rintro e w' ⟨rfl, hw⟩; rw [hw]))
    | (go_at_call 20; ((with_reducible refine (aw_eq1 _).mono ?_); rintro e w' ⟨rfl, hw⟩; rw [hw]))
    | (go_at_call 20; ((with_reducible refine (aw_eq2 _).mono ?_); rintro e w' ⟨rfl, hw⟩; rw [hw]))
    | (go_at_call 22; ((with_reducible refine (aw_cmp1 _).mono ?_); rintro e w' ⟨rfl, hw⟩; rw [hw]))
    | (go_at_call 22; ((with_reducible refine (aw_cmp2 _).mono ?_); rintro e w' ⟨rfl, hw⟩; rw [hw]))
    | (go_at_call 24; ((with_reducible refine (aw_sum1 _).mono ?_); rintro e w' ⟨rfl, hg⟩))
    | (go_at_call 24; ((with_reducible refine (aw_sum2 _).mono ?_); rintro e w' ⟨rfl, hg⟩))
    | (go_at_call 24; ((with_reducible refine (aw_sum3 _).mono ?_); rintro e w' ⟨rfl, hg⟩))
    | (go_at_call 24; ((with_reducible refine (aw_sum4 _).mono ?_); rintro e w' ⟨rfl, hg⟩)))
  go_ret
  refine ⟨rfl, ?_⟩
  repeat (first | assumption | exact Grown.refl _ | refine grown_trans ?_ (by assumption))
end Go.Proofs.Ytagempkaophnaaa
