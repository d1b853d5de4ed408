/- The conditions on numbers, of the program: a variadic call; Check and find. -/
import Derived.Test.YthokalcibjjihaaGreatDoorSlo
namespace Go.Proofs.YthokalcibjjihaaGreatDoor
open Go.ChangeShapes Go.WideShapes Go.ChangeAt Go.RowKit

/-- all numbers within their bounds -/
def inAll (m : Nat) (L N M : Nat → Int) : Prop := ∀ j, j < m → L j ≤ N j ∧ N j ≤ M j
instance (m : Nat) (L N M : Nat → Int) : Decidable (inAll m L N M) := by unfold inAll; infer_instance

set_option maxHeartbeats 1000000 in
theorem within_any (b off m cap : Nat) (L N M : Nat → Int) (w : World) (hm : m ≤ 8) (hc : m ≤ cap) (hbig : cap ≤ 9223372036854775807)
    (hB : ∀ j, j < m → w.cell? ⟨b, off + j * 3, none⟩ = some (.int .i64 (L j)) ∧ w.cell? ⟨b, off + j * 3 + 1, none⟩ = some (.int .i64 (N j)) ∧ w.cell? ⟨b, off + j * 3 + 2, none⟩ = some (.int .i64 (M j))) :
    Calls Tryz.prog 128 #[.slice (some ⟨b, off, none⟩) m cap] w fun e w' => e = .returned (.bool (decide (inAll m L N M))) ∧ Bel w w' := by
  obtain ⟨R, hR⟩ : ∃ R, decide (inAll m L N M) = R := ⟨_, rfl⟩
  rw [hR]
  have hidR := Lib.hid hR
  clear hR
  go_enter Tryz.func128, Tryz.ntmps128
  go_wp2
  go_loopw [7] (fun i wr => ∃ k : Nat, k ≤ m ∧ i = .int .i64 (k : Nat) ∧ inAll k L N M ∧ Bel w wr) (fun i _ => m - (intOf i).toNat)
  case atStart => exact ⟨0, Nat.zero_le _, rfl, fun j hj => absurd hj (Nat.not_lt_zero _), Bel.refl _⟩
  case round =>
    obtain ⟨k, hk, rfl, hall, hbr⟩ := hrel
    by_cases ck : k < m
    · obtain ⟨q0, q1, q2⟩ := hB k ck
      have p0 := cell_bel hbr q0
      have p1 := cell_bel hbr q1
      have p2 := cell_bel hbr q2
      have kI : (k : Int) < (m : Int) := by omega
      have kz : (0 : Int) ≤ (k : Int) := by omega
      clear q0 q1 q2
      by_cases c1 : N k < L k
      · have no : ¬ inAll m L N M := fun x => by have := (x k ck).1; omega
        have hR := hidR.out
        rw [decide_eq_false no] at hR
        subst hR
        clear no hall hB
        generalize L k = l at *
        generalize N k = n at *
        generalize M k = u at *
        go_wp2
        go_ret
        exact ⟨rfl, hbr.alloc _⟩
      · by_cases c2 : M k < N k
        · have no : ¬ inAll m L N M := fun x => by have := (x k ck).2; omega
          have hR := hidR.out
          rw [decide_eq_false no] at hR
          subst hR
          have d1 : decide (N k < L k) = false := decide_eq_false c1
          clear no hall hB
          generalize L k = l at *
          generalize N k = n at *
          generalize M k = u at *
          go_wp2
          go_ret
          exact ⟨rfl, hbr.alloc _⟩
        · have al2 : inAll (k + 1) L N M := fun j hj => by
            by_cases x : j < k
            · exact hall j x
            · obtain rfl : j = k := by omega
              exact ⟨by omega, by omega⟩
          have d1 : decide (N k < L k) = false := decide_eq_false c1
          have d2 : decide (M k < N k) = false := decide_eq_false c2
          have hid := Lib.hid al2
          clear al2 hall hB
          generalize L k = l at *
          generalize N k = n at *
          generalize M k = u at *
          go_wp2
          go_roundw
          case rel => exact ⟨k + 1, by omega, by go_num, hid.out, hbr.alloc _⟩
          case measure => simp only [intOf]; omega
    · obtain rfl : k = m := by omega
      have hR := hidR.out
      rw [decide_eq_true hall] at hR
      subst hR
      clear hall hB
      go_wp2
      go_ret
      exact ⟨rfl, hbr⟩

/-- two, four, five bounds that were just made -/
theorem within2 (W : World) (l0 n0 u0 l1 n1 u1 : Int) {r : Bool} (hr : decide ((l0 ≤ n0 ∧ n0 ≤ u0) ∧ (l1 ≤ n1 ∧ n1 ≤ u1)) = r) :
    Calls Tryz.prog 128 #[.slice (some ⟨W.heap.size, 0, none⟩) 2 2] (W.alloc (.cells #[.int .i64 l0, .int .i64 n0, .int .i64 u0, .int .i64 l1, .int .i64 n1, .int .i64 u1] 184)) fun e w' => e = .returned (.bool r) ∧ Bel W w' := by
  have a := agg_at (w := W) (Bel.refl (W.alloc (.cells #[.int .i64 l0, .int .i64 n0, .int .i64 u0, .int .i64 l1, .int .i64 n1, .int .i64 u1] 184)))
  have h := within_any W.heap.size 0 2 2 (fun j => ([l0, l1] : List Int).getD j 0) (fun j => ([n0, n1] : List Int).getD j 0) (fun j => ([u0, u1] : List Int).getD j 0) _ (by decide) (by decide) (by decide) (fun j hj => by
    match j, hj with
    | 0, _ => exact ⟨a 0, a 1, a 2⟩
    | 1, _ => exact ⟨a 3, a 4, a 5⟩)
  have e : decide (inAll 2 (fun j => ([l0, l1] : List Int).getD j 0) (fun j => ([n0, n1] : List Int).getD j 0) (fun j => ([u0, u1] : List Int).getD j 0)) = r := by
    rw [← hr]
    refine decide_eq_decide.2 ⟨fun x => ⟨x 0 (by decide), x 1 (by decide)⟩, fun x j hj => ?_⟩
    match j, hj with
    | 0, _ => exact x.1
    | 1, _ => exact x.2
  rw [e] at h
  exact h.mono fun e w' ⟨x, y⟩ => ⟨x, ((Bel.refl W).alloc _).trans y⟩
theorem within4 (W : World) (l0 n0 u0 l1 n1 u1 l2 n2 u2 l3 n3 u3 : Int) {r : Bool} (hr : decide ((l0 ≤ n0 ∧ n0 ≤ u0) ∧ (l1 ≤ n1 ∧ n1 ≤ u1) ∧ (l2 ≤ n2 ∧ n2 ≤ u2) ∧ (l3 ≤ n3 ∧ n3 ≤ u3)) = r) :
    Calls Tryz.prog 128 #[.slice (some ⟨W.heap.size, 0, none⟩) 4 4] (W.alloc (.cells #[.int .i64 l0, .int .i64 n0, .int .i64 u0, .int .i64 l1, .int .i64 n1, .int .i64 u1, .int .i64 l2, .int .i64 n2, .int .i64 u2, .int .i64 l3, .int .i64 n3, .int .i64 u3] 184)) fun e w' => e = .returned (.bool r) ∧ Bel W w' := by
  have a := agg_at (w := W) (Bel.refl (W.alloc (.cells #[.int .i64 l0, .int .i64 n0, .int .i64 u0, .int .i64 l1, .int .i64 n1, .int .i64 u1, .int .i64 l2, .int .i64 n2, .int .i64 u2, .int .i64 l3, .int .i64 n3, .int .i64 u3] 184)))
  have h := within_any W.heap.size 0 4 4 (fun j => ([l0, l1, l2, l3] : List Int).getD j 0) (fun j => ([n0, n1, n2, n3] : List Int).getD j 0) (fun j => ([u0, u1, u2, u3] : List Int).getD j 0) _ (by decide) (by decide) (by decide) (fun j hj => by
    match j, hj with
    | 0, _ => exact ⟨a 0, a 1, a 2⟩
    | 1, _ => exact ⟨a 3, a 4, a 5⟩
    | 2, _ => exact ⟨a 6, a 7, a 8⟩
    | 3, _ => exact ⟨a 9, a 10, a 11⟩)
  have e : decide (inAll 4 (fun j => ([l0, l1, l2, l3] : List Int).getD j 0) (fun j => ([n0, n1, n2, n3] : List Int).getD j 0) (fun j => ([u0, u1, u2, u3] : List Int).getD j 0)) = r := by
    rw [← hr]
    refine decide_eq_decide.2 ⟨fun x => ⟨x 0 (by decide), x 1 (by decide), x 2 (by decide), x 3 (by decide)⟩, fun x j hj => ?_⟩
    match j, hj with
    | 0, _ => exact x.1
    | 1, _ => exact x.2.1
    | 2, _ => exact x.2.2.1
    | 3, _ => exact x.2.2.2
  rw [e] at h
  exact h.mono fun e w' ⟨x, y⟩ => ⟨x, ((Bel.refl W).alloc _).trans y⟩
theorem within5 (W : World) (l0 n0 u0 l1 n1 u1 l2 n2 u2 l3 n3 u3 l4 n4 u4 : Int) {r : Bool} (hr : decide ((l0 ≤ n0 ∧ n0 ≤ u0) ∧ (l1 ≤ n1 ∧ n1 ≤ u1) ∧ (l2 ≤ n2 ∧ n2 ≤ u2) ∧ (l3 ≤ n3 ∧ n3 ≤ u3) ∧ (l4 ≤ n4 ∧ n4 ≤ u4)) = r) :
    Calls Tryz.prog 128 #[.slice (some ⟨W.heap.size, 0, none⟩) 5 5] (W.alloc (.cells #[.int .i64 l0, .int .i64 n0, .int .i64 u0, .int .i64 l1, .int .i64 n1, .int .i64 u1, .int .i64 l2, .int .i64 n2, .int .i64 u2, .int .i64 l3, .int .i64 n3, .int .i64 u3, .int .i64 l4, .int .i64 n4, .int .i64 u4] 184)) fun e w' => e = .returned (.bool r) ∧ Bel W w' := by
  have a := agg_at (w := W) (Bel.refl (W.alloc (.cells #[.int .i64 l0, .int .i64 n0, .int .i64 u0, .int .i64 l1, .int .i64 n1, .int .i64 u1, .int .i64 l2, .int .i64 n2, .int .i64 u2, .int .i64 l3, .int .i64 n3, .int .i64 u3, .int .i64 l4, .int .i64 n4, .int .i64 u4] 184)))
  have h := within_any W.heap.size 0 5 5 (fun j => ([l0, l1, l2, l3, l4] : List Int).getD j 0) (fun j => ([n0, n1, n2, n3, n4] : List Int).getD j 0) (fun j => ([u0, u1, u2, u3, u4] : List Int).getD j 0) _ (by decide) (by decide) (by decide) (fun j hj => by
    match j, hj with
    | 0, _ => exact ⟨a 0, a 1, a 2⟩
    | 1, _ => exact ⟨a 3, a 4, a 5⟩
    | 2, _ => exact ⟨a 6, a 7, a 8⟩
    | 3, _ => exact ⟨a 9, a 10, a 11⟩
    | 4, _ => exact ⟨a 12, a 13, a 14⟩)
  have e : decide (inAll 5 (fun j => ([l0, l1, l2, l3, l4] : List Int).getD j 0) (fun j => ([n0, n1, n2, n3, n4] : List Int).getD j 0) (fun j => ([u0, u1, u2, u3, u4] : List Int).getD j 0)) = r := by
    rw [← hr]
    refine decide_eq_decide.2 ⟨fun x => ⟨x 0 (by decide), x 1 (by decide), x 2 (by decide), x 3 (by decide), x 4 (by decide)⟩, fun x j hj => ?_⟩
    match j, hj with
    | 0, _ => exact x.1
    | 1, _ => exact x.2.1
    | 2, _ => exact x.2.2.1
    | 3, _ => exact x.2.2.2.1
    | 4, _ => exact x.2.2.2.2
  rw [e] at h
  exact h.mono fun e w' ⟨x, y⟩ => ⟨x, ((Bel.refl W).alloc _).trans y⟩

end Go.Proofs.YthokalcibjjihaaGreatDoor
