/- In and Load of the document's memories. -/
import Derived.Test.YteipadpifmjnmaaWd
namespace Go.Proofs.Yteipadpifmjnmaa
open Go.ChangeShapes Go.WideShapes Go.ChangeAt Go.RowKit Go.Deep

set_option maxHeartbeats 1000000 in
theorem in_any (X : Nat → Prop) (v : Value) (R : List (List Nat)) (t a : Int) (w : World) (h : IsRm X w v R) :
    Calls Try.prog 49 #[v, .int .i64 t, .int .i64 a] w fun e w' => e = .returned (.int .i64 (inE R t a)) ∧ Bel w w' := by
  obtain ⟨rv, rfl, hR⟩ := h
  have hb : ∀ o, Bel w (w.alloc o) := fun o => (Bel.refl w).alloc o
  by_cases t1 : t < 0
  · have e : inE R t a = 2 := if_pos (Or.inl t1)
    rw [e]
    obtain ⟨p, cap, rfl, bd⟩ := hR.slice
    clear hR e
    generalize R.length = m at *
    go_enter Try.func49, Try.ntmps49
    go_wp2
    go_ret
    exact ⟨rfl, hb _⟩
  · by_cases t2 : (R.length : Int) ≤ t
    · have e : inE R t a = 2 := if_pos (Or.inr t2)
      rw [e]
      obtain ⟨p, cap, rfl, bd⟩ := hR.slice
      have d1 : decide (t < 0) = false := decide_eq_false t1
      clear hR e t1
      generalize R.length = m at *
      go_enter Try.func49, Try.ntmps49
      go_wp2
      go_ret
      exact ⟨rfl, hb _⟩
    · obtain ⟨n, rfl⟩ : ∃ n : Nat, t = n := ⟨t.toNat, by omega⟩
      have hn : n < R.length := by omega
      obtain ⟨b, off, cap, lv, rfl, k1, k2, k3, k4, c, hw⟩ := hR.at (List.getElem?_eq_getElem hn)
      have el : R.getD n [] = R[n] := by rw [List.getD_eq_getElem?_getD, List.getElem?_eq_getElem hn]; rfl
      have e0 : inE R n a = if a < 0 ∨ ((R[n]).length : Int) ≤ a then 4 else 0 := by
        unfold inE
        rw [if_neg (by omega), Int.toNat_natCast, el]
      rw [e0]
      obtain ⟨p2, cap2, rfl, bd2⟩ := hw.slice
      have d1 : decide ((n : Int) < 0) = false := decide_eq_false t1
      have d2 : decide ((R.length : Int) ≤ (n : Int)) = false := decide_eq_false t2
      have kI : (n : Int) < (R.length : Int) := by omega
      have kz : (0 : Int) ≤ (n : Int) := by omega
      have C1 := cell_bel (hb (.cells #[.slice (some ⟨b, off, none⟩) R.length cap] 36)) c
      clear hR hw el e0 t1 t2 c
      generalize (R[n]).length = ln at *
      generalize R.length = m at *
      by_cases a1 : a < 0
      · rw [if_pos (Or.inl a1)]
        go_enter Try.func49, Try.ntmps49
        go_wp2
        go_ret
        exact ⟨rfl, hb _⟩
      · have d3 : decide (a < 0) = false := decide_eq_false a1
        by_cases a2 : (ln : Int) ≤ a
        · rw [if_pos (Or.inr a2)]
          clear a1
          go_enter Try.func49, Try.ntmps49
          go_wp2
          go_ret
          exact ⟨rfl, hb _⟩
        · rw [if_neg (by omega)]
          have d4 : decide ((ln : Int) ≤ a) = false := decide_eq_false a2
          clear a1
          go_enter Try.func49, Try.ntmps49
          go_wp2
          go_ret
          exact ⟨rfl, hb _⟩

/-theorem rm_cell {X : Nat → Prop} {w : World} {v : Value} {R : List (List Nat)} (h : IsRm X w v R) (ht : Till X w) (t : TypeId) {w1 : World} (g : Bel (w.alloc (.cells #[v] t)) w1) : w1.cell? ⟨w.heap.size, 0, none⟩ = some v := agg_at g 0 -/

set_option maxHeartbeats 1000000 in
theorem load_any (X : Nat → Prop) (v : Value) (R : List (List Nat)) (t a : Int) (w : World) (h : IsRm X w v R) :
    Calls Try.prog 29 #[v, .int .i64 t, .int .i64 a] w fun e w' => e = .returned (.tuple #[.int .u64 (loadR R t a : Nat), .int .i64 (inE R t a)]) ∧ Bel w w' := by
  have hb : ∀ o, Bel w (w.alloc o) := fun o => (Bel.refl w).alloc o
  have hI := h
  obtain ⟨rv, rfl, hR⟩ := h
  have ii := fun o => in_any X _ R t a (w.alloc o) (hI.bel (hb o))
  by_cases z : inE R t a = 0
  · obtain ⟨t', a', l, u, rfl, rfl, h1, h2, h3, h4⟩ := inE_ok z
    have e1 : loadR R t' a' = u := by unfold loadR; rw [if_pos z, Int.toNat_natCast, Int.toNat_natCast, h3, h4]
    rw [e1]
    rw [z] at ii ⊢
    obtain ⟨b, off, cap, lv, rfl, k1, k2, k3, k4, c, hw⟩ := hR.at h1
    obtain ⟨b2, off2, cap2, rfl, j1, j2, j3, j4, c2⟩ := hw.at h2
    have kI : (t' : Int) < (R.length : Int) := by omega
    have kz : (0 : Int) ≤ (t' : Int) := by omega
    have lI : (a' : Int) < (l.length : Int) := by omega
    have lz : (0 : Int) ≤ (a' : Int) := by omega
    clear hR hw h1 h2 h3 h4 e1 z hI
    generalize R.length = m at *
    generalize l.length = n at *
    go_enter Try.func29, Try.ntmps29
    go_wp2_with (go_at_call 49; refine (ii _).mono ?_; rintro e w' ⟨rfl, hg⟩; have i0 := agg_at hg 0; have C1 := cell_bel ((hb _).trans hg) c; have C2 := cell_bel ((hb _).trans hg) c2)
    go_ret2
    exact ⟨rfl, (hb _).trans hg⟩
  · have e1 : loadR R t a = 0 := if_neg z
    rw [e1]
    have z2 : (inE R t a != 0) = true := by rw [bne_iff_ne]; exact z
    obtain ⟨p, cap, rfl, bd⟩ := hR.slice
    clear hR e1 hI
    generalize inE R t a = E at *
    generalize R.length = m at *
    go_enter Try.func29, Try.ntmps29
    go_wp2_with (go_at_call 49; refine (ii _).mono ?_; rintro e w' ⟨rfl, hg⟩)
    go_ret2
    exact ⟨rfl, (hb _).trans hg⟩

end Go.Proofs.Yteipadpifmjnmaa
