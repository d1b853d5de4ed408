/- Heads in memory; the small functions, of the program and of the document. -/
import Derived.Test.YtgfccbamcehkcaaDoorUn
import Derived.Test.YtgfccbamcehkcaaDoorHn
namespace Go.Proofs.YtgfccbamcehkcaaDoor
open Go.ChangeShapes Go.WideShapes Go.ChangeAt Go.RowKit

/-- is it an int? -/
def i64b (x : Int) : Prop := -9223372036854775808 ≤ x ∧ x ≤ 9223372036854775807

theorem okH_eq {c r n : Int} {b : Bool} (h : b = true ↔ (0 ≤ c ∧ c ≤ 7 ∧ 0 ≤ r ∧ 0 ≤ n ∧ r + n ≤ 63)) : b = okH c r n := by
  unfold okH
  cases b
  · symm; exact decide_eq_false fun x => absurd (h.2 x) (by decide)
  · symm; exact decide_eq_true (h.1 rfl)

theorem valid_h (c r n : Int) (w : World) (hc : i64b c) (hr : i64b r) (hn : i64b n) :
    Calls Tryd.prog 15 #[.agg #[.int .i64 c, .int .i64 r, .int .i64 n]] w fun e w' => e = .returned (.bool (okH c r n)) ∧ Bel w w' := by
  have hb : ∀ o, Bel w (w.alloc o) := fun o => (Bel.refl w).alloc o
  obtain ⟨c0, c1⟩ := hc
  obtain ⟨r0, r1⟩ := hr
  obtain ⟨n0, n1⟩ := hn
  have key : ∀ b, (b = true ↔ (0 ≤ c ∧ c ≤ 7 ∧ 0 ≤ r ∧ 0 ≤ n ∧ r + n ≤ 63)) → b = okH c r n := fun b h => okH_eq h
  obtain ⟨R, hR⟩ : ∃ R, okH c r n = R := ⟨_, rfl⟩
  rw [hR] at key ⊢
  have hk := Lib.hid key
  clear key hR
  go_enter Tryd.func15, Tryd.ntmps15
  go_wp2
  all_goals go_ret
  all_goals refine ⟨ret_bool (hk.out _ ?_), hb _⟩
  all_goals (first | (simp; omega) | (rw [decide_eq_true_iff]; omega) | omega)

theorem may_h (c r n : Int) (w : World) (hc : i64b c) (hr : i64b r) (hn : i64b n) :
    Calls Tryd.prog 17 #[.agg #[.int .i64 c, .int .i64 r, .int .i64 n]] w fun e w' => e = .returned (.bool (okH c r n)) ∧ Bel w w' := by
  have hb : ∀ o, Bel w (w.alloc o) := fun o => (Bel.refl w).alloc o
  obtain ⟨c0, c1⟩ := hc
  obtain ⟨r0, r1⟩ := hr
  obtain ⟨n0, n1⟩ := hn
  have key : ∀ b, (b = true ↔ (0 ≤ c ∧ c ≤ 7 ∧ 0 ≤ r ∧ 0 ≤ n ∧ r + n ≤ 63)) → b = okH c r n := fun b h => okH_eq h
  obtain ⟨R, hR⟩ : ∃ R, okH c r n = R := ⟨_, rfl⟩
  rw [hR] at key ⊢
  have hk := Lib.hid key
  clear key hR
  go_enter Tryd.func17, Tryd.ntmps17
  go_wp2
  all_goals go_ret
  all_goals refine ⟨ret_bool (hk.out _ ?_), hb _⟩
  all_goals (first | (simp; omega) | (rw [decide_eq_true_iff]; omega) | omega)

end Go.Proofs.YtgfccbamcehkcaaDoor
