/- Equal, of the program and of the document. -/
import Derived.Test.YtagempkaophnaaaCmp
namespace Go.Proofs.Ytagempkaophnaaa
open Go.ChangeShapes Go.WideShapes Go.ChangeAt Go.RowKit

/-- the answer of Equal -/
def eqN (a b : Nat) : Bool := (FloatKind.f64).format.order a b == some .eq

theorem eqN_nan_left {a b : Nat} (h : nanN a = true) : eqN a b = false := by
  unfold eqN; rw [show (FloatKind.f64).format.order a b = none from order_nan_left (of_decide_eq_true h)]; rfl

theorem eqN_nan_right {a b : Nat} (h : nanN b = true) : eqN a b = false := by
  unfold eqN; rw [show (FloatKind.f64).format.order a b = none from order_nan_right (of_decide_eq_true h)]; rfl

theorem eqN_key {a b : Nat} (h : nanN a = false) (g : nanN b = false) : eqN a b = decide (key a = key b) := by
  have h' := of_decide_eq_false h
  have g' := of_decide_eq_false g
  unfold eqN; rw [show (FloatKind.f64).format.order a b = _ from order_at (by omega) (by omega)]
  rcases cmp_cases (key a) (key b) with ⟨h, e⟩ | ⟨h, e⟩ | ⟨h, e⟩ <;> rw [e]
  · rw [decide_eq_false (by omega)]; rfl
  · rw [decide_eq_true (by omega)]; rfl
  · rw [decide_eq_false (by omega)]; rfl

theorem equal_any (x y : Int) (w : World) : Calls Try.prog 20 #[.int .u64 x, .int .u64 y] w fun e w' => e = .returned (.bool (eqN x.toNat y.toNat)) ∧ w' = w := by
  have h2 := run_from
  go_enter Try.func20, Try.ntmps20
  go_wp2
  go_ret; exact ⟨rfl, rfl⟩

theorem key_eq {a b : Nat} (ha : a < 18446744073709551616) (hb : b < 18446744073709551616) : key a = key b ↔ (a = b ∨ (rung a = 0 ∧ rung b = 0)) := by
  unfold key
  rw [sgn_of ha, sgn_of hb]
  unfold rung
  by_cases c : 9223372036854775808 ≤ a <;> by_cases d : 9223372036854775808 ≤ b <;> simp only [c, d, decide_true, decide_false, if_true, if_false, Bool.false_eq_true] <;> omega

theorem kind_four (a : Nat) : (kindN a == 4) = decide (rung a = 0) := by
  unfold kindN
  by_cases h : rung a = 0
  · rw [if_pos h, decide_eq_true h]; rfl
  · rw [if_neg h, decide_eq_false h]
    split
    · rfl
    split
    · rfl
    split <;> rfl

theorem requal_any (x y : Int) (w : World) (h0 : 0 ≤ x) (h1 : x ≤ 18446744073709551615) (g0 : 0 ≤ y) (g1 : y ≤ 18446744073709551615) : Calls Try.prog 21 #[.int .u64 x, .int .u64 y] w fun e w' => e = .returned (.bool (eqN x.toNat y.toNat)) ∧ w' = w := by
  obtain ⟨a, rfl⟩ := Int.eq_ofNat_of_zero_le h0
  obtain ⟨b, rfl⟩ := Int.eq_ofNat_of_zero_le g0
  have ca := rkind_any (a : Int) w h0 h1
  have cb := rkind_any (b : Int) w g0 g1
  simp only [Int.toNat_natCast] at ca cb ⊢
  have na := kind_nan a
  have nb := kind_nan b
  have za := kind_four a
  have zb := kind_four b
  have ka := key_eq (a := a) (b := b) (by omega) (by omega)
  have hab : ((a : Int) == (b : Int)) = decide (a = b) := by rw [beq_dec]; exact decide_eq_decide.2 (by omega)
  generalize kindN a = i at *
  generalize kindN b = j at *
  cases ha : nanN a
  · rw [ha] at na
    cases hb : nanN b
    · rw [hb] at nb
      rw [eqN_key ha hb]
      by_cases c1 : a = b
      · rw [decide_eq_true c1] at hab
        have hk : key a = key b := ka.2 (Or.inl c1)
        rw [decide_eq_true hk]
        clear c1 hk ka h0 h1 g0 g1 za zb ha hb
        go_enter Try.func21, Try.ntmps21
        go_wp2_with (go_at_call 14; (first | (with_reducible refine ca.mono ?_) | (with_reducible refine cb.mono ?_)); rintro e w' ⟨rfl, hw⟩; rw [hw])
        go_ret; exact ⟨rfl, rfl⟩
      · rw [decide_eq_false c1] at hab
        by_cases c2 : rung a = 0
        · rw [decide_eq_true c2] at za
          by_cases c3 : rung b = 0
          · rw [decide_eq_true c3] at zb
            have hk : key a = key b := ka.2 (Or.inr ⟨c2, c3⟩)
            rw [decide_eq_true hk]
            clear c1 hk ka h0 h1 g0 g1 c2 c3 ha hb
            go_enter Try.func21, Try.ntmps21
            go_wp2_with (go_at_call 14; (first | (with_reducible refine ca.mono ?_) | (with_reducible refine cb.mono ?_)); rintro e w' ⟨rfl, hw⟩; rw [hw])
            go_ret; exact ⟨rfl, rfl⟩
          · rw [decide_eq_false c3] at zb
            have hk : ¬ key a = key b := fun h => by rcases ka.1 h with h | h <;> omega
            rw [decide_eq_false hk]
            clear c1 hk ka h0 h1 g0 g1 c2 c3 ha hb
            go_enter Try.func21, Try.ntmps21
            go_wp2_with (go_at_call 14; (first | (with_reducible refine ca.mono ?_) | (with_reducible refine cb.mono ?_)); rintro e w' ⟨rfl, hw⟩; rw [hw])
            go_ret; exact ⟨rfl, rfl⟩
        · rw [decide_eq_false c2] at za
          have hk : ¬ key a = key b := fun h => by rcases ka.1 h with h | h <;> omega
          rw [decide_eq_false hk]
          clear c1 hk ka h0 h1 g0 g1 c2 ha hb zb
          go_enter Try.func21, Try.ntmps21
          go_wp2_with (go_at_call 14; (first | (with_reducible refine ca.mono ?_) | (with_reducible refine cb.mono ?_)); rintro e w' ⟨rfl, hw⟩; rw [hw])
          go_ret; exact ⟨rfl, rfl⟩
    · rw [hb] at nb
      rw [eqN_nan_right hb]
      clear ka h0 h1 g0 g1 ha hb za zb hab
      go_enter Try.func21, Try.ntmps21
      go_wp2_with (go_at_call 14; (first | (with_reducible refine ca.mono ?_) | (with_reducible refine cb.mono ?_)); rintro e w' ⟨rfl, hw⟩; rw [hw])
      go_ret; exact ⟨rfl, rfl⟩
  · rw [ha] at na
    rw [eqN_nan_left ha]
    clear ka h0 h1 g0 g1 ha nb za zb hab
    go_enter Try.func21, Try.ntmps21
    go_wp2_with (go_at_call 14; (first | (with_reducible refine ca.mono ?_) | (with_reducible refine cb.mono ?_)); rintro e w' ⟨rfl, hw⟩; rw [hw])
    go_ret; exact ⟨rfl, rfl⟩

end Go.Proofs.Ytagempkaophnaaa
