/- Of each bit that there is just one of both Nexts tells it at once, and the other one tells one behind it, or none. -/
import Derived.Test.YtebcmfggmlapdaaDoorOpn
namespace Go.Proofs.YtebcmfggmlapdaaDoor.bitsBoth
open Go.ChangeShapes Go.WideShapes Go.ChangeAt Go.RowKit
set_option linter.unusedVariables false

/-! The walk. -/
/-- how both answers may stand -/
def Ways (f : Nat → Bool) (n : Nat) (x : Int) : Prop :=
  (x < 0 ∧ n = 0 ∧ nxt f n (start x) true = none ∧ nxt f n (start x) false = none) ∨
  (x < 0 ∧ 0 < n ∧ ∃ a, nxt f n (start x) true = some a ∧ nxt f n (start x) false = none) ∨
  (x < 0 ∧ 0 < n ∧ ∃ a, nxt f n (start x) true = none ∧ nxt f n (start x) false = some a) ∨
  (x < 0 ∧ 0 < n ∧ ∃ a c, nxt f n (start x) true = some a ∧ nxt f n (start x) false = some c) ∨
  (0 ≤ x ∧ (n : Int) ≤ x ∧ nxt f n (start x) true = none ∧ nxt f n (start x) false = none) ∨
  (∃ k : Nat, x = k ∧ k < n ∧ f k = true ∧ nxt f n (start x) true = some k ∧ nxt f n (start x) false = none) ∨
  (∃ k : Nat, x = k ∧ k < n ∧ f k = true ∧ ∃ c, k < c ∧ nxt f n (start x) true = some k ∧ nxt f n (start x) false = some c) ∨
  (∃ k : Nat, x = k ∧ k < n ∧ f k = false ∧ nxt f n (start x) true = none ∧ nxt f n (start x) false = some k) ∨
  (∃ k : Nat, x = k ∧ k < n ∧ f k = false ∧ ∃ c, k < c ∧ nxt f n (start x) true = some c ∧ nxt f n (start x) false = some k)

theorem sel_at {f : Nat → Bool} {n k : Nat} {is : Bool} (hk : k < n) : sel f n is k = (f k == is) := by
  unfold sel; rw [decide_eq_true hk, Bool.true_and]

theorem nxt_here {f : Nat → Bool} {n k : Nat} {is : Bool} (hk : k < n) (h : f k = is) : nxt f n k is = some k :=
  first_some (Nat.le_refl _) (by omega) (by rw [sel_at hk, h]; simp) fun q h1 h2 => by omega

theorem nxt_far {f : Nat → Bool} {n k : Nat} {is : Bool} (hk : k < n) (h : f k = !is) : nxt f n k is = none ∨ ∃ c, k < c ∧ nxt f n k is = some c := by
  unfold nxt
  rcases first_cases (sel f n is) (n - k) k with ⟨h1, _⟩ | ⟨a, h1, h2, _, h4, _⟩
  · exact Or.inl h1
  · refine Or.inr ⟨a, ?_, h1⟩
    by_cases e : k = a
    · subst e
      rw [sel_at hk, h] at h4
      cases is <;> cases h4
    · omega

theorem ways (f : Nat → Bool) (n : Nat) (x : Int) : Ways f n x := by
  unfold Ways
  by_cases h0 : x < 0
  · have s : start x = 0 := by unfold start; omega
    rw [s]
    by_cases hn : n = 0
    · subst hn; exact Or.inl ⟨h0, rfl, rfl, rfl⟩
    · have hp : 0 < n := by omega
      cases hf : f 0
      · have e := nxt_here hp hf
        rcases nxt_far (is := true) hp hf with h | ⟨c, _, h⟩
        · exact Or.inr (Or.inr (Or.inl ⟨h0, hp, 0, h, e⟩))
        · exact Or.inr (Or.inr (Or.inr (Or.inl ⟨h0, hp, c, 0, h, e⟩)))
      · have e := nxt_here hp hf
        rcases nxt_far (is := false) hp hf with h | ⟨c, _, h⟩
        · exact Or.inr (Or.inl ⟨h0, hp, 0, e, h⟩)
        · exact Or.inr (Or.inr (Or.inr (Or.inl ⟨h0, hp, 0, c, e, h⟩)))
  · obtain ⟨k, rfl⟩ : ∃ k : Nat, x = k := ⟨x.toNat, by omega⟩
    have s : start (k : Int) = k := by unfold start; omega
    rw [s]
    by_cases hk : k < n
    · cases hf : f k
      · have e := nxt_here hk hf
        rcases nxt_far (is := true) hk hf with h | ⟨c, hc, h⟩
        · exact Or.inr (Or.inr (Or.inr (Or.inr (Or.inr (Or.inr (Or.inr (Or.inl ⟨k, rfl, hk, hf, h, e⟩)))))))
        · exact Or.inr (Or.inr (Or.inr (Or.inr (Or.inr (Or.inr (Or.inr (Or.inr ⟨k, rfl, hk, hf, c, hc, h, e⟩)))))))
      · have e := nxt_here hk hf
        rcases nxt_far (is := false) hk hf with h | ⟨c, hc, h⟩
        · exact Or.inr (Or.inr (Or.inr (Or.inr (Or.inr (Or.inl ⟨k, rfl, hk, hf, e, h⟩)))))
        · exact Or.inr (Or.inr (Or.inr (Or.inr (Or.inr (Or.inr (Or.inl ⟨k, rfl, hk, hf, c, hc, e, h⟩))))))
    · refine Or.inr (Or.inr (Or.inr (Or.inr (Or.inl ⟨by omega, by omega, ?_, ?_⟩))))
      · unfold nxt; rw [show n - k = 0 by omega]; rfl
      · unfold nxt; rw [show n - k = 0 by omega]; rfl

set_option maxRecDepth 100000 in
set_option maxHeartbeats 8000000 in
theorem walk (m : Nat) (v : Value) (c : Nat) (y : Nat → Nat) (x : Int) (w : World) (hT : TabAt w) (hm : m < 65536) (hy : ∀ j, y j < 65536) (h : U16s w v c y) (hx : -9223372036854775808 ≤ x ∧ x ≤ 9223372036854775807) :
    Calls Tryd.prog 7 #[.int .u16 (m : Nat), v, .int .i64 x] w fun e w' => e = .returned (.bool true) ∧ Below w.heap.size w w' := by
  have mad := made_any m v c y w hm hy h
  unfold MadeAt at mad
  generalize m % 301 = n at *
  generalize mk n y (min c 300) = f at *
  have n1 : ∀ {w b g ca}, RowIs w b g ca n f → TabAt w → _ := fun {w b g ca} h t => next_row x true w h t hx.2
  have n2 : ∀ {w b g ca}, RowIs w b g ca n f → TabAt w → _ := fun {w b g ca} h t => next_row x false w h t hx.2
  have ge : ∀ {w b g ca}, RowIs w b g ca n f → _ := fun {w b g ca} h => get_any x w h
  obtain ⟨p, cap, rfl⟩ := h.slice
  clear h
  rcases ways f n x with ⟨h0, h1, e1, e2⟩ | ⟨h0, h1, a, e1, e2⟩ | ⟨h0, h1, a, e1, e2⟩ | ⟨h0, h1, a, c', e1, e2⟩ | ⟨h0, h1, e1, e2⟩ | ⟨k, rfl, h0, h1, e1, e2⟩ | ⟨k, rfl, h0, h1, c', hc, e1, e2⟩ | ⟨k, rfl, h0, h1, e1, e2⟩ | ⟨k, rfl, h0, h1, c', hc, e1, e2⟩
  all_goals
    rw [e1] at n1
    rw [e2] at n2
    clear e1 e2
    simp only [nxA, Option.isSome] at n1 n2
  · have d0 : decide (x < 0) = true := decide_eq_true h0
    have d1 : decide (0 < (n : Int)) = false := decide_eq_false (by omega)
    go_enter Tryd.func7, Tryd.ntmps7
    go_wp2_with (first
      | (go_at_call 20; refine mad.mono ?_; rintro e w1 ⟨b, g, ca, q, rfl, R1, B1, G1, H1, K1⟩; have T1 := hT.bel K1)
      | (go_at_call 14; (with_reducible refine (n1 R1 T1).mono ?_); rintro e w2 ⟨rfl, K2⟩; have R2 := R1.bel K2; have T2 := T1.bel K2)
      | (go_at_call 14; (with_reducible refine (n2 R2 T2).mono ?_); rintro e w3 ⟨rfl, K3⟩; have R3 := R2.bel K3; have T3 := T2.bel K3)
      | (go_at_call 12; refine (len_any _ R3.hdr).mono ?_; rintro e w' ⟨rfl, hw⟩; rw [hw]; clear hw)
      | (go_at_call 23; refine (ge R3).mono ?_; rintro e w' ⟨rfl, hw⟩; rw [hw]; clear hw)
      | (go_at_call 11; refine (awake_any _ T3).mono ?_; rintro e w4 ⟨rfl, K4⟩))
    go_ret
    exact ⟨rfl, K1.trans (K2.trans (K3.trans K4))⟩
  · have d0 : decide (x < 0) = true := decide_eq_true h0
    have d1 : decide (0 < (n : Int)) = true := decide_eq_true (by omega)
    go_enter Tryd.func7, Tryd.ntmps7
    go_wp2_with (first
      | (go_at_call 20; refine mad.mono ?_; rintro e w1 ⟨b, g, ca, q, rfl, R1, B1, G1, H1, K1⟩; have T1 := hT.bel K1)
      | (go_at_call 14; (with_reducible refine (n1 R1 T1).mono ?_); rintro e w2 ⟨rfl, K2⟩; have R2 := R1.bel K2; have T2 := T1.bel K2)
      | (go_at_call 14; (with_reducible refine (n2 R2 T2).mono ?_); rintro e w3 ⟨rfl, K3⟩; have R3 := R2.bel K3; have T3 := T2.bel K3)
      | (go_at_call 12; refine (len_any _ R3.hdr).mono ?_; rintro e w' ⟨rfl, hw⟩; rw [hw]; clear hw)
      | (go_at_call 23; refine (ge R3).mono ?_; rintro e w' ⟨rfl, hw⟩; rw [hw]; clear hw)
      | (go_at_call 11; refine (awake_any _ T3).mono ?_; rintro e w4 ⟨rfl, K4⟩))
    go_ret
    exact ⟨rfl, K1.trans (K2.trans (K3.trans K4))⟩
  · have d0 : decide (x < 0) = true := decide_eq_true h0
    have d1 : decide (0 < (n : Int)) = true := decide_eq_true (by omega)
    go_enter Tryd.func7, Tryd.ntmps7
    go_wp2_with (first
      | (go_at_call 20; refine mad.mono ?_; rintro e w1 ⟨b, g, ca, q, rfl, R1, B1, G1, H1, K1⟩; have T1 := hT.bel K1)
      | (go_at_call 14; (with_reducible refine (n1 R1 T1).mono ?_); rintro e w2 ⟨rfl, K2⟩; have R2 := R1.bel K2; have T2 := T1.bel K2)
      | (go_at_call 14; (with_reducible refine (n2 R2 T2).mono ?_); rintro e w3 ⟨rfl, K3⟩; have R3 := R2.bel K3; have T3 := T2.bel K3)
      | (go_at_call 12; refine (len_any _ R3.hdr).mono ?_; rintro e w' ⟨rfl, hw⟩; rw [hw]; clear hw)
      | (go_at_call 23; refine (ge R3).mono ?_; rintro e w' ⟨rfl, hw⟩; rw [hw]; clear hw)
      | (go_at_call 11; refine (awake_any _ T3).mono ?_; rintro e w4 ⟨rfl, K4⟩))
    go_ret
    exact ⟨rfl, K1.trans (K2.trans (K3.trans K4))⟩
  · have d0 : decide (x < 0) = true := decide_eq_true h0
    have d1 : decide (0 < (n : Int)) = true := decide_eq_true (by omega)
    go_enter Tryd.func7, Tryd.ntmps7
    go_wp2_with (first
      | (go_at_call 20; refine mad.mono ?_; rintro e w1 ⟨b, g, ca, q, rfl, R1, B1, G1, H1, K1⟩; have T1 := hT.bel K1)
      | (go_at_call 14; (with_reducible refine (n1 R1 T1).mono ?_); rintro e w2 ⟨rfl, K2⟩; have R2 := R1.bel K2; have T2 := T1.bel K2)
      | (go_at_call 14; (with_reducible refine (n2 R2 T2).mono ?_); rintro e w3 ⟨rfl, K3⟩; have R3 := R2.bel K3; have T3 := T2.bel K3)
      | (go_at_call 12; refine (len_any _ R3.hdr).mono ?_; rintro e w' ⟨rfl, hw⟩; rw [hw]; clear hw)
      | (go_at_call 23; refine (ge R3).mono ?_; rintro e w' ⟨rfl, hw⟩; rw [hw]; clear hw)
      | (go_at_call 11; refine (awake_any _ T3).mono ?_; rintro e w4 ⟨rfl, K4⟩))
    go_ret
    exact ⟨rfl, K1.trans (K2.trans (K3.trans K4))⟩
  · have d0 : decide (x < 0) = false := decide_eq_false (by omega)
    have d1 : decide ((n : Int) ≤ x) = true := decide_eq_true h1
    go_enter Tryd.func7, Tryd.ntmps7
    go_wp2_with (first
      | (go_at_call 20; refine mad.mono ?_; rintro e w1 ⟨b, g, ca, q, rfl, R1, B1, G1, H1, K1⟩; have T1 := hT.bel K1)
      | (go_at_call 14; (with_reducible refine (n1 R1 T1).mono ?_); rintro e w2 ⟨rfl, K2⟩; have R2 := R1.bel K2; have T2 := T1.bel K2)
      | (go_at_call 14; (with_reducible refine (n2 R2 T2).mono ?_); rintro e w3 ⟨rfl, K3⟩; have R3 := R2.bel K3; have T3 := T2.bel K3)
      | (go_at_call 12; refine (len_any _ R3.hdr).mono ?_; rintro e w' ⟨rfl, hw⟩; rw [hw]; clear hw)
      | (go_at_call 23; refine (ge R3).mono ?_; rintro e w' ⟨rfl, hw⟩; rw [hw]; clear hw)
      | (go_at_call 11; refine (awake_any _ T3).mono ?_; rintro e w4 ⟨rfl, K4⟩))
    go_ret
    exact ⟨rfl, K1.trans (K2.trans (K3.trans K4))⟩
  all_goals
    have d0 : decide ((k : Int) < 0) = false := decide_eq_false (by omega)
    have d1 : decide ((n : Int) ≤ (k : Int)) = false := decide_eq_false (by omega)
    have gb : getB n f (k : Int) = f k := by unfold getB there; rw [decide_eq_true ⟨by omega, by omega⟩, Bool.true_and, Int.toNat_natCast]
    rw [h1] at gb
    rw [gb] at ge
    clear h1
  · go_enter Tryd.func7, Tryd.ntmps7
    go_wp2_with (first
      | (go_at_call 20; refine mad.mono ?_; rintro e w1 ⟨b, g, ca, q, rfl, R1, B1, G1, H1, K1⟩; have T1 := hT.bel K1)
      | (go_at_call 14; (with_reducible refine (n1 R1 T1).mono ?_); rintro e w2 ⟨rfl, K2⟩; have R2 := R1.bel K2; have T2 := T1.bel K2)
      | (go_at_call 14; (with_reducible refine (n2 R2 T2).mono ?_); rintro e w3 ⟨rfl, K3⟩; have R3 := R2.bel K3; have T3 := T2.bel K3)
      | (go_at_call 12; refine (len_any _ R3.hdr).mono ?_; rintro e w' ⟨rfl, hw⟩; rw [hw]; clear hw)
      | (go_at_call 23; refine (ge R3).mono ?_; rintro e w' ⟨rfl, hw⟩; rw [hw]; clear hw)
      | (go_at_call 11; refine (awake_any _ T3).mono ?_; rintro e w4 ⟨rfl, K4⟩))
    go_ret
    exact ⟨rfl, K1.trans (K2.trans (K3.trans K4))⟩
  · have d2 : decide (k = c') = false := decide_eq_false (by omega)
    have d3 : decide (c' = k) = false := decide_eq_false (by omega)
    have d4 : decide ((c' : Int) = (k : Int)) = false := decide_eq_false (by omega)
    have d5 : decide ((c' : Int) < (k : Int)) = false := decide_eq_false (by omega)
    have d6 : ((c' : Int) == (k : Int)) = false := by simp; omega
    go_enter Tryd.func7, Tryd.ntmps7
    go_wp2_with (first
      | (go_at_call 20; refine mad.mono ?_; rintro e w1 ⟨b, g, ca, q, rfl, R1, B1, G1, H1, K1⟩; have T1 := hT.bel K1)
      | (go_at_call 14; (with_reducible refine (n1 R1 T1).mono ?_); rintro e w2 ⟨rfl, K2⟩; have R2 := R1.bel K2; have T2 := T1.bel K2)
      | (go_at_call 14; (with_reducible refine (n2 R2 T2).mono ?_); rintro e w3 ⟨rfl, K3⟩; have R3 := R2.bel K3; have T3 := T2.bel K3)
      | (go_at_call 12; refine (len_any _ R3.hdr).mono ?_; rintro e w' ⟨rfl, hw⟩; rw [hw]; clear hw)
      | (go_at_call 23; refine (ge R3).mono ?_; rintro e w' ⟨rfl, hw⟩; rw [hw]; clear hw)
      | (go_at_call 11; refine (awake_any _ T3).mono ?_; rintro e w4 ⟨rfl, K4⟩))
    go_ret
    exact ⟨rfl, K1.trans (K2.trans (K3.trans K4))⟩
  · go_enter Tryd.func7, Tryd.ntmps7
    go_wp2_with (first
      | (go_at_call 20; refine mad.mono ?_; rintro e w1 ⟨b, g, ca, q, rfl, R1, B1, G1, H1, K1⟩; have T1 := hT.bel K1)
      | (go_at_call 14; (with_reducible refine (n1 R1 T1).mono ?_); rintro e w2 ⟨rfl, K2⟩; have R2 := R1.bel K2; have T2 := T1.bel K2)
      | (go_at_call 14; (with_reducible refine (n2 R2 T2).mono ?_); rintro e w3 ⟨rfl, K3⟩; have R3 := R2.bel K3; have T3 := T2.bel K3)
      | (go_at_call 12; refine (len_any _ R3.hdr).mono ?_; rintro e w' ⟨rfl, hw⟩; rw [hw]; clear hw)
      | (go_at_call 23; refine (ge R3).mono ?_; rintro e w' ⟨rfl, hw⟩; rw [hw]; clear hw)
      | (go_at_call 11; refine (awake_any _ T3).mono ?_; rintro e w4 ⟨rfl, K4⟩))
    go_ret
    exact ⟨rfl, K1.trans (K2.trans (K3.trans K4))⟩
  · have d2 : decide (k = c') = false := decide_eq_false (by omega)
    have d3 : decide (c' = k) = false := decide_eq_false (by omega)
    have d4 : decide ((c' : Int) = (k : Int)) = false := decide_eq_false (by omega)
    have d5 : decide ((c' : Int) < (k : Int)) = false := decide_eq_false (by omega)
    have d6 : ((c' : Int) == (k : Int)) = false := by simp; omega
    go_enter Tryd.func7, Tryd.ntmps7
    go_wp2_with (first
      | (go_at_call 20; refine mad.mono ?_; rintro e w1 ⟨b, g, ca, q, rfl, R1, B1, G1, H1, K1⟩; have T1 := hT.bel K1)
      | (go_at_call 14; (with_reducible refine (n1 R1 T1).mono ?_); rintro e w2 ⟨rfl, K2⟩; have R2 := R1.bel K2; have T2 := T1.bel K2)
      | (go_at_call 14; (with_reducible refine (n2 R2 T2).mono ?_); rintro e w3 ⟨rfl, K3⟩; have R3 := R2.bel K3; have T3 := T2.bel K3)
      | (go_at_call 12; refine (len_any _ R3.hdr).mono ?_; rintro e w' ⟨rfl, hw⟩; rw [hw]; clear hw)
      | (go_at_call 23; refine (ge R3).mono ?_; rintro e w' ⟨rfl, hw⟩; rw [hw]; clear hw)
      | (go_at_call 11; refine (awake_any _ T3).mono ?_; rintro e w4 ⟨rfl, K4⟩))
    go_ret
    exact ⟨rfl, K1.trans (K2.trans (K3.trans K4))⟩

/-! The row. -/
set_option maxRecDepth 100000 in
theorem lifted (os : Os) (started : os.Started) (H : Type) (enc : TypeId × Value → H) :
    ReturnsInHanded {} Tryd.checked os 7 .any (fun w args => (Rows.bitsBothSpec.pre enc Tryd.prog Tryd.f7 [] false w args ∧ laidMetH Tryd.prog theLaid w) ∧ sizedMet enc Tryd.prog Tryd.f7 (OpenSpec.ofChange Rows.bitsBothSpec) false w args)
      (Rows.bitsBothSpec.post enc Tryd.prog Tryd.f7 false true false false) := by
  refine lift_laid (C := Tryd.checked) (X := Met) own started (by kernel_rfl) Tryd.func7 (fun _ _ h => Met.heap h) laidout rowed full (by rw [Tryd.params7]; decide) rfl (by kernel_rfl) Tryd.underlying4
    (fun ds h => by rw [Tryd.params7] at h; match ds, h with | [_, _, _], _ => rfl)
    (ChangeSpec.witness_shaped (enc := enc) (C := Tryd.checked) (os := os) (X := fun w _ => Met w) false (World.doorLaid Tryd.prog 400 os) #[.int .u16 0, .slice none 0 0, .int .i64 0] 8 rfl (World.shaped_of_RefB (by kernel_rfl) (by kernel_rfl)) (by kernel_rfl) (by kernel_rfl) (by kernel_rfl) (door_met os _)) ?_
  intro W base args ds p hval hA hM
  have hT := hM.tab
  change ∀ (j : Nat) t v, Tryd.f7.params[j]? = some t → args[j]? = some v → Value.okWide Tryd.prog W .any base t v at hval
  change DataW.TrodAll enc Tryd.prog W 0 (fun _ => true) true Tryd.f7.params.toList args.toList ds p at hA
  rw [Tryd.params7] at hA hval
  obtain ⟨v0, vs0, d0, ds0, p0, q0, hargs, rfl, rfl, h0, r0⟩ := trodAll_cons hA
  obtain ⟨v1, vs1, d1, ds1, p1, q1, hargs1, rfl, rfl, h1, r1⟩ := trodAll_cons r0
  obtain ⟨v2, vs2, d2, ds2, p2, q2, hargs2, rfl, rfl, h2, r2⟩ := trodAll_cons r1
  obtain ⟨rfl, rfl, rfl⟩ := trodAll_nil r2
  subst hargs2
  subst hargs1
  obtain rfl : args = #[v0, v1, v2] := by cases args; simp_all
  obtain ⟨m, rfl, hm⟩ := get_u16 (hval 0 41 v0 rfl rfl) h0
  obtain ⟨c, y, hU, hy, _⟩ := get_u16s (hval 1 42 v1 rfl rfl) h1
  obtain ⟨x, rfl, x0, x1⟩ := get_i64 (hval 2 3 v2 rfl rfl) h2
  exact walk m v1 c y x W hT hm hy hU ⟨x0, x1⟩

theorem over : Rows.bitsBothRow.holds Tryd.pinned (OpenSpec.ofChange Rows.bitsBothSpec) :=
  OpenClaim.holds_of_wide 7 Tryd.f7 rfl rfl rfl rfl rfl rfl rfl ⟨rfl, rfl, rfl, rfl, rfl⟩ rfl rfl rfl rfl rfl (by kernel_rfl) Tryd.func7 (by kernel_rfl)
    (of_decide_eq_true (by kernel_rfl)) (by unfold Func.isWrapper; first | (rw [if_pos (by decide +kernel)]; kernel_rfl) | (rw [if_neg (by decide +kernel)]; exact ⟨rfl, rfl⟩))
    (fun os started H enc _ => lifted os started H enc)

/-- The statement. -/
theorem proved : Rows.BitsBothCardSaid :=
  Claim7.holds_tied_plain_at .later [] [.data] true (true, "2bec7d387b5b36ba45251476c9d028b61f3784eff95d02313db78e625e36b407") false
    over (fun _ h => by cases h) (by kernel_rfl) (fun _ h => by cases h) bitsBoth_row_tie rfl ⟨rfl, rfl⟩ (by kernel_rfl) rfl
    (fun f fn hf hfn => by
      obtain rfl : f = 7 := Option.some.inj ((show Tryd.prog.funcNamed "commonage/commonagelaw04.BitsBoth" = some 7 by kernel_rfl).symm.trans hf) |>.symm
      obtain rfl : fn = Tryd.f7 := (Option.some.inj (Tryd.func7.symm.trans hfn)).symm
      exact ⟨by kernel_rfl, fun j t ht => by
        rw [Tryd.params7] at ht
        have hm : t ∈ [41, 42, 3] := by simpa using Array.mem_of_getElem? ht
        have hall : ([41, 42, 3].all fun u => !Tryd.prog.wantsStandIn u) = true := by kernel_rfl
        exact (show Tryd.prog.wantsStandIn t = false by simpa using List.all_eq_true.1 hall t hm)⟩)
    (by kernel_rfl)
#print axioms proved
end Go.Proofs.YtebcmfggmlapdaaDoor.bitsBoth
