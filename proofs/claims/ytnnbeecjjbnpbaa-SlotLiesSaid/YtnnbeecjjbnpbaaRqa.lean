/- Has, At, Of of the document's plans; the size that a statement looks at. -/
import Derived.Test.YtnnbeecjjbnpbaaRq
import Derived.Test.YtnnbeecjjbnpbaaReg
namespace Go.Proofs.Ytnnbeecjjbnpbaa
open Go.ChangeShapes Go.WideShapes Go.ChangeAt Go.RowKit Go.Deep
set_option linter.unusedVariables false

theorem agg5_at {w W : World} {a b c d e : Value} {t : TypeId} (h : Bel (w.alloc (.cells #[a, b, c, d, e] t)) W) :
    W.cell? ⟨w.heap.size, 0, none⟩ = some a ∧ W.cell? ⟨w.heap.size, 1, none⟩ = some b ∧ W.cell? ⟨w.heap.size, 2, none⟩ = some c ∧ W.cell? ⟨w.heap.size, 3, none⟩ = some d ∧ W.cell? ⟨w.heap.size, 4, none⟩ = some e :=
  ⟨agg_at h 0, agg_at h 1, agg_at h 2, agg_at h 3, agg_at h 4⟩

/-- is there such a slot? -/
theorem has_any (v : Value) (P : Pl) (n : Int) (w : World) (h : IsQ w v P) :
    Calls Try.prog 38 #[v, .int .i64 n] w fun e w' => e = .returned (.bool (decide (0 ≤ n ∧ n < P.S))) ∧ Bel w w' := by
  obtain ⟨Lv, Fv, Mv, p, cap, rfl, ⟨b, off, cL, rfl, _⟩, _, _⟩ := h
  have hb : ∀ o, Bel w (w.alloc o) := fun o => (Bel.refl w).alloc o
  generalize P.S = S at *
  generalize (P.W : Int) = W at *
  by_cases a : 0 ≤ n
  · have e : decide (0 ≤ n ∧ n < S) = decide (n < S) := decide_eq_decide.2 ⟨fun x => x.2, fun x => ⟨a, x⟩⟩
    have d : decide (0 ≤ n) = true := decide_eq_true a
    rw [e]
    go_enter Try.func38, Try.ntmps38
    go_wp2
    go_ret
    exact ⟨rfl, hb _⟩
  · have e : decide (0 ≤ n ∧ n < S) = false := decide_eq_false fun x => a x.1
    have d : decide (0 ≤ n) = false := decide_eq_false a
    rw [e]
    go_enter Try.func38, Try.ntmps38
    go_wp2
    go_ret
    exact ⟨rfl, hb _⟩

/-- what At answers -/
def AtR (P : Pl) (a : Int) (r e : Int) : Prop := (∃ i : Nat, i < P.S ∧ (P.ad i : Int) = a ∧ r = i ∧ e = 0) ∨ ((∀ i : Nat, i < P.S → (P.ad i : Int) ≠ a) ∧ r = 0 ∧ e = 7)

set_option maxHeartbeats 1000000 in
theorem rat_any (v : Value) (P : Pl) (hS : P.S ≤ 32768) (a : Int) (w : World) (h : IsQ w v P) (r e : Int) (hA : AtR P a r e) (hG : P.Good) :
    Calls Try.prog 12 #[v, .int .i64 a] w fun x w' => x = .returned (.tuple #[.int .i64 r, .int .i64 e]) ∧ Bel w w' := by
  obtain ⟨Lv, Fv, Mv, p, cap, rfl, ⟨b, off, cL, rfl, hL⟩, hF, hM⟩ := h
  obtain ⟨pf, cf, rfl, _⟩ := nums_slice hF
  obtain ⟨pm, cm, rfl, _⟩ := nums_slice hM
  clear hF hM
  have hb := (Bel.refl w).alloc (.cells #[.slice (some ⟨b, off, none⟩) P.S cL, .slice pf P.T cf, .slice pm P.T cm, .int .i64 (P.W : Nat), .slice p P.n cap] 36)
  have k := agg5_at (Bel.refl (w.alloc (.cells #[.slice (some ⟨b, off, none⟩) P.S cL, .slice pf P.T cf, .slice pm P.T cm, .int .i64 (P.W : Nat), .slice p P.n cap] 36)))
  obtain ⟨k0, _, _, _, _⟩ := k
  have cL2 := fun i (hi : i < P.S) => cell_bel hb (hL i hi).2.2.1
  obtain ⟨S, hSS⟩ : ∃ S, P.S = S := ⟨_, rfl⟩
  have hidS := Lib.hid hSS
  rw [hSS] at k0 hS hb cL2 ⊢
  generalize (P.W : Int) = W at *
  generalize hW0 : w.alloc (.cells #[.slice (some ⟨b, off, none⟩) S cL, .slice pf P.T cf, .slice pm P.T cm, .int .i64 W, .slice p P.n cap] 36) = W0 at *
  have hid := Lib.hid (And.intro cL2 (And.intro hA (And.intro hG hb)))
  clear hL cL2 hA hG hb hSS
  subst hW0
  go_enter Try.func12, Try.ntmps12
  go_wp2
  go_loop [6] (fun i => ∃ k : Nat, k ≤ S ∧ i = .int .i64 (k : Nat) ∧ ∀ j : Nat, j < k → (P.ad j : Int) ≠ a) (fun i => S - (intOf i).toNat)
  case atStart => exact ⟨0, Nat.zero_le _, rfl, fun j hj => by omega⟩
  case round =>
    obtain ⟨k, hk, rfl, hno⟩ := hrel
    have hidn := Lib.hid hno
    clear hno
    by_cases ck : k < S
    · have c2 := hid.out.1 k ck
      have kI : (k : Int) < (S : Int) := by omega
      have kz : (0 : Int) ≤ (k : Int) := by omega
      by_cases e1 : (P.ad k : Int) = a
      · have er : r = k ∧ e = 0 := by
          obtain ⟨_, hA, hG, _⟩ := hid.out
          rcases hA with ⟨i, h1, h2, h3, h4⟩ | ⟨h1, _⟩
          · have := Pl.ad_inj hG h1 (show k < P.S by rw [hidS.out]; exact ck) (by omega)
            exact ⟨by rw [h3, this], h4⟩
          · exact absurd e1 (h1 k (by rw [hidS.out]; exact ck))
        obtain ⟨rfl, rfl⟩ := er
        rw [e1] at c2
        clear e1
        go_wp2
        go_ret2
        exact ⟨rfl, hid.out.2.2.2⟩
      · obtain ⟨x, hx⟩ : ∃ x, P.ad k = x := ⟨_, rfl⟩
        have hidx := Lib.hid hx
        rw [hx] at c2 e1
        have d1 : ((x : Int) == a) = false := by simp; exact e1
        have d2 : decide ((x : Int) = a) = false := decide_eq_false e1
        clear hx
        go_wp2
        go_round
        case rel =>
          refine ⟨k + 1, by omega, by go_num, fun j hj => ?_⟩
          by_cases ej : j = k
          · rw [ej, hidx.out]; exact e1
          · exact hidn.out j (by omega)
        case measure => simp only [intOf]; omega
    · obtain rfl : k = S := by omega
      have er : r = 0 ∧ e = 7 := by
        obtain ⟨_, hA, hG, _⟩ := hid.out
        rcases hA with ⟨i, h1, h2, h3, h4⟩ | ⟨h1, h2, h3⟩
        · exact absurd h2 (hidn.out i (by rw [← hidS.out]; exact h1))
        · exact ⟨h2, h3⟩
      obtain ⟨rfl, rfl⟩ := er
      go_wp2
      go_ret2
      exact ⟨rfl, hid.out.2.2.2⟩

theorem of_no (v : Value) (P : Pl) (k : Int) (w : World) (h : IsQ w v P) (hk : ¬ (0 ≤ k ∧ k < P.n)) :
    Calls Try.prog 14 #[v, .int .i64 k] w fun x w' => x = .returned (.tuple #[.int .i64 0, .int .i64 0, .int .i64 2]) ∧ Bel w w' := by
  obtain ⟨Lv, Fv, Mv, p, cap, rfl, ⟨b, off, cL, rfl, hL⟩, hF, hM⟩ := h
  have hb : ∀ o, Bel w (w.alloc o) := fun o => (Bel.refl w).alloc o
  clear hL hF hM
  generalize P.n = n at *
  generalize P.S = S at *
  generalize (P.W : Int) = W at *
  by_cases a : k < 0
  · have d : decide (k < 0) = true := decide_eq_true a
    clear hk
    go_enter Try.func14, Try.ntmps14
    go_wp2
    go_ret3
    exact ⟨rfl, hb _⟩
  · have d : decide (k < 0) = false := decide_eq_false a
    have d2 : decide ((n : Int) ≤ k) = true := decide_eq_true (by omega)
    clear hk
    go_enter Try.func14, Try.ntmps14
    go_wp2
    go_ret3
    exact ⟨rfl, hb _⟩

/-- how many of the first slots are of a class, and the first of them -/
def manyTo (f s i : Nat) : Nat := min (i - f) s
def firstTo (f s i : Nat) : Nat := if manyTo f s i = 0 then 0 else f

set_option maxHeartbeats 2000000 in
theorem of_yes (v : Value) (P : Pl) (hS : P.S ≤ 32768) (K : Nat) (w : World) (h : IsQ w v P) (hK : K < P.n) (hG : P.Good) :
    Calls Try.prog 14 #[v, .int .i64 (K : Nat)] w fun x w' => x = .returned (.tuple #[.int .i64 (P.fo K : Nat), .int .i64 (P.s K : Nat), .int .i64 0]) ∧ Bel w w' := by
  obtain ⟨Lv, Fv, Mv, p, cap, rfl, ⟨b, off, cL, rfl, hL⟩, hF, hM⟩ := h
  obtain ⟨pf, cf, rfl, _⟩ := nums_slice hF
  obtain ⟨pm, cm, rfl, _⟩ := nums_slice hM
  clear hF hM
  have hb := (Bel.refl w).alloc (.cells #[.slice (some ⟨b, off, none⟩) P.S cL, .slice pf P.T cf, .slice pm P.T cm, .int .i64 (P.W : Nat), .slice p P.n cap] 36)
  have k := agg5_at (Bel.refl (w.alloc (.cells #[.slice (some ⟨b, off, none⟩) P.S cL, .slice pf P.T cf, .slice pm P.T cm, .int .i64 (P.W : Nat), .slice p P.n cap] 36)))
  obtain ⟨k0, _, _, _, k4⟩ := k
  have cL2 := fun i (hi : i < P.S) => cell_bel hb (hL i hi).1
  have ci := fun i (hi : i < P.S) => Pl.cls_iff hi hK
  have hfS : P.fo K + P.s K ≤ P.S := by rw [← Pl.fo_succ]; exact Pl.fo_le (by omega)
  have s1 := hG.s1 K hK
  obtain ⟨S, hSS⟩ : ∃ S, P.S = S := ⟨_, rfl⟩
  obtain ⟨f, hf⟩ : ∃ f, P.fo K = f := ⟨_, rfl⟩
  obtain ⟨s, hs⟩ : ∃ s, P.s K = s := ⟨_, rfl⟩
  rw [hf, hs] at hfS
  rw [hs] at s1
  simp only [hf, hs] at ci
  rw [hSS] at k0 hS hb cL2 ci hfS
  rw [hSS, hf, hs]
  rw [hSS] at k4
  generalize (P.W : Int) = W at *
  generalize P.n = n at *
  generalize P.cls = cls at *
  generalize hW0 : w.alloc (.cells #[.slice (some ⟨b, off, none⟩) S cL, .slice pf P.T cf, .slice pm P.T cm, .int .i64 W, .slice p n cap] 36) = W0 at *
  have hid := Lib.hid (And.intro cL2 (And.intro ci (And.intro hfS (And.intro s1 hb))))
  clear hL cL2 ci hb hSS hf hs hG hfS s1
  subst hW0
  have K0 : decide ((K : Int) < 0) = false := decide_eq_false (by omega)
  have K1 : decide ((n : Int) ≤ (K : Int)) = false := decide_eq_false (by omega)
  have K2 : decide (n ≤ K) = false := decide_eq_false (by omega)
  clear hK
  go_enter Try.func14, Try.ntmps14
  go_wp2
  go_loop [7, 8, 9] (fun a m i => ∃ k : Nat, k ≤ S ∧ i = .int .i64 (k : Nat) ∧ a = .int .i64 (firstTo f s k : Nat) ∧ m = .int .i64 (manyTo f s k : Nat)) (fun _ _ i => S - (intOf i).toNat)
  case atStart => exact ⟨0, Nat.zero_le _, rfl, by unfold firstTo manyTo; simp, by unfold manyTo; simp⟩
  case round =>
    obtain ⟨k, hk, rfl, rfl, rfl⟩ := hrel
    by_cases ck : k < S
    · have c2 := hid.out.1 k ck
      have kI : (k : Int) < (S : Int) := by omega
      have kz : (0 : Int) ≤ (k : Int) := by omega
      have cc := hid.out.2.1 k ck
      have m0 : manyTo f s k = min (k - f) s := rfl
      have m1 : manyTo f s (k + 1) = min (k + 1 - f) s := rfl
      have f0 : firstTo f s k = if manyTo f s k = 0 then 0 else f := rfl
      have f1 : firstTo f s (k + 1) = if manyTo f s (k + 1) = 0 then 0 else f := rfl
      generalize manyTo f s k = m at *
      obtain ⟨m', hM⟩ : ∃ m', manyTo f s (k + 1) = m' := ⟨_, rfl⟩
      generalize firstTo f s k = a at *
      obtain ⟨a', hA⟩ : ∃ a', firstTo f s (k + 1) = a' := ⟨_, rfl⟩
      rw [hM] at m1 f1
      rw [hA] at f1
      have m64 : m ≤ 32768 := by omega
      obtain ⟨x, hx⟩ : ∃ x, cls k = x := ⟨_, rfl⟩
      rw [hx] at c2 cc
      by_cases e1 : x = K
      · have := cc.1 e1
        subst e1
        by_cases e0 : m = 0
        · subst e0
          have e2 : m' = 1 ∧ a' = k := by
            have h1 : m' = 1 := by omega
            rw [f1, h1]; exact ⟨rfl, by simp; omega⟩
          obtain ⟨rfl, rfl⟩ := e2
          have hide := Lib.hid (And.intro hM hA)
          clear m0 m1 f0 f1 cc hx this hM hA
          go_wp2
          go_round
          case rel => exact ⟨a' + 1, by omega, by go_num, by rw [hide.out.2], by rw [hide.out.1]; rfl⟩
          case measure => simp only [intOf]; omega
        · have e2 : m' = m + 1 ∧ a' = a := by
            have h1 : m' = m + 1 := by omega
            rw [f1, f0, h1, if_neg e0, if_neg (by omega)]; exact ⟨rfl, rfl⟩
          obtain ⟨rfl, rfl⟩ := e2
          have hide := Lib.hid (And.intro hM hA)
          have d1 : ((m : Int) == 0) = false := by simp; omega
          have d2 : decide ((m : Int) = 0) = false := decide_eq_false (by omega)
          have d3 : decide (m = 0) = false := decide_eq_false e0
          clear m0 m1 f0 f1 cc hx this hM hA
          go_wp2
          go_round
          case rel => exact ⟨k + 1, by omega, by go_num, by rw [hide.out.2], by rw [hide.out.1]; go_num⟩
          case measure => simp only [intOf]; omega
      · have e2 : m' = m ∧ a' = a := by
          have h1 : m' = m := by
            have := fun h => e1 (cc.2 h)
            omega
          rw [f1, f0, h1]; exact ⟨rfl, rfl⟩
        obtain ⟨rfl, rfl⟩ := e2
        have hide := Lib.hid (And.intro hM hA)
        have d1 : ((x : Int) == (K : Int)) = false := by simp; omega
        have d2 : decide ((x : Int) = (K : Int)) = false := decide_eq_false (by omega)
        have d3 : decide (x = K) = false := decide_eq_false e1
        clear m0 m1 f0 f1 cc hx hM hA
        go_wp2
        go_round
        case rel => exact ⟨k + 1, by omega, by go_num, by rw [hide.out.2], by rw [hide.out.1]⟩
        case measure => simp only [intOf]; omega
    · obtain rfl : k = S := by omega
      have e1 : manyTo f s k = s := by unfold manyTo; have := hid.out.2.2.1; omega
      have e2 : firstTo f s k = f := by unfold firstTo; rw [e1, if_neg (by have := hid.out.2.2.2.1; omega)]
      rw [e1, e2]
      go_wp2
      go_ret3
      exact ⟨rfl, hid.out.2.2.2.2⟩

end Go.Proofs.Ytnnbeecjjbnpbaa
