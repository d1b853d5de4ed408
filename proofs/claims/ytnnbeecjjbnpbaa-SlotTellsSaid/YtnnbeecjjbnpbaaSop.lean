/- What is told of a slot, of a page, is the document's. -/
import Derived.Test.YtnnbeecjjbnpbaaSaw
import Derived.Deep.QuietTactic
import Derived.BigQuiet
namespace Go.Proofs.Ytnnbeecjjbnpbaa
open Go.ChangeShapes Go.WideShapes Go.ChangeAt Go.RowKit Go.Deep
set_option linter.unusedVariables false

set_option maxHeartbeats 2000000 in
theorem one_any (v u : Value) (P : Pl) (n : Int) (w : World) (hP : IsPlan w v P) (hQ : IsQ w u P) (ok : PlOk P) (hn : i64b' n) :
    Calls Try.prog 18 #[v, u, .int .i64 n] w fun e w' => e = .returned (.bool true) ∧ Bel w w' := by
  have hQ0 := hQ
  obtain ⟨Lv, Fv, Mv, p, cap, rfl, ⟨b, off, cL, rfl, hL⟩, hF, hM⟩ := hQ
  obtain ⟨pf, cf, rfl, _⟩ := nums_slice hF
  obtain ⟨pm, cm, rfl, _⟩ := nums_slice hM
  have hb := (Bel.refl w).alloc (.cells #[.slice (some ⟨b, off, none⟩) P.S cL, .slice pf P.T cf, .slice pm P.T cm, .int .i64 (P.W : Nat), .slice p P.n cap] 36)
  have g0 := Bel.refl (w.alloc (.cells #[.slice (some ⟨b, off, none⟩) P.S cL, .slice pf P.T cf, .slice pm P.T cm, .int .i64 (P.W : Nat), .slice p P.n cap] 36))
  have kc := fun W (g : Bel (w.alloc (.cells #[.slice (some ⟨b, off, none⟩) P.S cL, .slice pf P.T cf, .slice pm P.T cm, .int .i64 (P.W : Nat), .slice p P.n cap] 36)) W) => box5 (heap_bel g (heap_alloc_new w _))
  generalize hwb : w.alloc (.cells #[.slice (some ⟨b, off, none⟩) P.S cL, .slice pf P.T cf, .slice pm P.T cm, .int .i64 (P.W : Nat), .slice p P.n cap] 36) = wb at hb g0 kc
  obtain ⟨pp, rfl⟩ := hP.ptr
  have q1 := fun W (g : Bel wb W) => (pclass _ P W (hP.bel (hb.trans g)) ok n hn).mono fun e w' ⟨a, b⟩ => (⟨a, g.trans b⟩ : _ ∧ Bel wb w')
  have q2 := fun W (g : Bel wb W) => (psize _ P W (hP.bel (hb.trans g)) ok n hn).mono fun e w' ⟨a, b⟩ => (⟨a, g.trans b⟩ : _ ∧ Bel wb w')
  have q3 := fun W (g : Bel wb W) => (paddr _ P W (hP.bel (hb.trans g)) ok n hn).mono fun e w' ⟨a, b⟩ => (⟨a, g.trans b⟩ : _ ∧ Bel wb w')
  have q4 := fun W (g : Bel wb W) => (ppage _ P W (hP.bel (hb.trans g)) ok n hn).mono fun e w' ⟨a, b⟩ => (⟨a, g.trans b⟩ : _ ∧ Bel wb w')
  have q5 := fun W (g : Bel wb W) => (has_any _ P n W (hQ0.bel (hb.trans g))).mono fun e w' ⟨a, b⟩ => (⟨a, g.trans b⟩ : _ ∧ Bel wb w')
  by_cases h : P.hasS n
  · have h' := h
    unfold Pl.hasS at h'
    rw [decide_eq_true h'] at q5
    obtain ⟨i, rfl⟩ : ∃ i : Nat, n = i := ⟨n.toNat, by omega⟩
    have hi : i < P.S := by omega
    simp only [Pl.slR_ok hi, Pl.slE_ok hi] at q1 q2 q3 q4
    obtain ⟨c0, c1, c2, c3⟩ := hL i hi
    have cc := fun W (g : Bel wb W) => And.intro (cell_bel (hb.trans g) c0) (And.intro (cell_bel (hb.trans g) c1) (And.intro (cell_bel (hb.trans g) c2) (cell_bel (hb.trans g) c3)))
    have iI : (i : Int) < (P.S : Int) := by omega
    have iz : (0 : Int) ≤ (i : Int) := by omega
    generalize P.cls i = A at *
    generalize P.sz i = B at *
    generalize P.ad i = C at *
    generalize P.pg i = D at *
    generalize P.S = S at *
    generalize P.T = T at *
    generalize P.n = nn at *
    generalize (P.W : Int) = V at *
    clear hL hF hM hQ0 hP ok hn h h' c0 c1 c2 c3 hi
    subst hwb
    go_enter Try.func18, Try.ntmps18
    go_wp2_with (first
      | (go_at_call 25; ((with_reducible refine (q1 _ g0).mono ?_); rintro e w5 ⟨rfl, h5⟩))
      | (go_at_call 22; ((with_reducible refine (q2 _ h5).mono ?_); rintro e w6 ⟨rfl, h6⟩))
      | (go_at_call 21; ((with_reducible refine (q3 _ h6).mono ?_); rintro e w7 ⟨rfl, h7⟩))
      | (go_at_call 23; ((with_reducible refine (q4 _ h7).mono ?_); rintro e w8 ⟨rfl, h8⟩; obtain ⟨⟨k0, k1, k2, k3, k4⟩, _, _, _, _, _⟩ := kc _ h8))
      | (go_at_call 38; ((with_reducible refine (q5 _ h8).mono ?_); rintro e w9 ⟨rfl, h9⟩; obtain ⟨⟨l0, l1, l2, l3, l4⟩, _, _, _, _, _⟩ := kc _ h9; obtain ⟨d0, d1, d2, d3⟩ := cc _ h9)))
    go_ret
    exact ⟨rfl, hb.trans h9⟩
  · have h' := h
    unfold Pl.hasS at h'
    rw [decide_eq_false h'] at q5
    simp only [Pl.slR_no h, Pl.slE_no h] at q1 q2 q3 q4
    generalize P.S = S at *
    generalize P.T = T at *
    generalize P.n = nn at *
    generalize (P.W : Int) = V at *
    clear hL hF hM hQ0 hP ok hn h h'
    subst hwb
    go_enter Try.func18, Try.ntmps18
    go_wp2_with (first
      | (go_at_call 25; ((with_reducible refine (q1 _ g0).mono ?_); rintro e w5 ⟨rfl, h5⟩))
      | (go_at_call 22; ((with_reducible refine (q2 _ h5).mono ?_); rintro e w6 ⟨rfl, h6⟩))
      | (go_at_call 21; ((with_reducible refine (q3 _ h6).mono ?_); rintro e w7 ⟨rfl, h7⟩))
      | (go_at_call 23; ((with_reducible refine (q4 _ h7).mono ?_); rintro e w8 ⟨rfl, h8⟩; obtain ⟨⟨k0, k1, k2, k3, k4⟩, _, _, _, _, _⟩ := kc _ h8))
      | (go_at_call 38; ((with_reducible refine (q5 _ h8).mono ?_); rintro e w9 ⟨rfl, h9⟩)))
    go_ret
    exact ⟨rfl, hb.trans h9⟩

set_option maxHeartbeats 2000000 in
theorem page_any (v u : Value) (P : Pl) (n : Int) (w : World) (hP : IsPlan w v P) (hQ : IsQ w u P) (ok : PlOk P) (hn : i64b' n) :
    Calls Try.prog 19 #[v, u, .int .i64 n] w fun e w' => e = .returned (.bool true) ∧ Bel w w' := by
  obtain ⟨Lv, Fv, Mv, p, cap, rfl, ⟨b, off, cL, rfl, hL⟩, hF, hM⟩ := hQ
  obtain ⟨pf, cf, rfl, _⟩ := nums_slice hF
  obtain ⟨pm, cm, rfl, _⟩ := nums_slice hM
  have hb := (Bel.refl w).alloc (.cells #[.slice (some ⟨b, off, none⟩) P.S cL, .slice pf P.T cf, .slice pm P.T cm, .int .i64 (P.W : Nat), .slice p P.n cap] 36)
  have g0 := Bel.refl (w.alloc (.cells #[.slice (some ⟨b, off, none⟩) P.S cL, .slice pf P.T cf, .slice pm P.T cm, .int .i64 (P.W : Nat), .slice p P.n cap] 36))
  have kc := fun W (g : Bel (w.alloc (.cells #[.slice (some ⟨b, off, none⟩) P.S cL, .slice pf P.T cf, .slice pm P.T cm, .int .i64 (P.W : Nat), .slice p P.n cap] 36)) W) => box5 (heap_bel g (heap_alloc_new w _))
  generalize hwb : w.alloc (.cells #[.slice (some ⟨b, off, none⟩) P.S cL, .slice pf P.T cf, .slice pm P.T cm, .int .i64 (P.W : Nat), .slice p P.n cap] 36) = wb at hb g0 kc
  obtain ⟨pp, rfl⟩ := hP.ptr
  have q1 := fun W (g : Bel wb W) => (pin _ P W (hP.bel (hb.trans g)) ok n hn).mono fun e w' ⟨a, b⟩ => (⟨a, g.trans b⟩ : _ ∧ Bel wb w')
  by_cases h : P.hasQ n
  · have h' := h
    unfold Pl.hasQ at h'
    obtain ⟨i, rfl⟩ : ∃ i : Nat, n = i := ⟨n.toNat, by omega⟩
    have hi : i < P.T := by omega
    obtain ⟨f1, f2, f3⟩ := Pl.in_ok hi
    simp only [f1, f2, f3] at q1
    clear f1 f2 f3
    obtain ⟨bf, of_, hpf, c1⟩ : ∃ b o, pf = some ⟨b, o, none⟩ ∧ w.cell? ⟨b, o + i, none⟩ = some (.int .i64 (P.fi i : Nat)) := by
      rcases hF with ⟨e, _⟩ | ⟨b1, o1, cap1, e, _, _, _, hF⟩
      · omega
      · injection e with e _ _; exact ⟨b1, o1, e, hF i hi⟩
    obtain ⟨bm, om, hpm, c2⟩ : ∃ b o, pm = some ⟨b, o, none⟩ ∧ w.cell? ⟨b, o + i, none⟩ = some (.int .i64 (P.mn i : Nat)) := by
      rcases hM with ⟨e, _⟩ | ⟨b1, o1, cap1, e, _, _, _, hM⟩
      · omega
      · injection e with e _ _; exact ⟨b1, o1, e, hM i hi⟩
    subst hpf
    subst hpm
    have cc := fun W (g : Bel wb W) => And.intro (cell_bel (hb.trans g) c1) (cell_bel (hb.trans g) c2)
    have iI : (i : Int) < (P.T : Int) := by omega
    have iz : (0 : Int) ≤ (i : Int) := by omega
    have z1 : decide ((i : Int) < 0) = false := decide_eq_false (by omega)
    have z2 : decide ((P.T : Int) ≤ (i : Int)) = false := decide_eq_false (by omega)
    have z3 : decide (P.T ≤ i) = false := decide_eq_false (by omega)
    generalize P.fi i = A at *
    generalize P.mn i = B at *
    generalize P.S = S at *
    generalize P.T = T at *
    generalize P.n = nn at *
    generalize (P.W : Int) = V at *
    clear hL hF hM hP ok hn h h' c1 c2 hi
    subst hwb
    go_enter Try.func19, Try.ntmps19
    go_wp2_with (go_at_call 24; ((with_reducible refine (q1 _ g0).mono ?_); rintro e w5 ⟨rfl, h5⟩; obtain ⟨⟨k0, k1, k2, k3, k4⟩, _, _, _, _, _⟩ := kc _ h5; obtain ⟨d0, d1⟩ := cc _ h5))
    go_ret
    exact ⟨rfl, hb.trans h5⟩
  · have h' := h
    unfold Pl.hasQ at h'
    obtain ⟨f1, f2, f3⟩ := Pl.in_not h
    simp only [f1, f2, f3] at q1
    clear f1 f2 f3
    generalize P.S = S at *
    generalize P.T = T at *
    generalize P.n = nn at *
    generalize (P.W : Int) = V at *
    by_cases z : n < 0
    · have z1 : decide (n < 0) = true := decide_eq_true z
      clear hL hF hM hP ok hn h h' z
      subst hwb
      go_enter Try.func19, Try.ntmps19
      go_wp2_with (go_at_call 24; ((with_reducible refine (q1 _ g0).mono ?_); rintro e w5 ⟨rfl, h5⟩; obtain ⟨⟨k0, k1, k2, k3, k4⟩, _, _, _, _, _⟩ := kc _ h5))
      go_ret
      exact ⟨rfl, hb.trans h5⟩
    · have z1 : decide (n < 0) = false := decide_eq_false z
      have z2 : decide ((T : Int) ≤ n) = true := decide_eq_true (by omega)
      clear hL hF hM hP ok hn h h' z
      subst hwb
      go_enter Try.func19, Try.ntmps19
      go_wp2_with (go_at_call 24; ((with_reducible refine (q1 _ g0).mono ?_); rintro e w5 ⟨rfl, h5⟩; obtain ⟨⟨k0, k1, k2, k3, k4⟩, _, _, _, _, _⟩ := kc _ h5))
      go_ret
      exact ⟨rfl, hb.trans h5⟩

end Go.Proofs.Ytnnbeecjjbnpbaa
