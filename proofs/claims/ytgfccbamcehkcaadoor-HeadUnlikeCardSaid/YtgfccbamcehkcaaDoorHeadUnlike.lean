/- Heads that are not the same have words that are not, and one that needs more words has more fields; for every two heads; the table of widths holds what the program lays in it (the card ties that), no other condition. -/
import Derived.Test.YtgfccbamcehkcaaDoorOpn
namespace Go.Proofs.YtgfccbamcehkcaaDoor.headUnlike
open Go.ChangeShapes Go.WideShapes Go.ChangeAt Go.RowKit Go.Joins
set_option linter.unusedVariables false

/-! The walk. -/
/-- words tell the heads apart -/
theorem word_inj {C R N X Y Z : Nat} (h1 : C ≤ 7) (h2 : R + N ≤ 63) (h3 : X ≤ 7) (h4 : Y + Z ≤ 63) (h : wordN C R N = wordN X Y Z) : C = X ∧ R = Y ∧ N = Z := by
  have e1 := cOf_word h1 h2
  have e2 := rOf_word h1 h2
  have e3 := nOf_word h1 h2
  rw [h] at e1 e2 e3
  rw [cOf_word h3 h4] at e1
  rw [rOf_word h3 h4] at e2
  rw [nOf_word h3 h4] at e3
  exact ⟨e1.symm, e2.symm, e3.symm⟩

theorem no (c r n x y z : Int) (A B : Nat) (E F : Int) (w : World) (hT : TabW w) (he : ((E == 0) = false ∧ decide (E = 0) = false) ∨ (E = 0 ∧ (F == 0) = false ∧ decide (F = 0) = false))
    (p1 : ∀ W, Bel w W → Calls Tryd.prog 6 #[.agg #[.int .i64 c, .int .i64 r, .int .i64 n]] W fun e w' => e = .returned (.tuple #[.int .u64 (A : Nat), .int .i64 E]) ∧ Bel W w')
    (p2 : ∀ W, Bel w W → Calls Tryd.prog 6 #[.agg #[.int .i64 x, .int .i64 y, .int .i64 z]] W fun e w' => e = .returned (.tuple #[.int .u64 (B : Nat), .int .i64 F]) ∧ Bel W w') :
    Calls Tryd.prog 5 #[.agg #[.int .i64 c, .int .i64 r, .int .i64 n], .agg #[.int .i64 x, .int .i64 y, .int .i64 z]] w fun e w' => e = .returned (.bool true) ∧ Below w.heap.size w w' := by
  have tb := two w (.cells #[.int .i64 c, .int .i64 r, .int .i64 n] 23) (.cells #[.int .i64 x, .int .i64 y, .int .i64 z] 23)
  have bt := bel_two w (.cells #[.int .i64 c, .int .i64 r, .int .i64 n] 23) (.cells #[.int .i64 x, .int .i64 y, .int .i64 z] 23)
  have aw := fun W (g : Bel w W) => awake_h W (hT.bel g)
  have q1 := p1 _ bt
  clear hT p1
  rcases he with ⟨d1, d2⟩ | ⟨rfl, d1, d2⟩
  all_goals
    go_enter Tryd.func5, Tryd.ntmps5
    go_wp2_with (first
      | (go_at_call 6; ((with_reducible refine q1.mono ?_); rintro e w2 ⟨rfl, h2⟩; obtain ⟨a0, a1, a2, _, _, _⟩ := box3 (heap_bel h2 tb.1); obtain ⟨b0, b1, b2, _, _, _⟩ := box3 (heap_bel h2 tb.2); have g2 := bt.trans h2))
      | (go_at_call 6; ((with_reducible refine (p2 _ g2).mono ?_); rintro e w3 ⟨rfl, h3⟩))
      | (go_at_call 14; refine (aw _ (g2.trans h3)).mono ?_; rintro e w4 ⟨rfl, h4⟩))
    go_ret
    exact ⟨rfl, g2.trans (h3.trans h4)⟩

/-- how two heads may stand -/
def Ways (C R N X Y Z A B : Nat) (D1 D2 : Int) : Prop :=
  (C = X ∧ R = Y ∧ N = Z ∧ A = B ∧ D1 = D2) ∨
  (((C ≠ X) ∨ (C = X ∧ R ≠ Y) ∨ (C = X ∧ R = Y ∧ N ≠ Z)) ∧ A ≠ B ∧ (decide (D2 < D1) = decide (Y + Z < R + N)))

theorem ways {C R N X Y Z A B : Nat} {D1 D2 : Int} (h1 : C ≤ 7) (h2 : R + N ≤ 63) (h3 : X ≤ 7) (h4 : Y + Z ≤ 63) (hA : wordN C R N = A) (hB : wordN X Y Z = B) (hD1 : (R : Int) + N + 1 = D1) (hD2 : (Y : Int) + Z + 1 = D2) : Ways C R N X Y Z A B D1 D2 := by
  unfold Ways
  by_cases h : C = X ∧ R = Y ∧ N = Z
  · obtain ⟨rfl, rfl, rfl⟩ := h
    exact Or.inl ⟨rfl, rfl, rfl, by rw [← hA, hB], by rw [← hD1, hD2]⟩
  · refine Or.inr ⟨by omega, fun e => h (word_inj h1 h2 h3 h4 (by rw [hA, hB, e])), decide_eq_decide.2 (by omega)⟩

set_option maxRecDepth 100000 in
set_option maxHeartbeats 4000000 in
theorem yes (C R N X Y Z A B : Nat) (D1 D2 : Int) (w : World) (hT : TabW w) (hW : Ways C R N X Y Z A B D1 D2) (r63 : R ≤ 63) (n63 : N ≤ 63) (y63 : Y ≤ 63) (z63 : Z ≤ 63)
    (p1 : ∀ W, Bel w W → Calls Tryd.prog 6 #[.agg #[.int .i64 (C : Nat), .int .i64 (R : Nat), .int .i64 (N : Nat)]] W fun e w' => e = .returned (.tuple #[.int .u64 (A : Nat), .int .i64 0]) ∧ Bel W w')
    (p2 : ∀ W, Bel w W → Calls Tryd.prog 6 #[.agg #[.int .i64 (X : Nat), .int .i64 (Y : Nat), .int .i64 (Z : Nat)]] W fun e w' => e = .returned (.tuple #[.int .u64 (B : Nat), .int .i64 0]) ∧ Bel W w')
    (n1 : ∀ W, Bel w W → Calls Tryd.prog 10 #[.agg #[.int .i64 (C : Nat), .int .i64 (R : Nat), .int .i64 (N : Nat)]] W fun e w' => e = .returned (.tuple #[.int .i64 D1, .int .i64 0]) ∧ Bel W w')
    (n2 : ∀ W, Bel w W → Calls Tryd.prog 10 #[.agg #[.int .i64 (X : Nat), .int .i64 (Y : Nat), .int .i64 (Z : Nat)]] W fun e w' => e = .returned (.tuple #[.int .i64 D2, .int .i64 0]) ∧ Bel W w') :
    Calls Tryd.prog 5 #[.agg #[.int .i64 (C : Nat), .int .i64 (R : Nat), .int .i64 (N : Nat)], .agg #[.int .i64 (X : Nat), .int .i64 (Y : Nat), .int .i64 (Z : Nat)]] w fun e w' => e = .returned (.bool true) ∧ Below w.heap.size w w' := by
  have tb := two w (.cells #[.int .i64 (C : Nat), .int .i64 (R : Nat), .int .i64 (N : Nat)] 23) (.cells #[.int .i64 (X : Nat), .int .i64 (Y : Nat), .int .i64 (Z : Nat)] 23)
  have bt := bel_two w (.cells #[.int .i64 (C : Nat), .int .i64 (R : Nat), .int .i64 (N : Nat)] 23) (.cells #[.int .i64 (X : Nat), .int .i64 (Y : Nat), .int .i64 (Z : Nat)] 23)
  have aw := fun W (g : Bel w W) => awake_h W (hT.bel g)
  have q1 := p1 _ bt
  clear hT p1
  rcases hW with ⟨rfl, rfl, rfl, rfl, rfl⟩ | ⟨hw, hAB, hD⟩
  · go_enter Tryd.func5, Tryd.ntmps5
    go_wp2_with (first
      | (go_at_call 6; ((with_reducible refine q1.mono ?_); rintro e w2 ⟨rfl, h2⟩; obtain ⟨a0, a1, a2, _, _, _⟩ := box3 (heap_bel h2 tb.1); obtain ⟨b0, b1, b2, _, _, _⟩ := box3 (heap_bel h2 tb.2); have g2 := bt.trans h2))
      | (go_at_call 6; ((with_reducible refine (p2 _ g2).mono ?_); rintro e w3 ⟨rfl, h3⟩; have g3 := g2.trans h3; obtain ⟨c0, c1, c2, _, _, _⟩ := box3 (heap_bel (h2.trans h3) tb.1); obtain ⟨d0, d1, d2, _, _, _⟩ := box3 (heap_bel (h2.trans h3) tb.2)))
      | (go_at_call 10; ((with_reducible refine (n1 w3 g3).mono ?_); rintro e w4 ⟨rfl, h4⟩; have g4 := g3.trans h4; obtain ⟨e0, e1, e2, _, _, _⟩ := box3 (heap_bel (h2.trans (h3.trans h4)) tb.1); obtain ⟨f0, f1, f2, _, _, _⟩ := box3 (heap_bel (h2.trans (h3.trans h4)) tb.2)))
      | (go_at_call 10; ((with_reducible refine (n2 w4 g4).mono ?_); rintro e w5 ⟨rfl, h5⟩; have g5 := g4.trans h5; obtain ⟨x0, x1, x2, _, _, _⟩ := box3 (heap_bel (h2.trans (h3.trans (h4.trans h5))) tb.1); obtain ⟨y0, y1, y2, _, _, _⟩ := box3 (heap_bel (h2.trans (h3.trans (h4.trans h5))) tb.2)))
      | (go_at_call 14; refine (aw _ g5).mono ?_; rintro e w6 ⟨rfl, h6⟩))
    go_ret
    exact ⟨rfl, g5.trans h6⟩
  · have k1 : ((A : Int) == (B : Int)) = false := by simp; omega
    have k2 : decide (A = B) = false := decide_eq_false hAB
    have k3 : (A == B) = false := by simp; omega
    have k4 : decide ((Y : Int) + Z < (R : Int) + N) = decide (Y + Z < R + N) := decide_eq_decide.2 (by omega)
    generalize decide (Y + Z < R + N) = t at *
    rcases hw with ne | ⟨rfl, ne⟩ | ⟨rfl, rfl, ne⟩
    · have m1 : ((C : Int) == (X : Int)) = false := by simp; omega
      have m2 : decide (C = X) = false := decide_eq_false ne
      go_enter Tryd.func5, Tryd.ntmps5
      go_wp2_with (first
        | (go_at_call 6; ((with_reducible refine q1.mono ?_); rintro e w2 ⟨rfl, h2⟩; obtain ⟨a0, a1, a2, _, _, _⟩ := box3 (heap_bel h2 tb.1); obtain ⟨b0, b1, b2, _, _, _⟩ := box3 (heap_bel h2 tb.2); have g2 := bt.trans h2))
        | (go_at_call 6; ((with_reducible refine (p2 _ g2).mono ?_); rintro e w3 ⟨rfl, h3⟩; have g3 := g2.trans h3; obtain ⟨c0, c1, c2, _, _, _⟩ := box3 (heap_bel (h2.trans h3) tb.1); obtain ⟨d0, d1, d2, _, _, _⟩ := box3 (heap_bel (h2.trans h3) tb.2)))
        | (go_at_call 10; ((with_reducible refine (n1 w3 g3).mono ?_); rintro e w4 ⟨rfl, h4⟩; have g4 := g3.trans h4; obtain ⟨e0, e1, e2, _, _, _⟩ := box3 (heap_bel (h2.trans (h3.trans h4)) tb.1); obtain ⟨f0, f1, f2, _, _, _⟩ := box3 (heap_bel (h2.trans (h3.trans h4)) tb.2)))
        | (go_at_call 10; ((with_reducible refine (n2 w4 g4).mono ?_); rintro e w5 ⟨rfl, h5⟩; have g5 := g4.trans h5; obtain ⟨x0, x1, x2, _, _, _⟩ := box3 (heap_bel (h2.trans (h3.trans (h4.trans h5))) tb.1); obtain ⟨y0, y1, y2, _, _, _⟩ := box3 (heap_bel (h2.trans (h3.trans (h4.trans h5))) tb.2)))
        | (go_at_call 14; refine (aw _ g5).mono ?_; rintro e w6 ⟨rfl, h6⟩))
      go_ret
      exact ⟨rfl, g5.trans h6⟩
    · have m1 : ((R : Int) == (Y : Int)) = false := by simp; omega
      have m2 : decide (R = Y) = false := decide_eq_false ne
      go_enter Tryd.func5, Tryd.ntmps5
      go_wp2_with (first
        | (go_at_call 6; ((with_reducible refine q1.mono ?_); rintro e w2 ⟨rfl, h2⟩; obtain ⟨a0, a1, a2, _, _, _⟩ := box3 (heap_bel h2 tb.1); obtain ⟨b0, b1, b2, _, _, _⟩ := box3 (heap_bel h2 tb.2); have g2 := bt.trans h2))
        | (go_at_call 6; ((with_reducible refine (p2 _ g2).mono ?_); rintro e w3 ⟨rfl, h3⟩; have g3 := g2.trans h3; obtain ⟨c0, c1, c2, _, _, _⟩ := box3 (heap_bel (h2.trans h3) tb.1); obtain ⟨d0, d1, d2, _, _, _⟩ := box3 (heap_bel (h2.trans h3) tb.2)))
        | (go_at_call 10; ((with_reducible refine (n1 w3 g3).mono ?_); rintro e w4 ⟨rfl, h4⟩; have g4 := g3.trans h4; obtain ⟨e0, e1, e2, _, _, _⟩ := box3 (heap_bel (h2.trans (h3.trans h4)) tb.1); obtain ⟨f0, f1, f2, _, _, _⟩ := box3 (heap_bel (h2.trans (h3.trans h4)) tb.2)))
        | (go_at_call 10; ((with_reducible refine (n2 w4 g4).mono ?_); rintro e w5 ⟨rfl, h5⟩; have g5 := g4.trans h5; obtain ⟨x0, x1, x2, _, _, _⟩ := box3 (heap_bel (h2.trans (h3.trans (h4.trans h5))) tb.1); obtain ⟨y0, y1, y2, _, _, _⟩ := box3 (heap_bel (h2.trans (h3.trans (h4.trans h5))) tb.2)))
        | (go_at_call 14; refine (aw _ g5).mono ?_; rintro e w6 ⟨rfl, h6⟩))
      go_ret
      exact ⟨rfl, g5.trans h6⟩
    · have m1 : ((N : Int) == (Z : Int)) = false := by simp; omega
      have m2 : decide (N = Z) = false := decide_eq_false ne
      have k5 : decide (Z < N) = t := by rw [← k4]; exact decide_eq_decide.2 (by omega)
      have k6 : decide ((Z : Int) < (N : Int)) = t := by rw [← k4]; exact decide_eq_decide.2 (by omega)
      go_enter Tryd.func5, Tryd.ntmps5
      go_wp2_with (first
        | (go_at_call 6; ((with_reducible refine q1.mono ?_); rintro e w2 ⟨rfl, h2⟩; obtain ⟨a0, a1, a2, _, _, _⟩ := box3 (heap_bel h2 tb.1); obtain ⟨b0, b1, b2, _, _, _⟩ := box3 (heap_bel h2 tb.2); have g2 := bt.trans h2))
        | (go_at_call 6; ((with_reducible refine (p2 _ g2).mono ?_); rintro e w3 ⟨rfl, h3⟩; have g3 := g2.trans h3; obtain ⟨c0, c1, c2, _, _, _⟩ := box3 (heap_bel (h2.trans h3) tb.1); obtain ⟨d0, d1, d2, _, _, _⟩ := box3 (heap_bel (h2.trans h3) tb.2)))
        | (go_at_call 10; ((with_reducible refine (n1 w3 g3).mono ?_); rintro e w4 ⟨rfl, h4⟩; have g4 := g3.trans h4; obtain ⟨e0, e1, e2, _, _, _⟩ := box3 (heap_bel (h2.trans (h3.trans h4)) tb.1); obtain ⟨f0, f1, f2, _, _, _⟩ := box3 (heap_bel (h2.trans (h3.trans h4)) tb.2)))
        | (go_at_call 10; ((with_reducible refine (n2 w4 g4).mono ?_); rintro e w5 ⟨rfl, h5⟩; have g5 := g4.trans h5; obtain ⟨x0, x1, x2, _, _, _⟩ := box3 (heap_bel (h2.trans (h3.trans (h4.trans h5))) tb.1); obtain ⟨y0, y1, y2, _, _, _⟩ := box3 (heap_bel (h2.trans (h3.trans (h4.trans h5))) tb.2)))
        | (go_at_call 14; refine (aw _ g5).mono ?_; rintro e w6 ⟨rfl, h6⟩))
      go_ret
      exact ⟨rfl, g5.trans h6⟩

theorem walk (c r n x y z : Int) (w : World) (hT : TabW w) (hc : i64b c) (hr : i64b r) (hn : i64b n) (hx : i64b x) (hy : i64b y) (hz : i64b z) :
    Calls Tryd.prog 5 #[.agg #[.int .i64 c, .int .i64 r, .int .i64 n], .agg #[.int .i64 x, .int .i64 y, .int .i64 z]] w fun e w' => e = .returned (.bool true) ∧ Below w.heap.size w w' := by
  have p1 := fun W (g : Bel w W) => put_h c r n W (hT.bel g) hc hr hn
  have p2 := fun W (g : Bel w W) => put_h x y z W (hT.bel g) hx hy hz
  cases a : okH c r n
  · rw [putE_no a] at p1
    exact no c r n x y z _ _ _ _ w hT (Or.inl ⟨by decide, by decide⟩) p1 p2
  · cases b : okH x y z
    · rw [putE_ok a] at p1
      rw [putE_no b] at p2
      exact no c r n x y z _ _ _ _ w hT (Or.inr ⟨rfl, by decide, by decide⟩) p1 p2
    · have n1 := fun W (g : Bel w W) => need_h c r n W hc hr hn
      have n2 := fun W (g : Bel w W) => need_h x y z W hx hy hz
      rw [putE_ok a] at p1 n1
      rw [putE_ok b] at p2 n2
      have e1 : needR c r n = r + n + 1 := by unfold needR; rw [a]; rfl
      have e2 : needR x y z = y + z + 1 := by unfold needR; rw [b]; rfl
      obtain ⟨C, R, N, rfl, rfl, rfl, h1, h2⟩ := okH_true a
      obtain ⟨X, Y, Z, rfl, rfl, rfl, h3, h4⟩ := okH_true b
      rw [putR_ok h1 h2] at p1
      rw [putR_ok h3 h4] at p2
      exact yes C R N X Y Z _ _ _ _ w hT (ways h1 h2 h3 h4 rfl rfl e1.symm e2.symm) (by omega) (by omega) (by omega) (by omega) p1 p2 n1 n2

/-! The row. -/
set_option maxRecDepth 100000 in
theorem lifted (os : Os) (started : os.Started) (H : Type) (enc : TypeId × Value → H) :
    ReturnsInHanded {} Tryd.checked os 5 .any (fun w args => (Rows.headUnlikeSpec.pre enc Tryd.prog Tryd.f5 [] false w args ∧ laidMetH Tryd.prog theLaid w) ∧ sizedMet enc Tryd.prog Tryd.f5 (OpenSpec.ofChange Rows.headUnlikeSpec) false w args)
      (Rows.headUnlikeSpec.post enc Tryd.prog Tryd.f5 false true false false) := by
  refine lift_laid (C := Tryd.checked) (X := Met) own started (by kernel_rfl) Tryd.func5 (fun _ _ h => Met.heap h) laidout rowed full (by rw [Tryd.params5]; decide) rfl (by kernel_rfl) Tryd.underlying4
    (fun ds h => by rw [Tryd.params5] at h; match ds, h with | [_, _], _ => rfl)
    (ChangeSpec.witness_shaped (enc := enc) (C := Tryd.checked) (os := os) (X := fun w _ => Met w) false (World.doorLaid Tryd.prog 400 os) #[.agg #[.int .i64 0, .int .i64 0, .int .i64 0], .agg #[.int .i64 0, .int .i64 0, .int .i64 0]] 8 rfl (World.shaped_of_RefB (by kernel_rfl) (by kernel_rfl)) (by kernel_rfl) (by kernel_rfl) (by kernel_rfl) (door_met os _)) ?_
  intro W base args ds p hval hA hM
  have hT := hM.tab
  change ∀ (j : Nat) t v, Tryd.f5.params[j]? = some t → args[j]? = some v → Value.okWide Tryd.prog W .any base t v at hval
  change DataW.TrodAll enc Tryd.prog W 0 (fun _ => true) true Tryd.f5.params.toList args.toList ds p at hA
  rw [Tryd.params5] at hA hval
  obtain ⟨v0, vs0, d0, ds0, p0, q0, hargs, rfl, rfl, h0, r0⟩ := trodAll_cons hA
  obtain ⟨v1, vs1, d1, ds1, p1, q1, hargs1, rfl, rfl, h1, r1⟩ := trodAll_cons r0
  obtain ⟨rfl, rfl, rfl⟩ := trodAll_nil r1
  subst hargs1
  obtain rfl : args = #[v0, v1] := by cases args; simp_all
  obtain ⟨c, r, n, rfl, bc, br, bn⟩ := get_head (hval 0 23 v0 rfl rfl) h0
  obtain ⟨x, y, z, rfl, bx, b1, bz⟩ := get_head (hval 1 23 v1 rfl rfl) h1
  exact walk c r n x y z W hT bc br bn bx b1 bz

theorem over : Rows.headUnlikeRow.holds Tryd.pinned (OpenSpec.ofChange Rows.headUnlikeSpec) :=
  OpenClaim.holds_of_wide 5 Tryd.f5 rfl rfl rfl rfl rfl rfl rfl ⟨rfl, rfl, rfl, rfl, rfl⟩ rfl rfl rfl rfl rfl (by kernel_rfl) Tryd.func5 (by kernel_rfl)
    (of_decide_eq_true (by kernel_rfl)) (by unfold Func.isWrapper; first | (rw [if_pos (by decide +kernel)]; kernel_rfl) | (rw [if_neg (by decide +kernel)]; exact ⟨rfl, rfl⟩))
    (fun os started H enc _ => lifted os started H enc)

/-- The statement. -/
theorem proved : Rows.HeadUnlikeCardSaid :=
  Claim7.holds_tied_plain_at .later [] [.data] true (true, "8d0bd550655fbf2d1de6bf4a12756287b168fdfe59c4454121e308b2ccf30d29") false
    over (fun _ h => by cases h) (by kernel_rfl) (fun _ h => by cases h) headUnlike_row_tie rfl ⟨rfl, rfl⟩ (by kernel_rfl) rfl
    (fun f fn hf hfn => by
      obtain rfl : f = 5 := Option.some.inj ((show Tryd.prog.funcNamed "commonage/commonagelaw08.HeadUnlike" = some 5 by kernel_rfl).symm.trans hf) |>.symm
      obtain rfl : fn = Tryd.f5 := (Option.some.inj (Tryd.func5.symm.trans hfn)).symm
      exact ⟨by kernel_rfl, fun j t ht => by
        rw [Tryd.params5] at ht
        have hm : t ∈ [23, 23] := by simpa using Array.mem_of_getElem? ht
        have hall : ([23, 23].all fun u => !Tryd.prog.wantsStandIn u) = true := by kernel_rfl
        exact (show Tryd.prog.wantsStandIn t = false by simpa using List.all_eq_true.1 hall t hm)⟩)
    (by kernel_rfl)
#print axioms proved
end Go.Proofs.YtgfccbamcehkcaaDoor.headUnlike
