/- Round is not below the words, the same of what it tells, not less for more words, and what is wasted is less than how far the class is above the one ahead; for every input, no condition. -/
import Derived.Lib.MinMax
import Derived.Test.YtacncopgmleoeaaRowk
import Derived.Test.YtacncopgmleoeaaOpen
namespace Go.Proofs.Ytacncopgmleoeaa.classRounds
open Go.ChangeShapes Go.WideShapes Go.ChangeAt Go.RowKit
set_option linter.unusedVariables false

/-! The walk. -/
theorem cls_self {F : Nat → Int} {n k : Nat} (h : okTo F n) (hk : k < n) : cls F (F k) n = k :=
  cls_eq (by omega) (fun i hi => okTo_mono h i hi hk) fun _ => Int.le_refl _
theorem fits_self {F : Nat → Int} {n k : Nat} (h : Valid n F) (hk : k < n) : fits n F (F k) :=
  ⟨h, by have := (h.2.2 k hk).1; omega, by rw [cls_self h.2.2 hk]; exact hk⟩
theorem cls_le {F : Nat → Int} {n : Nat} {m M : Int} (h : m ≤ M) : cls F m n ≤ cls F M n := by
  by_cases c : cls F M n < cls F m n
  · have a := (cls_spec F m n).2.1 _ c
    have b := (cls_spec F M n).2.2 (by have := (cls_spec F m n).1; omega)
    omega
  · omega
theorem round_le {F : Nat → Int} {n : Nat} {m M : Int} (h : m ≤ M) (f : fits n F M) : F (cls F m n) ≤ F (cls F M n) :=
  okTo_mono' f.1.2.2 (cls_le h) f.2.2

set_option maxRecDepth 100000 in
set_option maxHeartbeats 4000000 in
/-- there is a class of the fewer words -/
theorem walk_fits (b off cap n : Nat) (F : Nat → Int) (a c m M : Int) (w : World) (h2 : n ≤ cap) (h3 : cap ≤ 9223372036854775807) (h4 : ∀ j, j < n → w.cell? ⟨b, off + j, none⟩ = some (.int .i64 (F j)))
    (hm : min a c = m) (hM : max a c = M) (hle : m ≤ M) (f : fits n F m) :
    Calls Try.prog 4 #[.slice (some ⟨b, off, none⟩) n cap, .int .i64 a, .int .i64 c] w fun e w' => e = .returned (.bool true) ∧ Bel w w' := by
  have hN : Nums w (.slice (some ⟨b, off, none⟩) n cap) n F := Or.inr ⟨b, off, cap, rfl, f.1.1, h2, h3, h4⟩
  have g0 := Bel.refl w
  have aw := fun w1 (g : Bel w w1) => (awake_any w1).mono fun e w' ⟨a, b⟩ => (⟨a, g.trans b⟩ : _ ∧ Bel w w')
  have o1 := fun w1 (g : Bel w w1) => (round_any _ n F m w1 (hN.bel g)).mono fun e w' ⟨a, b⟩ => (⟨a, g.trans b⟩ : _ ∧ Bel w w')
  have o2 := fun w1 (g : Bel w w1) => (round_any _ n F M w1 (hN.bel g)).mono fun e w' ⟨a, b⟩ => (⟨a, g.trans b⟩ : _ ∧ Bel w w')
  have o3 := fun w1 (g : Bel w w1) => (round_any _ n F (F (cls F m n)) w1 (hN.bel g)).mono fun e w' ⟨a, b⟩ => (⟨a, g.trans b⟩ : _ ∧ Bel w w')
  have o4 := fun w1 (g : Bel w w1) => (of_any _ n F m w1 (hN.bel g)).mono fun e w' ⟨a, b⟩ => (⟨a, g.trans b⟩ : _ ∧ Bel w w')
  have o5 := fun w1 (g : Bel w w1) => (waste_any _ n F m w1 (hN.bel g)).mono fun e w' ⟨a, b⟩ => (⟨a, g.trans b⟩ : _ ∧ Bel w w')
  obtain ⟨e1, e2, e3, e4⟩ := of_fits f
  rw [e1, e3] at o1
  rw [e1, e2] at o4
  rw [e1, e4] at o5
  obtain ⟨s1, s2, s3, s4⟩ := of_fits (fits_self f.1 f.2.2)
  rw [s1, s3, cls_self f.1.2.2 f.2.2] at o3
  clear e1 e2 e3 e4 s1 s2 s3 s4
  -- what the walk asks of the second number
  have tail : (¬ (ofE n F M = 0) ∧ (ofE n F M != 0) = true) ∨ (ofE n F M = 0 ∧ F (cls F m n) ≤ roundV n F M) := by
    by_cases fM : fits n F M
    · obtain ⟨d1, _, d3, _⟩ := of_fits fM
      exact Or.inr ⟨d1, by rw [d3]; exact round_le hle fM⟩
    · have d : ¬ (ofE n F M = 0) := fun x => fM (fits_of x)
      exact Or.inl ⟨d, by rw [bne_iff_ne]; exact d⟩
  obtain ⟨ok, f1, f2⟩ := f
  have cF := h4 _ f2
  have bk := ok.2.2 _ f2
  have hmx := (cls_spec F m n).2.2 f2
  have hlow := (cls_spec F m n).2.1
  have n8 := ok.2.1
  have c1 : decide (50 < n) = false := decide_eq_false (by omega)
  have c2 : decide ((50 : Int) < (n : Int)) = false := decide_eq_false (by omega)
  have prev : cls F m n = 0 ∨ ∃ j z, cls F m n = j + 1 ∧ w.cell? ⟨b, off + j, none⟩ = some (.int .i64 z) ∧ 2 ≤ z ∧ z < m := by
    by_cases z : cls F m n = 0
    · exact Or.inl z
    · obtain ⟨j, hj⟩ : ∃ j, cls F m n = j + 1 := ⟨cls F m n - 1, by omega⟩
      exact Or.inr ⟨j, F j, hj, h4 j (by omega), (ok.2.2 j (by omega)).1, hlow j (by omega)⟩
  clear hN h4 hlow ok
  obtain ⟨x2, x64, _⟩ := bk
  generalize F (cls F m n) = x at *
  generalize cls F m n = k at *
  generalize ofE n F M = E at *
  generalize roundV n F M = y at *
  obtain ⟨W, hW⟩ : ∃ W, x - m = W := ⟨_, rfl⟩
  have W0 : 0 ≤ W := by omega
  have W1 : W ≤ 63 := by omega
  have kI : (k : Int) < (n : Int) := by omega
  have k0 : (0 : Int) ≤ (k : Int) := by omega
  have t1 : decide (x < m) = false := decide_eq_false (by omega)
  have t2 : decide ((k : Int) < 0) = false := decide_eq_false (by omega)
  have t3 : decide (n ≤ k) = false := decide_eq_false (by omega)
  have t4 : decide ((n : Int) ≤ (k : Int)) = false := decide_eq_false (by omega)
  have t5 : decide (x ≤ W) = false := decide_eq_false (by omega)
  rw [hW] at o5
  rcases prev with rfl | ⟨j, z, hj, cG, z2, zm⟩
  · have cF0 : w.cell? ⟨b, off, none⟩ = some (.int .i64 x) := cF
    clear cF
    rcases tail with ⟨d1, d2⟩ | ⟨rfl, d2⟩
    · go_enter Try.func4, Try.ntmps4
      go_wp2_with (first
        | (go_at_call 9; ((with_reducible refine (o1 _ (by assumption)).mono ?_); rintro e w' ⟨rfl, hg1⟩))
        | (go_at_call 9; ((with_reducible refine (o2 _ (by assumption)).mono ?_); rintro e w' ⟨rfl, hg2⟩))
        | (go_at_call 9; ((with_reducible refine (o3 _ (by assumption)).mono ?_); rintro e w' ⟨rfl, hg3⟩))
        | (go_at_call 7; ((with_reducible refine (o4 _ (by assumption)).mono ?_); rintro e w' ⟨rfl, hg4⟩))
        | (go_at_call 11; ((with_reducible refine (o5 _ (by assumption)).mono ?_); rintro e w' ⟨rfl, hg5⟩; have cF1 := cell_bel hg5 cF0))
        | (go_at_call 6; refine (aw _ (by assumption)).mono ?_; rintro e w' ⟨rfl, hg9⟩))
      go_ret
      exact ⟨rfl, hg9⟩
    · go_enter Try.func4, Try.ntmps4
      go_wp2_with (first
        | (go_at_call 9; ((with_reducible refine (o1 _ (by assumption)).mono ?_); rintro e w' ⟨rfl, hg1⟩))
        | (go_at_call 9; ((with_reducible refine (o2 _ (by assumption)).mono ?_); rintro e w' ⟨rfl, hg2⟩))
        | (go_at_call 9; ((with_reducible refine (o3 _ (by assumption)).mono ?_); rintro e w' ⟨rfl, hg3⟩))
        | (go_at_call 7; ((with_reducible refine (o4 _ (by assumption)).mono ?_); rintro e w' ⟨rfl, hg4⟩))
        | (go_at_call 11; ((with_reducible refine (o5 _ (by assumption)).mono ?_); rintro e w' ⟨rfl, hg5⟩; have cF1 := cell_bel hg5 cF0))
        | (go_at_call 6; refine (aw _ (by assumption)).mono ?_; rintro e w' ⟨rfl, hg9⟩))
      go_ret
      exact ⟨rfl, hg9⟩
  · have e1 : (k : Int) - 1 = (j : Int) := by omega
    have j0 : (0 : Int) ≤ (j : Int) := by omega
    have jI : (j : Int) < (n : Int) := by omega
    have kp : (0 : Int) < (k : Int) := by omega
    have kn : decide (0 < k) = true := decide_eq_true (by omega)
    obtain ⟨D, hD⟩ : ∃ D, x - z = D := ⟨_, rfl⟩
    have D0 : -64 ≤ D := by omega
    have D1 : D ≤ 62 := by omega
    have t6 : decide (D ≤ W) = false := decide_eq_false (by omega)
    have z64 : z ≤ 64 := by omega
    clear hj zm
    rcases tail with ⟨d1, d2⟩ | ⟨rfl, d2⟩
    · go_enter Try.func4, Try.ntmps4
      go_wp2_with (first
        | (go_at_call 9; ((with_reducible refine (o1 _ (by assumption)).mono ?_); rintro e w' ⟨rfl, hg1⟩))
        | (go_at_call 9; ((with_reducible refine (o2 _ (by assumption)).mono ?_); rintro e w' ⟨rfl, hg2⟩))
        | (go_at_call 9; ((with_reducible refine (o3 _ (by assumption)).mono ?_); rintro e w' ⟨rfl, hg3⟩))
        | (go_at_call 7; ((with_reducible refine (o4 _ (by assumption)).mono ?_); rintro e w' ⟨rfl, hg4⟩))
        | (go_at_call 11; ((with_reducible refine (o5 _ (by assumption)).mono ?_); rintro e w' ⟨rfl, hg5⟩; have cF1 := cell_bel hg5 cF; have cG1 := cell_bel hg5 cG))
        | (go_at_call 6; refine (aw _ (by assumption)).mono ?_; rintro e w' ⟨rfl, hg9⟩))
      go_ret
      exact ⟨rfl, hg9⟩
    · go_enter Try.func4, Try.ntmps4
      go_wp2_with (first
        | (go_at_call 9; ((with_reducible refine (o1 _ (by assumption)).mono ?_); rintro e w' ⟨rfl, hg1⟩))
        | (go_at_call 9; ((with_reducible refine (o2 _ (by assumption)).mono ?_); rintro e w' ⟨rfl, hg2⟩))
        | (go_at_call 9; ((with_reducible refine (o3 _ (by assumption)).mono ?_); rintro e w' ⟨rfl, hg3⟩))
        | (go_at_call 7; ((with_reducible refine (o4 _ (by assumption)).mono ?_); rintro e w' ⟨rfl, hg4⟩))
        | (go_at_call 11; ((with_reducible refine (o5 _ (by assumption)).mono ?_); rintro e w' ⟨rfl, hg5⟩; have cF1 := cell_bel hg5 cF; have cG1 := cell_bel hg5 cG))
        | (go_at_call 6; refine (aw _ (by assumption)).mono ?_; rintro e w' ⟨rfl, hg9⟩))
      go_ret
      exact ⟨rfl, hg9⟩

set_option maxRecDepth 100000 in
set_option maxHeartbeats 2000000 in
theorem walk (v : Value) (n : Nat) (F : Nat → Int) (a c : Int) (w : World) (hN : Nums w v n F) :
    Calls Try.prog 4 #[v, .int .i64 a, .int .i64 c] w fun e w' => e = .returned (.bool true) ∧ Below w.heap.size w w' := by
  obtain ⟨m, hm⟩ : ∃ m, min a c = m := ⟨_, rfl⟩
  obtain ⟨M, hM⟩ : ∃ M, max a c = M := ⟨_, rfl⟩
  by_cases f : fits n F m
  · rcases hN with ⟨rfl, _⟩ | ⟨b, off, cap, rfl, h1, h2, h3, h4⟩
    · exact absurd f.1.1 (by omega)
    · exact walk_fits b off cap n F a c m M w h2 h3 h4 hm hM (by omega) f
  · have aw := fun w1 (g : Bel w w1) => (awake_any w1).mono fun e w' ⟨a, b⟩ => (⟨a, g.trans b⟩ : _ ∧ Bel w w')
    obtain ⟨p, cap, rfl, hb⟩ := nums_slice hN
    have g0 := Bel.refl w
    by_cases c0 : 50 < n
    · have cI : (50 : Int) < (n : Int) := by omega
      clear hN f hm hM
      go_enter Try.func4, Try.ntmps4
      go_wp2_with (go_at_call 6; refine (aw _ (by assumption)).mono ?_; rintro e w' ⟨rfl, hg⟩)
      go_ret
      exact ⟨rfl, hg⟩
    · have c1 : decide (50 < n) = false := decide_eq_false c0
      have c2 : decide ((50 : Int) < (n : Int)) = false := decide_eq_false (by omega)
      have o1 := fun w1 (g : Bel w w1) => (round_any _ n F m w1 (hN.bel g)).mono fun e w' ⟨a, b⟩ => (⟨a, g.trans b⟩ : _ ∧ Bel w w')
      have o2 := fun w1 (g : Bel w w1) => (round_any _ n F M w1 (hN.bel g)).mono fun e w' ⟨a, b⟩ => (⟨a, g.trans b⟩ : _ ∧ Bel w w')
      have d : ¬ (ofE n F m = 0) := fun x => f (fits_of x)
      have d2 : (ofE n F m != 0) = true := by rw [bne_iff_ne]; exact d
      have d3 : (ofE n F m == 0) = false := by rw [beq_eq_false_iff_ne]; exact d
      clear hN c0 f
      generalize ofE n F m = E at *
      generalize roundV n F m = x at *
      generalize ofE n F M = E2 at *
      generalize roundV n F M = y at *
      go_enter Try.func4, Try.ntmps4
      go_wp2_with (first
        | (go_at_call 9; ((with_reducible refine (o1 _ (by assumption)).mono ?_); rintro e w' ⟨rfl, hg1⟩))
        | (go_at_call 9; ((with_reducible refine (o2 _ (by assumption)).mono ?_); rintro e w' ⟨rfl, hg2⟩))
        | (go_at_call 6; refine (aw _ (by assumption)).mono ?_; rintro e w' ⟨rfl, hg9⟩))
      go_ret
      exact ⟨rfl, hg9⟩

/-! The row. -/
set_option maxRecDepth 100000 in
theorem lifted (os : Os) (started : os.Started) (H : Type) (enc : TypeId × Value → H) :
    ReturnsInHanded {} Try.checked os 4 .any (Rows.classRoundsSpec.pre6 enc Try.prog Try.f4 Rows.classRoundsRow.domain false) (Rows.classRoundsSpec.post enc Try.prog Try.f4 false true false false) := by
  refine lift_law (C := Try.checked) own started (by kernel_rfl) Try.func4 laid rowed full (by rw [Try.params4]; decide) rfl (by kernel_rfl) Try.underlying4
    (fun ds h => by rw [Try.params4] at h; match ds, h with | [_, _, _], _ => rfl)
    (ChangeSpec.witness6 (enc := enc) (C := Try.checked) false ⟨#[], #[.slice none 0 0, .int .i64 0, .int .i64 0], []⟩ 8 (by kernel_rfl) (by kernel_rfl) (by kernel_rfl) (by kernel_rfl)) ?_
  intro W base args ds p hval hA
  change ∀ (j : Nat) t v, Try.f4.params[j]? = some t → args[j]? = some v → Value.okWide Try.prog W .any base t v at hval
  change DataW.TrodAll enc Try.prog W 0 (fun _ => true) true Try.f4.params.toList args.toList ds p at hA
  rw [Try.params4] at hA hval
  obtain ⟨v0, vs0, d0, ds0, p0, q0, hargs, rfl, rfl, h0, r0⟩ := trodAll_cons hA
  obtain ⟨v1, vs1, d1, ds1, p1, q1, hargs1, rfl, rfl, h1, r1⟩ := trodAll_cons r0
  obtain ⟨v2, vs2, d2, ds2, p2, q2, hargs2, rfl, rfl, h2, r2⟩ := trodAll_cons r1
  obtain ⟨rfl, rfl, rfl⟩ := trodAll_nil r2
  subst hargs2
  subst hargs1
  obtain rfl : args = #[v0, v1, v2] := by cases args; simp_all
  obtain ⟨n, F, hN, hF, _⟩ := get_nums Try.underlying22 Try.underlying3 cells3 (hval 0 22 v0 rfl rfl) h0
  obtain ⟨a, rfl, _, _⟩ := get_i64 Try.underlying3 (hval 1 3 v1 rfl rfl) h1
  obtain ⟨c, rfl, _, _⟩ := get_i64 Try.underlying3 (hval 2 3 v2 rfl rfl) h2
  exact walk v0 n F a c W hN

theorem over : Rows.classRoundsRow.holds Try.pinned (OpenSpec.ofChange Rows.classRoundsSpec) :=
  OpenClaim.holds_of_wide 4 Try.f4 rfl rfl rfl rfl rfl rfl rfl ⟨rfl, rfl, rfl, rfl, rfl⟩ rfl rfl rfl rfl rfl (by kernel_rfl) Try.func4 (by kernel_rfl)
    (of_decide_eq_true (by kernel_rfl)) (by unfold Func.isWrapper; first | (rw [if_pos (by decide +kernel)]; kernel_rfl) | (rw [if_neg (by decide +kernel)]; exact ⟨rfl, rfl⟩))
    (fun os started H enc _ => lifted os started H enc)

/-- The statement. -/
theorem proved : Rows.ClassRoundsSaid :=
  over
#print axioms proved
end Go.Proofs.Ytacncopgmleoeaa.classRounds
