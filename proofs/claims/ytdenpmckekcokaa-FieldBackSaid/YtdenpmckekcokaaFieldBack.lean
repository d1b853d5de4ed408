/- Unpack of Pack are the values, and Pack of Unpack is the word; the law itself lets more than 100 widths or values go. -/
import Derived.Test.YtdenpmckekcokaaOpen
namespace Go.Proofs.Ytdenpmckekcokaa.fieldBack
open Go.ChangeShapes Go.WideShapes Go.ChangeAt Go.RowKit
set_option linter.unusedVariables false

/-! The walk. -/
theorem words_congr {w : World} {v : Value} {n : Nat} {g h : Nat → Nat} (k : Words w v n g) (e : ∀ j, j < n → g j = h j) : Words w v n h := by
  rcases k with k | ⟨b, off, cap, h1, h2, h3, h4, h5⟩
  · exact Or.inl k
  · exact Or.inr ⟨b, off, cap, h1, h2, h3, h4, fun j hj => by
      rw [h5 j hj]
      show some (Value.int .u64 ((g j : Nat) : Int)) = some (Value.int .u64 ((h j : Nat) : Int))
      rw [e j hj]⟩

/-- the law answers true, and all that lay there lies as it lay -/
def Post (w : World) (e : Ending) (w' : World) : Prop := e = .returned (.bool true) ∧ Below w.heap.size w w'

set_option maxRecDepth 100000 in
set_option maxHeartbeats 2000000 in
theorem walk_yy (p q : Option Addr) (n m cap cap2 u A : Nat) (g G : Nat → Nat) (w : World) (d1 : decide (100 < (n : Int)) = false) (d2 : decide (100 < (m : Int)) = false)
    (a1 : ∀ w', Bel w w' → Calls Try.prog 14 #[.slice p n cap, .slice q m cap2] w' fun e w'' => e = .returned (.tuple #[.int .u64 (A : Nat), .int .i64 0]) ∧ Bel w' w'')
    (a2 : ∀ w', Bel w w' → Calls Try.prog 16 #[.slice p n cap, .int .u64 (A : Nat)] w' fun e w'' => ∃ l, e = .returned (.tuple #[l, .int .i64 0]) ∧ Words w'' l m g ∧ Bel w' w'')
    (a3 : ∀ l w', Bel w w' → Words w' l m g → Calls Try.prog 18 #[l, .slice q m cap2] w' fun e w'' => e = .returned (.bool true) ∧ Bel w' w'')
    (a4 : ∀ w', Bel w w' → Calls Try.prog 16 #[.slice p n cap, .int .u64 (u : Nat)] w' fun e w'' => ∃ l, e = .returned (.tuple #[l, .int .i64 0]) ∧ Words w'' l n G ∧ Bel w' w'')
    (a5 : ∀ l w', Bel w w' → Words w' l n G → Calls Try.prog 14 #[.slice p n cap, l] w' fun e w'' => e = .returned (.tuple #[.int .u64 (u : Nat), .int .i64 0]) ∧ Bel w' w'') :
    Calls Try.prog 6 #[.slice p n cap, .slice q m cap2, .int .u64 (u : Nat)] w (Post w) := by
  go_enter Try.func6, Try.ntmps6
  go_wp2_with (first
    | (go_at_call 14; ((with_reducible refine (a1 _ (Bel.refl _)).mono ?_); rintro e w' ⟨rfl, hg1⟩))
    | (go_at_call 16; ((with_reducible refine (a2 _ hg1).mono ?_); rintro e w' ⟨l, rfl, hl, hg2⟩))
    | (go_at_call 18; ((with_reducible refine (a3 l _ (hg1.trans hg2) hl).mono ?_); rintro e w' ⟨rfl, hg3⟩))
    | (go_at_call 16; ((with_reducible refine (a4 _ (hg1.trans (hg2.trans hg3))).mono ?_); rintro e w' ⟨k, rfl, hk, hg4⟩))
    | (go_at_call 14; ((with_reducible refine (a5 k _ (hg1.trans (hg2.trans (hg3.trans hg4))) hk).mono ?_); rintro e w' ⟨rfl, hg5⟩))
    | (go_at_call 13; refine (awake_any _).mono ?_; rintro e w' ⟨rfl, hg6⟩))
  go_ret
  exact ⟨rfl, (hg1.trans (hg2.trans (hg3.trans (hg4.trans (hg5.trans hg6)))))⟩

set_option maxRecDepth 100000 in
set_option maxHeartbeats 2000000 in
theorem walk_yn (p q : Option Addr) (n m cap cap2 u A : Nat) (g G : Nat → Nat) (w : World) (d1 : decide (100 < (n : Int)) = false) (d2 : decide (100 < (m : Int)) = false)
    (a1 : ∀ w', Bel w w' → Calls Try.prog 14 #[.slice p n cap, .slice q m cap2] w' fun e w'' => e = .returned (.tuple #[.int .u64 (A : Nat), .int .i64 0]) ∧ Bel w' w'')
    (a2 : ∀ w', Bel w w' → Calls Try.prog 16 #[.slice p n cap, .int .u64 (A : Nat)] w' fun e w'' => ∃ l, e = .returned (.tuple #[l, .int .i64 0]) ∧ Words w'' l m g ∧ Bel w' w'')
    (a3 : ∀ l w', Bel w w' → Words w' l m g → Calls Try.prog 18 #[l, .slice q m cap2] w' fun e w'' => e = .returned (.bool true) ∧ Bel w' w'')
    (E2 : Int) (hE2 : ((E2 : Int) != 0) = true)
    (a4 : ∀ w', Bel w w' → Calls Try.prog 16 #[.slice p n cap, .int .u64 (u : Nat)] w' fun e w'' => ∃ r c, e = .returned (.tuple #[.slice r 0 c, .int .i64 E2]) ∧ Bel w' w'') :
    Calls Try.prog 6 #[.slice p n cap, .slice q m cap2, .int .u64 (u : Nat)] w (Post w) := by
  go_enter Try.func6, Try.ntmps6
  go_wp2_with (first
    | (go_at_call 14; ((with_reducible refine (a1 _ (Bel.refl _)).mono ?_); rintro e w' ⟨rfl, hg1⟩))
    | (go_at_call 16; ((with_reducible refine (a2 _ hg1).mono ?_); rintro e w' ⟨l, rfl, hl, hg2⟩))
    | (go_at_call 18; ((with_reducible refine (a3 l _ (hg1.trans hg2) hl).mono ?_); rintro e w' ⟨rfl, hg3⟩))
    | (go_at_call 16; ((with_reducible refine (a4 _ (hg1.trans (hg2.trans hg3))).mono ?_); rintro e w' ⟨r, c, rfl, hg4⟩))
    | (go_at_call 13; refine (awake_any _).mono ?_; rintro e w' ⟨rfl, hg6⟩))
  go_ret
  exact ⟨rfl, (hg1.trans (hg2.trans (hg3.trans (hg4.trans hg6))))⟩

set_option maxRecDepth 100000 in
set_option maxHeartbeats 2000000 in
theorem walk_ny (p q : Option Addr) (n m cap cap2 u A : Nat) (g G : Nat → Nat) (w : World) (d1 : decide (100 < (n : Int)) = false) (d2 : decide (100 < (m : Int)) = false)
    (E1 : Int) (hE1 : ((E1 : Int) == 0) = false)
    (a1 : ∀ w', Bel w w' → Calls Try.prog 14 #[.slice p n cap, .slice q m cap2] w' fun e w'' => e = .returned (.tuple #[.int .u64 (A : Nat), .int .i64 E1]) ∧ Bel w' w'')
    (a4 : ∀ w', Bel w w' → Calls Try.prog 16 #[.slice p n cap, .int .u64 (u : Nat)] w' fun e w'' => ∃ l, e = .returned (.tuple #[l, .int .i64 0]) ∧ Words w'' l n G ∧ Bel w' w'')
    (a5 : ∀ l w', Bel w w' → Words w' l n G → Calls Try.prog 14 #[.slice p n cap, l] w' fun e w'' => e = .returned (.tuple #[.int .u64 (u : Nat), .int .i64 0]) ∧ Bel w' w'') :
    Calls Try.prog 6 #[.slice p n cap, .slice q m cap2, .int .u64 (u : Nat)] w (Post w) := by
  go_enter Try.func6, Try.ntmps6
  go_wp2_with (first
    | (go_at_call 14; ((with_reducible refine (a1 _ (Bel.refl _)).mono ?_); rintro e w' ⟨rfl, hg1⟩))
    | (go_at_call 16; ((with_reducible refine (a4 _ hg1).mono ?_); rintro e w' ⟨k, rfl, hk, hg4⟩))
    | (go_at_call 14; ((with_reducible refine (a5 k _ (hg1.trans hg4) hk).mono ?_); rintro e w' ⟨rfl, hg5⟩))
    | (go_at_call 13; refine (awake_any _).mono ?_; rintro e w' ⟨rfl, hg6⟩))
  go_ret
  exact ⟨rfl, (hg1.trans (hg4.trans (hg5.trans hg6)))⟩

set_option maxRecDepth 100000 in
set_option maxHeartbeats 2000000 in
theorem walk_nn (p q : Option Addr) (n m cap cap2 u A : Nat) (g G : Nat → Nat) (w : World) (d1 : decide (100 < (n : Int)) = false) (d2 : decide (100 < (m : Int)) = false)
    (E1 : Int) (hE1 : ((E1 : Int) == 0) = false)
    (a1 : ∀ w', Bel w w' → Calls Try.prog 14 #[.slice p n cap, .slice q m cap2] w' fun e w'' => e = .returned (.tuple #[.int .u64 (A : Nat), .int .i64 E1]) ∧ Bel w' w'')
    (E2 : Int) (hE2 : ((E2 : Int) != 0) = true)
    (a4 : ∀ w', Bel w w' → Calls Try.prog 16 #[.slice p n cap, .int .u64 (u : Nat)] w' fun e w'' => ∃ r c, e = .returned (.tuple #[.slice r 0 c, .int .i64 E2]) ∧ Bel w' w'') :
    Calls Try.prog 6 #[.slice p n cap, .slice q m cap2, .int .u64 (u : Nat)] w (Post w) := by
  go_enter Try.func6, Try.ntmps6
  go_wp2_with (first
    | (go_at_call 14; ((with_reducible refine (a1 _ (Bel.refl _)).mono ?_); rintro e w' ⟨rfl, hg1⟩))
    | (go_at_call 16; ((with_reducible refine (a4 _ hg1).mono ?_); rintro e w' ⟨r, c, rfl, hg4⟩))
    | (go_at_call 13; refine (awake_any _).mono ?_; rintro e w' ⟨rfl, hg6⟩))
  go_ret
  exact ⟨rfl, (hg1.trans (hg4.trans hg6))⟩

set_option maxRecDepth 100000 in
theorem walk_big (p q : Option Addr) (n m cap cap2 u : Nat) (w : World) (h : 100 < n ∨ 100 < m) : Calls Try.prog 6 #[.slice p n cap, .slice q m cap2, .int .u64 (u : Nat)] w (Post w) := by
  by_cases c : 100 < n
  · have d1 : decide (100 < (n : Int)) = true := decide_eq_true (by omega)
    go_enter Try.func6, Try.ntmps6
    go_wp2_with (go_at_call 13; refine (awake_any _).mono ?_; rintro e w' ⟨rfl, hg6⟩)
    go_ret
    exact ⟨rfl, hg6⟩
  · have d1 : decide (100 < (n : Int)) = false := decide_eq_false (by omega)
    have d2 : decide (100 < (m : Int)) = true := decide_eq_true (by omega)
    go_enter Try.func6, Try.ntmps6
    go_wp2_with (go_at_call 13; refine (awake_any _).mono ?_; rintro e w' ⟨rfl, hg6⟩)
    go_ret
    exact ⟨rfl, hg6⟩

theorem walk (ws vs : Value) (n m u : Nat) (F : Nat → Int) (g : Nat → Nat) (w : World) (hF : Nums w ws n F) (hg : Words w vs m g) (hFb : ∀ j, -9223372036854775808 ≤ F j ∧ F j ≤ 9223372036854775807) (hgb : ∀ j, g j < 18446744073709551616)
    (hu : u < 18446744073709551616) : Calls Try.prog 6 #[ws, vs, .int .u64 (u : Nat)] w (Post w) := by
  have a1 := fun w' (h : Bel w w') => pack_any ws vs n m F g w' (hF.bel h) (hg.bel h) hFb hgb
  have un := fun (x : Nat) (hx : x < 18446744073709551616) w' (h : Bel w w') => unpack_any ws n x F w' (hF.bel h) hFb hx
  unfold UnAns at un
  have a5 := fun (l : Value) w' (h : Bel w w') (hl : Words w' l n (unG F u)) => pack_any ws l n n F (unG F u) w' (hF.bel h) hl hFb (unG_lt F hu)
  have a3 : ∀ l w', Bel w w' → Words w' l m g → Calls Try.prog 18 #[l, vs] w' fun e w'' => e = .returned (.bool true) ∧ Bel w' w'' := fun l w' h hl => by
    have h := same_any l vs _ _ _ _ w' hl (hg.bel h)
    rw [sameB_refl] at h
    exact h
  obtain ⟨p, cap, rfl⟩ := slice_cases hF
  obtain ⟨q, cap2, rfl⟩ := slice_cases hg
  by_cases big : 100 < n ∨ 100 < m
  · exact walk_big p q n m cap cap2 u w big
  · have d1 : decide (100 < (n : Int)) = false := decide_eq_false (by omega)
    have d2 : decide (100 < (m : Int)) = false := decide_eq_false (by omega)
    have second : ∀ (P : Prop), ((∀ w', Bel w w' → Calls Try.prog 16 #[.slice p n cap, .int .u64 (u : Nat)] w' fun e w'' => ∃ l, e = .returned (.tuple #[l, .int .i64 0]) ∧ Words w'' l n (unG F u) ∧ Bel w' w'') →
          (∀ l w', Bel w w' → Words w' l n (unG F u) → Calls Try.prog 14 #[.slice p n cap, l] w' fun e w'' => e = .returned (.tuple #[.int .u64 (u : Nat), .int .i64 0]) ∧ Bel w' w'') → P) →
        ((∀ E2 : Int, ((E2 : Int) != 0) = true → (∀ w', Bel w w' → Calls Try.prog 16 #[.slice p n cap, .int .u64 (u : Nat)] w' fun e w'' => ∃ r c, e = .returned (.tuple #[.slice r 0 c, .int .i64 E2]) ∧ Bel w' w'') → P)) → P := by
      intro P yes no
      by_cases ok : 1 ≤ n ∧ okTo F n
      · by_cases ft : u < 2 ^ start F n
        · refine yes (fun w' h => ?_) (fun l w' h hl => ?_)
          · have k := un u hu w' h
            rw [unE_ok ok.1 ok.2 ft, unN_ok ok.1 ok.2 ft] at k
            exact k
          · have k := a5 l w' h hl
            unfold packR packE at k
            have fg : fitTo F (unG F u) n := fit_get F u n
            rw [if_pos ⟨rfl, ok.1, ok.2, fg⟩, if_pos ⟨rfl, ok.1, ok.2⟩, if_pos fg] at k
            have e : packTo F (unG F u) n = u := (pack_get ok.2 hu).trans (Nat.mod_eq_of_lt ft)
            rw [e] at k
            exact k
        · refine no 5 rfl fun w' h => ?_
          have k := un u hu w' h
          rw [unE_form ok.1 ok.2 ft, unN_form ft] at k
          refine k.mono fun e w'' ⟨l, h1, h2, h3⟩ => ?_
          obtain ⟨r, c, rfl⟩ := slice_cases h2
          exact ⟨r, c, h1, h3⟩
      · refine no 2 rfl fun w' h => ?_
        have k := un u hu w' h
        rw [unE_no ok, unN_no ok] at k
        refine k.mono fun e w'' ⟨l, h1, h2, h3⟩ => ?_
        obtain ⟨r, c, rfl⟩ := slice_cases h2
        exact ⟨r, c, h1, h3⟩
    by_cases ok : m = n ∧ 1 ≤ n ∧ okTo F n
    · by_cases ft : fitTo F g n
      · unfold packR packE at a1
        rw [if_pos ⟨ok.1, ok.2.1, ok.2.2, ft⟩, if_pos ok, if_pos ft] at a1
        have lt := packTo_lt ok.2.2 ft
        have a2 : ∀ w', Bel w w' → Calls Try.prog 16 #[.slice p n cap, .int .u64 (packTo F g n : Nat)] w' fun e w'' => ∃ l, e = .returned (.tuple #[l, .int .i64 0]) ∧ Words w'' l m g ∧ Bel w' w'' := fun w' h => by
          have k := un (packTo F g n) (Nat.lt_of_lt_of_le lt (pow_le64 (start_le ok.2.2))) w' h
          rw [unE_ok ok.2.1 ok.2.2 lt, unN_ok ok.2.1 ok.2.2 lt] at k
          refine k.mono fun e w'' ⟨l, h1, h2, h3⟩ => ⟨l, h1, ?_, h3⟩
          rw [ok.1]
          exact words_congr h2 fun j hj => get_pack ok.2.2 ft hj
        exact second _ (fun b4 b5 => walk_yy p q n m cap cap2 u _ g _ w d1 d2 a1 a2 a3 b4 b5) (fun E2 hE b4 => walk_yn p q n m cap cap2 u _ g g w d1 d2 a1 a2 a3 E2 hE b4)
      · unfold packR packE at a1
        rw [if_neg (fun h => ft h.2.2.2), if_pos ok, if_neg ft] at a1
        exact second _ (fun b4 b5 => walk_ny p q n m cap cap2 u _ g _ w d1 d2 4 rfl a1 b4 b5) (fun E2 hE b4 => walk_nn p q n m cap cap2 u _ g g w d1 d2 4 rfl a1 E2 hE b4)
    · unfold packR packE at a1
      rw [if_neg (fun h => ok ⟨h.1, h.2.1, h.2.2.1⟩), if_neg ok] at a1
      exact second _ (fun b4 b5 => walk_ny p q n m cap cap2 u _ g _ w d1 d2 2 rfl a1 b4 b5) (fun E2 hE b4 => walk_nn p q n m cap cap2 u _ g g w d1 d2 2 rfl a1 E2 hE b4)

/-! The row. -/
set_option maxRecDepth 100000 in
theorem lifted (os : Os) (started : os.Started) (H : Type) (enc : TypeId × Value → H) :
    ReturnsInHanded {} Try.checked os 6 .any (Rows.fieldBackSpec.pre6 enc Try.prog Try.f6 Rows.fieldBackRow.domain false) (Rows.fieldBackSpec.post enc Try.prog Try.f6 false true false false) := by
  refine lift_law (C := Try.checked) own started (by kernel_rfl) Try.func6 laid rowed full (by rw [Try.params6]; decide) rfl (by kernel_rfl) Try.underlying4
    (fun ds h => by rw [Try.params6] at h; match ds, h with | [_, _, _], _ => rfl)
    (ChangeSpec.witness6 (enc := enc) (C := Try.checked) false ⟨#[], #[.slice none 0 0, .slice none 0 0, .int .u64 0], []⟩ 8 (by kernel_rfl) (by kernel_rfl) (by kernel_rfl) (by kernel_rfl)) ?_
  intro W base args ds p hval hA
  change ∀ (j : Nat) t v, Try.f6.params[j]? = some t → args[j]? = some v → Value.okWide Try.prog W .any base t v at hval
  change DataW.TrodAll enc Try.prog W 0 (fun _ => true) true Try.f6.params.toList args.toList ds p at hA
  rw [Try.params6] at hA hval
  obtain ⟨v0, vs0, d0, ds0, p0, q0, hargs, rfl, rfl, h0, r0⟩ := trodAll_cons hA
  obtain ⟨v1, vs1, d1, ds1, p1, q1, hargs1, rfl, rfl, h1, r1⟩ := trodAll_cons r0
  obtain ⟨v2, vs2, d2, ds2, p2, q2, hargs2, rfl, rfl, h2, r2⟩ := trodAll_cons r1
  obtain ⟨rfl, rfl, rfl⟩ := trodAll_nil r2
  subst hargs2
  subst hargs1
  obtain rfl : args = #[v0, v1, v2] := by cases args; simp_all
  obtain ⟨n, F, hF, hFb, hn⟩ := get_nums Try.underlying34 Try.underlying3 cells3 (hval 0 34 v0 rfl rfl) h0
  obtain ⟨m, g, hg, hgb, hm⟩ := get_words Try.underlying35 Try.underlying22 cells22 (hval 1 35 v1 rfl rfl) h1
  obtain ⟨u, rfl, hu⟩ := get_u64 Try.underlying22 (hval 2 22 v2 rfl rfl) h2
  exact walk v0 v1 n m u F g W hF hg hFb hgb hu

theorem over : Rows.fieldBackRow.holds Try.pinned (OpenSpec.ofChange Rows.fieldBackSpec) :=
  OpenClaim.holds_of_wide 6 Try.f6 rfl rfl rfl rfl rfl rfl rfl ⟨rfl, rfl, rfl, rfl, rfl⟩ rfl rfl rfl rfl rfl (by kernel_rfl) Try.func6 (by kernel_rfl)
    (of_decide_eq_true (by kernel_rfl)) (by unfold Func.isWrapper; first | (rw [if_pos (by decide +kernel)]; kernel_rfl) | (rw [if_neg (by decide +kernel)]; exact ⟨rfl, rfl⟩))
    (fun os started H enc _ => lifted os started H enc)

/-- The statement. -/
theorem proved : Rows.FieldBackSaid :=
  over
#print axioms proved
end Go.Proofs.Ytdenpmckekcokaa.fieldBack
