/- The walk of RealEdges, for a slice that holds a word. -/
import Derived.Test.YtagempkaophnaaaSlice
import Derived.Test.YtagempkaophnaaaEdge
import Derived.Deep.QuietTactic
import Derived.BigQuiet
namespace Go.Proofs.Ytagempkaophnaaa
open Go.ChangeShapes Go.WideShapes Go.ChangeAt Go.RowKit

theorem Same.drewN {w w' : World} (h : Same w w') (m : Nat) : Same w (w'.drewN m) := ⟨h.1, h.2⟩

/-- what holds at each round's head -/
def Rounds (f : Nat → Nat) (n : Nat) (w : World) (a u d z m i : Value) (wr : World) : Prop :=
  ∃ k : Nat, k ≤ n ∧ a = .int .i64 (count (isNan f) k : Nat) ∧ u = .int .i64 (count (isUp f) k : Nat) ∧ d = .int .i64 (count (isDown f) k : Nat) ∧ z = .int .i64 (count (isZero f) k : Nat) ∧ m = .int .i64 (count (isMinus f) k : Nat) ∧ i = .int .i64 (k : Nat) ∧ (∀ j, j < k → modest (f j)) ∧ Same w wr

theorem modest_next {f : Nat → Nat} {k : Nat} (h : ∀ j, j < k → modest (f j)) (g : modest (f k)) : ∀ j, j < k + 1 → modest (f j) := by
  intro j hj
  by_cases c : j = k
  · rw [c]; exact g
  · exact h j (by omega)

theorem kind_ge {a : Nat} (h : rung a < 9218868437227405312) : 2 ≤ kindN a := by
  unfold kindN
  by_cases c1 : rung a = 0
  · rw [if_pos c1]; omega
  rw [if_neg c1]
  by_cases c2 : rung a < 4503599627370496
  · rw [if_pos c2]; omega
  rw [if_neg c2, if_pos h]; omega

theorem int_val {a b : Int} (h : a = b) : Value.int .i64 a = Value.int .i64 b := by rw [h]

theorem kind_cases (x : Nat) : (kindN x = 0 ∧ modest x) ∨ (kindN x = 1 ∧ modest x) ∨ (kindN x = 2) ∨ (kindN x = 3 ∧ modest x) ∨ (kindN x = 4 ∧ modest x) := by
  unfold kindN modest
  by_cases c1 : rung x = 0
  · rw [if_pos c1]; exact Or.inr (Or.inr (Or.inr (Or.inr ⟨rfl, Or.inr (by omega)⟩)))
  rw [if_neg c1]
  by_cases c2 : rung x < 4503599627370496
  · rw [if_pos c2]; exact Or.inr (Or.inr (Or.inr (Or.inl ⟨rfl, Or.inr (by omega)⟩)))
  rw [if_neg c2]
  by_cases c3 : rung x < 9218868437227405312
  · rw [if_pos c3]; exact Or.inr (Or.inr (Or.inl rfl))
  rw [if_neg c3]
  by_cases c4 : rung x = 9218868437227405312
  · rw [if_pos c4]; exact Or.inr (Or.inl ⟨rfl, Or.inl (by omega)⟩)
  · rw [if_neg c4]; exact Or.inl ⟨rfl, Or.inl (by omega)⟩

set_option maxRecDepth 100000 in
set_option maxHeartbeats 8000000 in
theorem edges_some (b off n cap : Nat) (f : Nat → Nat) (w : World) (hw : Words w (.slice (some ⟨b, off, none⟩) n cap) n f) (hf : ∀ j, f j < 18446744073709551616) (hn1 : 1 ≤ n)
    (hcell : ∀ j, j < n → w.cell? ⟨b, off + j, none⟩ = some (.int .u64 (f j : Nat))) (c : n ≤ 100) :
    Calls Try.prog 8 #[.slice (some ⟨b, off, none⟩) n cap] w fun e w' => e = .returned (.bool true) ∧ Grown w w' := by
  go_enter Try.func8, Try.ntmps8
  go_wp2
  go_loopw [3, 4, 5, 6, 7, 8] (fun a u d z m i wr => Rounds f n w a u d z m i wr) (fun _ _ _ _ _ i _ => n - (intOf i).toNat)
  case atStart => exact ⟨0, Nat.zero_le _, rfl, rfl, rfl, rfl, rfl, rfl, fun j h => absurd h (by omega), Same.refl w⟩
  case round =>
    obtain ⟨k, hk, rfl, rfl, rfl, rfl, rfl, rfl, hm, hs⟩ := hrel
    by_cases ck : k < n
    · have hcl : wr.cell? ⟨b, off + k, none⟩ = some (.int .u64 (f k : Nat)) := by rw [hs.cell]; exact hcell k ck
      have k1 := rkind_any (f k : Nat) wr (by omega) (by have := hf k; omega)
      have l1 := fun m => least_any _ n f (wr.drewN m) (hw.same (hs.drewN m)) hf
      have l2 := fun w => compare_any (leastN f n : Nat) (f k : Nat) w (by omega) (by have := leastN_lt hf n; omega) (by omega) (by have := hf k; omega)
      simp only [Int.toNat_natCast] at k1 l2
      have lc := least_cmp (f := f) ck
      have ckI : (k : Int) < n := by omega
      have ck0 : (0 : Int) ≤ k := by omega
      have tc : decide (0 < cmpN (leastN f n) (f k)) = false := decide_eq_false (by omega)
      have xlt := hf k
      have sN : count (isNan f) (k + 1) = count (isNan f) k + (kindN (f k) == 0).toNat := rfl
      have sU : count (isUp f) (k + 1) = count (isUp f) k + ((kindN (f k) == 1) && !(sgn (f k))).toNat := rfl
      have sD : count (isDown f) (k + 1) = count (isDown f) k + ((kindN (f k) == 1) && sgn (f k)).toNat := rfl
      have sZ : count (isZero f) (k + 1) = count (isZero f) k + (kindN (f k) == 4).toNat := rfl
      have sM : count (isMinus f) (k + 1) = count (isMinus f) k + ((kindN (f k) == 4) && sgn (f k)).toNat := rfl
      have bN : (count (isNan f) k : Int) ≤ 100 := by have := count_le (isNan f) k; omega
      have bU : (count (isUp f) k : Int) ≤ 100 := by have := count_le (isUp f) k; omega
      have bD : (count (isDown f) k : Int) ≤ 100 := by have := count_le (isDown f) k; omega
      have bZ : (count (isZero f) k : Int) ≤ 100 := by have := count_le (isZero f) k; omega
      have bM : (count (isMinus f) k : Int) ≤ 100 := by have := count_le (isMinus f) k; omega
      have next := modest_next (f := f) hm
      have kc := kind_cases (f k)
      have hg0 : Grown w wr := hs.2
      clear hm lc hcell hw hf
      generalize cmpN (leastN f n) (f k) = cc at *
      generalize leastN f n = ll at *
      generalize count (isNan f) k = cN at *
      generalize count (isUp f) k = cU at *
      generalize count (isDown f) k = cD at *
      generalize count (isZero f) k = cZ at *
      generalize count (isMinus f) k = cM at *
      generalize hx : f k = x at *
      rcases kc with ⟨kk, mo⟩ | ⟨kk, mo⟩ | kk | ⟨kk, mo⟩ | ⟨kk, mo⟩
      · rw [kk] at k1 sN sU sD sZ sM
        have hN : count (isNan f) (k + 1) = cN + 1 := sN
        have hU : count (isUp f) (k + 1) = cU := sU
        have hD : count (isDown f) (k + 1) = cD := sD
        have hZ : count (isZero f) (k + 1) = cZ := sZ
        have hM : count (isMinus f) (k + 1) = cM := sM
        have hid := Lib.hid (And.intro (next mo) (And.intro hs (And.intro hN (And.intro hU (And.intro hD (And.intro hZ hM))))))
        clear next hs hN hU hD hZ hM sN sU sD sZ sM hx kk xlt hg0 hn1
        go_wp2_with (go_at_call 14; refine k1.mono ?_; rintro e w' ⟨rfl, hw⟩; rw [hw])
        go_quiet (first | (go_at_call 26; refine Calls.quiet_of_same (l1 _)) | (go_at_call 22; refine Calls.quiet_of_same (l2 _)))
        go_wp2
        go_roundw
        case rel =>
          obtain ⟨i1, i2, i3, i4, i5, i6, i7⟩ := hid.out
          exact ⟨k + 1, by omega, int_val (by omega), int_val (by omega), int_val (by omega), int_val (by omega), int_val (by omega), int_val (by omega), i1, i2.drewN _⟩
        case measure => simp only [intOf]; omega
      · cases sg : sgn x
        · rw [kk] at k1 sN sU sD sZ sM
          rw [sg] at k1 sU sD sM
          have hN : count (isNan f) (k + 1) = cN := sN
          have hU : count (isUp f) (k + 1) = cU + 1 := sU
          have hD : count (isDown f) (k + 1) = cD := sD
          have hZ : count (isZero f) (k + 1) = cZ := sZ
          have hM : count (isMinus f) (k + 1) = cM := sM
          have hid := Lib.hid (And.intro (next mo) (And.intro hs (And.intro hN (And.intro hU (And.intro hD (And.intro hZ hM))))))
          clear next hs hN hU hD hZ hM sN sU sD sZ sM hx kk xlt hg0 hn1 sg
          go_wp2_with (go_at_call 14; refine k1.mono ?_; rintro e w' ⟨rfl, hw⟩; rw [hw])
          go_quiet (first | (go_at_call 26; refine Calls.quiet_of_same (l1 _)) | (go_at_call 22; refine Calls.quiet_of_same (l2 _)))
          go_wp2
          go_roundw
          case rel =>
            obtain ⟨i1, i2, i3, i4, i5, i6, i7⟩ := hid.out
            exact ⟨k + 1, by omega, int_val (by omega), int_val (by omega), int_val (by omega), int_val (by omega), int_val (by omega), int_val (by omega), i1, i2.drewN _⟩
          case measure => simp only [intOf]; omega
        · rw [kk] at k1 sN sU sD sZ sM
          rw [sg] at k1 sU sD sM
          have hN : count (isNan f) (k + 1) = cN := sN
          have hU : count (isUp f) (k + 1) = cU := sU
          have hD : count (isDown f) (k + 1) = cD + 1 := sD
          have hZ : count (isZero f) (k + 1) = cZ := sZ
          have hM : count (isMinus f) (k + 1) = cM := sM
          have hid := Lib.hid (And.intro (next mo) (And.intro hs (And.intro hN (And.intro hU (And.intro hD (And.intro hZ hM))))))
          clear next hs hN hU hD hZ hM sN sU sD sZ sM hx kk xlt hg0 hn1 sg
          go_wp2_with (go_at_call 14; refine k1.mono ?_; rintro e w' ⟨rfl, hw⟩; rw [hw])
          go_quiet (first | (go_at_call 26; refine Calls.quiet_of_same (l1 _)) | (go_at_call 22; refine Calls.quiet_of_same (l2 _)))
          go_wp2
          go_roundw
          case rel =>
            obtain ⟨i1, i2, i3, i4, i5, i6, i7⟩ := hid.out
            exact ⟨k + 1, by omega, int_val (by omega), int_val (by omega), int_val (by omega), int_val (by omega), int_val (by omega), int_val (by omega), i1, i2.drewN _⟩
          case measure => simp only [intOf]; omega
      · obtain ⟨E, hE⟩ : ∃ E, x / 4503599627370496 % 2048 = E := ⟨_, rfl⟩
        have eE : (x : Int) / 4503599627370496 % 2048 = (E : Int) := by omega
        by_cases g : 1923 < E
        · have t1 : decide (1923 < (E : Int)) = true := decide_eq_true (by omega)
          have t2 : 1923 < E := g
          rw [kk] at k1
          clear next hs sN sU sD sZ sM hx kk xlt hE g hn1
          go_wp2_with (go_at_call 14; refine k1.mono ?_; rintro e w' ⟨rfl, hw⟩; rw [hw])
          go_quiet (first | (go_at_call 26; refine Calls.quiet_of_same (l1 _)) | (go_at_call 22; refine Calls.quiet_of_same (l2 _)))
          go_wp2_with (go_at_call 19; refine (awake_any _).mono ?_; rintro e w' ⟨rfl, hg⟩)
          go_ret
          exact ⟨rfl, grown_trans (show Grown w (wr.drewN nq) from hg0) hg⟩
        · have t1 : decide (1923 < (E : Int)) = false := decide_eq_false (by omega)
          have t2 : ¬ 1923 < E := g
          have mo : modest x := Or.inr (by unfold rung; omega)
          clear hE g
          rw [kk] at k1 sN sU sD sZ sM
          have hN : count (isNan f) (k + 1) = cN := sN
          have hU : count (isUp f) (k + 1) = cU := sU
          have hD : count (isDown f) (k + 1) = cD := sD
          have hZ : count (isZero f) (k + 1) = cZ := sZ
          have hM : count (isMinus f) (k + 1) = cM := sM
          have hid := Lib.hid (And.intro (next mo) (And.intro hs (And.intro hN (And.intro hU (And.intro hD (And.intro hZ hM))))))
          clear next hs hN hU hD hZ hM sN sU sD sZ sM hx kk xlt hg0 hn1
          go_wp2_with (go_at_call 14; refine k1.mono ?_; rintro e w' ⟨rfl, hw⟩; rw [hw])
          go_quiet (first | (go_at_call 26; refine Calls.quiet_of_same (l1 _)) | (go_at_call 22; refine Calls.quiet_of_same (l2 _)))
          go_wp2
          go_roundw
          case rel =>
            obtain ⟨i1, i2, i3, i4, i5, i6, i7⟩ := hid.out
            exact ⟨k + 1, by omega, int_val (by omega), int_val (by omega), int_val (by omega), int_val (by omega), int_val (by omega), int_val (by omega), i1, i2.drewN _⟩
          case measure => simp only [intOf]; omega
      · rw [kk] at k1 sN sU sD sZ sM
        have hN : count (isNan f) (k + 1) = cN := sN
        have hU : count (isUp f) (k + 1) = cU := sU
        have hD : count (isDown f) (k + 1) = cD := sD
        have hZ : count (isZero f) (k + 1) = cZ := sZ
        have hM : count (isMinus f) (k + 1) = cM := sM
        have hid := Lib.hid (And.intro (next mo) (And.intro hs (And.intro hN (And.intro hU (And.intro hD (And.intro hZ hM))))))
        clear next hs hN hU hD hZ hM sN sU sD sZ sM hx kk xlt hg0 hn1
        go_wp2_with (go_at_call 14; refine k1.mono ?_; rintro e w' ⟨rfl, hw⟩; rw [hw])
        go_quiet (first | (go_at_call 26; refine Calls.quiet_of_same (l1 _)) | (go_at_call 22; refine Calls.quiet_of_same (l2 _)))
        go_wp2
        go_roundw
        case rel =>
          obtain ⟨i1, i2, i3, i4, i5, i6, i7⟩ := hid.out
          exact ⟨k + 1, by omega, int_val (by omega), int_val (by omega), int_val (by omega), int_val (by omega), int_val (by omega), int_val (by omega), i1, i2.drewN _⟩
        case measure => simp only [intOf]; omega
      · cases sg : sgn x
        · rw [kk] at k1 sN sU sD sZ sM
          rw [sg] at k1 sU sD sM
          have hN : count (isNan f) (k + 1) = cN := sN
          have hU : count (isUp f) (k + 1) = cU := sU
          have hD : count (isDown f) (k + 1) = cD := sD
          have hZ : count (isZero f) (k + 1) = cZ + 1 := sZ
          have hM : count (isMinus f) (k + 1) = cM := sM
          have hid := Lib.hid (And.intro (next mo) (And.intro hs (And.intro hN (And.intro hU (And.intro hD (And.intro hZ hM))))))
          clear next hs hN hU hD hZ hM sN sU sD sZ sM hx kk xlt hg0 hn1 sg
          go_wp2_with (go_at_call 14; refine k1.mono ?_; rintro e w' ⟨rfl, hw⟩; rw [hw])
          go_quiet (first | (go_at_call 26; refine Calls.quiet_of_same (l1 _)) | (go_at_call 22; refine Calls.quiet_of_same (l2 _)))
          go_wp2
          go_roundw
          case rel =>
            obtain ⟨i1, i2, i3, i4, i5, i6, i7⟩ := hid.out
            exact ⟨k + 1, by omega, int_val (by omega), int_val (by omega), int_val (by omega), int_val (by omega), int_val (by omega), int_val (by omega), i1, i2.drewN _⟩
          case measure => simp only [intOf]; omega
        · rw [kk] at k1 sN sU sD sZ sM
          rw [sg] at k1 sU sD sM
          have hN : count (isNan f) (k + 1) = cN := sN
          have hU : count (isUp f) (k + 1) = cU := sU
          have hD : count (isDown f) (k + 1) = cD := sD
          have hZ : count (isZero f) (k + 1) = cZ + 1 := sZ
          have hM : count (isMinus f) (k + 1) = cM + 1 := sM
          have hid := Lib.hid (And.intro (next mo) (And.intro hs (And.intro hN (And.intro hU (And.intro hD (And.intro hZ hM))))))
          clear next hs hN hU hD hZ hM sN sU sD sZ sM hx kk xlt hg0 hn1 sg
          go_wp2_with (go_at_call 14; refine k1.mono ?_; rintro e w' ⟨rfl, hw⟩; rw [hw])
          go_quiet (first | (go_at_call 26; refine Calls.quiet_of_same (l1 _)) | (go_at_call 22; refine Calls.quiet_of_same (l2 _)))
          go_wp2
          go_roundw
          case rel =>
            obtain ⟨i1, i2, i3, i4, i5, i6, i7⟩ := hid.out
            exact ⟨k + 1, by omega, int_val (by omega), int_val (by omega), int_val (by omega), int_val (by omega), int_val (by omega), int_val (by omega), i1, i2.drewN _⟩
          case measure => simp only [intOf]; omega
    · obtain rfl : k = n := by omega
      obtain ⟨m, rfl⟩ : ∃ m, k = m + 1 := ⟨k - 1, by omega⟩
      have st := state_all (n := m) hf (by omega) hm m (Nat.le_refl _)
      have zs := zeros_all hf m
      have sg := sumG hw hf hs.2
      rw [show sumN f (m + 1) = canonN (sumTo f m) from rfl] at sg
      clear hcell hm hw hf
      generalize count (isNan f) (m + 1) = N at *
      generalize count (isUp f) (m + 1) = U at *
      generalize count (isDown f) (m + 1) = D at *
      generalize count (isZero f) (m + 1) = Z at *
      generalize count (isMinus f) (m + 1) = M at *
      generalize sumTo f m = s at *
      have c0 : decide (0 < ((m + 1 : Nat) : Int)) = true := decide_eq_true (by omega)
      have c0' : 0 < m + 1 := by omega
      generalize hmn : m + 1 = n at *
      by_cases pN : 0 < N
      · rw [canon_nan (st.nan (Or.inl pN))] at sg
        clear st zs hk ck hmn c0 c0' hn1 hs
        go_wp2_with (first | (go_at_call 24; refine sg.mono ?_; rintro e w' ⟨rfl, hg⟩) | (go_at_call 19; refine (awake_any _).mono ?_; rintro e w' ⟨rfl, hg⟩))
        go_ret
        refine ⟨rfl, ?_⟩
        repeat (first | assumption | exact Grown.refl _ | refine grown_trans ?_ (by assumption))
      · have eN : N = 0 := by omega
        by_cases pU : 0 < U
        · by_cases pD : 0 < D
          · rw [canon_nan (st.nan (Or.inr ⟨pU, pD⟩))] at sg
            clear st zs hk ck hmn c0 c0' hn1 hs eN
            go_wp2_with (first | (go_at_call 24; refine sg.mono ?_; rintro e w' ⟨rfl, hg⟩) | (go_at_call 19; refine (awake_any _).mono ?_; rintro e w' ⟨rfl, hg⟩))
            go_ret
            refine ⟨rfl, ?_⟩
            repeat (first | assumption | exact Grown.refl _ | refine grown_trans ?_ (by assumption))
          · rw [st.up eN pU (by omega), show canonN 9218868437227405312 = 9218868437227405312 by decide] at sg
            clear st zs hk ck hmn c0 c0' hn1 hs eN
            go_wp2_with (first | (go_at_call 24; refine sg.mono ?_; rintro e w' ⟨rfl, hg⟩) | (go_at_call 19; refine (awake_any _).mono ?_; rintro e w' ⟨rfl, hg⟩))
            go_ret
            refine ⟨rfl, ?_⟩
            repeat (first | assumption | exact Grown.refl _ | refine grown_trans ?_ (by assumption))
        · have eU : U = 0 := by omega
          by_cases pD : 0 < D
          · rw [st.down eN eU pD, show canonN 18442240474082181120 = 18442240474082181120 by decide] at sg
            clear st zs hk ck hmn c0 c0' hn1 hs eN eU
            go_wp2_with (first | (go_at_call 24; refine sg.mono ?_; rintro e w' ⟨rfl, hg⟩) | (go_at_call 19; refine (awake_any _).mono ?_; rintro e w' ⟨rfl, hg⟩))
            go_ret
            refine ⟨rfl, ?_⟩
            repeat (first | assumption | exact Grown.refl _ | refine grown_trans ?_ (by assumption))
          · have eD : D = 0 := by omega
            by_cases pZ : Z = n
            · have tZ : ((Z : Int) == (n : Int)) = true := by rw [beq_dec]; exact decide_eq_true (by omega)
              have zz := zs pZ
              by_cases pM : M = n
              · rw [if_pos pM] at zz
                have tM : ((M : Int) == (n : Int)) = true := by rw [beq_dec]; exact decide_eq_true (by omega)
                rw [zz, show canonN 9223372036854775808 = 9223372036854775808 by decide] at sg
                clear st zs hk ck hmn hn1 hs eN eU eD zz pZ pM
                go_wp2_with (first | (go_at_call 24; refine sg.mono ?_; rintro e w' ⟨rfl, hg⟩) | (go_at_call 19; refine (awake_any _).mono ?_; rintro e w' ⟨rfl, hg⟩))
                go_ret
                refine ⟨rfl, ?_⟩
                repeat (first | assumption | exact Grown.refl _ | refine grown_trans ?_ (by assumption))
              · rw [if_neg pM] at zz
                have tM : ((M : Int) == (n : Int)) = false := by rw [beq_dec]; exact decide_eq_false (by omega)
                rw [zz, show canonN 0 = 0 by decide] at sg
                clear st zs hk ck hmn hn1 hs eN eU eD zz pZ pM
                go_wp2_with (first | (go_at_call 24; refine sg.mono ?_; rintro e w' ⟨rfl, hg⟩) | (go_at_call 19; refine (awake_any _).mono ?_; rintro e w' ⟨rfl, hg⟩))
                go_ret
                refine ⟨rfl, ?_⟩
                repeat (first | assumption | exact Grown.refl _ | refine grown_trans ?_ (by assumption))
            · have tZ : ((Z : Int) == (n : Int)) = false := by rw [beq_dec]; exact decide_eq_false (by omega)
              have fin := st.fin eN eU eD
              have lt := st.lt
              have nn : nanN s = false := decide_eq_false (by omega)
              rw [canon_not nn] at sg
              have kd := fun w => rkind_any (s : Nat) w (by omega) (by omega)
              simp only [Int.toNat_natCast] at kd
              have k2 : 2 ≤ kindN s := kind_ge (by omega)
              have tk : decide (2 ≤ kindN s) = true := decide_eq_true k2
              generalize kindN s = ks at *
              generalize sgn s = ss at *
              clear st zs hk ck hmn hn1 hs eN eU eD pZ fin lt nn
              go_wp2_with (first | (go_at_call 24; refine sg.mono ?_; rintro e w' ⟨rfl, hg⟩) | (go_at_call 14; refine (kd _).mono ?_; rintro e w' ⟨rfl, hw⟩; rw [hw]) | (go_at_call 19; refine (awake_any _).mono ?_; rintro e w' ⟨rfl, hg⟩))
              go_ret
              refine ⟨rfl, ?_⟩
              repeat (first | assumption | exact Grown.refl _ | refine grown_trans ?_ (by assumption))

end Go.Proofs.Ytagempkaophnaaa
