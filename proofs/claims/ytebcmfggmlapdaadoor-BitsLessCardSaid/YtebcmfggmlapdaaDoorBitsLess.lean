/- Less leaves the document's bits, none is 1 in both rows then, and the other row stays. -/
import Derived.Test.YtebcmfggmlapdaaDoorOpn
namespace Go.Proofs.YtebcmfggmlapdaaDoor.bitsLess
open Go.ChangeShapes Go.WideShapes Go.ChangeAt Go.RowKit
set_option linter.unusedVariables false

/-! The walk. -/
set_option maxRecDepth 100000 in
set_option maxHeartbeats 8000000 in
theorem walk (m : Nat) (v v2 : Value) (c c2 : Nat) (y y2 : Nat → Nat) (w : World) (hT : TabAt w) (hm : m < 65536) (hy : ∀ j, y j < 65536) (hy2 : ∀ j, y2 j < 65536) (h : U16s w v c y) (h2 : U16s w v2 c2 y2) :
    Calls Tryd.prog 4 #[.int .u16 (m : Nat), v, v2] w fun e w' => e = .returned (.bool true) ∧ Below w.heap.size w w' := by
  have mad := made_any m v c y w hm hy h
  have mad2 := fun w1 (K : Bel w w1) => made_any m v2 c2 y2 w1 hm hy2 (Row.bel h2 K)
  have mad3 := fun w1 (K : Bel w w1) => made_any ((m + 1) % 65536) v2 c2 y2 w1 (by omega) hy2 (Row.bel h2 K)
  have hmw : IntKind.u16.wrap ((m : Int) + 1) = (((m + 1) % 65536 : Nat) : Int) := by
    simp [IntKind.wrap, IntKind.signed, IntKind.bits]
  unfold MadeAt at mad mad2 mad3
  have hn : m % 301 ≤ 300 := by omega
  generalize (m + 1) % 65536 = m3 at *
  have hn3 : m3 % 301 ≤ 300 := by omega
  generalize m % 301 = n at *
  generalize m3 % 301 = n3 at *
  generalize mk n y (min c 300) = f at *
  generalize mk n y2 (min c2 300) = o at *
  generalize mk n3 y2 (min c2 300) = o3 at *
  obtain ⟨p, cap, rfl⟩ := h.slice
  obtain ⟨p2, cap2, rfl⟩ := h2.slice
  clear h h2
  have hp := hT.pos
  have eE : lessE n n = 0 := by unfold lessE; rw [if_pos rfl]
  have eF : lessF n f n o = fun i => f i && !o i := by unfold lessF; rw [if_pos rfl]
  have rl : ∀ {w v u}, Bools w v n f → Bools w u n o → _ := fun {w v u} hv hu => rless_any w hv hu (by omega)
  rw [eE, eF] at rl
  go_enter Tryd.func4, Tryd.ntmps4
  go_wp2_with (first
    | (go_at_call 20; have hh := K1; clear hh; (with_reducible refine (mad2 _ K1).mono ?_); rintro e w2 ⟨b2, g2, ca2, q2, rfl, O2, B2, G2, H2, K2⟩; have R2 := R1.bel K2; have z1 := R1.glt; have z2 := O2.glt; have n12 : g2 ≠ g1 := (by omega); have W2 := K1.trans K2; have T2 := hT.bel W2; have Q2 := B1.bel K2)
    | (go_at_call 20; (with_reducible refine mad.mono ?_); rintro e w1 ⟨b1, g1, ca1, q1, rfl, R1, B1, G1, H1, K1⟩)
    | (go_at_call 21; (with_reducible refine (less_ok _ R2 O2 n12).mono ?_); rintro e w3 ⟨rfl, R3, O3, U3⟩; have W3 := U3.below W2 G1 W2.size; have T3 := T2.but U3 (by omega); have Q3 := Q2.but U3 R2.at; have P3 := B2.but U3 R2.at)
    | (go_at_call 22; (with_reducible refine (rl Q3 P3).mono ?_); rintro e w4 ⟨q4, rfl, Q4, K4⟩; have R4 := R3.bel K4; have O4 := O3.bel K4; have P4 := P3.bel K4; have T4 := T3.bel K4)
    | (go_at_call 19; (with_reducible refine (same_true _ R4 Q4).mono ?_); rintro e w5 ⟨rfl, K5⟩; have R5 := R4.bel K5; have O5 := O4.bel K5; have P5 := P4.bel K5)
    | (go_at_call 19; (with_reducible refine (same_true _ O5 P5).mono ?_); rintro e w6 ⟨rfl, K6⟩; have R6 := R5.bel K6; have O6 := O5.bel K6; have P6 := P5.bel K6; have K46 := K4.trans (K5.trans K6); have W6 := Bel.below W3 K46 W3.size; have Q6 := Q3.bel K46; have T6 := T3.bel K46))
  obtain ⟨pp, cp, rfl⟩ := P6.slice
  obtain ⟨pq, cq, rfl⟩ := Q6.slice
  have PR := P6.row
  have QR := Q6.row
  have ge := fun (i : Int) => get_any i _ R6
  have go := fun (i : Int) => get_any i _ O6
  clear mad mad2 rl R1 B1 H1 O2 B2 G2 H2 R2 Q2 R3 O3 U3 T3 Q3 P3 Q4 K4 R4 O4 P4 T4 K5 R5 O5 P5 K6 K46 P6 Q6 W2 T2 W3 K1 K2
  go_loopw [14] (fun i wr => ∃ k : Nat, k ≤ n ∧ i = .int .i64 (k : Nat) ∧ wr = w6) (fun i _ => n - (intOf i).toNat)
  case atStart => exact ⟨0, Nat.zero_le _, rfl, rfl⟩
  case round =>
    obtain ⟨k, hk, rfl, rfl⟩ := hrel
    by_cases ck : k < n
    · rcases PR with ⟨e, _⟩ | ⟨pb, off, _, e, _, _, hbig, hc⟩
      · omega
      cases e
      rcases QR with ⟨e, _⟩ | ⟨qb, off2, _, e, _, _, hbig2, hc2⟩
      · omega
      cases e
      have e1 := hc k ck
      have e2 := hc2 k ck
      have kI : (k : Int) < (n : Int) := by omega
      have k0 : (0 : Int) ≤ (k : Int) := by omega
      have th : there n (k : Int) = true := decide_eq_true ⟨k0, kI⟩
      have g1' := ge (k : Int)
      have g2' := go (k : Int)
      have x1 : getB n (fun i => f i && !o i) (k : Int) = (f k && !o k) := by unfold getB; rw [th, Bool.true_and, Int.toNat_natCast]
      have x2 : getB n o (k : Int) = o k := by unfold getB; rw [th, Bool.true_and, Int.toNat_natCast]
      rw [x1] at g1'
      rw [x2] at g2'
      simp only at e1 e2
      clear hc hc2 ge go x1 x2 th
      generalize f k = s at *
      generalize o k = t at *
      cases s
      all_goals cases t
      all_goals
        simp only [Bool.false_and, Bool.true_and, Bool.not_true, Bool.not_false] at g1'
        go_wp2_with (first
          | (go_at_call 23; (with_reducible refine g1'.mono ?_); rintro e w' ⟨rfl, hw⟩; rw [hw]; clear hw)
          | (go_at_call 23; (with_reducible refine g2'.mono ?_); rintro e w' ⟨rfl, hw⟩; rw [hw]; clear hw))
        go_roundw
        case rel => exact ⟨k + 1, by omega, by go_num, by trivial⟩
        case measure => simp only [intOf]; omega
    · obtain rfl : k = n := by omega
      clear PR QR ge go
      have M3 := mad3 _ (show Bel w _ from W6)
      clear mad3
      by_cases ne : n3 = k
      · subst ne
        go_wp2_with (first
          | (go_at_call 20; (with_reducible refine M3.mono ?_); rintro e w7 ⟨b7, g7, ca7, q7, rfl, X7, B7, G7, H7, K7⟩; have R7 := R6.bel K7)
          | (go_at_call 12; (with_reducible refine (len_any _ X7.hdr).mono ?_); rintro e w' ⟨rfl, hw⟩; rw [hw]; clear hw)
          | (go_at_call 12; (with_reducible refine (len_any _ R7.hdr).mono ?_); rintro e w' ⟨rfl, hw⟩; rw [hw]; clear hw)
          | (go_at_call 21; (with_reducible refine (less_nil _ R7).mono ?_); rintro e w8 ⟨rfl, K8⟩; have T8 := (T6.bel K7).bel K8)
          | (go_at_call 11; (with_reducible refine (awake_any _ T8).mono ?_); rintro e w9 ⟨rfl, K9⟩))
        go_ret
        exact ⟨rfl, W6.trans ((K7.trans (K8.trans K9)).mono W6.size)⟩
      · have d1 : ((n3 : Int) != (k : Int)) = true := by rw [bne_iff_ne]; omega
        have d2 : ¬ (n3 : Int) = (k : Int) := by omega
        go_wp2_with (first
          | (go_at_call 20; (with_reducible refine M3.mono ?_); rintro e w7 ⟨b7, g7, ca7, q7, rfl, X7, B7, G7, H7, K7⟩; have R7 := R6.bel K7)
          | (go_at_call 12; (with_reducible refine (len_any _ X7.hdr).mono ?_); rintro e w' ⟨rfl, hw⟩; rw [hw]; clear hw)
          | (go_at_call 12; (with_reducible refine (len_any _ R7.hdr).mono ?_); rintro e w' ⟨rfl, hw⟩; rw [hw]; clear hw)
          | (go_at_call 21; (with_reducible refine (less_other _ R7 X7 ne).mono ?_); rintro e w8 ⟨rfl, K8⟩; have R8 := R7.bel K8)
          | (go_at_call 21; (with_reducible refine (less_nil _ R8).mono ?_); rintro e w9 ⟨rfl, K9⟩; have T9 := ((T6.bel K7).bel K8).bel K9)
          | (go_at_call 11; (with_reducible refine (awake_any _ T9).mono ?_); rintro e w10 ⟨rfl, K10⟩))
        go_ret
        exact ⟨rfl, W6.trans ((K7.trans (K8.trans (K9.trans K10))).mono W6.size)⟩

/-! The row. -/
set_option maxRecDepth 100000 in
theorem lifted (os : Os) (started : os.Started) (H : Type) (enc : TypeId × Value → H) :
    ReturnsInHanded {} Tryd.checked os 4 .any (fun w args => (Rows.bitsLessSpec.pre enc Tryd.prog Tryd.f4 [] false w args ∧ laidMetH Tryd.prog theLaid w) ∧ sizedMet enc Tryd.prog Tryd.f4 (OpenSpec.ofChange Rows.bitsLessSpec) false w args)
      (Rows.bitsLessSpec.post enc Tryd.prog Tryd.f4 false true false false) := by
  refine lift_laid (C := Tryd.checked) (X := Met) own started (by kernel_rfl) Tryd.func4 (fun _ _ h => Met.heap h) laidout rowed full (by rw [Tryd.params4]; decide) rfl (by kernel_rfl) Tryd.underlying4
    (fun ds h => by rw [Tryd.params4] at h; match ds, h with | [_, _, _], _ => rfl)
    (ChangeSpec.witness_shaped (enc := enc) (C := Tryd.checked) (os := os) (X := fun w _ => Met w) false (World.doorLaid Tryd.prog 400 os) #[.int .u16 0, .slice none 0 0, .slice none 0 0] 8 rfl (World.shaped_of_RefB (by kernel_rfl) (by kernel_rfl)) (by kernel_rfl) (by kernel_rfl) (by kernel_rfl) (door_met os _)) ?_
  intro W base args ds p hval hA hM
  have hT := hM.tab
  change ∀ (j : Nat) t v, Tryd.f4.params[j]? = some t → args[j]? = some v → Value.okWide Tryd.prog W .any base t v at hval
  change DataW.TrodAll enc Tryd.prog W 0 (fun _ => true) true Tryd.f4.params.toList args.toList ds p at hA
  rw [Tryd.params4] at hA hval
  obtain ⟨v0, vs0, d0, ds0, p0, q0, hargs, rfl, rfl, h0, r0⟩ := trodAll_cons hA
  obtain ⟨v1, vs1, d1, ds1, p1, q1, hargs1, rfl, rfl, h1, r1⟩ := trodAll_cons r0
  obtain ⟨v2, vs2, d2, ds2, p2, q2, hargs2, rfl, rfl, h2, r2⟩ := trodAll_cons r1
  obtain ⟨rfl, rfl, rfl⟩ := trodAll_nil r2
  subst hargs2
  subst hargs1
  obtain rfl : args = #[v0, v1, v2] := by cases args; simp_all
  obtain ⟨m, rfl, hm⟩ := get_u16 (hval 0 41 v0 rfl rfl) h0
  obtain ⟨c, y, hU, hy, _⟩ := get_u16s (hval 1 42 v1 rfl rfl) h1
  obtain ⟨c2, y2, hU2, hy2, _⟩ := get_u16s (hval 2 42 v2 rfl rfl) h2
  exact walk m v1 v2 c c2 y y2 W hT hm hy hy2 hU hU2

theorem over : Rows.bitsLessRow.holds Tryd.pinned (OpenSpec.ofChange Rows.bitsLessSpec) :=
  OpenClaim.holds_of_wide 4 Tryd.f4 rfl rfl rfl rfl rfl rfl rfl ⟨rfl, rfl, rfl, rfl, rfl⟩ rfl rfl rfl rfl rfl (by kernel_rfl) Tryd.func4 (by kernel_rfl)
    (of_decide_eq_true (by kernel_rfl)) (by unfold Func.isWrapper; first | (rw [if_pos (by decide +kernel)]; kernel_rfl) | (rw [if_neg (by decide +kernel)]; exact ⟨rfl, rfl⟩))
    (fun os started H enc _ => lifted os started H enc)

/-- The statement. -/
theorem proved : Rows.BitsLessCardSaid :=
  Claim7.holds_tied_plain_at .later [] [.data] true (true, "2bec7d387b5b36ba45251476c9d028b61f3784eff95d02313db78e625e36b407") false
    over (fun _ h => by cases h) (by kernel_rfl) (fun _ h => by cases h) bitsLess_row_tie rfl ⟨rfl, rfl⟩ (by kernel_rfl) rfl
    (fun f fn hf hfn => by
      obtain rfl : f = 4 := Option.some.inj ((show Tryd.prog.funcNamed "commonage/commonagelaw04.BitsLess" = some 4 by kernel_rfl).symm.trans hf) |>.symm
      obtain rfl : fn = Tryd.f4 := (Option.some.inj (Tryd.func4.symm.trans hfn)).symm
      exact ⟨by kernel_rfl, fun j t ht => by
        rw [Tryd.params4] at ht
        have hm : t ∈ [41, 42, 42] := by simpa using Array.mem_of_getElem? ht
        have hall : ([41, 42, 42].all fun u => !Tryd.prog.wantsStandIn u) = true := by kernel_rfl
        exact (show Tryd.prog.wantsStandIn t = false by simpa using List.all_eq_true.1 hall t hm)⟩)
    (by kernel_rfl)
#print axioms proved
end Go.Proofs.YtebcmfggmlapdaaDoor.bitsLess
