/- A row's words say just its bits; rows of the same bits that are set have the same words, whatever was done ahead of Clear. -/
import Derived.Test.YtebcmfggmlapdaaDoorOpn
namespace Go.Proofs.YtebcmfggmlapdaaDoor.bitsWords
open Go.ChangeShapes Go.WideShapes Go.ChangeAt Go.RowKit
set_option linter.unusedVariables false

/-! The walk. -/
theorem cut_set {f : Nat → Bool} {n k : Nat} (hk : k < n) (h : f k = true) : setF n (cut f k) (k : Int) true = cut f (k + 1) := by
  unfold setF
  rw [show there n (k : Int) = true from decide_eq_true ⟨by omega, by omega⟩, if_pos rfl, Int.toNat_natCast]
  funext i
  unfold upd cut
  by_cases c : i = k
  · subst c; simp [h]
  · rw [if_neg c, show decide (i < k + 1) = decide (i < k) from decide_eq_decide.2 (by omega)]

theorem getB_fits {n : Nat} {f : Nat → Bool} (h : Fits n f) (k : Nat) : getB n f (k : Int) = f k := by
  unfold getB there
  rw [Int.toNat_natCast]
  by_cases c : k < n
  · rw [decide_eq_true ⟨by omega, by omega⟩, Bool.true_and]
  · rw [decide_eq_false (by omega), Bool.false_and, h k (by omega)]

set_option maxRecDepth 100000 in
set_option maxHeartbeats 8000000 in
theorem walk (m : Nat) (v v2 : Value) (c c2 : Nat) (y y2 : Nat → Nat) (w : World) (hT : TabAt w) (hm : m < 65536) (hy : ∀ j, y j < 65536) (hy2 : ∀ j, y2 j < 65536) (h : U16s w v c y) (h2 : U16s w v2 c2 y2) :
    Calls Tryd.prog 9 #[.int .u16 (m : Nat), v, v2] w fun e w' => e = .returned (.bool true) ∧ Below w.heap.size w w' := by
  have mad := made_any m v c y w hm hy h
  unfold MadeAt at mad
  have hn : m % 301 ≤ 300 := by omega
  generalize m % 301 = n at *
  generalize mk n y (min c 300) = f at *
  obtain ⟨p, cap, rfl⟩ := h.slice
  obtain ⟨p2, cap2, rfl⟩ := Row.slice h2
  clear h
  have hp := hT.pos
  have hN5 : nw n ≤ 5 := by unfold nw; omega
  have hq : ((n : Int) + 63) / 64 = ((nw n : Nat) : Int) := by unfold nw; omega
  have hq2 : Int.tdiv ((n : Int) + 63) 64 = ((nw n : Nat) : Int) := by rw [Int.tdiv_eq_ediv_of_nonneg (by omega)]; exact hq
  have hnn := fun w => new_ok n (by omega) w
  unfold NewRow at hnn
  obtain ⟨N, hNN⟩ : ∃ N, nw n = N := ⟨_, rfl⟩
  rw [hNN] at hq hq2 hN5
  go_enter Tryd.func9, Tryd.ntmps9
  go_wp2_with (first
    | (go_at_call 20; (with_reducible refine mad.mono ?_); rintro e w1 ⟨b1, g1, ca1, q1, rfl, R1, B1, G1, H1, K1⟩; obtain ⟨qp, qc, rfl⟩ := B1.slice; have wo := words_any _ R1; rw [hNN] at wo)
    | (go_at_call 26; (with_reducible refine wo.mono ?_); rintro e w2 ⟨u, rfl, o1, o2, K2⟩; obtain ⟨up, uc, rfl⟩ := Row.slice o1.words))
  clear mad wo o2 G1 H1
  have R2 := R1.bel K2
  have Q2 := B1.bel K2
  have W2 := K1.trans K2
  have fit := R1.2.1
  have w12 := o1.words
  clear R1 B1 K1 K2
  go_loopw [10] (fun i wr => ∃ k : Nat, k ≤ 64 * N ∧ i = .int .i64 (k : Nat) ∧ Bel w2 wr) (fun i _ => 64 * N - (intOf i).toNat)
  case atStart => exact ⟨0, Nat.zero_le _, rfl, Bel.refl _⟩
  case round =>
    obtain ⟨k, hk, rfl, hbr⟩ := hrel
    by_cases ck : k < 64 * N
    · rcases w12 with ⟨e, _⟩ | ⟨vb, off, _, e, _, _, hbig, hc⟩
      · omega
      cases e
      have c1 : wr.cell? ⟨vb, off + k / 64, none⟩ = some (.int .u64 (W f (k / 64) : Nat)) := cell_bel hbr (hc (k / 64) (by omega))
      have dk : decide ((k : Int) < 64 * (N : Int)) = true := decide_eq_true (by omega)
      have gt := fun q => get_any (k : Int) _ (R2.bel (hbr.trans (Bel.drewN wr q)))
      rw [getB_fits fit] at gt
      have kI : ((k / 64 : Nat) : Int) < (N : Int) := by omega
      have e1 := quo64 k
      have e1' : (k : Int) / 64 = ((k / 64 : Nat) : Int) := by omega
      have e0 := rem64 k
      have e0' : (k : Int) % 64 = ((k % 64 : Nat) : Int) := by omega
      have e2 := bit_int (W f (k / 64)) (k % 64)
      have e3 : bits .and .u64 ((W f (k / 64) / 2 ^ (k % 64) : Nat) : Int) 1 = _ := u64_and_nat (W f (k / 64) / 2 ^ (k % 64)) 1 (Nat.lt_of_le_of_lt (Nat.div_le_self _ _) (W_lt f _)) (by decide)
      rw [bit_is] at e3
      have hJ : k % 64 < 64 := by omega
      have hbr' := Lib.hid hbr
      clear hc hbr R2 Q2 W2 o1 hnn
      generalize f k = t at *
      generalize W f (k / 64) / 2 ^ (k % 64) = Q at *
      generalize W f (k / 64) = A at *
      generalize k / 64 = K at *
      generalize k % 64 = J at *
      cases t
      all_goals simp only [Bool.false_eq_true, if_false, if_true, Int.ofNat_zero, Int.ofNat_one] at e3
      all_goals
        go_wp2
        go_quiet (first | (go_at_call 23; refine Calls.quiet_of_same (gt _)))
        go_wp2
        go_roundw
        case rel => exact ⟨k + 1, by omega, by go_num, hbr'.out.then_drewN _⟩
        case measure => simp only [intOf]; omega
    · have eK : k = 64 * N := by omega
      have dk : decide ((k : Int) < 64 * (N : Int)) = false := decide_eq_false (by omega)
      have T3 := (hT.bel W2).bel hbr
      have R3 := R2.bel hbr
      have Q3 := Q2.bel hbr
      have o3 := o1.bel hbr
      have W3 := W2.trans hbr
      clear R2 Q2 W2 o1 w12 eK hT hbr
      go_wp2_with (go_at_call 10; (with_reducible refine (hnn _).mono ?_); rintro e w4 ⟨b2, g2, ca2, rfl, O4, G4, H4, K4⟩)
      generalize wr = wa at *
      have hz := W3.size
      have O4' : ∃ F, RowIs w4 b2 g2 ca2 n F := ⟨_, O4⟩
      clear hnn O4 H4
      go_loopw [13] (fun i ws => ∃ k : Nat, k ≤ min c2 300 ∧ i = .int .i64 (k : Nat) ∧ (∃ F, RowIs ws b2 g2 ca2 n F) ∧ Bel wa ws) (fun i _ => 300 - (intOf i).toNat)
      case atStart => exact ⟨0, Nat.zero_le _, rfl, O4', K4⟩
      case round =>
        obtain ⟨k2, hk2, rfl, ⟨F, hc⟩, hbs⟩ := hrel
        clear O4' K4
        by_cases cl : k2 < min c2 300
        · rcases h2 with ⟨e, _⟩ | ⟨vb, off, _, e, _, _, hbig, hcell⟩
          · omega
          cases e
          have c1 : wr.cell? ⟨vb, off + k2, none⟩ = some (.int .u16 (y2 k2 : Nat)) := cell_bel (W3.trans hbs) (hcell k2 (by omega))
          have kI : (k2 : Int) < (c2 : Int) := by omega
          have kT : (k2 : Int) < 300 := by omega
          have k0 : (0 : Int) ≤ (k2 : Int) := by omega
          have x1 := hy2 k2
          have y1 : ((y2 k2 : Nat) : Int) % 301 = ((y2 k2 % 301 : Nat) : Int) := by omega
          have y2' : Int.tmod ((y2 k2 : Nat) : Int) 301 = ((y2 k2 % 301 : Nat) : Int) := by rw [Int.tmod_eq_emod_of_nonneg (by omega)]; omega
          have hS : Calls Tryd.prog 18 #[.pointer (some ⟨b2, 0, none⟩), .int .i64 ((y2 k2 % 301 : Nat) : Int), .bool true] wr fun e w' => e = .returned (.int .i64 (setE n ((y2 k2 % 301 : Nat) : Int))) ∧ (∃ F, RowIs w' b2 g2 ca2 n F) ∧ Bel wa w' :=
            (set_any _ true wr hc).mono fun e w' ⟨h1, h2, h3⟩ => ⟨h1, ⟨_, h2⟩, h3.below hbs G4 hbs.size⟩
          have y3 : y2 k2 % 301 < 301 := by omega
          clear hc hbs T3 R3 Q3 o3 W3 hcell
          generalize y2 k2 % 301 = Y at *
          generalize y2 k2 = X at *
          generalize setE n (Y : Int) = E at *
          go_wp2_with (go_at_call 18; refine hS.mono ?_; rintro e w3 ⟨rfl, s1, s2⟩)
          go_roundw
          case rel => exact ⟨k2 + 1, by omega, by go_num, s1, s2⟩
          case measure => simp only [intOf]; omega
        · have fin : c2 ≤ k2 ∨ (k2 < c2 ∧ 300 ≤ k2) := by omega
          have cln := clear_any wr hc
          clear cl hc h2
          rcases fin with cA | ⟨cA, cB⟩
          case' inl => have d1 : decide ((k2 : Int) < (c2 : Int)) = false := decide_eq_false (by omega)
          case' inr =>
            have d1 : decide ((k2 : Int) < 300) = false := decide_eq_false (by omega)
            have d2 : (k2 : Int) < (c2 : Int) := by omega
          all_goals
            go_wp2_with (go_at_call 16; (with_reducible refine cln.mono ?_); rintro e w5 ⟨rfl, O5, U5⟩)
            have hb5 : Bel wa w5 := U5.below hbs G4 hbs.size
            clear cln U5 hbs
            rw [← cut_zero f] at O5
            go_loopw [14] (fun i ws => ∃ k : Nat, k ≤ n ∧ i = .int .i64 (k : Nat) ∧ RowIs ws b2 g2 ca2 n (cut f k) ∧ Bel wa ws) (fun i _ => n - (intOf i).toNat)
            case atStart => exact ⟨0, Nat.zero_le _, rfl, O5, hb5⟩
            case round =>
              obtain ⟨k3, hk3, rfl, hc, hbs⟩ := hrel
              clear O5 hb5
              by_cases cm : k3 < n
              · rcases Q3.row with ⟨e, _⟩ | ⟨qb, off, _, e, _, _, hbig, hcell⟩
                · omega
                cases e
                have c1 : wr.cell? ⟨qb, off + k3, none⟩ = some (.bool (f k3)) := cell_bel hbs (hcell k3 cm)
                have kI : (k3 : Int) < (n : Int) := by omega
                have k0 : (0 : Int) ≤ (k3 : Int) := by omega
                have no := cut_no (f := f) (k := k3)
                have yes := cut_set (f := f) cm
                have hid := Lib.hid (And.intro hc hbs)
                have hS := (set_any (k3 : Int) true wr hc).mono (R' := fun e w' => e = .returned (.int .i64 (setE n (k3 : Int))) ∧ RowIs w' b2 g2 ca2 n (setF n (cut f k3) (k3 : Int) true) ∧ Bel wa w') fun e w' ⟨h1, h2, h3⟩ => ⟨h1, h2, h3.below hbs G4 hbs.size⟩
                generalize setE n (k3 : Int) = E at *
                clear hc hbs T3 R3 Q3 o3 W3 hcell
                cases hf : f k3
                · have no := Lib.hid (no hf)
                  rw [hf] at c1
                  clear yes hS
                  go_wp2
                  go_roundw
                  case rel => exact ⟨k3 + 1, by omega, by go_num, by rw [no.out]; exact hid.out.1, hid.out.2⟩
                  case measure => simp only [intOf]; omega
                · rw [yes hf] at hS
                  rw [hf] at c1
                  clear yes no
                  go_wp2_with (go_at_call 18; refine hS.mono ?_; rintro e w3 ⟨rfl, s1, s2⟩)
                  go_roundw
                  case rel => exact ⟨k3 + 1, by omega, by go_num, s1, s2⟩
                  case measure => simp only [intOf]; omega
              · obtain rfl : k3 = n := by omega
                rw [cut_all fit] at hc
                have wo := words_any wr hc
                rw [hNN] at wo
                have o4 := o3.bel hbs
                have T4 := T3.bel hbs
                have W4 := W3.trans hbs
                clear hc R3 Q3 o3 T3 W3 hbs
                go_wp2_with (go_at_call 26; (with_reducible refine wo.mono ?_); rintro e w6 ⟨x, rfl, p1, p2', K6⟩; obtain ⟨xp, xc, rfl⟩ := Row.slice p1.words)
                have u1 := (o4.bel K6).words
                have u2 := p1.words
                have T6 := T4.bel K6
                have W6 := W4.trans K6
                clear wo o4 T4 W4 p1 p2' K6
                go_loopw [16] (fun i ws => ∃ k : Nat, k ≤ N ∧ i = .int .i64 (k : Nat) ∧ Bel w6 ws) (fun i _ => N - (intOf i).toNat)
                case atStart => exact ⟨0, Nat.zero_le _, rfl, Bel.refl _⟩
                case round =>
                  obtain ⟨k4, hk4, rfl, hbt⟩ := hrel
                  by_cases cp : k4 < N
                  · rcases u1 with ⟨e, _⟩ | ⟨vb, off, _, e, _, _, hbig, hcell⟩
                    · omega
                    cases e
                    rcases u2 with ⟨e, _⟩ | ⟨xb, off2, _, e, _, _, hbig2, hcell2⟩
                    · omega
                    cases e
                    have c1 : wr.cell? ⟨vb, off + k4, none⟩ = some (.int .u64 (W f k4 : Nat)) := cell_bel hbt (hcell k4 cp)
                    have c2 : wr.cell? ⟨xb, off2 + k4, none⟩ = some (.int .u64 (W f k4 : Nat)) := cell_bel hbt (hcell2 k4 cp)
                    have kI : (k4 : Int) < (N : Int) := by omega
                    have k0 : (0 : Int) ≤ (k4 : Int) := by omega
                    have hbt' := Lib.hid hbt
                    clear hcell hcell2 hbt T6 W6
                    generalize W f k4 = A at *
                    go_wp2
                    go_quiet (fail)
                    go_wp2
                    go_roundw
                    case rel => exact ⟨k4 + 1, by omega, by go_num, hbt'.out.then_drewN _⟩
                    case measure => simp only [intOf]; omega
                  · obtain rfl : k4 = N := by omega
                    have T7 := T6.bel hbt
                    have W7 := W6.trans hbt
                    clear u1 u2 T6 W6 hbt
                    go_wp2_with (go_at_call 11; (with_reducible refine (awake_any _ T7).mono ?_); rintro e w9 ⟨rfl, K9⟩)
                    go_ret
                    exact ⟨rfl, W7.trans K9⟩

/-! The row. -/
set_option maxRecDepth 100000 in
theorem lifted (os : Os) (started : os.Started) (H : Type) (enc : TypeId × Value → H) :
    ReturnsInHanded {} Tryd.checked os 9 .any (fun w args => (Rows.bitsWordsSpec.pre enc Tryd.prog Tryd.f9 [] false w args ∧ laidMetH Tryd.prog theLaid w) ∧ sizedMet enc Tryd.prog Tryd.f9 (OpenSpec.ofChange Rows.bitsWordsSpec) false w args)
      (Rows.bitsWordsSpec.post enc Tryd.prog Tryd.f9 false true false false) := by
  refine lift_laid (C := Tryd.checked) (X := Met) own started (by kernel_rfl) Tryd.func9 (fun _ _ h => Met.heap h) laidout rowed full (by rw [Tryd.params9]; decide) rfl (by kernel_rfl) Tryd.underlying4
    (fun ds h => by rw [Tryd.params9] at h; match ds, h with | [_, _, _], _ => rfl)
    (ChangeSpec.witness_shaped (enc := enc) (C := Tryd.checked) (os := os) (X := fun w _ => Met w) false (World.doorLaid Tryd.prog 400 os) #[.int .u16 0, .slice none 0 0, .slice none 0 0] 8 rfl (World.shaped_of_RefB (by kernel_rfl) (by kernel_rfl)) (by kernel_rfl) (by kernel_rfl) (by kernel_rfl) (door_met os _)) ?_
  intro W base args ds p hval hA hM
  have hT := hM.tab
  change ∀ (j : Nat) t v, Tryd.f9.params[j]? = some t → args[j]? = some v → Value.okWide Tryd.prog W .any base t v at hval
  change DataW.TrodAll enc Tryd.prog W 0 (fun _ => true) true Tryd.f9.params.toList args.toList ds p at hA
  rw [Tryd.params9] at hA hval
  obtain ⟨v0, vs0, d0, ds0, p0, q0, hargs, rfl, rfl, h0, r0⟩ := trodAll_cons hA
  obtain ⟨v1, vs1, d1, ds1, p1, q1, hargs1, rfl, rfl, h1, r1⟩ := trodAll_cons r0
  obtain ⟨v2, vs2, d2, ds2, p2, q2, hargs2, rfl, rfl, h2, r2⟩ := trodAll_cons r1
  obtain ⟨rfl, rfl, rfl⟩ := trodAll_nil r2
  subst hargs2
  subst hargs1
  obtain rfl : args = #[v0, v1, v2] := by cases args; simp_all
  obtain ⟨m, rfl, hm⟩ := get_u16 (hval 0 41 v0 rfl rfl) h0
  obtain ⟨c, y, hU, hy, _⟩ := get_u16s (hval 1 42 v1 rfl rfl) h1
  obtain ⟨c2, y2, hU2, hy2, _⟩ := get_u16s (hval 2 42 v2 rfl rfl) h2
  exact walk m v1 v2 c c2 y y2 W hT hm hy hy2 hU hU2

theorem over : Rows.bitsWordsRow.holds Tryd.pinned (OpenSpec.ofChange Rows.bitsWordsSpec) :=
  OpenClaim.holds_of_wide 9 Tryd.f9 rfl rfl rfl rfl rfl rfl rfl ⟨rfl, rfl, rfl, rfl, rfl⟩ rfl rfl rfl rfl rfl (by kernel_rfl) Tryd.func9 (by kernel_rfl)
    (of_decide_eq_true (by kernel_rfl)) (by unfold Func.isWrapper; first | (rw [if_pos (by decide +kernel)]; kernel_rfl) | (rw [if_neg (by decide +kernel)]; exact ⟨rfl, rfl⟩))
    (fun os started H enc _ => lifted os started H enc)

/-- The statement. -/
theorem proved : Rows.BitsWordsCardSaid :=
  Claim7.holds_tied_plain_at .later [] [.data] true (true, "2bec7d387b5b36ba45251476c9d028b61f3784eff95d02313db78e625e36b407") false
    over (fun _ h => by cases h) (by kernel_rfl) (fun _ h => by cases h) bitsWords_row_tie rfl ⟨rfl, rfl⟩ (by kernel_rfl) rfl
    (fun f fn hf hfn => by
      obtain rfl : f = 9 := Option.some.inj ((show Tryd.prog.funcNamed "commonage/commonagelaw04.BitsWords" = some 9 by kernel_rfl).symm.trans hf) |>.symm
      obtain rfl : fn = Tryd.f9 := (Option.some.inj (Tryd.func9.symm.trans hfn)).symm
      exact ⟨by kernel_rfl, fun j t ht => by
        rw [Tryd.params9] at ht
        have hm : t ∈ [41, 42, 42] := by simpa using Array.mem_of_getElem? ht
        have hall : ([41, 42, 42].all fun u => !Tryd.prog.wantsStandIn u) = true := by kernel_rfl
        exact (show Tryd.prog.wantsStandIn t = false by simpa using List.all_eq_true.1 hall t hm)⟩)
    (by kernel_rfl)
#print axioms proved
end Go.Proofs.YtebcmfggmlapdaaDoor.bitsWords
