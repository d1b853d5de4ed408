/- What is done to a copy, and to the words that are told, is not seen; a row that is none answers so. -/
import Derived.Test.YtebcmfggmlapdaaDoorOpn
namespace Go.Proofs.YtebcmfggmlapdaaDoor.bitsApart
open Go.ChangeShapes Go.WideShapes Go.ChangeAt Go.RowKit
set_option linter.unusedVariables false

/-! The walk. -/
/-- words, the first k of them turned -/
def turned (f : Nat → Bool) (k j : Nat) : Nat := if j < k then (18446744073709551615 ^^^ W f j) else W f j

theorem own_cell {w : World} {v : Value} {B n j : Nat} {x : Nat → Nat} (h : OwnWords w v B n x) (hj : j < n) :
    ∃ gg cap, v = .slice (some ⟨gg, 0, none⟩) n cap ∧ B ≤ gg ∧ w.cell? ⟨gg, j, none⟩ = some (.int .u64 (x j : Nat)) ∧ w.frozen? ⟨gg, j, none⟩ = false ∧
      ∀ u x', (∀ i, i < n → x' i = if i = j then u else x i) → OwnWords (w.setCell ⟨gg, j, none⟩ (.int .u64 (u : Nat))) v B n x' := by
  obtain ⟨gg, cap, rfl, hB, hlt⟩ := World.ownsRow.form h (by omega)
  refine ⟨gg, cap, rfl, hB, ?_, World.ownsRow.frozenAt h j, fun u x' hx => ?_⟩
  · rw [World.ownsRow.cellAt h j (by omega), List.getElem?_map, List.getElem?_range hj]; rfl
  · have st := (World.ownsRow.stored h j (.int .u64 (u : Nat))).1
    have e : (((List.range n).map fun k => Value.int .u64 (x k : Nat)).set j (.int .u64 (u : Nat))) = (List.range n).map fun k => Value.int .u64 (x' k : Nat) := by
      apply List.ext_getElem?
      intro i
      rw [List.getElem?_set]
      by_cases hi : i < n
      · rw [List.getElem?_map, List.getElem?_map, List.getElem?_range hi]
        simp only [Option.map_some, hx i hi, List.length_map, List.length_range]
        by_cases c : j = i
        · subst c; simp [hi]
        · rw [if_neg c, if_neg (fun e => c e.symm)]
      · have e1 : ((List.range n).map fun k => Value.int .u64 (x k : Nat))[i]? = none := List.getElem?_eq_none (by simp; omega)
        have e2 : ((List.range n).map fun k => Value.int .u64 (x' k : Nat))[i]? = none := List.getElem?_eq_none (by simp; omega)
        rw [e1, e2]
        by_cases c : j = i
        · omega
        · rw [if_neg c]
    rw [e] at st
    exact st

theorem zero_row {w : World} : Hdr (w.alloc (.cells #[.int .i64 0, .slice none 0 0, .bool false] 55)) (.pointer (some ⟨w.heap.size, 0, none⟩)) 0 (.slice none 0 0) false :=
  Or.inr ⟨w.heap.size, rfl, cell_of_row _ _ 0 _ _ _ (heap_alloc_new w _), cell_of_row _ _ 1 _ _ _ (heap_alloc_new w _), cell_of_row _ _ 2 _ _ _ (heap_alloc_new w _)⟩

set_option maxRecDepth 100000 in
set_option maxHeartbeats 8000000 in
theorem walk (m : Nat) (v v2 : Value) (c c2 : Nat) (y y2 : Nat → Nat) (w : World) (hT : TabAt w) (hm : m < 65536) (hy : ∀ j, y j < 65536) (hy2 : ∀ j, y2 j < 65536) (h : U16s w v c y) (h2 : U16s w v2 c2 y2) :
    Calls Tryd.prog 6 #[.int .u16 (m : Nat), v, v2] w fun e w' => e = .returned (.bool true) ∧ Below w.heap.size w w' := by
  have mad := made_any m v c y w hm hy h
  unfold MadeAt at mad
  have hn : m % 301 ≤ 300 := by omega
  generalize m % 301 = n at *
  generalize mk n y (min c 300) = f at *
  obtain ⟨p, cap, rfl⟩ := h.slice
  obtain ⟨p2, cap2, rfl⟩ := Row.slice h2
  clear h
  have hp := hT.pos
  go_enter Tryd.func6, Tryd.ntmps6
  go_wp2_with (first
    | (go_at_call 20; (with_reducible refine mad.mono ?_); rintro e w1 ⟨b1, g1, ca1, q1, rfl, R1, B1, G1, H1, K1⟩)
    | (go_at_call 25; (with_reducible refine (copy_any _ R1).mono ?_); rintro e w2 ⟨b2, g2, ca2, rfl, C2, G2, H2, K2⟩))
  have R2 := R1.bel K2
  have Q2 := B1.bel K2
  have W2 := K1.trans K2
  have z1 := R1.glt
  have z2 := K1.size
  have n12 : g1 ≠ g2 := by omega
  have g20 : g2 ≠ 0 := by omega
  have gw : w.heap.size ≤ g2 := by omega
  clear mad R1 B1 K2 G2 H2 G1 H1
  go_loopw [10] (fun i wr => ∃ k : Nat, k ≤ min c2 300 ∧ i = .int .i64 (k : Nat) ∧ RowIs wr b1 g1 ca1 n f ∧ Bools wr q1 n f ∧ (∃ F, RowIs wr b2 g2 ca2 n F) ∧ Bel w wr) (fun i _ => 300 - (intOf i).toNat)
  case atStart => exact ⟨0, Nat.zero_le _, rfl, R2, Q2, ⟨f, C2⟩, W2⟩
  case round =>
    obtain ⟨k, hk, rfl, hr, hq, ⟨F, hc⟩, hbr⟩ := hrel
    clear R2 Q2 C2 W2
    by_cases ck : k < min c2 300
    · rcases h2 with ⟨e, _⟩ | ⟨vb, off, _, e, _, _, hbig, hcell⟩
      · omega
      cases e
      have c1 : wr.cell? ⟨vb, off + k, none⟩ = some (.int .u16 (y2 k : Nat)) := cell_bel hbr (hcell k (by omega))
      have kI : (k : Int) < (c2 : Int) := by omega
      have kT : (k : Int) < 300 := by omega
      have k0 : (0 : Int) ≤ (k : Int) := by omega
      have x1 := hy2 k
      have y1 : ((y2 k : Nat) : Int) % 301 = ((y2 k % 301 : Nat) : Int) := by omega
      have y2' : Int.tmod ((y2 k : Nat) : Int) 301 = ((y2 k % 301 : Nat) : Int) := by rw [Int.tmod_eq_emod_of_nonneg (by omega)]; omega
      have hS : ∀ is, Calls Tryd.prog 18 #[.pointer (some ⟨b2, 0, none⟩), .int .i64 ((y2 k % 301 : Nat) : Int), .bool is] wr fun e w' => e = .returned (.int .i64 (setE n ((y2 k % 301 : Nat) : Int))) ∧
          RowIs w' b1 g1 ca1 n f ∧ Bools w' q1 n f ∧ (∃ F, RowIs w' b2 g2 ca2 n F) ∧ Bel w w' := fun is =>
        (set_any _ is wr hc).mono fun e w' ⟨h1, h2, h3⟩ => ⟨h1, hr.but h3 hc.at n12, hq.but h3 hc.at, ⟨_, h2⟩, h3.below hbr gw hbr.size⟩
      have k2 : (k : Int) % 2 = ((k % 2 : Nat) : Int) := by omega
      have k3 : Int.tmod (k : Int) 2 = ((k % 2 : Nat) : Int) := by rw [Int.tmod_eq_emod_of_nonneg (by omega)]; omega
      clear hr hq hc hbr
      have y3 : y2 k % 301 < 301 := by omega
      generalize y2 k % 301 = Y at *
      generalize y2 k = X at *
      generalize setE n (Y : Int) = E at *
      rcases (show k % 2 = 0 ∨ k % 2 = 1 by omega) with hpar | hpar
      · rw [hpar] at k2 k3
        go_wp2_with (go_at_call 18; refine (hS _).mono ?_; rintro e w3 ⟨rfl, s1, s2, s3, s4⟩)
        go_roundw
        case rel => exact ⟨k + 1, by omega, by go_num, s1, s2, s3, s4⟩
        case measure => simp only [intOf]; omega
      · rw [hpar] at k2 k3
        go_wp2_with (go_at_call 18; refine (hS _).mono ?_; rintro e w3 ⟨rfl, s1, s2, s3, s4⟩)
        go_roundw
        case rel => exact ⟨k + 1, by omega, by go_num, s1, s2, s3, s4⟩
        case measure => simp only [intOf]; omega
    · have ck' : c2 ≤ k ∨ 300 ≤ k := by omega
      have T3 := hT.bel hbr
      clear h2 hc F hT
      have wo := words_any wr hr
      have hN : nw n ≤ 65536 := by have := hr.1; unfold nw; omega
      have hS0 := fun w2 (K : Bel wr w2) => same_true w2 (hr.bel K) (hq.bel K)
      have hL0 := fun w2 (K : Bel wr w2) => less_none (.pointer (some ⟨b1, 0, none⟩)) w2 (hdr_nil w2)
      have hA0 := fun w2 (K : Bel wr w2) => awake_any w2 (T3.bel K)
      have hgn : there 0 0 = false := by decide
      clear hr hq T3
      generalize hNN : nw n = N at *
      clear hNN
      have fin : c2 ≤ k ∨ (k < c2 ∧ 300 ≤ k) := by omega
      clear ck' ck
      rcases fin with cA | ⟨cA, cB⟩
      case' inl => have d1 : decide ((k : Int) < (c2 : Int)) = false := decide_eq_false (by omega)
      case' inr =>
        have d1 : decide ((k : Int) < 300) = false := decide_eq_false (by omega)
        have d2 : (k : Int) < (c2 : Int) := by omega
      all_goals
        go_wp2_with (go_at_call 26; refine wo.mono ?_; rintro e w3 ⟨u, rfl, o1, o2, K3⟩)
        obtain ⟨up, uc, rfl⟩ := Row.slice o1.words
        go_loopw [12] (fun i ws => ∃ k : Nat, k ≤ N ∧ i = .int .i64 (k : Nat) ∧ OwnWords ws (.slice up N uc) wr.heap.size N (turned f k) ∧ Bel wr ws) (fun i _ => N - (intOf i).toNat)
        case atStart => exact ⟨0, Nat.zero_le _, rfl, o1, K3⟩
        case round =>
          obtain ⟨k', hk', rfl, ho, hbs⟩ := hrel
          clear o1 o2
          by_cases cw : k' < N
          · obtain ⟨gg, cap', e, hB, cc, cf, cs⟩ := own_cell ho cw
            cases e
            have ee : turned f k' k' = W f k' := by unfold turned; rw [if_neg (by omega)]
            rw [ee] at cc
            have hX : bits .xor .u64 (if IntKind.u64.signed = true then -1 else IntKind.u64.max) ((W f k' : Nat) : Int) = ((18446744073709551615 ^^^ W f k' : Nat) : Int) := u64_xor_nat 18446744073709551615 (W f k') (by decide) (W_lt f k')
            have st := cs (18446744073709551615 ^^^ W f k') (turned f (k' + 1)) (fun i hi => by
              unfold turned
              by_cases c : i = k'
              · subst c; rw [if_pos rfl, if_pos (by omega)]
              · rw [if_neg c]
                by_cases d : i < k'
                · rw [if_pos d, if_pos (by omega)]
                · rw [if_neg d, if_neg (by omega)])
            have bs := hbs.setCell (p := ⟨gg, k', none⟩) hB (.int .u64 ((18446744073709551615 ^^^ W f k' : Nat) : Int))
            have kI : (k' : Int) < (N : Int) := by omega
            have k0 : (0 : Int) ≤ (k' : Int) := by omega
            have st := Lib.hid (And.intro st bs)
            clear cs ho hbs bs
            generalize W f k' = A at *
            go_wp2
            go_roundw
            case rel => exact ⟨k' + 1, by omega, by go_num, st.out.1, st.out.2⟩
            case measure => simp only [intOf]; omega
          · obtain rfl : k' = N := by omega
            have n1 := fun w' => next_none (n := 0) (mm := false) 0 false w' (hdr_nil w') (by decide)
            have n2 := fun w' p (h : Hdr w' p 0 (.slice none 0 0) false) => next_none (n := 0) (mm := false) 0 true w' h (by decide)
            have c1 := fun w' => clear_none (n := 0) (m := false) w' (hdr_nil w')
            have c2 := fun w' p (h : Hdr w' p 0 (.slice none 0 0) false) => clear_none (n := 0) (m := false) w' h
            have s1 := fun w' => set_none (n := 0) 0 true w' (hdr_nil w')
            have s2 := fun w' p (h : Hdr w' p 0 (.slice none 0 0) false) => set_none (n := 0) 0 true w' h
            have l1 := fun w' => len_any (n := 0) (m := false) w' (hdr_nil w')
            have l2 := fun w' p (h : Hdr w' p 0 (.slice none 0 0) false) => len_any (n := 0) (m := false) w' h
            have k1 := fun w' => count_none (n := 0) (m := false) w' (hdr_nil w')
            have w1' := fun w' => words_none w' _ (hdr_nil w')
            have g1' := fun w' => get_no (n := 0) (m := false) 0 w' (hdr_nil w') (by decide)
            have p1 := fun w' => copy_none (n := 0) w' (hdr_nil w')
            have p2' := fun w' p (h : Hdr w' p 0 (.slice none 0 0) false) => copy_none (n := 0) w' h
            have zr := zero_row (w := wr)
            have kz := hbs.trans ((Bel.refl wr).alloc (.cells #[.int .i64 0, .slice none 0 0, .bool false] 55))
            clear ho hbs
            go_wp2_with (first
              | (go_at_call 14; (with_reducible refine (n1 _).mono ?_); rintro e w4 ⟨rfl, K4⟩; have Z4 := zr.bel K4; have B4 := kz.trans K4)
              | (go_at_call 14; (with_reducible refine (n2 _ _ Z4).mono ?_); rintro e w5 ⟨rfl, K5⟩; have Z5 := Z4.bel K5; have B5 := B4.trans K5)
              | (go_at_call 16; (with_reducible refine (c1 _).mono ?_); rintro e w' ⟨rfl, hw⟩; rw [hw]; clear hw)
              | (go_at_call 16; (with_reducible refine (c2 _ _ Z5).mono ?_); rintro e w' ⟨rfl, hw⟩; rw [hw]; clear hw)
              | (go_at_call 19; (with_reducible refine (hS0 _ B5).mono ?_); rintro e w6 ⟨rfl, K6⟩; have Z6 := Z5.bel K6; have B6 := B5.trans K6)
              | (go_at_call 18; (with_reducible refine (s1 _).mono ?_); rintro e w' ⟨rfl, hw⟩; rw [hw]; clear hw)
              | (go_at_call 18; (with_reducible refine (s2 _ _ Z6).mono ?_); rintro e w' ⟨rfl, hw⟩; rw [hw]; clear hw)
              | (go_at_call 21; (with_reducible refine (hL0 _ B6).mono ?_); rintro e w' ⟨rfl, hw⟩; rw [hw]; clear hw)
              | (go_at_call 12; (with_reducible refine (l1 _).mono ?_); rintro e w' ⟨rfl, hw⟩; rw [hw]; clear hw)
              | (go_at_call 12; (with_reducible refine (l2 _ _ Z6).mono ?_); rintro e w' ⟨rfl, hw⟩; rw [hw]; clear hw)
              | (go_at_call 24; (with_reducible refine (k1 _).mono ?_); rintro e w' ⟨rfl, hw⟩; rw [hw]; clear hw)
              | (go_at_call 26; (with_reducible refine (w1' _).mono ?_); rintro e w' ⟨rfl, hw⟩; rw [hw]; clear hw)
              | (go_at_call 23; (with_reducible refine (g1' _).mono ?_); rintro e w' ⟨rfl, hw⟩; rw [hw]; clear hw)
              | (go_at_call 25; (with_reducible refine (p1 _).mono ?_); rintro e w' ⟨rfl, hw⟩; rw [hw]; clear hw)
              | (go_at_call 25; (with_reducible refine (p2' _ _ Z6).mono ?_); rintro e w' ⟨rfl, hw⟩; rw [hw]; clear hw)
              | (go_at_call 11; (with_reducible refine (hA0 _ B6).mono ?_); rintro e w7 ⟨rfl, K7⟩))
            go_ret
            exact ⟨rfl, hbr.trans (B6.trans K7)⟩

/-! The row. -/
set_option maxRecDepth 100000 in
theorem lifted (os : Os) (started : os.Started) (H : Type) (enc : TypeId × Value → H) :
    ReturnsInHanded {} Tryd.checked os 6 .any (fun w args => (Rows.bitsApartSpec.pre enc Tryd.prog Tryd.f6 [] false w args ∧ laidMetH Tryd.prog theLaid w) ∧ sizedMet enc Tryd.prog Tryd.f6 (OpenSpec.ofChange Rows.bitsApartSpec) false w args)
      (Rows.bitsApartSpec.post enc Tryd.prog Tryd.f6 false true false false) := by
  refine lift_laid (C := Tryd.checked) (X := Met) own started (by kernel_rfl) Tryd.func6 (fun _ _ h => Met.heap h) laidout rowed full (by rw [Tryd.params6]; decide) rfl (by kernel_rfl) Tryd.underlying4
    (fun ds h => by rw [Tryd.params6] at h; match ds, h with | [_, _, _], _ => rfl)
    (ChangeSpec.witness_shaped (enc := enc) (C := Tryd.checked) (os := os) (X := fun w _ => Met w) false (World.doorLaid Tryd.prog 400 os) #[.int .u16 0, .slice none 0 0, .slice none 0 0] 8 rfl (World.shaped_of_RefB (by kernel_rfl) (by kernel_rfl)) (by kernel_rfl) (by kernel_rfl) (by kernel_rfl) (door_met os _)) ?_
  intro W base args ds p hval hA hM
  have hT := hM.tab
  change ∀ (j : Nat) t v, Tryd.f6.params[j]? = some t → args[j]? = some v → Value.okWide Tryd.prog W .any base t v at hval
  change DataW.TrodAll enc Tryd.prog W 0 (fun _ => true) true Tryd.f6.params.toList args.toList ds p at hA
  rw [Tryd.params6] at hA hval
  obtain ⟨v0, vs0, d0, ds0, p0, q0, hargs, rfl, rfl, h0, r0⟩ := trodAll_cons hA
  obtain ⟨v1, vs1, d1, ds1, p1, q1, hargs1, rfl, rfl, h1, r1⟩ := trodAll_cons r0
  obtain ⟨v2, vs2, d2, ds2, p2, q2, hargs2, rfl, rfl, h2, r2⟩ := trodAll_cons r1
  obtain ⟨rfl, rfl, rfl⟩ := trodAll_nil r2
  subst hargs2
  subst hargs1
  obtain rfl : args = #[v0, v1, v2] := by cases args; simp_all
  obtain ⟨m, rfl, hm⟩ := get_u16 (hval 0 41 v0 rfl rfl) h0
  obtain ⟨c, y, hU, hy, _⟩ := get_u16s (hval 1 42 v1 rfl rfl) h1
  obtain ⟨c2, y2, hU2, hy2, _⟩ := get_u16s (hval 2 42 v2 rfl rfl) h2
  exact walk m v1 v2 c c2 y y2 W hT hm hy hy2 hU hU2

theorem over : Rows.bitsApartRow.holds Tryd.pinned (OpenSpec.ofChange Rows.bitsApartSpec) :=
  OpenClaim.holds_of_wide 6 Tryd.f6 rfl rfl rfl rfl rfl rfl rfl ⟨rfl, rfl, rfl, rfl, rfl⟩ rfl rfl rfl rfl rfl (by kernel_rfl) Tryd.func6 (by kernel_rfl)
    (of_decide_eq_true (by kernel_rfl)) (by unfold Func.isWrapper; first | (rw [if_pos (by decide +kernel)]; kernel_rfl) | (rw [if_neg (by decide +kernel)]; exact ⟨rfl, rfl⟩))
    (fun os started H enc _ => lifted os started H enc)

/-- The statement. -/
theorem proved : Rows.BitsApartCardSaid :=
  Claim7.holds_tied_plain_at .later [] [.data] true (true, "2bec7d387b5b36ba45251476c9d028b61f3784eff95d02313db78e625e36b407") false
    over (fun _ h => by cases h) (by kernel_rfl) (fun _ h => by cases h) bitsApart_row_tie rfl ⟨rfl, rfl⟩ (by kernel_rfl) rfl
    (fun f fn hf hfn => by
      obtain rfl : f = 6 := Option.some.inj ((show Tryd.prog.funcNamed "commonage/commonagelaw04.BitsApart" = some 6 by kernel_rfl).symm.trans hf) |>.symm
      obtain rfl : fn = Tryd.f6 := (Option.some.inj (Tryd.func6.symm.trans hfn)).symm
      exact ⟨by kernel_rfl, fun j t ht => by
        rw [Tryd.params6] at ht
        have hm : t ∈ [41, 42, 42] := by simpa using Array.mem_of_getElem? ht
        have hall : ([41, 42, 42].all fun u => !Tryd.prog.wantsStandIn u) = true := by kernel_rfl
        exact (show Tryd.prog.wantsStandIn t = false by simpa using List.all_eq_true.1 hall t hm)⟩)
    (by kernel_rfl)
#print axioms proved
end Go.Proofs.YtebcmfggmlapdaaDoor.bitsApart
