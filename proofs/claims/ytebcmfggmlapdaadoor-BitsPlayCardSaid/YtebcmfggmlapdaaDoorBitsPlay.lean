/- A row has the document's bits, and tells them, whatever is done. -/
import Derived.Test.YtebcmfggmlapdaaDoorAct
namespace Go.Proofs.YtebcmfggmlapdaaDoor.bitsPlay
open Go.ChangeShapes Go.WideShapes Go.ChangeAt Go.RowKit
set_option linter.unusedVariables false

/-! The walk. -/
theorem act_cells {w W' : World} {x0 x1 x2 : Value} {t : TypeId} {g : Nat} (hg : g < w.heap.size) (h : But g (w.alloc (.cells #[x0, x1, x2] t)) W') :
    W'.cell? ⟨w.heap.size, 0, none⟩ = some x0 ∧ W'.cell? ⟨w.heap.size, 1, none⟩ = some x1 ∧ W'.cell? ⟨w.heap.size, 2, none⟩ = some x2 := by
  have hb : W'.heap[w.heap.size]? = some (.cells #[x0, x1, x2] t (0, 0)) := by
    rw [h.2.2.2.2 w.heap.size (by rw [size_alloc1]; omega) (by omega)]
    exact heap_alloc_new w _
  exact ⟨cell_of_row _ _ 0 _ _ _ hb, cell_of_row _ _ 1 _ _ _ hb, cell_of_row _ _ 2 _ _ _ hb⟩

set_option maxRecDepth 100000 in
set_option maxHeartbeats 8000000 in
theorem out (x : Int) (v : Value) (w : World) (hT : TabAt w) (h : x < 0 ∨ 65536 < x) :
    Calls Tryd.prog 3 #[.int .i64 x, v] w fun e w' => e = .returned (.bool true) ∧ Below w.heap.size w w' := by
  have nb := new_bad x w h
  by_cases h0 : x < 0
  · have d : decide (x < 0) = true := decide_eq_true h0
    go_enter Tryd.func3, Tryd.ntmps3
    go_wp2_with (first
      | (go_at_call 10; (with_reducible refine nb.mono ?_); rintro e w' ⟨rfl, hw⟩; rw [hw]; clear hw)
      | (go_at_call 11; (with_reducible refine (awake_any _ hT).mono ?_); rintro e w4 ⟨rfl, K4⟩))
    go_ret
    exact ⟨rfl, K4⟩
  · have d : decide (x < 0) = false := decide_eq_false h0
    have d2 : decide (65536 < x) = true := decide_eq_true (by omega)
    go_enter Tryd.func3, Tryd.ntmps3
    go_wp2_with (first
      | (go_at_call 10; (with_reducible refine nb.mono ?_); rintro e w' ⟨rfl, hw⟩; rw [hw]; clear hw)
      | (go_at_call 11; (with_reducible refine (awake_any _ hT).mono ?_); rintro e w4 ⟨rfl, K4⟩))
    go_ret
    exact ⟨rfl, K4⟩

set_option maxRecDepth 100000 in
set_option maxHeartbeats 8000000 in
theorem big (n : Nat) (v : Value) (w : World) (hT : TabAt w) (h0 : 300 < n) (h1 : n ≤ 65536) :
    Calls Tryd.prog 3 #[.int .i64 (n : Nat), v] w fun e w' => e = .returned (.bool true) ∧ Below w.heap.size w w' := by
  have no := new_ok n h1 w
  unfold NewRow at no
  have d : decide ((n : Int) < 0) = false := decide_eq_false (by omega)
  have d2 : decide (65536 < (n : Int)) = false := decide_eq_false (by omega)
  have d3 : decide (300 < (n : Int)) = true := decide_eq_true (by omega)
  go_enter Tryd.func3, Tryd.ntmps3
  go_wp2_with (first
    | (go_at_call 10; (with_reducible refine no.mono ?_); rintro e w1 ⟨b, g, ca, rfl, R1, G1, H1, K1⟩)
    | (go_at_call 12; (with_reducible refine (len_any _ R1.hdr).mono ?_); rintro e w' ⟨rfl, hw⟩; rw [hw]; clear hw)
    | (go_at_call 11; (with_reducible refine (awake_any _ (hT.bel K1)).mono ?_); rintro e w4 ⟨rfl, K4⟩))
  go_ret
  exact ⟨rfl, K1.trans K4⟩

set_option maxRecDepth 100000 in
set_option maxHeartbeats 8000000 in
theorem small (n : Nat) (v : Value) (c : Nat) (A : Nat → Nat × Int × Bool) (w : World) (hT : TabAt w) (hA : Acts w v c A) (h0 : n ≤ 300) :
    Calls Tryd.prog 3 #[.int .i64 (n : Nat), v] w fun e w' => e = .returned (.bool true) ∧ Below w.heap.size w w' := by
  have no := new_ok n (by omega) w
  unfold NewRow at no
  have rn := fun w => rnew_any n (by omega) w
  have d : decide ((n : Int) < 0) = false := decide_eq_false (by omega)
  have d2 : decide (65536 < (n : Int)) = false := decide_eq_false (by omega)
  have d3 : decide (300 < (n : Int)) = false := decide_eq_false (by omega)
  obtain ⟨p, cap, rfl⟩ := hA.slice
  have hp := hT.pos
  go_enter Tryd.func3, Tryd.ntmps3
  go_wp2_with (first
    | (go_at_call 10; (with_reducible refine no.mono ?_); rintro e w1 ⟨b, g, ca, rfl, R1, G1, H1, K1⟩)
    | (go_at_call 12; (with_reducible refine (len_any _ R1.hdr).mono ?_); rintro e w' ⟨rfl, hw⟩; rw [hw]; clear hw)
    | (go_at_call 13; (with_reducible refine (rn _).mono ?_); rintro e w2 ⟨q, rfl, Q2, K2⟩))
  have R2 := R1.bel K2
  have W2 := K1.trans K2
  clear no R1 K1 K2
  go_loopw [7, 8] (fun a i wr => ∃ k : Nat, k ≤ min c 100 ∧ i = .int .i64 (k : Nat) ∧ (∃ F, RowIs wr b g ca n F ∧ Bools wr a n F) ∧ Bel w wr) (fun _ i _ => 100 - (intOf i).toNat)
  case atStart => exact ⟨0, Nat.zero_le _, rfl, ⟨_, R2, Q2⟩, W2⟩
  case round =>
    obtain ⟨k, hk, rfl, ⟨F, hr, hq⟩, hbr⟩ := hrel
    clear R2 Q2 W2
    by_cases ck : k < min c 100
    · rcases hA with ⟨e, _⟩ | ⟨vb, off, _, e, _, _, hbig, hcell⟩
      · omega
      cases e
      obtain ⟨e0, e1, e2, b0, b1, b2⟩ := hcell k (by omega)
      have f0 := cell_bel hbr e0
      have f1 := cell_bel hbr e1
      have f2 := cell_bel hbr e2
      have kI : (k : Int) < (c : Int) := by omega
      have kT : (k : Int) < 100 := by omega
      have k0 : (0 : Int) ≤ (k : Int) := by omega
      clear hcell e0 e1 e2
      generalize (A k).1 = X at *
      generalize (A k).2.1 = I at *
      generalize (A k).2.2 = S at *
      have q1 : (X : Int) % 4 = ((X % 4 : Nat) : Int) := by omega
      have q2 : Int.tmod (X : Int) 4 = ((X % 4 : Nat) : Int) := by rw [Int.tmod_eq_emod_of_nonneg (by omega)]; omega
      have hgl := hr.glt
      have bu : Bel wr (wr.alloc (.cells #[.int .u8 (X : Nat), .int .i64 I, .bool S] 32)) := (Bel.refl wr).alloc _
      have hr' := hr.bel bu
      have hq' := hq.bel bu
      have hb' := hbr.trans bu
      have cells := fun W' (h : But g (wr.alloc (.cells #[.int .u8 (X : Nat), .int .i64 I, .bool S] 32)) W') => act_cells hgl h
      have T' := hT.bel hb'
      obtain ⟨y0, y1, y2⟩ := cells _ (But.refl g _)
      clear hr hq hbr bu
      rcases (show X % 4 = 0 ∨ X % 4 = 1 ∨ X % 4 = 2 ∨ X % 4 = 3 by omega) with hX | hX | hX | hX
      all_goals
        rw [hX] at q1 q2
      · have st := rset_any I S _ hq' (by omega)
        have se := fun w' (K : Bel _ w') => set_any I S w' (hr'.bel K)
        have fin := fun w1 w2 a (h1 : Bools w1 a n (setF n F I S)) (h2 : RowIs w2 b g ca n (setF n F I S)) (h3 : But g w1 w2) (K : Bel _ w1) => (⟨⟨_, h2, h1.but h3 (hr'.bel K).at⟩, h3.below (Bel.trans hb' K) G1 (Bel.trans hb' K).size⟩ : (∃ F, RowIs w2 b g ca n F ∧ Bools w2 a n F) ∧ Bel w w2)
        have fin := Lib.hid fin
        clear hr' hq' T' hT
        generalize setE n I = E at *
        go_wp2_with (first
          | (go_at_call 17; (with_reducible refine st.mono ?_); rintro e w1 ⟨q', rfl, s1, K1⟩; obtain ⟨z0, z1, z2⟩ := cells _ (Bel.but K1 g))
          | (go_at_call 18; (with_reducible refine (se _ K1).mono ?_); rintro e w2 ⟨rfl, s2, s3⟩; have s4 := Lib.hid (fin.out _ _ _ s1 s2 s3 K1)))
        go_roundw
        case rel => exact ⟨k + 1, by omega, by go_num, s4.out.1, s4.out.2⟩
        case measure => simp only [intOf]; omega
      · have st := rset_any I S _ hq' (by omega)
        have se := fun w' (K : Bel _ w') => set_any I S w' (hr'.bel K)
        have fin := fun w1 w2 a (h1 : Bools w1 a n (setF n F I S)) (h2 : RowIs w2 b g ca n (setF n F I S)) (h3 : But g w1 w2) (K : Bel _ w1) => (⟨⟨_, h2, h1.but h3 (hr'.bel K).at⟩, h3.below (Bel.trans hb' K) G1 (Bel.trans hb' K).size⟩ : (∃ F, RowIs w2 b g ca n F ∧ Bools w2 a n F) ∧ Bel w w2)
        have fin := Lib.hid fin
        clear hr' hq' T' hT
        generalize setE n I = E at *
        go_wp2_with (first
          | (go_at_call 17; (with_reducible refine st.mono ?_); rintro e w1 ⟨q', rfl, s1, K1⟩; obtain ⟨z0, z1, z2⟩ := cells _ (Bel.but K1 g))
          | (go_at_call 18; (with_reducible refine (se _ K1).mono ?_); rintro e w2 ⟨rfl, s2, s3⟩; have s4 := Lib.hid (fin.out _ _ _ s1 s2 s3 K1)))
        go_roundw
        case rel => exact ⟨k + 1, by omega, by go_num, s4.out.1, s4.out.2⟩
        case measure => simp only [intOf]; omega
      · have nx := next_row I S _ hr' T' b2
        have rx := fun w' (K : Bel _ w') => rnext_any I S w' (hq'.bel K) (by omega) b2
        have fin := fun w1 (K : Bel _ w1) => (⟨⟨_, hr'.bel K, hq'.bel K⟩, Bel.trans hb' K⟩ : (∃ F, RowIs w1 b g ca n F ∧ Bools w1 u7 n F) ∧ Bel w w1)
        have fin := Lib.hid fin
        clear hr' hq' T' hT
        generalize nxA (nxt F n (start I) S) = E at *
        generalize (nxt F n (start I) S).isSome = D at *
        go_wp2_with (first
          | (go_at_call 14; (with_reducible refine nx.mono ?_); rintro e w1 ⟨rfl, K1⟩; obtain ⟨z0, z1, z2⟩ := cells _ (Bel.but K1 g); have s4 := Lib.hid (fin.out _ K1))
          | (go_at_call 15; (with_reducible refine (rx _ K1).mono ?_); rintro e w' ⟨rfl, hw⟩; rw [hw]; clear hw))
        go_roundw
        case rel => exact ⟨k + 1, by omega, by go_num, s4.out.1, s4.out.2⟩
        case measure => simp only [intOf]; omega
      · by_cases hI : I = 0
        · subst hI
          have cl := clear_any _ hr'
          have fin := fun w1 w2 a (h1 : RowIs w1 b g ca n (fun _ => false)) (h3 : But g _ w1) (h2 : Bools w2 a n (fun _ => false)) (K : Bel w1 w2) => (⟨⟨_, h1.bel K, h2⟩, Bel.below (h3.below hb' G1 hb'.size) K (h3.below hb' G1 hb'.size).size⟩ : (∃ F, RowIs w2 b g ca n F ∧ Bools w2 a n F) ∧ Bel w w2)
          have fin := Lib.hid fin
          clear hr' hq' T' hT
          go_wp2_with (first
            | (go_at_call 16; (with_reducible refine cl.mono ?_); rintro e w1 ⟨rfl, s1, s3⟩)
            | (go_at_call 13; (with_reducible refine (rn _).mono ?_); rintro e w2 ⟨q', rfl, s2, K2⟩; have s4 := Lib.hid (fin.out _ _ _ s1 s3 s2 K2)))
          go_roundw
          case rel => exact ⟨k + 1, by omega, by go_num, s4.out.1, s4.out.2⟩
          case measure => simp only [intOf]; omega
        · have hI1 : decide (I = 0) = false := decide_eq_false hI
          have hI2 : (I == 0) = false := by simpa using hI
          have s4 := Lib.hid (⟨⟨_, hr', hq'⟩, hb'⟩ : (∃ F, RowIs _ b g ca n F ∧ Bools _ u7 n F) ∧ Bel w _)
          clear hr' hq' T' hT
          go_wp2
          go_roundw
          case rel => exact ⟨k + 1, by omega, by go_num, s4.out.1, s4.out.2⟩
          case measure => simp only [intOf]; omega
    · have sm := same_true wr hr hq
      have aw := fun w' (K : Bel wr w') => awake_any w' ((hT.bel hbr).bel K)
      have fin : c ≤ k ∨ (k < c ∧ 100 ≤ k) := by omega
      clear ck hr hq hT rn
      rcases fin with cA | ⟨cA, cB⟩
      case' inl => have d1 : decide ((k : Int) < (c : Int)) = false := decide_eq_false (by omega)
      case' inr =>
        have d1 : decide ((k : Int) < 100) = false := decide_eq_false (by omega)
        have d2' : (k : Int) < (c : Int) := by omega
      all_goals
        go_wp2_with (first
          | (go_at_call 19; (with_reducible refine sm.mono ?_); rintro e w1 ⟨rfl, K1⟩)
          | (go_at_call 11; (with_reducible refine (aw _ K1).mono ?_); rintro e w4 ⟨rfl, K4⟩))
        go_ret
        exact ⟨rfl, hbr.trans (K1.trans K4)⟩

theorem walk (x : Int) (v : Value) (c : Nat) (A : Nat → Nat × Int × Bool) (w : World) (hT : TabAt w) (hA : Acts w v c A) :
    Calls Tryd.prog 3 #[.int .i64 x, v] w fun e w' => e = .returned (.bool true) ∧ Below w.heap.size w w' := by
  by_cases h : x < 0 ∨ 65536 < x
  · exact out x v w hT h
  · obtain ⟨n, rfl⟩ : ∃ n : Nat, x = n := ⟨x.toNat, by omega⟩
    by_cases h3 : 300 < n
    · exact big n v w hT h3 (by omega)
    · exact small n v c A w hT hA (by omega)

/-! The row. -/
set_option maxRecDepth 100000 in
theorem lifted (os : Os) (started : os.Started) (H : Type) (enc : TypeId × Value → H) :
    ReturnsInHanded {} Tryd.checked os 3 .any (fun w args => (Rows.bitsPlaySpec.pre enc Tryd.prog Tryd.f3 [] false w args ∧ laidMetH Tryd.prog theLaid w) ∧ sizedMet enc Tryd.prog Tryd.f3 (OpenSpec.ofChange Rows.bitsPlaySpec) false w args)
      (Rows.bitsPlaySpec.post enc Tryd.prog Tryd.f3 false true false false) := by
  refine lift_laid (C := Tryd.checked) (X := Met) own started (by kernel_rfl) Tryd.func3 (fun _ _ h => Met.heap h) laidout rowed full (by rw [Tryd.params3]; decide) rfl (by kernel_rfl) Tryd.underlying4
    (fun ds h => by rw [Tryd.params3] at h; match ds, h with | [_, _], _ => rfl)
    (ChangeSpec.witness_shaped (enc := enc) (C := Tryd.checked) (os := os) (X := fun w _ => Met w) false (World.doorLaid Tryd.prog 400 os) #[.int .i64 0, .slice none 0 0] 8 rfl (World.shaped_of_RefB (by kernel_rfl) (by kernel_rfl)) (by kernel_rfl) (by kernel_rfl) (by kernel_rfl) (door_met os _)) ?_
  intro W base args ds p hval hA hM
  have hT := hM.tab
  change ∀ (j : Nat) t v, Tryd.f3.params[j]? = some t → args[j]? = some v → Value.okWide Tryd.prog W .any base t v at hval
  change DataW.TrodAll enc Tryd.prog W 0 (fun _ => true) true Tryd.f3.params.toList args.toList ds p at hA
  rw [Tryd.params3] at hA hval
  obtain ⟨v0, vs0, d0, ds0, p0, q0, hargs, rfl, rfl, h0, r0⟩ := trodAll_cons hA
  obtain ⟨v1, vs1, d1, ds1, p1, q1, hargs1, rfl, rfl, h1, r1⟩ := trodAll_cons r0
  obtain ⟨rfl, rfl, rfl⟩ := trodAll_nil r1
  subst hargs1
  obtain rfl : args = #[v0, v1] := by cases args; simp_all
  obtain ⟨x, rfl, x0, x1⟩ := get_i64 (hval 0 3 v0 rfl rfl) h0
  obtain ⟨c, A, hU⟩ := get_acts (hval 1 22 v1 rfl rfl) h1
  exact walk x v1 c A W hT hU

theorem over : Rows.bitsPlayRow.holds Tryd.pinned (OpenSpec.ofChange Rows.bitsPlaySpec) :=
  OpenClaim.holds_of_wide 3 Tryd.f3 rfl rfl rfl rfl rfl rfl rfl ⟨rfl, rfl, rfl, rfl, rfl⟩ rfl rfl rfl rfl rfl (by kernel_rfl) Tryd.func3 (by kernel_rfl)
    (of_decide_eq_true (by kernel_rfl)) (by unfold Func.isWrapper; first | (rw [if_pos (by decide +kernel)]; kernel_rfl) | (rw [if_neg (by decide +kernel)]; exact ⟨rfl, rfl⟩))
    (fun os started H enc _ => lifted os started H enc)

/-- The statement. -/
theorem proved : Rows.BitsPlayCardSaid :=
  Claim7.holds_tied_plain_at .later [] [.data] true (true, "2bec7d387b5b36ba45251476c9d028b61f3784eff95d02313db78e625e36b407") false
    over (fun _ h => by cases h) (by kernel_rfl) (fun _ h => by cases h) bitsPlay_row_tie rfl ⟨rfl, rfl⟩ (by kernel_rfl) rfl
    (fun f fn hf hfn => by
      obtain rfl : f = 3 := Option.some.inj ((show Tryd.prog.funcNamed "commonage/commonagelaw04.BitsPlay" = some 3 by kernel_rfl).symm.trans hf) |>.symm
      obtain rfl : fn = Tryd.f3 := (Option.some.inj (Tryd.func3.symm.trans hfn)).symm
      exact ⟨by kernel_rfl, fun j t ht => by
        rw [Tryd.params3] at ht
        have hm : t ∈ [3, 22] := by simpa using Array.mem_of_getElem? ht
        have hall : ([3, 22].all fun u => !Tryd.prog.wantsStandIn u) = true := by kernel_rfl
        exact (show Tryd.prog.wantsStandIn t = false by simpa using List.all_eq_true.1 hall t hm)⟩)
    (by kernel_rfl)
#print axioms proved
end Go.Proofs.YtebcmfggmlapdaaDoor.bitsPlay
