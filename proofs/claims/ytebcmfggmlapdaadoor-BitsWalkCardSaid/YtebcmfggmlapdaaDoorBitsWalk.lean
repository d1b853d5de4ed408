/- By Next, from behind each on, one gets to all bits of a kind, in order, each once. -/
import Derived.Test.YtebcmfggmlapdaaDoorOpn
namespace Go.Proofs.YtebcmfggmlapdaaDoor.bitsWalk
open Go.ChangeShapes Go.WideShapes Go.ChangeAt Go.RowKit
set_option linter.unusedVariables false

/-! The walk. -/
theorem cnt_skip {h : Nat → Bool} {p : Nat} : ∀ {a : Nat}, p ≤ a → (∀ q, p ≤ q → q < a → h q = false) → cnt h a = cnt h p
  | 0, h1, _ => by rw [show p = 0 by omega]
  | a + 1, h1, h2 => by
    by_cases e : p = a + 1
    · rw [e]
    · show cnt h a + _ = _
      rw [cnt_skip (a := a) (by omega) fun q q1 q2 => h2 q q1 (by omega), h2 a (by omega) (by omega)]
      rfl

theorem cnt_sel_true (f : Nat → Bool) (n : Nat) : cnt (sel f n true) n = cnt f n := cnt_congr fun j hj => by
  unfold sel; rw [decide_eq_true hj]; cases f j <;> rfl
theorem cnt_not (f : Nat → Bool) : ∀ n, cnt (fun j => f j == false) n + cnt f n = n
  | 0 => rfl
  | n + 1 => by
    have := cnt_not f n
    show (cnt (fun j => f j == false) n + if (f n == false) = true then 1 else 0) + (cnt f n + if f n = true then 1 else 0) = n + 1
    generalize cnt (fun j => f j == false) n = A at *
    generalize cnt f n = B at *
    cases f n
    · show A + 1 + (B + 0) = n + 1
      omega
    · show A + 0 + (B + 1) = n + 1
      omega
theorem cnt_sel_false (f : Nat → Bool) (n : Nat) : cnt (sel f n false) n + cnt f n = n := by
  rw [show cnt (sel f n false) n = cnt (fun j => f j == false) n from cnt_congr fun j hj => by unfold sel; rw [decide_eq_true hj, Bool.true_and]]
  exact cnt_not f n

theorem step_none {f : Nat → Bool} {n p : Nat} {is : Bool} (hp : p ≤ n) (h : nxt f n p is = none) : cnt (sel f n is) p = cnt (sel f n is) n := by
  unfold nxt at h
  rcases first_cases (sel f n is) (n - p) p with ⟨_, h2⟩ | ⟨a, h1, _⟩
  · exact (cnt_skip hp fun q q1 q2 => h2 q q1 (by omega)).symm
  · rw [h1] at h; cases h

theorem step_some {f : Nat → Bool} {n p a : Nat} {is : Bool} (hp : p ≤ n) (h : nxt f n p is = some a) : p ≤ a ∧ a < n ∧ f a = is ∧ cnt (sel f n is) (a + 1) = cnt (sel f n is) p + 1 := by
  unfold nxt at h
  rcases first_cases (sel f n is) (n - p) p with ⟨h1, _⟩ | ⟨a', h1, h2, h3, h4, h5⟩
  · rw [h1] at h; cases h
  · rw [h1] at h
    cases h
    have h6 : f a = is := by
      have := h4
      unfold sel at this
      rw [Bool.and_eq_true] at this
      exact eq_of_beq this.2
    refine ⟨h2, by omega, h6, ?_⟩
    show cnt _ a + _ = _
    rw [cnt_skip h2 h5, h4]
    rfl

set_option maxRecDepth 100000 in
set_option maxHeartbeats 8000000 in
theorem walk (m : Nat) (v : Value) (c : Nat) (y : Nat → Nat) (is : Bool) (w : World) (hT : TabAt w) (hm : m < 65536) (hy : ∀ j, y j < 65536) (h : U16s w v c y) :
    Calls Tryd.prog 5 #[.int .u16 (m : Nat), v, .bool is] w fun e w' => e = .returned (.bool true) ∧ Below w.heap.size w w' := by
  have mad := made_any m v c y w hm hy h
  unfold MadeAt at mad
  have hn : m % 301 ≤ 300 := by omega
  generalize m % 301 = n at *
  generalize mk n y (min c 300) = f at *
  obtain ⟨p, cap, rfl⟩ := h.slice
  clear h
  go_enter Tryd.func5, Tryd.ntmps5
  go_wp2_with (go_at_call 20; refine mad.mono ?_; rintro e w1 ⟨b, g, ca, q, rfl, R1, B1, G1, H1, K1⟩)
  have T1 := hT.bel K1
  clear mad B1 G1 H1
  go_loopw [9, 10] (fun a l wr => ∃ k : Nat, k ≤ n ∧ a = .int .i64 (cnt (sel f n is) k : Nat) ∧ l = .int .i64 ((k : Int) - 1) ∧ Bel w1 wr) (fun _ l _ => ((n : Int) - intOf l).toNat)
  case atStart => exact ⟨0, Nat.zero_le _, rfl, rfl, Bel.refl _⟩
  case round =>
    obtain ⟨k, hk, rfl, rfl, hbr⟩ := hrel
    have R2 := R1.bel hbr
    have T2 := T1.bel hbr
    have hs : start ((k : Int) - 1 + 1) = k := by unfold start; omega
    have nx := next_row ((k : Int) - 1 + 1) is wr R2 T2 (by omega)
    rw [hs, show (k : Int) - 1 + 1 = (k : Int) by omega] at nx
    clear hs
    have hc := cnt_le (sel f n is) k
    have hA : decide (((cnt (sel f n is) k : Nat) : Int) ≤ 300) = true := decide_eq_true (by omega)
    have hl : (k : Int) - 1 + 1 = (k : Int) := by omega
    rcases hx : nxt f n k is with _ | a
    · rw [hx] at nx
      have sn := step_none hk hx
      have ct := cnt_sel_true f n
      have cf := cnt_sel_false f n
      have co := fun w' (K : Bel wr w') => count_any w' (R2.bel K)
      have ln := fun w' (K : Bel wr w') => len_any w' (R2.bel K).hdr
      have aw := fun w' (K : Bel wr w') => awake_any w' (T2.bel K)
      clear hx R2 T2
      simp only [nxA, Option.isSome] at nx
      cases is
      · rw [sn] at hA hc ⊢
        have hsub : (n : Int) - ((cnt f n : Nat) : Int) = ((cnt (sel f n false) n : Nat) : Int) := by omega
        have hcn := cnt_le f n
        clear sn ct cf
        generalize cnt (sel f n false) n = A at *
        generalize cnt f n = C at *
        go_wp2_with (first
          | (go_at_call 14; refine nx.mono ?_; rintro e w2 ⟨rfl, K2⟩)
          | (go_at_call 24; refine (co _ K2).mono ?_; rintro e w' ⟨rfl, hw⟩; rw [hw]; clear hw)
          | (go_at_call 12; refine (ln _ K2).mono ?_; rintro e w' ⟨rfl, hw⟩; rw [hw]; clear hw)
          | (go_at_call 11; refine (aw _ K2).mono ?_; rintro e w4 ⟨rfl, K4⟩))
        go_ret
        exact ⟨rfl, K1.trans (hbr.trans (K2.trans K4))⟩
      · rw [sn] at hA hc ⊢
        rw [ct] at hA hc ⊢
        clear sn ct cf
        generalize cnt f n = C at *
        go_wp2_with (first
          | (go_at_call 14; refine nx.mono ?_; rintro e w2 ⟨rfl, K2⟩)
          | (go_at_call 24; refine (co _ K2).mono ?_; rintro e w' ⟨rfl, hw⟩; rw [hw]; clear hw)
          | (go_at_call 12; refine (ln _ K2).mono ?_; rintro e w' ⟨rfl, hw⟩; rw [hw]; clear hw)
          | (go_at_call 11; refine (aw _ K2).mono ?_; rintro e w4 ⟨rfl, K4⟩))
        go_ret
        exact ⟨rfl, K1.trans (hbr.trans (K2.trans K4))⟩
    · rw [hx] at nx
      obtain ⟨s1, s2, s3, s4⟩ := step_some hk hx
      have ge := fun w' (K : Bel wr w') => get_any (a : Int) w' (R2.bel K)
      have ln := fun w' (K : Bel wr w') => len_any w' (R2.bel K).hdr
      have gb : getB n f (a : Int) = is := by unfold getB there; rw [decide_eq_true ⟨by omega, by omega⟩, Bool.true_and, Int.toNat_natCast, s3]
      rw [gb] at ge
      have d1 : decide ((a : Int) ≤ (k : Int) - 1) = false := decide_eq_false (by omega)
      have d2 : decide ((n : Int) ≤ (a : Int)) = false := decide_eq_false (by omega)
      have s4 := Lib.hid s4
      have hbr' := Lib.hid hbr
      clear hx R2 T2 gb s3 hbr
      simp only [nxA, Option.isSome] at nx
      generalize cnt (sel f n is) k = A at *
      go_wp2_with (first
        | (go_at_call 14; refine nx.mono ?_; rintro e w2 ⟨rfl, K2⟩)
        | (go_at_call 23; refine (ge _ K2).mono ?_; rintro e w' ⟨rfl, hw⟩; rw [hw]; clear hw)
        | (go_at_call 12; refine (ln _ K2).mono ?_; rintro e w' ⟨rfl, hw⟩; rw [hw]; clear hw))
      go_roundw
      case rel => exact ⟨a + 1, by omega, by rw [s4.out]; go_num, by go_num, hbr'.out.trans K2⟩
      case measure => simp only [intOf]; omega

/-! The row. -/
set_option maxRecDepth 100000 in
theorem lifted (os : Os) (started : os.Started) (H : Type) (enc : TypeId × Value → H) :
    ReturnsInHanded {} Tryd.checked os 5 .any (fun w args => (Rows.bitsWalkSpec.pre enc Tryd.prog Tryd.f5 [] false w args ∧ laidMetH Tryd.prog theLaid w) ∧ sizedMet enc Tryd.prog Tryd.f5 (OpenSpec.ofChange Rows.bitsWalkSpec) false w args)
      (Rows.bitsWalkSpec.post enc Tryd.prog Tryd.f5 false true false false) := by
  refine lift_laid (C := Tryd.checked) (X := Met) own started (by kernel_rfl) Tryd.func5 (fun _ _ h => Met.heap h) laidout rowed full (by rw [Tryd.params5]; decide) rfl (by kernel_rfl) Tryd.underlying4
    (fun ds h => by rw [Tryd.params5] at h; match ds, h with | [_, _, _], _ => rfl)
    (ChangeSpec.witness_shaped (enc := enc) (C := Tryd.checked) (os := os) (X := fun w _ => Met w) false (World.doorLaid Tryd.prog 400 os) #[.int .u16 0, .slice none 0 0, .bool false] 8 rfl (World.shaped_of_RefB (by kernel_rfl) (by kernel_rfl)) (by kernel_rfl) (by kernel_rfl) (by kernel_rfl) (door_met os _)) ?_
  intro W base args ds p hval hA hM
  have hT := hM.tab
  change ∀ (j : Nat) t v, Tryd.f5.params[j]? = some t → args[j]? = some v → Value.okWide Tryd.prog W .any base t v at hval
  change DataW.TrodAll enc Tryd.prog W 0 (fun _ => true) true Tryd.f5.params.toList args.toList ds p at hA
  rw [Tryd.params5] at hA hval
  obtain ⟨v0, vs0, d0, ds0, p0, q0, hargs, rfl, rfl, h0, r0⟩ := trodAll_cons hA
  obtain ⟨v1, vs1, d1, ds1, p1, q1, hargs1, rfl, rfl, h1, r1⟩ := trodAll_cons r0
  obtain ⟨v2, vs2, d2, ds2, p2, q2, hargs2, rfl, rfl, h2, r2⟩ := trodAll_cons r1
  obtain ⟨rfl, rfl, rfl⟩ := trodAll_nil r2
  subst hargs2
  subst hargs1
  obtain rfl : args = #[v0, v1, v2] := by cases args; simp_all
  obtain ⟨m, rfl, hm⟩ := get_u16 (hval 0 41 v0 rfl rfl) h0
  obtain ⟨c, y, hU, hy, _⟩ := get_u16s (hval 1 42 v1 rfl rfl) h1
  obtain ⟨x, rfl⟩ := get_bool (hval 2 4 v2 rfl rfl) h2
  exact walk m v1 c y x W hT hm hy hU

theorem over : Rows.bitsWalkRow.holds Tryd.pinned (OpenSpec.ofChange Rows.bitsWalkSpec) :=
  OpenClaim.holds_of_wide 5 Tryd.f5 rfl rfl rfl rfl rfl rfl rfl ⟨rfl, rfl, rfl, rfl, rfl⟩ rfl rfl rfl rfl rfl (by kernel_rfl) Tryd.func5 (by kernel_rfl)
    (of_decide_eq_true (by kernel_rfl)) (by unfold Func.isWrapper; first | (rw [if_pos (by decide +kernel)]; kernel_rfl) | (rw [if_neg (by decide +kernel)]; exact ⟨rfl, rfl⟩))
    (fun os started H enc _ => lifted os started H enc)

/-- The statement. -/
theorem proved : Rows.BitsWalkCardSaid :=
  Claim7.holds_tied_plain_at .later [] [.data] true (true, "2bec7d387b5b36ba45251476c9d028b61f3784eff95d02313db78e625e36b407") false
    over (fun _ h => by cases h) (by kernel_rfl) (fun _ h => by cases h) bitsWalk_row_tie rfl ⟨rfl, rfl⟩ (by kernel_rfl) rfl
    (fun f fn hf hfn => by
      obtain rfl : f = 5 := Option.some.inj ((show Tryd.prog.funcNamed "commonage/commonagelaw04.BitsWalk" = some 5 by kernel_rfl).symm.trans hf) |>.symm
      obtain rfl : fn = Tryd.f5 := (Option.some.inj (Tryd.func5.symm.trans hfn)).symm
      exact ⟨by kernel_rfl, fun j t ht => by
        rw [Tryd.params5] at ht
        have hm : t ∈ [41, 42, 4] := by simpa using Array.mem_of_getElem? ht
        have hall : ([41, 42, 4].all fun u => !Tryd.prog.wantsStandIn u) = true := by kernel_rfl
        exact (show Tryd.prog.wantsStandIn t = false by simpa using List.all_eq_true.1 hall t hm)⟩)
    (by kernel_rfl)
#print axioms proved
end Go.Proofs.YtebcmfggmlapdaaDoor.bitsWalk
