/- A class's slots stand one behind the other, all of its size and class, and all classes' slots are all slots; for every input, no condition. -/
import Derived.Test.YtnnbeecjjbnpbaaRowk
import Derived.Test.YtnnbeecjjbnpbaaOpa
import Derived.Test.YtnnbeecjjbnpbaaSaw
import Derived.Deep.RegionHeld3
import Derived.Deep.Cut
import Derived.Deep.CutRange
import Derived.Deep.DeepCutAuto
namespace Go.Proofs.Ytnnbeecjjbnpbaa.slotClasses
open Go.ChangeShapes Go.WideShapes Go.ChangeAt Go.RowKit Go.Deep Go.Joins
set_option linter.unusedVariables false

/-! The walk. -/
set_option maxRecDepth 100000 in
set_option maxHeartbeats 2000000 in
theorem no (v : Value) (c : Cf) (tn : Nat) (w : World) (hI : IsCf w v c) (hno : c.great9 ∨ ¬ c.ok) :
    Calls Try.prog 5 #[v, .int .u8 (tn : Nat)] w fun e w' => e = .returned (.bool true) ∧ Bel w w' := by
  have hI0 := hI
  obtain ⟨vc, vt, rfl, hN, hT⟩ := hI
  obtain ⟨p1, c1, rfl, _⟩ := nums_slice hN
  obtain ⟨p2, c2, rfl, _⟩ := tens_slice hT
  have hb0 : ∀ o, Bel w (w.alloc o) := fun o => (Bel.refl w).alloc o
  have hb := hb0 (.cells #[.slice p1 c.n c1, .int .i64 c.page, .slice p2 c.m c2, .int .i64 c.wk, .int .i64 c.gr, .int .i64 c.gn] 25)
  clear hb0 hN hT
  have g0 := Bel.refl (w.alloc (.cells #[.slice p1 c.n c1, .int .i64 c.page, .slice p2 c.m c2, .int .i64 c.wk, .int .i64 c.gr, .int .i64 c.gn] 25))
  generalize hwb : w.alloc (.cells #[.slice p1 c.n c1, .int .i64 c.page, .slice p2 c.m c2, .int .i64 c.wk, .int .i64 c.gr, .int .i64 c.gn] 25) = wb at hb g0
  have gr := fun w1 (g : Bel wb w1) => (great_any _ c w1 (hI0.bel (hb.trans g))).mono fun e w' ⟨a, b⟩ => (⟨a, g.trans b⟩ : _ ∧ Bel wb w')
  have ck := fun w1 (g : Bel wb w1) => (rck_any _ c w1 (hI0.bel (hb.trans g))).mono fun e w' ⟨a, b⟩ => (⟨a, g.trans b⟩ : _ ∧ Bel wb w')
  have aw := fun w1 (g : Bel wb w1) => (awake_any w1).mono fun e w' ⟨a, b⟩ => (⟨a, g.trans b⟩ : _ ∧ Bel wb w')
  have kc := fun W (g : Bel (w.alloc (.cells #[.slice p1 c.n c1, .int .i64 c.page, .slice p2 c.m c2, .int .i64 c.wk, .int .i64 c.gr, .int .i64 c.gn] 25)) W) => cf_at g
  rw [hwb] at kc
  by_cases s : c.great9
  · simp only [decide_eq_true s] at gr
    clear hI0 hno s ck kc
    subst hwb
    go_enter Try.func5, Try.ntmps5
    go_wp2_with (first
      | (go_at_call 7; refine (gr _ (by assumption)).mono ?_; rintro e w1 ⟨rfl, hg1⟩)
      | (go_at_call 8; refine (aw _ (by assumption)).mono ?_; rintro e w2 ⟨rfl, hg2⟩))
    go_ret
    exact ⟨rfl, hb.trans hg2⟩
  · have ok := hno.resolve_left s
    simp only [decide_eq_false s] at gr
    simp only [Cf.checkC_no ok] at ck
    clear hI0 hno s ok
    subst hwb
    go_enter Try.func5, Try.ntmps5
    go_wp2_with (first
      | (go_at_call 7; refine (gr _ (by assumption)).mono ?_; rintro e w1 ⟨rfl, hg1⟩; obtain ⟨k0, k1, k2, k3, k4, k5⟩ := kc _ hg1)
      | (go_at_call 20; refine (ck _ hg1).mono ?_; rintro e w3 ⟨rfl, hg3⟩)
      | (go_at_call 8; refine (aw _ hg3).mono ?_; rintro e w2 ⟨rfl, hg2⟩))
    go_ret
    exact ⟨rfl, hb.trans hg2⟩

set_option maxRecDepth 100000 in
set_option maxHeartbeats 4000000 in
theorem yes (v : Value) (c : Cf) (tn : Nat) (w : World) (hI : IsCf w v c) (hs : ¬ c.great9) (ok : c.ok) (htn : tn ≤ 255) :
    Calls Try.prog 5 #[v, .int .u8 (tn : Nat)] w fun e w' => e = .returned (.bool true) ∧ Bel w w' := by
  have hI0 := hI
  obtain ⟨vc, vt, rfl, hN, hT⟩ := hI
  obtain ⟨p1, c1, rfl, _⟩ := nums_slice hN
  obtain ⟨p2, c2, rfl, _⟩ := tens_slice hT
  have hb0 : ∀ o, Bel w (w.alloc o) := fun o => (Bel.refl w).alloc o
  have hb := hb0 (.cells #[.slice p1 c.n c1, .int .i64 c.page, .slice p2 c.m c2, .int .i64 c.wk, .int .i64 c.gr, .int .i64 c.gn] 25)
  clear hb0
  have g0 := Bel.refl (w.alloc (.cells #[.slice p1 c.n c1, .int .i64 c.page, .slice p2 c.m c2, .int .i64 c.wk, .int .i64 c.gr, .int .i64 c.gn] 25))
  have kc := fun W (g : Bel (w.alloc (.cells #[.slice p1 c.n c1, .int .i64 c.page, .slice p2 c.m c2, .int .i64 c.wk, .int .i64 c.gr, .int .i64 c.gn] 25)) W) => cf_at g
  generalize hwb : w.alloc (.cells #[.slice p1 c.n c1, .int .i64 c.page, .slice p2 c.m c2, .int .i64 c.wk, .int .i64 c.gr, .int .i64 c.gn] 25) = wb at hb g0 kc
  have gr := fun w1 (g : Bel wb w1) => (great_any _ c w1 (hI0.bel (hb.trans g))).mono fun e w' ⟨a, b⟩ => (⟨a, g.trans b⟩ : _ ∧ Bel wb w')
  have ck := fun w1 (g : Bel wb w1) => (rck_any _ c w1 (hI0.bel (hb.trans g))).mono fun e w' ⟨a, b⟩ => (⟨a, g.trans b⟩ : _ ∧ Bel wb w')
  have aw := fun w1 (g : Bel wb w1) => (awake_any w1).mono fun e w' ⟨a, b⟩ => (⟨a, g.trans b⟩ : _ ∧ Bel wb w')
  simp only [decide_eq_false hs] at gr
  simp only [Cf.checkC_ok ok] at ck
  have n8 := Cf.ok_n ok
  have m8 := Cf.ok_m ok
  obtain ⟨t, htm, ht⟩ : ∃ t : Nat, (tn : Int) % (c.m : Int) = (t : Int) ∧ t < c.m := ⟨tn % c.m, by omega, Nat.mod_lt _ (by omega)⟩
  have nw := fun w1 (g : Bel wb w1) => pnew_yes _ c t w1 (hI0.bel (hb.trans g)) ok ht
  obtain ⟨b1, off1, hp1, hF⟩ : ∃ b1 off1, p1 = some ⟨b1, off1, none⟩ ∧ ∀ j, j < c.n → w.cell? ⟨b1, off1 + j, none⟩ = some (.int .i64 (c.F j)) := by
    rcases hN with ⟨e, _⟩ | ⟨b1, off1, cap1, e, _, _, _, hF⟩
    · omega
    · injection e with e; exact ⟨b1, off1, e, hF⟩
  obtain ⟨b2, off2, hp2, hQ⟩ : ∃ b2 off2, p2 = some ⟨b2, off2, none⟩ ∧ w.cell? ⟨b2, off2 + t * 4, none⟩ = some (.int .i64 (c.Q t)) := by
    rcases hT with ⟨e, _⟩ | ⟨b2, off2, cap2, e, _, _, _, hT⟩
    · omega
    · injection e with e; exact ⟨b2, off2, e, (hT t ht).1⟩
  subst hp1
  subst hp2
  have hca := fun (k : Nat) (hk : k < c.n) => Cf.pl_cast ok ht hk
  have hq := Cf.ok_Q ok ht
  have hFk := fun (k : Nat) (hk : k < c.n) => Cf.ok_F ok hk
  have hPl := Cf.pl_ok ok ht
  obtain ⟨P, hP⟩ : ∃ P, c.pl t = P := ⟨_, rfl⟩
  have hn : (c.pl t).n = c.n := rfl
  rw [hP] at nw hca hPl hn
  have hsl : ∀ k, k < c.n → IntKind.i64.wrap ((c.Q t).tdiv ((P.f k : Nat) : Int)) = ((P.s k : Nat) : Int) := fun k hk => by
    have e1 := (hca k hk).1
    have e4 := (hca k hk).2.2.2.1
    have := hPl.2.2.2.2.2 k (by rw [hn]; exact hk)
    rw [e4, Int.tdiv_eq_ediv_of_nonneg (by omega), e1]
    rw [show c.Q t / c.F k = c.slots t k from rfl, ← e1, IntKind.wrap_i64]; omega
  have hid := Lib.hid (And.intro hPl (And.intro hn (And.intro hca (And.intro hsl (And.intro hF (And.intro hQ (And.intro hFk hb)))))))
  clear hN hT hI0 hs ok hPl hn hca hsl hF hQ hFk hP
  subst hwb
  have m1 : (1 : Int) ≤ (c.m : Int) := by omega
  have mI : (c.m : Int) ≤ 8 := by omega
  have xI : (tn : Int) ≤ 255 := by omega
  have x0 : (0 : Int) ≤ (tn : Int) := by omega
  have tI : (t : Int) < (c.m : Int) := by omega
  have tz : (0 : Int) ≤ (t : Int) := by omega
  go_enter Try.func5, Try.ntmps5
  go_upto_region 4 with (first
    | (go_at_call 7; refine (gr _ (by assumption)).mono ?_; rintro e w1 ⟨rfl, hg1⟩; obtain ⟨k0, k1, k2, k3, k4, k5⟩ := kc _ hg1)
    | (go_at_call 20; refine (ck _ hg1).mono ?_; rintro e w2 ⟨rfl, hg2⟩; obtain ⟨k0, k1, k2, k3, k4, k5⟩ := kc _ hg2))
  simp only [htm]
  have nw2 := nw _ hg2
  go_wp2_with (go_at_call 9; refine nw2.mono ?_; rintro e w3 ⟨⟨p, rfl, hP3⟩, hg3⟩)
  have hg3 := hg2.trans hg3
  have hid3 := Lib.hid hP3
  have P3 : ∀ W, Bel w3 W → IsPlan W (.pointer (some p)) P := fun W g => hP3.bel g
  have hidP := Lib.hid P3
  clear nw nw2 gr ck hg1 hg2 k0 k1 k2 k3 k4 k5 hP3 P3 htm
  go_loopw [8, 9] (fun a i wr => ∃ k : Nat, k ≤ c.n ∧ i = .int .i64 (k : Nat) ∧ a = .int .i64 (P.fo k : Nat) ∧ Bel w3 wr) (fun _ i _ => c.n - (intOf i).toNat)
  case atStart => exact ⟨0, Nat.zero_le _, rfl, rfl, Bel.refl _⟩
  case round =>
    obtain ⟨k, hk, rfl, rfl, hbr⟩ := hrel
    obtain ⟨k0, k1, k2, k3, k4, k5⟩ := kc _ (hg3.trans hbr)
    have hPl := hid.out.1
    have hn := hid.out.2.1
    by_cases ck : k < c.n
    · have po := pof _ P wr (hidP.out _ hbr) hPl (k : Nat) ⟨by omega, by omega⟩
      obtain ⟨e1, e2, e3⟩ := Pl.of_ok (P := P) (k := k) (by omega)
      rw [e1, e2, e3] at po
      have hfo : P.fo k + P.s k ≤ P.S := by rw [← Pl.fo_succ]; exact Pl.fo_le (by omega)
      have bS := hPl.2.1
      have bs := (hPl.2.2.2.2.2 k (by omega)).1
      have bf := (hPl.2.2.2.2.2 k (by omega)).2.2.2.1
      have f2 := hPl.1.f2 k (by omega)
      have wq := hid.out.2.2.2.1 k ck
      have cF0 := cell_bel hid.out.2.2.2.2.2.2.2 (hid.out.2.2.2.2.1 k ck)
      have cQ0 := cell_bel hid.out.2.2.2.2.2.2.2 hid.out.2.2.2.2.2.1
      rw [← (hid.out.2.2.1 k ck).2.2.2.1] at cF0
      have efs : P.fo (k + 1) = P.fo k + P.s k := rfl
      have hcl := fun j (hj : j < P.s k) => Pl.cls_at (P := P) (k := k) (by omega) hj
      have hsz := fun j (hj : j < P.s k) => Pl.sz_at (P := P) (k := k) (by omega) hj
      have hpc := fun j (hj : j < P.s k) (W : World) (g : Bel w3 W) => pclass _ P W (hidP.out _ g) hPl ((P.fo k + j : Nat) : Int) ⟨by omega, by omega⟩
      have hps := fun j (hj : j < P.s k) (W : World) (g : Bel w3 W) => psize _ P W (hidP.out _ g) hPl ((P.fo k + j : Nat) : Int) ⟨by omega, by omega⟩
      have hpc2 : ∀ j (hj : j < P.s k) (W : World) (g : Bel w3 W), Calls Try.prog 25 #[.pointer (some p), .int .i64 ((P.fo k + j : Nat) : Int)] W fun e w' => e = .returned (.tuple #[.int .i64 (k : Nat), .int .i64 0]) ∧ Bel W w' := fun j hj W g => by
        have := hpc j hj W g
        rw [Pl.slR_ok (by omega), Pl.slE_ok (by omega), hcl j hj] at this
        exact this
      have hps2 : ∀ j (hj : j < P.s k) (W : World) (g : Bel w3 W), Calls Try.prog 22 #[.pointer (some p), .int .i64 ((P.fo k + j : Nat) : Int)] W fun e w' => e = .returned (.tuple #[.int .i64 (P.f k : Nat), .int .i64 0]) ∧ Bel W w' := fun j hj W g => by
        have := hps j hj W g
        rw [Pl.slR_ok (by omega), Pl.slE_ok (by omega), hsz j hj] at this
        exact this
      obtain ⟨a, ha⟩ : ∃ a, P.fo k = a := ⟨_, rfl⟩
      obtain ⟨s, hss⟩ : ∃ s, P.s k = s := ⟨_, rfl⟩
      obtain ⟨f, hf⟩ : ∃ f, P.f k = f := ⟨_, rfl⟩
      rw [ha, hss] at po hfo efs
      rw [hss, hf] at wq
      rw [hf] at cF0 f2 bf
      rw [hss] at bs
      simp only [ha, hss, hf] at hpc2 hps2
      rw [ha]
      have a64 : a ≤ 32768 := by omega
      have hidk := Lib.hid (And.intro hpc2 (And.intro hps2 (And.intro efs (And.intro cF0 (And.intro cQ0 hbr)))))
      have kI : (k : Int) < (c.n : Int) := by omega
      have kz : (0 : Int) ≤ (k : Int) := by omega
      have cK := cell_bel (hg3.trans hbr) cF0
      have cQ := cell_bel (hg3.trans hbr) cQ0
      clear hfo efs hcl hsz hpc hps hpc2 hps2 ha hss hf e1 e2 e3 cF0 cQ0 hPl hn
      go_wp2_with (go_at_call 13; refine po.mono ?_; rintro e w4 ⟨rfl, hg4⟩)
      have hb4 := hidk.out.2.2.2.2.2.trans hg4
      have hg5 := hg3.trans hb4
      obtain ⟨k0, k1, k2, k3, k4, k5⟩ := kc _ hg5
      have cK := cell_bel hg5 hidk.out.2.2.2.1
      have cQ := cell_bel hg5 hidk.out.2.2.2.2.1
      go_quiet (fail)
      go_upto_region 15 with fail
      obtain ⟨wd, hwd⟩ : ∃ wd, w4.drewN nq = wd := ⟨_, rfl⟩
      rw [hwd]
      have gd : Bel w4 wd := hwd ▸ Bel.drewN w4 nq
      have hb5 := hb4.trans gd
      clear hwd gd hb4 hg5 k0 k1 k2 k3 k4 k5 cK cQ po hg4 hbr
      go_loopw [13] (fun i wr => ∃ j : Nat, j ≤ s ∧ i = .int .i64 ((a + j : Nat) : Int) ∧ Bel w3 wr) (fun i _ => a + s - (intOf i).toNat)
      case atStart => exact ⟨0, Nat.zero_le _, rfl, hb5⟩
      case round =>
        obtain ⟨j, hj, rfl, hbr⟩ := hrel
        have hg5 := hg3.trans hbr
        obtain ⟨k0, k1, k2, k3, k4, k5⟩ := kc _ hg5
        have cK := cell_bel hg5 hidk.out.2.2.2.1
        obtain ⟨i, hi⟩ : ∃ i, a + j = i := ⟨_, rfl⟩
        rw [hi]
        by_cases cj : j < s
        · have q1 := hidk.out.1 j cj wr hbr
          have q2 := fun W g => hidk.out.2.1 j cj W g
          rw [hi] at q1
          simp only [hi] at q2
          have d1 : decide ((i : Int) < (a : Int) + (s : Int)) = true := decide_eq_true (by omega)
          have d2 : decide (i < a + s) = true := decide_eq_true (by omega)
          have i64 : i ≤ 40000 := by omega
          have hidi := Lib.hid hi
          clear hi
          go_wp2_with (first
            | (go_at_call 25; refine q1.mono ?_; rintro e w6 ⟨rfl, hg6⟩; have hb6 := hbr.trans hg6)
            | (go_at_call 22; refine (q2 _ hb6).mono ?_; rintro e w7 ⟨rfl, hg7⟩; have hb7 := hb6.trans hg7; obtain ⟨l0, l1, l2, l3, l4, l5⟩ := kc _ (hg3.trans hb7); have cK7 := cell_bel (hg3.trans hb7) hidk.out.2.2.2.1))
          go_roundw
          case rel => exact ⟨j + 1, by omega, by have := hidi.out; go_num, hb7⟩
          case measure => have := hidi.out; simp only [intOf]; omega
        · have d1 : decide ((i : Int) < (a : Int) + (s : Int)) = false := decide_eq_false (by omega)
          have d2 : decide (i < a + s) = false := decide_eq_false (by omega)
          clear hi
          go_wp2
          go_roundw
          case rel => exact ⟨k + 1, by omega, by go_num, by rw [hidk.out.2.2.1]; go_num, hbr⟩
          case measure => simp only [intOf]; omega
    · obtain rfl : k = c.n := by omega
      have po := pof _ P wr (hidP.out _ hbr) hPl ((c.n : Nat) : Int) ⟨by omega, by omega⟩
      obtain ⟨e1, e2, e3⟩ := Pl.of_not (P := P) (k := ((c.n : Nat) : Int)) (by unfold Pl.hasK; omega)
      rw [e1, e2, e3] at po
      have eS : P.fo c.n = P.S := by rw [← hn]; rfl
      rw [eS]
      have sl := fun W (g : Bel w3 W) => pslots _ P W (hidP.out _ g) hPl
      have bS := hPl.2.1
      generalize P.S = S at *
      clear e1 e2 e3 eS hPl hn
      go_wp2_with (first
        | (go_at_call 13; refine po.mono ?_; rintro e w4 ⟨rfl, hg4⟩; have hb4 := hbr.trans hg4)
        | (go_at_call 15; refine (sl _ hb4).mono ?_; rintro e w5 ⟨rfl, hg5⟩; have hb5 := hb4.trans hg5)
        | (go_at_call 8; refine (aw _ (hg3.trans hb5)).mono ?_; rintro e w6 ⟨rfl, hg6⟩))
      go_ret
      exact ⟨rfl, hid.out.2.2.2.2.2.2.2.trans hg6⟩

theorem walk (v : Value) (c : Cf) (tn : Nat) (w : World) (hI : IsCf w v c) (htn : tn ≤ 255) :
    Calls Try.prog 5 #[v, .int .u8 (tn : Nat)] w fun e w' => e = .returned (.bool true) ∧ Bel w w' := by
  by_cases s : c.great9
  · exact no v c tn w hI (Or.inl s)
  · by_cases ok : c.ok
    · exact yes v c tn w hI s ok htn
    · exact no v c tn w hI (Or.inr ok)

/-! The row. -/
set_option maxRecDepth 100000 in
theorem lifted (os : Os) (started : os.Started) (H : Type) (enc : TypeId × Value → H) :
    ReturnsInHanded {} Try.checked os 5 .any (Rows.slotClassesSpec.pre6 enc Try.prog Try.f5 Rows.slotClassesRow.domain false) (Rows.slotClassesSpec.post enc Try.prog Try.f5 false true false false) := by
  refine lift_law (C := Try.checked) own started (by kernel_rfl) Try.func5 laid rowed full (by rw [Try.params5]; decide) rfl (by kernel_rfl) Try.underlying4
    (fun ds h => by rw [Try.params5] at h; match ds, h with | [_, _], _ => rfl)
    (ChangeSpec.witness6 (enc := enc) (C := Try.checked) false ⟨#[], #[.agg #[.slice none 0 0, .int .i64 0, .slice none 0 0, .int .i64 0, .int .i64 0, .int .i64 0], .int .u8 0], []⟩ 8 (by kernel_rfl) (by kernel_rfl) (by kernel_rfl) (by kernel_rfl)) ?_
  intro W base args ds p hval hA
  change ∀ (j : Nat) t v, Try.f5.params[j]? = some t → args[j]? = some v → Value.okWide Try.prog W .any base t v at hval
  change DataW.TrodAll enc Try.prog W 0 (fun _ => true) true Try.f5.params.toList args.toList ds p at hA
  rw [Try.params5] at hA hval
  obtain ⟨v0, vs0, d0, ds0, p0, q0, hargs, rfl, rfl, h0, r0⟩ := trodAll_cons hA
  obtain ⟨v1, vs1, d1, ds1, p1, q1, hargs1, rfl, rfl, h1, r1⟩ := trodAll_cons r0
  obtain ⟨rfl, rfl, rfl⟩ := trodAll_nil r1
  subst hargs1
  obtain rfl : args = #[v0, v1] := by cases args; simp_all
  obtain ⟨c, hI, _⟩ := get_cf (hval 0 25 v0 rfl rfl) h0
  obtain ⟨tn, rfl, htn⟩ := get_u8 Try.underlying5 (hval 1 5 v1 rfl rfl) h1
  exact walk v0 c tn W hI htn

theorem over : Rows.slotClassesRow.holds Try.pinned (OpenSpec.ofChange Rows.slotClassesSpec) :=
  OpenClaim.holds_of_wide 5 Try.f5 rfl rfl rfl rfl rfl rfl rfl ⟨rfl, rfl, rfl, rfl, rfl⟩ rfl rfl rfl rfl rfl (by kernel_rfl) Try.func5 (by kernel_rfl)
    (of_decide_eq_true (by kernel_rfl)) (by unfold Func.isWrapper; first | (rw [if_pos (by decide +kernel)]; kernel_rfl) | (rw [if_neg (by decide +kernel)]; exact ⟨rfl, rfl⟩))
    (fun os started H enc _ => lifted os started H enc)

/-- The statement. -/
theorem proved : Rows.SlotClassesSaid :=
  over
#print axioms proved
end Go.Proofs.Ytnnbeecjjbnpbaa.slotClasses
