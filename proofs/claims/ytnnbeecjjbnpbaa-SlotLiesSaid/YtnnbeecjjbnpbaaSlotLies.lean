/- Slots do not touch, At of a slot's address is the slot and all other addresses have none; each slot is in one page, each page has slots of one class; a plan that is none answers so; for every input, no condition. -/
import Derived.Test.YtnnbeecjjbnpbaaRowk
import Derived.Test.YtnnbeecjjbnpbaaOpa
import Derived.Test.YtnnbeecjjbnpbaaSaw
import Derived.Deep.RegionHeld3
import Derived.Deep.Cut
import Derived.Deep.CutRange
import Derived.Deep.DeepCutAuto
namespace Go.Proofs.Ytnnbeecjjbnpbaa.slotLies
open Go.ChangeShapes Go.WideShapes Go.ChangeAt Go.RowKit Go.Deep Go.Joins
set_option linter.unusedVariables false

/-! The walk. -/
set_option maxRecDepth 100000 in
set_option maxHeartbeats 2000000 in
theorem no (v : Value) (c : Cf) (tn : Nat) (w : World) (hI : IsCf w v c) (hno : c.great9 ∨ ¬ c.ok) :
    Calls Try.prog 4 #[v, .int .u8 (tn : Nat)] w fun e w' => e = .returned (.bool true) ∧ Bel w w' := by
  have hI0 := hI
  obtain ⟨vc, vt, rfl, hN, hT⟩ := hI
  obtain ⟨p1, c1, rfl, _⟩ := nums_slice hN
  obtain ⟨p2, c2, rfl, _⟩ := tens_slice hT
  have hb0 : ∀ o, Bel w (w.alloc o) := fun o => (Bel.refl w).alloc o
  have hb := hb0 (.cells #[.slice p1 c.n c1, .int .i64 c.page, .slice p2 c.m c2, .int .i64 c.wk, .int .i64 c.gr, .int .i64 c.gn] 25)
  clear hb0 hN hT
  have g0 := Bel.refl (w.alloc (.cells #[.slice p1 c.n c1, .int .i64 c.page, .slice p2 c.m c2, .int .i64 c.wk, .int .i64 c.gr, .int .i64 c.gn] 25))
  generalize hwb : w.alloc (.cells #[.slice p1 c.n c1, .int .i64 c.page, .slice p2 c.m c2, .int .i64 c.wk, .int .i64 c.gr, .int .i64 c.gn] 25) = wb at hb g0
  have gr := fun w1 (g : Bel wb w1) => (great_any _ c w1 (hI0.bel (hb.trans g))).mono fun e w' ⟨a, b⟩ => (⟨a, g.trans b⟩ : _ ∧ Bel wb w')
  have ck := fun w1 (g : Bel wb w1) => (rck_any _ c w1 (hI0.bel (hb.trans g))).mono fun e w' ⟨a, b⟩ => (⟨a, g.trans b⟩ : _ ∧ Bel wb w')
  have aw := fun w1 (g : Bel wb w1) => (awake_any w1).mono fun e w' ⟨a, b⟩ => (⟨a, g.trans b⟩ : _ ∧ Bel wb w')
  have kc := fun W (g : Bel (w.alloc (.cells #[.slice p1 c.n c1, .int .i64 c.page, .slice p2 c.m c2, .int .i64 c.wk, .int .i64 c.gr, .int .i64 c.gn] 25)) W) => cf_at g
  rw [hwb] at kc
  by_cases s : c.great9
  · simp only [decide_eq_true s] at gr
    clear hI0 hno s ck kc
    subst hwb
    go_enter Try.func4, Try.ntmps4
    go_wp2_with (first
      | (go_at_call 7; refine (gr _ (by assumption)).mono ?_; rintro e w1 ⟨rfl, hg1⟩)
      | (go_at_call 8; refine (aw _ (by assumption)).mono ?_; rintro e w2 ⟨rfl, hg2⟩))
    go_ret
    exact ⟨rfl, hb.trans hg2⟩
  · have ok := hno.resolve_left s
    simp only [decide_eq_false s] at gr
    simp only [Cf.checkC_no ok] at ck
    clear hI0 hno s ok
    subst hwb
    go_enter Try.func4, Try.ntmps4
    go_wp2_with (first
      | (go_at_call 7; refine (gr _ (by assumption)).mono ?_; rintro e w1 ⟨rfl, hg1⟩; obtain ⟨k0, k1, k2, k3, k4, k5⟩ := kc _ hg1)
      | (go_at_call 20; refine (ck _ hg1).mono ?_; rintro e w3 ⟨rfl, hg3⟩)
      | (go_at_call 8; refine (aw _ hg3).mono ?_; rintro e w2 ⟨rfl, hg2⟩))
    go_ret
    exact ⟨rfl, hb.trans hg2⟩

/-- where the slots ahead end -/
def endAt (P : Pl) : Nat → Nat
  | 0 => 0
  | k + 1 => P.ad k + P.sz k
theorem endAt_le {P : Pl} (h : P.Good) {k : Nat} (hk : k < P.S) : endAt P k ≤ P.ad k := by
  cases k with
  | zero => exact Nat.zero_le _
  | succ k => exact Pl.ad_next h hk
theorem endAt_W {P : Pl} (h : P.Good) : endAt P P.S ≤ P.W := by
  cases hS : P.S with
  | zero => exact Nat.zero_le _
  | succ k => exact Pl.ad_words h (by omega)
theorem at_slot {P : Pl} {k : Nat} (hk : k < P.S) : AtR P (P.ad k : Nat) (k : Nat) 0 := Or.inl ⟨k, hk, rfl, rfl, rfl⟩
/-- how many addresses were found -/
theorem found_step {P : Pl} (h : P.Good) (m : Nat) {r e : Int} (hA : AtR P ((m : Int) - 1) r e) :
    (e = 0 ∧ P.below m P.S = P.below (m - 1) P.S + 1) ∨ (e = 7 ∧ P.below m P.S = P.below (m - 1) P.S) := by
  rcases hA with ⟨i, h1, h2, h3, h4⟩ | ⟨h1, h2, h3⟩
  · refine Or.inl ⟨h4, ?_⟩
    have := Pl.below_hit h (a := m - 1) (i := i) (by omega) (Nat.le_refl _) h1
    rw [show m - 1 + 1 = m by omega] at this
    exact this
  · refine Or.inr ⟨h3, ?_⟩
    by_cases c : m = 0
    · subst c; rfl
    · have := Pl.below_no (P := P) (a := m - 1) (n := P.S) fun ⟨i, hi, e⟩ => h1 i hi (by omega)
      rw [show m - 1 + 1 = m by omega] at this
      exact this
theorem below_le (P : Pl) (a : Nat) : ∀ n, P.below a n ≤ n
  | 0 => Nat.le_refl _
  | n + 1 => by
    have := below_le P a n
    show P.below a n + _ ≤ n + 1
    split <;> omega
/-- the slots ahead of a page -/
def ahead (P : Pl) (k : Nat) : Nat := if k < P.T then P.fi k else P.S
theorem ahead_zero {P : Pl} (h : P.Good) : ahead P 0 = 0 := by
  have : 0 < P.T := by
    have := Pl.po_T (P := P) h.one (h.p1 0 h.one)
    omega
  unfold ahead; rw [if_pos this, Pl.fi_zero h]
theorem ahead_at {P : Pl} {k : Nat} (hk : k < P.T) : ahead P k = P.fi k := if_pos hk
theorem ahead_succ {P : Pl} (h : P.Good) {k : Nat} (hk : k < P.T) : ahead P (k + 1) = P.fi k + P.mn k := (Pl.fi_next h hk).symm
theorem ahead_end (P : Pl) : ahead P P.T = P.S := by unfold ahead; rw [if_neg (by omega)]

set_option maxRecDepth 100000 in
set_option maxHeartbeats 8000000 in
theorem yes (v : Value) (c : Cf) (tn : Nat) (w : World) (hI : IsCf w v c) (hs : ¬ c.great9) (ok : c.ok) (htn : tn ≤ 255) :
    Calls Try.prog 4 #[v, .int .u8 (tn : Nat)] w fun e w' => e = .returned (.bool true) ∧ Bel w w' := by
  have hI0 := hI
  obtain ⟨vc, vt, rfl, hN, hT⟩ := hI
  obtain ⟨p1, c1, rfl, _⟩ := nums_slice hN
  obtain ⟨p2, c2, rfl, _⟩ := tens_slice hT
  have hb0 : ∀ o, Bel w (w.alloc o) := fun o => (Bel.refl w).alloc o
  have hb := hb0 (.cells #[.slice p1 c.n c1, .int .i64 c.page, .slice p2 c.m c2, .int .i64 c.wk, .int .i64 c.gr, .int .i64 c.gn] 25)
  clear hb0
  have g0 := Bel.refl (w.alloc (.cells #[.slice p1 c.n c1, .int .i64 c.page, .slice p2 c.m c2, .int .i64 c.wk, .int .i64 c.gr, .int .i64 c.gn] 25))
  have kc := fun W (g : Bel (w.alloc (.cells #[.slice p1 c.n c1, .int .i64 c.page, .slice p2 c.m c2, .int .i64 c.wk, .int .i64 c.gr, .int .i64 c.gn] 25)) W) => cf_at g
  generalize hwb : w.alloc (.cells #[.slice p1 c.n c1, .int .i64 c.page, .slice p2 c.m c2, .int .i64 c.wk, .int .i64 c.gr, .int .i64 c.gn] 25) = wb at hb g0 kc
  have gr := fun w1 (g : Bel wb w1) => (great_any _ c w1 (hI0.bel (hb.trans g))).mono fun e w' ⟨a, b⟩ => (⟨a, g.trans b⟩ : _ ∧ Bel wb w')
  have ck := fun w1 (g : Bel wb w1) => (rck_any _ c w1 (hI0.bel (hb.trans g))).mono fun e w' ⟨a, b⟩ => (⟨a, g.trans b⟩ : _ ∧ Bel wb w')
  have aw := fun w1 (g : Bel wb w1) => (awake_any w1).mono fun e w' ⟨a, b⟩ => (⟨a, g.trans b⟩ : _ ∧ Bel wb w')
  simp only [decide_eq_false hs] at gr
  simp only [Cf.checkC_ok ok] at ck
  have n8 := Cf.ok_n ok
  have m8 := Cf.ok_m ok
  obtain ⟨t, htm, ht⟩ : ∃ t : Nat, (tn : Int) % (c.m : Int) = (t : Int) ∧ t < c.m := ⟨tn % c.m, by omega, Nat.mod_lt _ (by omega)⟩
  have nw := fun w1 (g : Bel wb w1) => pnew_yes _ c t w1 (hI0.bel (hb.trans g)) ok ht
  have hPl := Cf.pl_ok ok ht
  have hpg : c.page = (((c.pl t).g : Nat) : Int) := (Cf.pl_cast ok ht (show 0 < c.n by omega)).2.2.2.2.symm
  obtain ⟨P, hP⟩ : ∃ P, c.pl t = P := ⟨_, rfl⟩
  rw [hP] at nw hPl hpg
  have hid := Lib.hid (And.intro hPl (And.intro hpg hb))
  clear hN hT hI0 hs ok hPl hpg hP
  subst hwb
  have m1 : (1 : Int) ≤ (c.m : Int) := by omega
  have mI : (c.m : Int) ≤ 8 := by omega
  have xI : (tn : Int) ≤ 255 := by omega
  have x0 : (0 : Int) ≤ (tn : Int) := by omega
  have mz : ¬ c.m = 0 := by omega
  have wtn : IntKind.i64.wrap (tn : Int) = (tn : Int) := by rw [IntKind.wrap_i64]; omega
  have wT : (tn : Int).tmod (c.m : Int) = (t : Int) := by rw [Int.tmod_eq_emod_of_nonneg (by omega)]; exact htm
  go_enter Try.func4, Try.ntmps4
  go_upto_region 3 with (first
    | (go_at_call 7; refine (gr _ (by assumption)).mono ?_; rintro e w1 ⟨rfl, hg1⟩; obtain ⟨k0, k1, k2, k3, k4, k5⟩ := kc _ hg1)
    | (go_at_call 20; refine (ck _ hg1).mono ?_; rintro e w2 ⟨rfl, hg2⟩; obtain ⟨k0, k1, k2, k3, k4, k5⟩ := kc _ hg2))
  have nw2 := nw w2.drew hg2.drew
  clear gr ck nw g0 hg1
  go_cut [5, 6] (fun s5 s6 wx => ∃ p, s5 = .pointer (some p) ∧ s6 = .int .i64 0 ∧ RowKit.Hid (IsPlan wx (.pointer (some p)) P ∧ Bel w2.drew wx))
  case first =>
    go_region_law (go_simp; go_at_call 9; refine nw2.mono ?_; rintro e w3 ⟨⟨p, rfl, hP3⟩, hg3⟩)
    all_goals go_wp2_with fail
    all_goals go_meet
    all_goals exact ⟨_, rfl, rfl, Lib.hid ⟨hP3, hg3⟩⟩
  case rest =>
    obtain ⟨p, rfl, rfl, hx⟩ := hcut
    obtain ⟨hP3, hg3⟩ := hx.out
    clear hx
    obtain ⟨w3, rfl⟩ : ∃ w3, w3 = wc := ⟨wc, rfl⟩
    have hg4 : Bel _ w3 := hg2.drew.trans hg3
    have hPl := hid.out.1
    have Pp := fun W (g : Bel w3 W) => hP3.bel g
    have gz := Bel.refl w3
    have s1 := fun W (g : Bel w3 W) => (pslots _ P W (Pp W g) hPl).mono fun e w' ⟨a, b⟩ => (⟨a, g.trans b⟩ : _ ∧ Bel w3 w')
    have t1 := fun W (g : Bel w3 W) => (ppages _ P W (Pp W g) hPl).mono fun e w' ⟨a, b⟩ => (⟨a, g.trans b⟩ : _ ∧ Bel w3 w')
    have u1 := fun W (g : Bel w3 W) => (pwords _ P W (Pp W g) hPl).mono fun e w' ⟨a, b⟩ => (⟨a, g.trans b⟩ : _ ∧ Bel w3 w')
    have hidp := Lib.hid Pp
    have aw2 := fun W (g : Bel w3 W) => aw W (hg4.trans g)
    have bS := hPl.2.1
    have bT := hPl.2.2.1
    have bW := hPl.2.2.2.1
    obtain ⟨S, hS⟩ : ∃ S, P.S = S := ⟨_, rfl⟩
    obtain ⟨T, hT⟩ : ∃ T, P.T = T := ⟨_, rfl⟩
    obtain ⟨V, hV⟩ : ∃ V, P.W = V := ⟨_, rfl⟩
    obtain ⟨g, hg⟩ : ∃ g, P.g = g := ⟨_, rfl⟩
    have g64 : 1 ≤ g ∧ g ≤ 64 := by
      rw [← hg]
      exact ⟨hPl.1.pos, (hPl.2.2.2.2.2 0 hPl.1.one).2.2.2.2⟩
    rw [hS] at s1 bS
    rw [hT] at t1 bT
    rw [hV] at u1 bW
    have hidl := Lib.hid (And.intro hS (And.intro hT (And.intro hV hg)))
    obtain ⟨g1, g2'⟩ := g64
    clear hS hT hV hg hP3 nw2 Pp hPl aw hg2 hg3 k0 k1 k2 k3 k4 k5 wtn wT mz htm
    go_wp2
    go_loopw [7, 9] (fun a i wr => ∃ k : Nat, k ≤ S ∧ i = .int .i64 (k : Nat) ∧ a = .int .i64 (endAt P k : Nat) ∧ Bel w3 wr) (fun _ i _ => S - (intOf i).toNat)
    case atStart => exact ⟨0, Nat.zero_le _, rfl, rfl, gz⟩
    case round =>
      obtain ⟨k, hk, rfl, rfl, hbr⟩ := hrel
      clear gz
      have hPl := hid.out.1
      have hG := hPl.1
      by_cases ck : k < S
      · as_aux_lemma =>
          obtain ⟨hS, hT, hV, hg⟩ := hidl.out
          have kS : k < P.S := by rw [hS]; exact ck
          have e1 := endAt_le hG kS
          obtain ⟨b1, b2, b3⟩ := Pl.ad_bd hG kS
          obtain ⟨d1, d2⟩ := Pl.ad_page hG kS
          have b4 := Pl.ad_words hG kS
          have b5 := Pl.pg_lt hG kS
          obtain ⟨b6, b7⟩ := Pl.in_page hG kS
          obtain ⟨f1, f2, f3⟩ := Pl.in_ok b5
          have f4 := (Pl.mn_pos hG b5).2.1
          have q1 := fun W (g : Bel w3 W) => (paddr _ P W (hidp.out W g) hPl (k : Nat) ⟨by omega, by omega⟩).mono fun e w' ⟨a, b⟩ => (⟨a, g.trans b⟩ : _ ∧ Bel w3 w')
          have q2 := fun W (g : Bel w3 W) => (psize _ P W (hidp.out W g) hPl (k : Nat) ⟨by omega, by omega⟩).mono fun e w' ⟨a, b⟩ => (⟨a, g.trans b⟩ : _ ∧ Bel w3 w')
          have q3 := fun W (g : Bel w3 W) => (pat _ P W (hidp.out W g) hPl (P.ad k : Nat) (k : Nat) 0 ⟨by omega, by omega⟩ (at_slot kS)).mono fun e w' ⟨a, b⟩ => (⟨a, g.trans b⟩ : _ ∧ Bel w3 w')
          have q4 := fun W (g : Bel w3 W) => (ppage _ P W (hidp.out W g) hPl (k : Nat) ⟨by omega, by omega⟩).mono fun e w' ⟨a, b⟩ => (⟨a, g.trans b⟩ : _ ∧ Bel w3 w')
          have q5 := fun W (g : Bel w3 W) => (pin _ P W (hidp.out W g) hPl (P.pg k : Nat) ⟨by omega, by omega⟩).mono fun e w' ⟨a, b⟩ => (⟨a, g.trans b⟩ : _ ∧ Bel w3 w')
          simp only [Pl.slR_ok kS, Pl.slE_ok kS] at q1 q2 q4
          simp only [f1, f2, f3] at q5
          have eN : endAt P (k + 1) = P.ad k + P.sz k := rfl
          rw [hg] at d1 d2
          rw [hV] at b4
          rw [hS] at f4
          have hideN := Lib.hid eN
          clear eN f1 f2 f3 b1 b2
          generalize endAt P k = E at *
          obtain ⟨A, hA⟩ : ∃ A, P.ad k = A := ⟨_, rfl⟩
          obtain ⟨n, hn⟩ : ∃ n, P.sz k = n := ⟨_, rfl⟩
          have hidan := Lib.hid (And.intro hA hn)
          simp only [hA, hn] at q1 q2 q3 d1 d2 e1 b3 b4
          generalize P.pg k = Q at *
          generalize P.fi Q = I at *
          generalize P.mn Q = N at *
          rw [hT] at b5
          have w1 : (A : Int).tdiv (g : Int) = (Q : Int) := by rw [Int.tdiv_eq_ediv_of_nonneg (by omega), ← d1]; rfl
          have w2 : IntKind.i64.wrap ((A : Int) + (n : Int)) = ((A + n : Nat) : Int) := by rw [IntKind.wrap_i64]; omega
          have w3' : IntKind.i64.wrap (((A + n : Nat) : Int) - 1) = ((A + n - 1 : Nat) : Int) := by rw [IntKind.wrap_i64]; omega
          have w4 : ((A + n - 1 : Nat) : Int).tdiv (g : Int) = (Q : Int) := by rw [Int.tdiv_eq_ediv_of_nonneg (by omega), ← d2]; rfl
          have w5 : IntKind.i64.wrap (Q : Int) = (Q : Int) := by rw [IntKind.wrap_i64]; omega
          have w6 : IntKind.i64.wrap ((I : Int) + (N : Int)) = ((I + N : Nat) : Int) := by rw [IntKind.wrap_i64]; omega
          obtain ⟨X, hX⟩ : ∃ X, A + n = X := ⟨_, rfl⟩
          obtain ⟨Y, hY⟩ : ∃ Y, X - 1 = Y := ⟨_, rfl⟩
          obtain ⟨Z, hZ⟩ : ∃ Z, I + N = Z := ⟨_, rfl⟩
          rw [hX] at w2 w3' w4
          rw [hY] at w3' w4
          rw [hZ] at w6 b7
          have c1 : decide ((A : Int) < (E : Int)) = false := decide_eq_false (by omega)
          have c2' : decide (A < E) = false := decide_eq_false (by omega)
          have c3 : decide ((n : Int) < 2) = false := decide_eq_false (by omega)
          have c4 : decide ((g : Int) < 1) = false := decide_eq_false (by omega)
          have c5 : decide ((k : Int) < (I : Int)) = false := decide_eq_false (by omega)
          have c6 : decide (k < I) = false := decide_eq_false (by omega)
          have c7 : decide ((Z : Int) ≤ (k : Int)) = false := decide_eq_false (by omega)
          have c8 : decide (Z ≤ k) = false := decide_eq_false (by omega)
          have gz : ¬ g = 0 := by omega
          have hidx := Lib.hid (And.intro hX e1)
          clear hA hn hX hY hZ d1 d2 e1 hS hT hV hg hPl hG kS
          have kp := fun (W : World) gW => (show World.cell? W ⟨w.heap.size, 1, none⟩ = some (Value.int .i64 (g : Nat)) by have := (kc W gW).2.1; rw [hid.out.2.1, hidl.out.2.2.2] at this; exact this)
          go_wp2_with (first
            | (go_at_call 15; ((with_reducible refine (s1 _ (by assumption)).mono ?_); rintro e w5 ⟨rfl, h5⟩))
            | (go_at_call 21; ((with_reducible refine (q1 _ h5).mono ?_); rintro e w6 ⟨rfl, h6⟩))
            | (go_at_call 22; ((with_reducible refine (q2 _ h6).mono ?_); rintro e w7 ⟨rfl, h7⟩))
            | (go_at_call 11; ((with_reducible refine (q3 _ h7).mono ?_); rintro e w8 ⟨rfl, h8⟩))
            | (go_at_call 23; ((with_reducible refine (q4 _ h8).mono ?_); rintro e w9 ⟨rfl, h9⟩))
            | (go_at_call 24; ((with_reducible refine (q5 _ h9).mono ?_); rintro e wA ⟨rfl, hA⟩; have k1 := kp _ (hg4.trans hA))))
          go_roundw
          case rel => exact ⟨k + 1, by omega, by go_num, by rw [hideN.out, hidan.out.1, hidan.out.2, hidx.out.1], hA⟩
          case measure => simp only [intOf]; omega
      · obtain rfl : k = S := by omega
        clear hG hPl
        have hE : endAt P k ≤ V := by
          have := endAt_W hid.out.1.1
          rw [hidl.out.1, hidl.out.2.2.1] at this
          exact this
        generalize endAt P k = E at *
        go_wp2_with (go_at_call 15; ((with_reducible refine (s1 _ hbr).mono ?_); rintro e w5 ⟨rfl, h5⟩))
        clear hbr
        go_loopw [8, 21] (fun f a wr => ∃ m : Nat, m ≤ V + 2 ∧ a = .int .i64 ((m : Int) - 1) ∧ f = .int .i64 (P.below (m - 1) k : Nat) ∧ Bel w3 wr) (fun _ a _ => (V + 1 - intOf a).toNat)
        case atStart => exact ⟨0, by omega, rfl, by rw [Pl.below_zero]; rfl, h5⟩
        case round =>
          obtain ⟨m, hm, rfl, rfl, hbr⟩ := hrel
          clear h5
          obtain ⟨a, ha⟩ : ∃ a : Int, (m : Int) - 1 = a := ⟨_, rfl⟩
          by_cases cm : m ≤ V + 1
          · obtain ⟨r, e, hA⟩ := at_dec P ((m : Int) - 1)
            have st := found_step hid.out.1.1 m hA
            have q3 := fun W (g : Bel w3 W) => (pat _ P W (hidp.out W g) hid.out.1 ((m : Int) - 1) r e ⟨by omega, by omega⟩ hA).mono fun e w' ⟨a, b⟩ => (⟨a, g.trans b⟩ : _ ∧ Bel w3 w')
            rw [hidl.out.1] at st
            obtain ⟨F, hF⟩ : ∃ F, P.below (m - 1) k = F := ⟨_, rfl⟩
            rw [hF] at st
            have bF : F ≤ k := by rw [← hF]; exact below_le P _ k
            have d1 : decide (a ≤ (V : Int)) = true := decide_eq_true (by omega)
            have ab : -1 ≤ a ∧ a ≤ 2097154 := by omega
            obtain ⟨ab1, ab2⟩ := ab
            rw [ha] at q3 ⊢
            rw [hF]
            have hida := Lib.hid ha
            clear hA ha hF
            rcases st with ⟨rfl, st⟩ | ⟨rfl, st⟩
            · have hids := Lib.hid st
              clear st
              go_wp2_with (first
                | (go_at_call 17; ((with_reducible refine (u1 _ hbr).mono ?_); rintro e w5 ⟨rfl, h5⟩))
                | (go_at_call 11; ((with_reducible refine (q3 _ h5).mono ?_); rintro e w6 ⟨rfl, h6⟩)))
              go_roundw
              case rel => exact ⟨m + 1, by omega, by have := hida.out; go_num, by rw [show m + 1 - 1 = m by omega, hids.out]; go_num, h6⟩
              case measure => have := hida.out; simp only [intOf]; omega
            · have hids := Lib.hid st
              clear st
              go_wp2_with (first
                | (go_at_call 17; ((with_reducible refine (u1 _ hbr).mono ?_); rintro e w5 ⟨rfl, h5⟩))
                | (go_at_call 11; ((with_reducible refine (q3 _ h5).mono ?_); rintro e w6 ⟨rfl, h6⟩)))
              go_roundw
              case rel => exact ⟨m + 1, by omega, by have := hida.out; go_num, by rw [show m + 1 - 1 = m by omega, hids.out], h6⟩
              case measure => have := hida.out; simp only [intOf]; omega
          · have d1 : decide (a ≤ (V : Int)) = false := decide_eq_false (by omega)
            have eF : P.below (m - 1) k = k := by
              have := Pl.below_all hid.out.1.1 (a := m - 1) (by rw [hidl.out.2.2.1]; omega) (Nat.le_refl P.S)
              rw [hidl.out.1] at this
              exact this
            rw [ha, eF]
            clear ha eF
            go_wp2_with (go_at_call 17; ((with_reducible refine (u1 _ hbr).mono ?_); rintro e w5 ⟨rfl, h5⟩))
            clear hbr d1
            go_loopw [24, 25] (fun l i wr => ∃ q : Nat, q ≤ T ∧ i = .int .i64 (q : Nat) ∧ l = .int .i64 (ahead P q : Nat) ∧ Bel w3 wr) (fun _ i _ => T - (intOf i).toNat)
            case atStart => exact ⟨0, Nat.zero_le _, rfl, by rw [ahead_zero hid.out.1.1]; rfl, h5⟩
            case round =>
              obtain ⟨q, hq, rfl, rfl, hbr⟩ := hrel
              clear h5
              by_cases cq : q < T
              · as_aux_lemma =>
                  have hPl := hid.out.1
                  have hG := hPl.1
                  have qT : q < P.T := by rw [hidl.out.2.1]; exact cq
                  obtain ⟨z1, z2, z3, z4⟩ := Pl.mn_pos hG qT
                  obtain ⟨f1, f2, f3⟩ := Pl.in_ok qT
                  have q5 := fun W (g : Bel w3 W) => (pin _ P W (hidp.out W g) hPl (q : Nat) ⟨by omega, by omega⟩).mono fun e w' ⟨a, b⟩ => (⟨a, g.trans b⟩ : _ ∧ Bel w3 w')
                  rw [hidl.out.1] at z2
                  have q6 := fun W (g : Bel w3 W) => (pclass _ P W (hidp.out W g) hPl (P.fi q : Nat) ⟨by omega, by omega⟩).mono fun e w' ⟨a, b⟩ => (⟨a, g.trans b⟩ : _ ∧ Bel w3 w')
                  have q7 := fun W (g : Bel w3 W) => (pclass _ P W (hidp.out W g) hPl (P.fi q + P.mn q - 1 : Nat) ⟨by omega, by omega⟩).mono fun e w' ⟨a, b⟩ => (⟨a, g.trans b⟩ : _ ∧ Bel w3 w')
                  simp only [f1, f2, f3] at q5
                  simp only [Pl.slR_ok (P := P) (f := P.cls) (show P.fi q < P.S by rw [hidl.out.1]; omega), Pl.slE_ok (P := P) (show P.fi q < P.S by rw [hidl.out.1]; omega), z3] at q6
                  simp only [Pl.slR_ok (P := P) (f := P.cls) (show P.fi q + P.mn q - 1 < P.S by rw [hidl.out.1]; omega), Pl.slE_ok (P := P) (show P.fi q + P.mn q - 1 < P.S by rw [hidl.out.1]; omega), z4] at q7
                  have ea := ahead_at qT
                  have es := ahead_succ hG qT
                  rw [ea]
                  generalize P.fi q = I at *
                  generalize P.mn q = N at *
                  generalize P.pcl q = C at *
                  obtain ⟨Y, hY⟩ : ∃ Y, I + N - 1 = Y := ⟨_, rfl⟩
                  rw [hY] at q7
                  have eY : ((I : Int) + (N : Int) - 1) = (Y : Int) := by omega
                  have c1 : decide ((N : Int) < 1) = false := decide_eq_false (by omega)
                  have bI : I ≤ 32768 := by omega
                  have bN : N ≤ 32768 := by omega
                  have hidq := Lib.hid es
                  clear ea es z1 z2 z3 z4 f1 f2 f3 hPl hG qT hY
                  go_wp2_with (first
                    | (go_at_call 16; ((with_reducible refine (t1 _ hbr).mono ?_); rintro e w5 ⟨rfl, h5⟩))
                    | (go_at_call 24; ((with_reducible refine (q5 _ h5).mono ?_); rintro e w6 ⟨rfl, h6⟩))
                    | (go_at_call 25; ((with_reducible refine (q6 _ h6).mono ?_); rintro e w7 ⟨rfl, h7⟩))
                    | (go_at_call 25; ((with_reducible refine (q7 _ h7).mono ?_); rintro e w8 ⟨rfl, h8⟩)))
                  go_roundw
                  case rel => exact ⟨q + 1, by omega, by go_num, by rw [hidq.out]; go_num, h8⟩
                  case measure => simp only [intOf]; omega
              · obtain rfl : q = T := by omega
                have eE : ahead P q = k := by
                  have := ahead_end P
                  rw [hidl.out.2.1, hidl.out.1] at this
                  exact this
                rw [eE]
                have c1 : decide ((E : Int) ≤ (V : Int)) = true := decide_eq_true (by omega)
                have c2' : decide (E ≤ V) = true := decide_eq_true hE
                clear eE
                go_upto_region 40 with (first
                  | (go_at_call 16; ((with_reducible refine (t1 _ hbr).mono ?_); rintro e w5 ⟨rfl, h5⟩; have hz0 := heap_alloc_new w5 (.cells #[.int .i64 0, .slice none 0 0] 53); have hZ : ∀ W, Bel (w5.alloc (.cells #[.int .i64 0, .slice none 0 0] 53)) W → ZeroAt W w5.heap.size := fun W g => heap_bel g hz0; have n1 := pnil_addr (w5.alloc (.cells #[.int .i64 0, .slice none 0 0] 53)) 0; have h6 := h5.alloc (.cells #[.int .i64 0, .slice none 0 0] 53)))
                  | (go_at_call 21; ((with_reducible refine n1.mono ?_); rintro e w6 ⟨rfl, h7⟩))
                  | (go_at_call 11; ((with_reducible refine (pzero_at _ _ 0 (hZ _ h7)).mono ?_); rintro e w7 ⟨rfl, h8⟩; have h8 := h7.trans h8))
                  | (go_at_call 24; ((with_reducible refine (pnil_in w7 0).mono ?_); rintro e w8 ⟨rfl, h9⟩; have h9 := h8.trans h9))
                  | (go_at_call 13; ((with_reducible refine (pzero_of _ _ 0 (hZ _ h9)).mono ?_); rintro e w9 ⟨rfl, hA⟩; have hA := h9.trans hA)))
                have hB := h6.trans hA
                have gy := Bel.refl w9
                have r1 := fun W (g : Bel w9 W) => (s1 W (hB.trans g)).mono fun e w' ⟨a, _⟩ => a
                have r2 := fun W (g : Bel w9 W) => (pslots _ P W (hidp.out W (hB.trans g)) hid.out.1).mono fun e w' ⟨a, b⟩ => (⟨a, g.trans b⟩ : _ ∧ Bel w9 w')
                have r3 := fun W (g : Bel w9 W) => (pwords _ P W (hidp.out W (hB.trans g)) hid.out.1).mono fun e w' ⟨a, b⟩ => (⟨a, g.trans b⟩ : _ ∧ Bel w9 w')
                rw [hidl.out.1] at r2
                rw [hidl.out.2.2.1] at r3
                have r4 := fun W (g : Bel w9 W) => (pnil_slots W).mono fun e w' ⟨a, b⟩ => (⟨a, g.trans b⟩ : _ ∧ Bel w9 w')
                have r5 := fun W (g : Bel w9 W) => (pnil_words W).mono fun e w' ⟨a, b⟩ => (⟨a, g.trans b⟩ : _ ∧ Bel w9 w')
                have r6 := fun W (g : Bel w9 W) => (pzero_pages W _ (hZ W (hA.trans g))).mono fun e w' ⟨a, b⟩ => (⟨a, g.trans b⟩ : _ ∧ Bel w9 w')
                have r7 := fun W (g : Bel w9 W) => aw2 W (hB.trans g)
                clear r1 s1 t1 u1 aw2 hbr h5 hz0 hZ n1 h6 h7 h8 h9 hA
                go_wp2_with (first
                  | (go_at_call 17; ((with_reducible refine (r3 _ (by assumption)).mono ?_); rintro e wA ⟨rfl, hC⟩))
                  | (go_at_call 17; ((with_reducible refine (r5 _ (by assumption)).mono ?_); rintro e wB ⟨rfl, hD⟩))
                  | (go_at_call 15; ((with_reducible refine (r2 _ (by assumption)).mono ?_); rintro e wC ⟨rfl, hE2⟩))
                  | (go_at_call 15; ((with_reducible refine (r4 _ (by assumption)).mono ?_); rintro e wD ⟨rfl, hF⟩))
                  | (go_at_call 16; ((with_reducible refine (r6 _ (by assumption)).mono ?_); rintro e wE ⟨rfl, hG2⟩))
                  | (go_at_call 8; refine (r7 _ (by assumption)).mono ?_; rintro e wF ⟨rfl, hH⟩))
                go_ret
                exact ⟨rfl, hid.out.2.2.trans hH⟩

theorem walk (v : Value) (c : Cf) (tn : Nat) (w : World) (hI : IsCf w v c) (htn : tn ≤ 255) :
    Calls Try.prog 4 #[v, .int .u8 (tn : Nat)] w fun e w' => e = .returned (.bool true) ∧ Bel w w' := by
  by_cases s : c.great9
  · exact no v c tn w hI (Or.inl s)
  · by_cases ok : c.ok
    · exact yes v c tn w hI s ok htn
    · exact no v c tn w hI (Or.inr ok)

/-! The row. -/
set_option maxRecDepth 100000 in
theorem lifted (os : Os) (started : os.Started) (H : Type) (enc : TypeId × Value → H) :
    ReturnsInHanded {} Try.checked os 4 .any (Rows.slotLiesSpec.pre6 enc Try.prog Try.f4 Rows.slotLiesRow.domain false) (Rows.slotLiesSpec.post enc Try.prog Try.f4 false true false false) := by
  refine lift_law (C := Try.checked) own started (by kernel_rfl) Try.func4 laid rowed full (by rw [Try.params4]; decide) rfl (by kernel_rfl) Try.underlying4
    (fun ds h => by rw [Try.params4] at h; match ds, h with | [_, _], _ => rfl)
    (ChangeSpec.witness6 (enc := enc) (C := Try.checked) false ⟨#[], #[.agg #[.slice none 0 0, .int .i64 0, .slice none 0 0, .int .i64 0, .int .i64 0, .int .i64 0], .int .u8 0], []⟩ 8 (by kernel_rfl) (by kernel_rfl) (by kernel_rfl) (by kernel_rfl)) ?_
  intro W base args ds p hval hA
  change ∀ (j : Nat) t v, Try.f4.params[j]? = some t → args[j]? = some v → Value.okWide Try.prog W .any base t v at hval
  change DataW.TrodAll enc Try.prog W 0 (fun _ => true) true Try.f4.params.toList args.toList ds p at hA
  rw [Try.params4] at hA hval
  obtain ⟨v0, vs0, d0, ds0, p0, q0, hargs, rfl, rfl, h0, r0⟩ := trodAll_cons hA
  obtain ⟨v1, vs1, d1, ds1, p1, q1, hargs1, rfl, rfl, h1, r1⟩ := trodAll_cons r0
  obtain ⟨rfl, rfl, rfl⟩ := trodAll_nil r1
  subst hargs1
  obtain rfl : args = #[v0, v1] := by cases args; simp_all
  obtain ⟨c, hI, _⟩ := get_cf (hval 0 25 v0 rfl rfl) h0
  obtain ⟨tn, rfl, htn⟩ := get_u8 Try.underlying5 (hval 1 5 v1 rfl rfl) h1
  exact walk v0 c tn W hI htn

theorem over : Rows.slotLiesRow.holds Try.pinned (OpenSpec.ofChange Rows.slotLiesSpec) :=
  OpenClaim.holds_of_wide 4 Try.f4 rfl rfl rfl rfl rfl rfl rfl ⟨rfl, rfl, rfl, rfl, rfl⟩ rfl rfl rfl rfl rfl (by kernel_rfl) Try.func4 (by kernel_rfl)
    (of_decide_eq_true (by kernel_rfl)) (by unfold Func.isWrapper; first | (rw [if_pos (by decide +kernel)]; kernel_rfl) | (rw [if_neg (by decide +kernel)]; exact ⟨rfl, rfl⟩))
    (fun os started H enc _ => lifted os started H enc)

/-- The statement. -/
theorem proved : Rows.SlotLiesSaid :=
  over
#print axioms proved
end Go.Proofs.Ytnnbeecjjbnpbaa.slotLies
