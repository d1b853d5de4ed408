/- A tenant's plan is that of the only tenant of a configuration, all else the same; for every input, no condition. -/
import Derived.Test.YtnnbeecjjbnpbaaRowk
import Derived.Test.YtnnbeecjjbnpbaaOpa
import Derived.Test.YtnnbeecjjbnpbaaSaw
import Derived.Deep.RegionHeld3
import Derived.Deep.Cut
import Derived.Deep.CutRange
import Derived.Deep.DeepCutAuto
namespace Go.Proofs.Ytnnbeecjjbnpbaa.slotAlike
open Go.ChangeShapes Go.WideShapes Go.ChangeAt Go.RowKit Go.Deep Go.Joins
set_option linter.unusedVariables false

/-! The walk. -/
set_option maxRecDepth 100000 in
set_option maxHeartbeats 2000000 in
theorem no (v : Value) (c : Cf) (tn : Nat) (w : World) (hI : IsCf w v c) (hno : c.great9 ∨ ¬ c.ok) :
    Calls Try.prog 6 #[v, .int .u8 (tn : Nat)] w fun e w' => e = .returned (.bool true) ∧ Bel w w' := by
  have hI0 := hI
  obtain ⟨vc, vt, rfl, hN, hT⟩ := hI
  obtain ⟨p1, c1, rfl, _⟩ := nums_slice hN
  obtain ⟨p2, c2, rfl, _⟩ := tens_slice hT
  have hb0 : ∀ o, Bel w (w.alloc o) := fun o => (Bel.refl w).alloc o
  have hb := hb0 (.cells #[.slice p1 c.n c1, .int .i64 c.page, .slice p2 c.m c2, .int .i64 c.wk, .int .i64 c.gr, .int .i64 c.gn] 25)
  clear hb0 hN hT
  have g0 := Bel.refl (w.alloc (.cells #[.slice p1 c.n c1, .int .i64 c.page, .slice p2 c.m c2, .int .i64 c.wk, .int .i64 c.gr, .int .i64 c.gn] 25))
  generalize hwb : w.alloc (.cells #[.slice p1 c.n c1, .int .i64 c.page, .slice p2 c.m c2, .int .i64 c.wk, .int .i64 c.gr, .int .i64 c.gn] 25) = wb at hb g0
  have gr := fun w1 (g : Bel wb w1) => (great_any _ c w1 (hI0.bel (hb.trans g))).mono fun e w' ⟨a, b⟩ => (⟨a, g.trans b⟩ : _ ∧ Bel wb w')
  have ck := fun w1 (g : Bel wb w1) => (rck_any _ c w1 (hI0.bel (hb.trans g))).mono fun e w' ⟨a, b⟩ => (⟨a, g.trans b⟩ : _ ∧ Bel wb w')
  have aw := fun w1 (g : Bel wb w1) => (awake_any w1).mono fun e w' ⟨a, b⟩ => (⟨a, g.trans b⟩ : _ ∧ Bel wb w')
  have kc := fun W (g : Bel (w.alloc (.cells #[.slice p1 c.n c1, .int .i64 c.page, .slice p2 c.m c2, .int .i64 c.wk, .int .i64 c.gr, .int .i64 c.gn] 25)) W) => cf_at g
  rw [hwb] at kc
  by_cases s : c.great9
  · simp only [decide_eq_true s] at gr
    clear hI0 hno s ck kc
    subst hwb
    go_enter Try.func6, Try.ntmps6
    go_wp2_with (first
      | (go_at_call 7; refine (gr _ (by assumption)).mono ?_; rintro e w1 ⟨rfl, hg1⟩)
      | (go_at_call 8; refine (aw _ (by assumption)).mono ?_; rintro e w2 ⟨rfl, hg2⟩))
    go_ret
    exact ⟨rfl, hb.trans hg2⟩
  · have ok := hno.resolve_left s
    simp only [decide_eq_false s] at gr
    simp only [Cf.checkC_no ok] at ck
    clear hI0 hno s ok
    subst hwb
    go_enter Try.func6, Try.ntmps6
    go_wp2_with (first
      | (go_at_call 7; refine (gr _ (by assumption)).mono ?_; rintro e w1 ⟨rfl, hg1⟩; obtain ⟨k0, k1, k2, k3, k4, k5⟩ := kc _ hg1)
      | (go_at_call 20; refine (ck _ hg1).mono ?_; rintro e w3 ⟨rfl, hg3⟩)
      | (go_at_call 8; refine (aw _ hg3).mono ?_; rintro e w2 ⟨rfl, hg2⟩))
    go_ret
    exact ⟨rfl, hb.trans hg2⟩

/-- the configuration of one tenant alone -/
def Cf.one (c : Cf) (t : Nat) : Cf := { c with m := 1, Q := fun _ => c.Q t, Tr := fun _ => c.Tr t, Cp := fun _ => c.Cp t, As := fun _ => c.As t }
theorem one_ok {c : Cf} {t : Nat} (ok : c.ok) (ht : t < c.m) : (Cf.one c t).ok := by
  obtain ⟨⟨h1, h2, h3, h4⟩, h5⟩ := ok
  exact ⟨⟨h1, h2, (by decide : 1 ≤ 1 ∧ 1 ≤ 8), h4⟩, fun i _ => h5 t ht⟩
theorem one_pl (c : Cf) (t : Nat) : (Cf.one c t).pl 0 = c.pl t := rfl

set_option maxRecDepth 100000 in
set_option maxHeartbeats 4000000 in
theorem yes (v : Value) (c : Cf) (tn : Nat) (w : World) (hI : IsCf w v c) (hs : ¬ c.great9) (ok : c.ok) (htn : tn ≤ 255) :
    Calls Try.prog 6 #[v, .int .u8 (tn : Nat)] w fun e w' => e = .returned (.bool true) ∧ Bel w w' := by
  have hI0 := hI
  obtain ⟨vc, vt, rfl, hN, hT⟩ := hI
  obtain ⟨p1, c1, rfl, _⟩ := nums_slice hN
  obtain ⟨p2, c2, rfl, _⟩ := tens_slice hT
  have hb0 : ∀ o, Bel w (w.alloc o) := fun o => (Bel.refl w).alloc o
  have hb := hb0 (.cells #[.slice p1 c.n c1, .int .i64 c.page, .slice p2 c.m c2, .int .i64 c.wk, .int .i64 c.gr, .int .i64 c.gn] 25)
  clear hb0
  have g0 := Bel.refl (w.alloc (.cells #[.slice p1 c.n c1, .int .i64 c.page, .slice p2 c.m c2, .int .i64 c.wk, .int .i64 c.gr, .int .i64 c.gn] 25))
  have kc := fun W (g : Bel (w.alloc (.cells #[.slice p1 c.n c1, .int .i64 c.page, .slice p2 c.m c2, .int .i64 c.wk, .int .i64 c.gr, .int .i64 c.gn] 25)) W) => cf_at g
  generalize hwb : w.alloc (.cells #[.slice p1 c.n c1, .int .i64 c.page, .slice p2 c.m c2, .int .i64 c.wk, .int .i64 c.gr, .int .i64 c.gn] 25) = wb at hb g0 kc
  have gr := fun w1 (g : Bel wb w1) => (great_any _ c w1 (hI0.bel (hb.trans g))).mono fun e w' ⟨a, b⟩ => (⟨a, g.trans b⟩ : _ ∧ Bel wb w')
  have ck := fun w1 (g : Bel wb w1) => (rck_any _ c w1 (hI0.bel (hb.trans g))).mono fun e w' ⟨a, b⟩ => (⟨a, g.trans b⟩ : _ ∧ Bel wb w')
  have aw := fun w1 (g : Bel wb w1) => (awake_any w1).mono fun e w' ⟨a, b⟩ => (⟨a, g.trans b⟩ : _ ∧ Bel wb w')
  simp only [decide_eq_false hs] at gr
  simp only [Cf.checkC_ok ok] at ck
  have n8 := Cf.ok_n ok
  have m8 := Cf.ok_m ok
  obtain ⟨t, htm, ht⟩ : ∃ t : Nat, (tn : Int) % (c.m : Int) = (t : Int) ∧ t < c.m := ⟨tn % c.m, by omega, Nat.mod_lt _ (by omega)⟩
  have nw := fun w1 (g : Bel wb w1) => pnew_yes _ c t w1 (hI0.bel (hb.trans g)) ok ht
  obtain ⟨b1, off1, hp1, hF⟩ : ∃ b1 off1, p1 = some ⟨b1, off1, none⟩ ∧ Nums w (.slice (some ⟨b1, off1, none⟩) c.n c1) c.n c.F := by
    rcases hN with ⟨e, _⟩ | ⟨b1, off1, cap1, e, h1, h2, h3, hF⟩
    · omega
    · injection e with e _ e3; exact ⟨b1, off1, e, Or.inr ⟨b1, off1, cap1, by rw [e3], h1, h2, h3, hF⟩⟩
  obtain ⟨b2, off2, hp2, hc2, hc64, hQ⟩ : ∃ b2 off2, p2 = some ⟨b2, off2, none⟩ ∧ c.m ≤ c2 ∧ c2 ≤ 9223372036854775807 ∧ Ten w b2 (off2 + t * 4) (c.Q t) (c.Tr t) (c.Cp t) (c.As t) := by
    rcases hT with ⟨e, _⟩ | ⟨b2, off2, cap2, e, _, h2, h3, hT⟩
    · omega
    · injection e with e _ e3; subst e3; exact ⟨b2, off2, e, h2, h3, hT t ht⟩
  subst hp1
  subst hp2
  have hI2 : ∀ W, Bel w W → IsCf W (.agg #[.slice (some ⟨b1, off1, none⟩) c.n c1, .int .i64 c.page, .slice (some ⟨b2, off2 + t * 4, none⟩) 1 (c2 - t), .int .i64 c.wk, .int .i64 c.gr, .int .i64 c.gn]) (Cf.one c t) := fun W g =>
    ⟨_, _, rfl, hF.bel g, Or.inr ⟨b2, off2 + t * 4, c2 - t, rfl, (by decide : 1 ≤ 1), (by show 1 ≤ c2 - t; omega), by omega, fun j hj => by
      have : j = 0 := by have : j < 1 := hj; omega
      subst this
      rw [Nat.zero_mul, Nat.add_zero]
      exact hQ.bel g⟩⟩
  have nw2 : ∀ w1 (g : Bel wb w1), Calls Try.prog 9 #[.agg #[.slice (some ⟨b1, off1, none⟩) c.n c1, .int .i64 c.page, .slice (some ⟨b2, off2 + t * 4, none⟩) 1 (c2 - t), .int .i64 c.wk, .int .i64 c.gr, .int .i64 c.gn], .int .i64 0] w1 fun e w' => (∃ p, e = .returned (.tuple #[.pointer (some p), .int .i64 0]) ∧ IsPlan w' (.pointer (some p)) (c.pl t)) ∧ Bel w1 w' :=
    fun w1 g => pnew_yes _ (Cf.one c t) 0 w1 (hI2 w1 (hb.trans g)) (one_ok ok ht) (by decide : 0 < 1)
  have hPl := Cf.pl_ok ok ht
  obtain ⟨P, hP⟩ : ∃ P, c.pl t = P := ⟨_, rfl⟩
  rw [hP] at nw nw2 hPl
  have hid := Lib.hid (And.intro hPl hb)
  clear hN hT hI0 hI2 hs ok hPl hQ hP
  subst hwb
  have m1 : (1 : Int) ≤ (c.m : Int) := by omega
  have mI : (c.m : Int) ≤ 8 := by omega
  have xI : (tn : Int) ≤ 255 := by omega
  have x0 : (0 : Int) ≤ (tn : Int) := by omega
  have tI : (t : Int) < (c.m : Int) := by omega
  have tz : (0 : Int) ≤ (t : Int) := by omega
  have tc : t + 1 ≤ c2 := by omega
  have tcI : (t : Int) + 1 ≤ (c2 : Int) := by omega
  have tn2 : ¬ (c2 = t) := by omega
  go_enter Try.func6, Try.ntmps6
  go_upto_region 4 with (first
    | (go_at_call 7; refine (gr _ (by assumption)).mono ?_; rintro e w1 ⟨rfl, hg1⟩; obtain ⟨k0, k1, k2, k3, k4, k5⟩ := kc _ hg1)
    | (go_at_call 20; refine (ck _ hg1).mono ?_; rintro e w2 ⟨rfl, hg2⟩; obtain ⟨k0, k1, k2, k3, k4, k5⟩ := kc _ hg2; have gA := (Bel.refl w2).alloc (.cells #[.slice (some ⟨b1, off1, none⟩) c.n c1, .int .i64 c.page, .slice (some ⟨b2, off2, none⟩) c.m c2, .int .i64 c.wk, .int .i64 c.gr, .int .i64 c.gn] 25); obtain ⟨i0, i1, i2, i3, i4, i5⟩ := kc _ (hg2.trans gA)))
  simp only [htm]
  go_upto_region 6 with fail
  have hg8 := hg2.trans ((Bel.refl w2).alloc (.cells #[.slice (some ⟨b1, off1, none⟩) c.n c1, .int .i64 c.page, .slice (some ⟨b2, off2 + t * 4, none⟩) 1 (c2 - t), .int .i64 c.wk, .int .i64 c.gr, .int .i64 c.gn] 25))
  obtain ⟨l0, l1, l2, l3, l4, l5⟩ := kc _ hg8
  have nwA := nw _ hg8
  have kd := fun W (g : Bel (w2.alloc (.cells #[.slice (some ⟨b1, off1, none⟩) c.n c1, .int .i64 c.page, .slice (some ⟨b2, off2 + t * 4, none⟩) 1 (c2 - t), .int .i64 c.wk, .int .i64 c.gr, .int .i64 c.gn] 25)) W) => cf_at g
  clear k0 k1 k2 k3 k4 k5 i0 i1 i2 i3 i4 i5 gA ck gr hg1 g0 nw htm
  go_upto_region 8 with (first
    | (go_at_call 9; ((with_reducible refine nwA.mono ?_); rintro e w3 ⟨⟨p, rfl, hP3⟩, hg3⟩; obtain ⟨m0, m1', m2, m3, m4, m5⟩ := kd _ hg3; have hg9 := hg8.trans hg3))
    | (go_at_call 9; ((with_reducible refine (nw2 _ hg9).mono ?_); rintro e w4 ⟨⟨q, rfl, hP4⟩, hg4⟩)))
  have hgA := hg9.trans hg4
  have gz := Bel.refl w4
  have Pp := fun W (g : Bel w4 W) => hP3.bel (hg4.trans g)
  have Pq := fun W (g : Bel w4 W) => hP4.bel g
  have hPl := hid.out.1
  have s1 := fun W (g : Bel w4 W) => (pslots _ P W (Pp W g) hPl).mono fun e w' ⟨a, b⟩ => (⟨a, g.trans b⟩ : _ ∧ Bel w4 w')
  have s2 := fun W (g : Bel w4 W) => (pslots _ P W (Pq W g) hPl).mono fun e w' ⟨a, b⟩ => (⟨a, g.trans b⟩ : _ ∧ Bel w4 w')
  have t1 := fun W (g : Bel w4 W) => (ppages _ P W (Pp W g) hPl).mono fun e w' ⟨a, b⟩ => (⟨a, g.trans b⟩ : _ ∧ Bel w4 w')
  have t2 := fun W (g : Bel w4 W) => (ppages _ P W (Pq W g) hPl).mono fun e w' ⟨a, b⟩ => (⟨a, g.trans b⟩ : _ ∧ Bel w4 w')
  have u1 := fun W (g : Bel w4 W) => (pwords _ P W (Pp W g) hPl).mono fun e w' ⟨a, b⟩ => (⟨a, g.trans b⟩ : _ ∧ Bel w4 w')
  have u2 := fun W (g : Bel w4 W) => (pwords _ P W (Pq W g) hPl).mono fun e w' ⟨a, b⟩ => (⟨a, g.trans b⟩ : _ ∧ Bel w4 w')
  have a1 := fun (i : Nat) (hi : i ≤ 40000) W (g : Bel w4 W) => (paddr _ P W (Pp W g) hPl (i : Nat) ⟨by omega, by omega⟩).mono fun e w' ⟨a, b⟩ => (⟨a, g.trans b⟩ : _ ∧ Bel w4 w')
  have a2 := fun (i : Nat) (hi : i ≤ 40000) W (g : Bel w4 W) => (paddr _ P W (Pq W g) hPl (i : Nat) ⟨by omega, by omega⟩).mono fun e w' ⟨a, b⟩ => (⟨a, g.trans b⟩ : _ ∧ Bel w4 w')
  have x1 := fun (i : Nat) (hi : i ≤ 40000) W (g : Bel w4 W) => (ppage _ P W (Pp W g) hPl (i : Nat) ⟨by omega, by omega⟩).mono fun e w' ⟨a, b⟩ => (⟨a, g.trans b⟩ : _ ∧ Bel w4 w')
  have x2 := fun (i : Nat) (hi : i ≤ 40000) W (g : Bel w4 W) => (ppage _ P W (Pq W g) hPl (i : Nat) ⟨by omega, by omega⟩).mono fun e w' ⟨a, b⟩ => (⟨a, g.trans b⟩ : _ ∧ Bel w4 w')
  have y1 := fun (i : Nat) (hi : i ≤ 40000) W (g : Bel w4 W) => (psize _ P W (Pp W g) hPl (i : Nat) ⟨by omega, by omega⟩).mono fun e w' ⟨a, b⟩ => (⟨a, g.trans b⟩ : _ ∧ Bel w4 w')
  have y2 := fun (i : Nat) (hi : i ≤ 40000) W (g : Bel w4 W) => (psize _ P W (Pq W g) hPl (i : Nat) ⟨by omega, by omega⟩).mono fun e w' ⟨a, b⟩ => (⟨a, g.trans b⟩ : _ ∧ Bel w4 w')
  have aw2 := fun W (g : Bel w4 W) => aw W (hgA.trans g)
  have bS := hPl.2.1
  generalize P.S = S at *
  generalize P.T = T at *
  generalize P.W = V at *
  clear hP3 hP4 nwA nw2 kc kd l0 l1 l2 l3 l4 l5 m0 m1' m2 m3 m4 m5 aw Pp Pq hPl hg2 hg3 hg4 hg8 hg9
  go_wp2_with (first
    | (go_at_call 15; ((with_reducible refine (s1 _ (by assumption)).mono ?_); rintro e w5 ⟨rfl, h5⟩))
    | (go_at_call 15; ((with_reducible refine (s2 _ (by assumption)).mono ?_); rintro e w6 ⟨rfl, h6⟩))
    | (go_at_call 16; ((with_reducible refine (t1 _ (by assumption)).mono ?_); rintro e w7 ⟨rfl, h7⟩))
    | (go_at_call 16; ((with_reducible refine (t2 _ (by assumption)).mono ?_); rintro e w8 ⟨rfl, h8⟩))
    | (go_at_call 17; ((with_reducible refine (u1 _ (by assumption)).mono ?_); rintro e w9 ⟨rfl, h9⟩))
    | (go_at_call 17; ((with_reducible refine (u2 _ (by assumption)).mono ?_); rintro e wA ⟨rfl, hA⟩)))
  go_loopw [11] (fun i wr => ∃ k : Nat, k ≤ S ∧ i = .int .i64 (k : Nat) ∧ Bel w4 wr) (fun i _ => S - (intOf i).toNat)
  case atStart => exact ⟨0, Nat.zero_le _, rfl, by assumption⟩
  case round =>
    obtain ⟨k, hk, rfl, hbr⟩ := hrel
    clear h5 h6 h7 h8 h9 hA gz
    by_cases ck : k < S
    · have q1 := a1 k (by omega)
      have q2 := a2 k (by omega)
      have q3 := x1 k (by omega)
      have q4 := x2 k (by omega)
      have q5 := y1 k (by omega)
      have q6 := y2 k (by omega)
      generalize P.slR P.ad k = A at *
      generalize P.slR P.pg k = B at *
      generalize P.slR P.sz k = C at *
      generalize P.slE k = E at *
      clear a1 a2 x1 x2 y1 y2
      go_wp2_with (first
        | (go_at_call 15; ((with_reducible refine (s1 _ (by assumption)).mono ?_); rintro e w5 ⟨rfl, h5⟩))
        | (go_at_call 21; ((with_reducible refine (q1 _ (by assumption)).mono ?_); rintro e w6 ⟨rfl, h6⟩))
        | (go_at_call 21; ((with_reducible refine (q2 _ (by assumption)).mono ?_); rintro e w7 ⟨rfl, h7⟩))
        | (go_at_call 23; ((with_reducible refine (q3 _ (by assumption)).mono ?_); rintro e w8 ⟨rfl, h8⟩))
        | (go_at_call 23; ((with_reducible refine (q4 _ (by assumption)).mono ?_); rintro e w9 ⟨rfl, h9⟩))
        | (go_at_call 22; ((with_reducible refine (q5 _ (by assumption)).mono ?_); rintro e wA ⟨rfl, hA⟩))
        | (go_at_call 22; ((with_reducible refine (q6 _ (by assumption)).mono ?_); rintro e wB ⟨rfl, hB⟩)))
      go_roundw
      case rel => exact ⟨k + 1, by omega, by go_num, by assumption⟩
      case measure => simp only [intOf]; omega
    · obtain rfl : k = S := by omega
      clear a1 a2 x1 x2 y1 y2
      go_wp2_with (first
        | (go_at_call 15; ((with_reducible refine (s1 _ (by assumption)).mono ?_); rintro e w5 ⟨rfl, h5⟩))
        | (go_at_call 8; refine (aw2 _ h5).mono ?_; rintro e w6 ⟨rfl, hg6⟩))
      go_ret
      exact ⟨rfl, hid.out.2.trans hg6⟩

theorem walk (v : Value) (c : Cf) (tn : Nat) (w : World) (hI : IsCf w v c) (htn : tn ≤ 255) :
    Calls Try.prog 6 #[v, .int .u8 (tn : Nat)] w fun e w' => e = .returned (.bool true) ∧ Bel w w' := by
  by_cases s : c.great9
  · exact no v c tn w hI (Or.inl s)
  · by_cases ok : c.ok
    · exact yes v c tn w hI s ok htn
    · exact no v c tn w hI (Or.inr ok)

/-! The row. -/
set_option maxRecDepth 100000 in
theorem lifted (os : Os) (started : os.Started) (H : Type) (enc : TypeId × Value → H) :
    ReturnsInHanded {} Try.checked os 6 .any (Rows.slotAlikeSpec.pre6 enc Try.prog Try.f6 Rows.slotAlikeRow.domain false) (Rows.slotAlikeSpec.post enc Try.prog Try.f6 false true false false) := by
  refine lift_law (C := Try.checked) own started (by kernel_rfl) Try.func6 laid rowed full (by rw [Try.params6]; decide) rfl (by kernel_rfl) Try.underlying4
    (fun ds h => by rw [Try.params6] at h; match ds, h with | [_, _], _ => rfl)
    (ChangeSpec.witness6 (enc := enc) (C := Try.checked) false ⟨#[], #[.agg #[.slice none 0 0, .int .i64 0, .slice none 0 0, .int .i64 0, .int .i64 0, .int .i64 0], .int .u8 0], []⟩ 8 (by kernel_rfl) (by kernel_rfl) (by kernel_rfl) (by kernel_rfl)) ?_
  intro W base args ds p hval hA
  change ∀ (j : Nat) t v, Try.f6.params[j]? = some t → args[j]? = some v → Value.okWide Try.prog W .any base t v at hval
  change DataW.TrodAll enc Try.prog W 0 (fun _ => true) true Try.f6.params.toList args.toList ds p at hA
  rw [Try.params6] at hA hval
  obtain ⟨v0, vs0, d0, ds0, p0, q0, hargs, rfl, rfl, h0, r0⟩ := trodAll_cons hA
  obtain ⟨v1, vs1, d1, ds1, p1, q1, hargs1, rfl, rfl, h1, r1⟩ := trodAll_cons r0
  obtain ⟨rfl, rfl, rfl⟩ := trodAll_nil r1
  subst hargs1
  obtain rfl : args = #[v0, v1] := by cases args; simp_all
  obtain ⟨c, hI, _⟩ := get_cf (hval 0 25 v0 rfl rfl) h0
  obtain ⟨tn, rfl, htn⟩ := get_u8 Try.underlying5 (hval 1 5 v1 rfl rfl) h1
  exact walk v0 c tn W hI htn

theorem over : Rows.slotAlikeRow.holds Try.pinned (OpenSpec.ofChange Rows.slotAlikeSpec) :=
  OpenClaim.holds_of_wide 6 Try.f6 rfl rfl rfl rfl rfl rfl rfl ⟨rfl, rfl, rfl, rfl, rfl⟩ rfl rfl rfl rfl rfl (by kernel_rfl) Try.func6 (by kernel_rfl)
    (of_decide_eq_true (by kernel_rfl)) (by unfold Func.isWrapper; first | (rw [if_pos (by decide +kernel)]; kernel_rfl) | (rw [if_neg (by decide +kernel)]; exact ⟨rfl, rfl⟩))
    (fun os started H enc _ => lifted os started H enc)

/-- The statement. -/
theorem proved : Rows.SlotAlikeSaid :=
  over
#print axioms proved
end Go.Proofs.Ytnnbeecjjbnpbaa.slotAlike
