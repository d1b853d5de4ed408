/- Slots and pages, of the document. -/
import Derived.Test.YthokalcibjjihaaGreatDoorCk
namespace Go.Proofs.YthokalcibjjihaaGreatDoor
open Go.ChangeShapes Go.WideShapes Go.ChangeAt Go.RowKit

namespace Cf
def slotsR (c : Cf) (t k : Int) : Int := if c.has t k then c.slots t.toNat k.toNat else 0
def pagesR (c : Cf) (t k : Int) : Int := if c.has t k then c.pages t.toNat k.toNat else 0
def hasE (c : Cf) (t k : Int) : Int := if c.has t k then 0 else 2
theorem hasE_ok {c : Cf} {t k : Int} (h : c.has t k) : c.hasE t k = 0 := if_pos h
theorem hasE_no {c : Cf} {t k : Int} (h : ¬ c.has t k) : c.hasE t k = 2 := if_neg h
theorem slotsR_ok {c : Cf} {t k : Int} (h : c.has t k) : c.slotsR t k = c.slots t.toNat k.toNat := if_pos h
theorem slotsR_no {c : Cf} {t k : Int} (h : ¬ c.has t k) : c.slotsR t k = 0 := if_neg h
theorem pagesR_ok {c : Cf} {t k : Int} (h : c.has t k) : c.pagesR t k = c.pages t.toNat k.toNat := if_pos h
theorem pagesR_no {c : Cf} {t k : Int} (h : ¬ c.has t k) : c.pagesR t k = 0 := if_neg h
theorem has_nat {c : Cf} {t k : Int} (h : c.has t k) : ∃ t' k' : Nat, t = t' ∧ k = k' ∧ t' < c.m ∧ k' < c.n := by
  obtain ⟨_, a, b⟩ := h
  exact ⟨t.toNat, k.toNat, by omega, by omega, by omega, by omega⟩
theorem has_of {c : Cf} {t k : Nat} (h : c.ok) (ht : t < c.m) (hk : k < c.n) : c.has t k := ⟨h, by omega, by omega⟩
end Cf

set_option maxHeartbeats 1000000 in
theorem there_any (v : Value) (c : Cf) (t k : Int) (w : World) (h : IsCf w v c) :
    Calls Tryz.prog 114 #[v, .int .i64 t, .int .i64 k] w fun e w' => e = .returned (.bool (decide (c.has t k))) ∧ Bel w w' := by
  have hI := h
  obtain ⟨vc, vt, rfl, hN, hT⟩ := h
  obtain ⟨p1, c1, rfl, b1⟩ := nums_slice hN
  obtain ⟨p2, c2, rfl, b2⟩ := tens_slice hT
  clear hN hT
  have hb0 : ∀ o, Bel w (w.alloc o) := fun o => (Bel.refl w).alloc o
  have hb := hb0 (.cells #[.slice p1 c.n c1, .int .i64 c.page, .slice p2 c.m c2, .int .i64 c.wk, .int .i64 c.gr, .int .i64 c.gn] 25)
  clear hb0
  have ch := rck_any _ c _ (hI.bel hb)
  clear hI
  obtain ⟨R, hR⟩ : ∃ R, decide (c.has t k) = R := ⟨_, rfl⟩
  rw [hR]
  by_cases o : c.ok
  · rw [Cf.checkC_ok o] at ch
    obtain ⟨B1, hB1⟩ : ∃ b, decide (0 ≤ t ∧ t ≤ (c.m : Int) - 1) = b := ⟨_, rfl⟩
    obtain ⟨B2, hB2⟩ : ∃ b, decide (0 ≤ k ∧ k ≤ (c.n : Int) - 1) = b := ⟨_, rfl⟩
    have f1 := from_b hB1
    have f2 := from_b hB2
    have e : decide (c.has t k) = (B1 && B2) := by
      rw [← hB1, ← hB2, ← Bool.decide_and]
      refine decide_eq_decide.2 ⟨fun x => ?_, fun x => ⟨o, ?_, ?_⟩⟩
      · obtain ⟨_, a, b⟩ := x; omega
      · omega
      · omega
    rw [e] at hR
    subst hR
    have m1 := (Cf.ok_m o)
    have n1 := (Cf.ok_n o)
    clear e hB1 hB2 o
    generalize c.n = n at *
    generalize c.m = m at *
    generalize c.page = pg at *
    generalize c.wk = wk at *
    generalize c.gr = gr at *
    generalize c.gn = gn at *
    cases B1
    all_goals
      go_enter Tryz.func114, Tryz.ntmps114
      go_wp2_with (first
        | (go_at_call 32; refine ch.mono ?_; rintro e w' ⟨rfl, hg⟩; obtain ⟨k0, k1, k2, k3, k4, k5⟩ := cf_at hg)
        | (go_at_call 79; ((with_reducible refine (f1 _).mono ?_); rintro e w' ⟨rfl, hw⟩; rw [hw]))
        | (go_at_call 79; ((with_reducible refine (f2 _).mono ?_); rintro e w' ⟨rfl, hw⟩; rw [hw])))
      go_ret
      exact ⟨rfl, hb.trans hg⟩
  · rw [Cf.checkC_no o] at ch
    rw [decide_eq_false fun x : c.has t k => o x.1] at hR
    subst hR
    clear o
    generalize c.n = n at *
    generalize c.m = m at *
    generalize c.page = pg at *
    generalize c.wk = wk at *
    generalize c.gr = gr at *
    generalize c.gn = gn at *
    go_enter Tryz.func114, Tryz.ntmps114
    go_wp2_with (go_at_call 32; refine ch.mono ?_; rintro e w' ⟨rfl, hg⟩; obtain ⟨k0, k1, k2, k3, k4, k5⟩ := cf_at hg)
    go_ret
    exact ⟨rfl, hb.trans hg⟩

set_option maxHeartbeats 1000000 in
theorem rslots_any (v : Value) (c : Cf) (t k : Int) (w : World) (h : IsCf w v c) :
    Calls Tryz.prog 82 #[v, .int .i64 t, .int .i64 k] w fun e w' => e = .returned (.tuple #[.int .i64 (c.slotsR t k), .int .i64 (c.hasE t k)]) ∧ Bel w w' := by
  have hI := h
  obtain ⟨vc, vt, rfl, hN, hT⟩ := h
  have hb0 : ∀ o, Bel w (w.alloc o) := fun o => (Bel.refl w).alloc o
  have hb := hb0 (.cells #[vc, .int .i64 c.page, vt, .int .i64 c.wk, .int .i64 c.gr, .int .i64 c.gn] 25)
  clear hb0
  have th := there_any _ c t k _ (hI.bel hb)
  clear hI
  by_cases hs : c.has t k
  · rw [decide_eq_true hs] at th
    rw [Cf.slotsR_ok hs, Cf.hasE_ok hs]
    obtain ⟨t, k, rfl, rfl, ht, hk⟩ := Cf.has_nat hs
    have o := hs.1
    rcases hN with ⟨e, _⟩ | ⟨b1, off1, cap1, rfl, n1, n2, n3, hF⟩
    · exact absurd hk (by omega)
    rcases hT with ⟨e, _⟩ | ⟨b2, off2, cap2, rfl, m1, m2, m3, hT⟩
    · exact absurd ht (by omega)
    have cF := hF k hk
    have cQ := (hT t ht).1
    have q1 := Cf.ok_Q o ht
    have f1 := Cf.ok_F o hk
    have s1 := Cf.slots_bd o ht hk
    have eS : c.Q t / c.F k = c.slots t k := rfl
    rw [Int.toNat_natCast, Int.toNat_natCast]
    have tI : (t : Int) < (c.m : Int) := by omega
    have kI : (k : Int) < (c.n : Int) := by omega
    have t0 : (0 : Int) ≤ (t : Int) := by omega
    have k0 : (0 : Int) ≤ (k : Int) := by omega
    obtain ⟨q1, q2, _⟩ := q1
    obtain ⟨f1, f2, _⟩ := f1
    obtain ⟨s1, s2, _⟩ := s1
    clear hF hT o hs ht hk
    generalize c.slots t k = S at *
    generalize c.Q t = q at *
    generalize c.F k = f at *
    generalize c.n = n at *
    generalize c.m = m at *
    generalize c.page = pg at *
    generalize c.wk = wk at *
    generalize c.gr = gr at *
    generalize c.gn = gn at *
    go_enter Tryz.func82, Tryz.ntmps82
    go_wp2_with (go_at_call 114; refine th.mono ?_; rintro e w' ⟨rfl, hg⟩; obtain ⟨k0, k1, k2, k3, k4, k5⟩ := cf_at hg; have cF1 := cell_bel (hb.trans hg) cF; have cQ1 := cell_bel (hb.trans hg) cQ)
    go_quiet (fail)
    go_wp2
    go_ret2
    exact ⟨by go_num, (hb.trans hg).then_drewN _⟩
  · rw [decide_eq_false hs] at th
    rw [Cf.slotsR_no hs, Cf.hasE_no hs]
    obtain ⟨p1, c1, rfl, b1⟩ := nums_slice hN
    obtain ⟨p2, c2, rfl, b2⟩ := tens_slice hT
    clear hN hT hs
    generalize c.n = n at *
    generalize c.m = m at *
    generalize c.page = pg at *
    generalize c.wk = wk at *
    generalize c.gr = gr at *
    generalize c.gn = gn at *
    go_enter Tryz.func82, Tryz.ntmps82
    go_wp2_with (go_at_call 114; refine th.mono ?_; rintro e w' ⟨rfl, hg⟩; obtain ⟨k0, k1, k2, k3, k4, k5⟩ := cf_at hg)
    go_ret2
    exact ⟨rfl, hb.trans hg⟩

set_option maxHeartbeats 1000000 in
theorem rpages_any (v : Value) (c : Cf) (t k : Int) (w : World) (h : IsCf w v c) :
    Calls Tryz.prog 115 #[v, .int .i64 t, .int .i64 k] w fun e w' => e = .returned (.tuple #[.int .i64 (c.pagesR t k), .int .i64 (c.hasE t k)]) ∧ Bel w w' := by
  have hI := h
  obtain ⟨vc, vt, rfl, hN, hT⟩ := h
  have hb0 : ∀ o, Bel w (w.alloc o) := fun o => (Bel.refl w).alloc o
  have hb := hb0 (.cells #[vc, .int .i64 c.page, vt, .int .i64 c.wk, .int .i64 c.gr, .int .i64 c.gn] 25)
  clear hb0
  have sl := rslots_any _ c t k _ (hI.bel hb)
  clear hI
  by_cases hs : c.has t k
  · rw [Cf.slotsR_ok hs, Cf.hasE_ok hs] at sl
    rw [Cf.pagesR_ok hs, Cf.hasE_ok hs]
    obtain ⟨t, k, rfl, rfl, ht, hk⟩ := Cf.has_nat hs
    have o := hs.1
    rcases hN with ⟨e, _⟩ | ⟨b1, off1, cap1, rfl, n1, n2, n3, hF⟩
    · exact absurd hk (by omega)
    obtain ⟨p2, c2, rfl, b2⟩ := tens_slice hT
    have cF := hF k hk
    rw [Int.toNat_natCast, Int.toNat_natCast] at sl ⊢
    have kI : (k : Int) < (c.n : Int) := by omega
    have k0 : (0 : Int) ≤ (k : Int) := by omega
    obtain ⟨p1, p2', _⟩ := Cf.ok_page o
    obtain ⟨f1, f2, _⟩ := Cf.ok_F o hk
    obtain ⟨s1, s2, _⟩ := Cf.slots_bd o ht hk
    obtain ⟨e1, e2, _⟩ := Cf.each_bd o hk
    obtain ⟨g1, g2, g3, g4⟩ := Cf.pages_bd o ht hk
    have eE : c.page / c.F k = c.each k := rfl
    have lt : ∀ p : Int, p * c.each k < c.slots t k ↔ p < c.pages t k := fun p => ceil_lt (by omega)
    clear hF hT o hs ht hk g3 g4
    generalize c.pages t k = Z at *
    generalize c.slots t k = S at *
    generalize c.each k = E at *
    generalize c.F k = f at *
    generalize c.n = n at *
    generalize c.m = m at *
    generalize c.page = pg at *
    generalize c.wk = wk at *
    generalize c.gr = gr at *
    generalize c.gn = gn at *
    have eW : IntKind.i64.wrap (pg.tdiv f) = E := by rw [Int.tdiv_eq_ediv_of_nonneg (by omega), eE, IntKind.wrap_i64]; omega
    have hlt := Lib.hid lt
    clear lt
    go_enter Tryz.func115, Tryz.ntmps115
    go_wp2_with (go_at_call 82; refine sl.mono ?_; rintro e w' ⟨rfl, hg⟩)
    go_loopw [10] (fun i wr => ∃ p : Nat, (p : Int) ≤ Z ∧ i = .int .i64 (p : Nat) ∧ Bel (w.alloc (.cells #[.slice (some ⟨b1, off1, none⟩) n cap1, .int .i64 pg, .slice p2 m c2, .int .i64 wk, .int .i64 gr, .int .i64 gn] 25)) wr) (fun i _ => (Z - intOf i).toNat)
    case atStart => exact ⟨0, by omega, rfl, hg⟩
    case round =>
      obtain ⟨p, hp, rfl, hbr⟩ := hrel
      obtain ⟨k0, k1, k2, k3, k4, k5⟩ := cf_at hbr
      have cF1 := cell_bel (hb.trans hbr) cF
      obtain ⟨X, hX⟩ : ∃ X, (p : Int) * E = X := ⟨_, rfl⟩
      have x0 : 0 ≤ X := by rw [← hX]; exact Int.mul_nonneg (by omega) (by omega)
      have x1 : X ≤ 262144 := by rw [← hX]; exact Int.mul_le_mul (show (p : Int) ≤ 4096 by omega) e2 (by omega) (by omega)
      by_cases cp : X < S
      · have cp2 : (p : Int) < Z := (hlt.out p).1 (by rw [hX]; exact cp)
        go_wp2
        go_quiet (fail)
        go_wp2
        go_roundw
        case rel => exact ⟨p + 1, by omega, by go_num, hbr.then_drewN _⟩
        case measure => simp only [intOf]; omega
      · have cp2 : (p : Int) = Z := by
          by_cases x : (p : Int) < Z
          · exact absurd ((hlt.out p).2 x) (by rw [hX]; exact cp)
          · omega
        have d : decide (X < S) = false := decide_eq_false cp
        subst cp2
        go_wp2
        go_quiet (fail)
        go_wp2
        go_ret2
        exact ⟨rfl, (hb.trans hbr).then_drewN _⟩
  · rw [Cf.slotsR_no hs, Cf.hasE_no hs] at sl
    rw [Cf.pagesR_no hs, Cf.hasE_no hs]
    obtain ⟨p1, c1, rfl, b1⟩ := nums_slice hN
    obtain ⟨p2, c2, rfl, b2⟩ := tens_slice hT
    clear hN hT hs
    generalize c.n = n at *
    generalize c.m = m at *
    generalize c.page = pg at *
    generalize c.wk = wk at *
    generalize c.gr = gr at *
    generalize c.gn = gn at *
    go_enter Tryz.func115, Tryz.ntmps115
    go_wp2_with (go_at_call 82; refine sl.mono ?_; rintro e w' ⟨rfl, hg⟩)
    go_ret2
    exact ⟨rfl, hb.trans hg⟩

end Go.Proofs.YthokalcibjjihaaGreatDoor
