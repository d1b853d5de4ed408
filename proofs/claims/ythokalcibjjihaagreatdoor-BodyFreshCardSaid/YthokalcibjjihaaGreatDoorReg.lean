/- Regions, bases and the total, of the document. -/
import Derived.Test.YthokalcibjjihaaGreatDoorSlo
namespace Go.Proofs.YthokalcibjjihaaGreatDoor
open Go.ChangeShapes Go.WideShapes Go.ChangeAt Go.RowKit

namespace Cf
def regR (c : Cf) (t : Int) : Int := if c.has t 0 then c.region t.toNat else 0
def baseR (c : Cf) (t : Int) : Int := if c.has t 0 then c.base t.toNat else 0
def totR (c : Cf) : Int := if c.ok then c.base c.m else 0
theorem regR_ok {c : Cf} {t : Int} (h : c.has t 0) : c.regR t = c.region t.toNat := if_pos h
theorem regR_no {c : Cf} {t : Int} (h : ¬ c.has t 0) : c.regR t = 0 := if_neg h
theorem baseR_ok {c : Cf} {t : Int} (h : c.has t 0) : c.baseR t = c.base t.toNat := if_pos h
theorem baseR_no {c : Cf} {t : Int} (h : ¬ c.has t 0) : c.baseR t = 0 := if_neg h
theorem totR_ok {c : Cf} (h : c.ok) : c.totR = c.base c.m := if_pos h
theorem totR_no {c : Cf} (h : ¬ c.ok) : c.totR = 0 := if_neg h
theorem has_zero {c : Cf} {t : Nat} (h : c.ok) (ht : t < c.m) : c.has t 0 := ⟨h, by omega, by have := (ok_n h).1; omega⟩
end Cf

set_option maxHeartbeats 1000000 in
theorem rreg_any (v : Value) (c : Cf) (t : Int) (w : World) (h : IsCf w v c) :
    Calls Tryz.prog 77 #[v, .int .i64 t] w fun e w' => e = .returned (.tuple #[.int .i64 (c.regR t), .int .i64 (c.hasE t 0)]) ∧ Bel w w' := by
  have hI := h
  obtain ⟨vc, vt, rfl, hN, hT⟩ := h
  obtain ⟨p1, c1, rfl, b1⟩ := nums_slice hN
  obtain ⟨p2, c2, rfl, b2⟩ := tens_slice hT
  clear hN hT
  have hb0 : ∀ o, Bel w (w.alloc o) := fun o => (Bel.refl w).alloc o
  have hb := hb0 (.cells #[.slice p1 c.n c1, .int .i64 c.page, .slice p2 c.m c2, .int .i64 c.wk, .int .i64 c.gr, .int .i64 c.gn] 25)
  clear hb0
  have th := there_any _ c t 0 _ (hI.bel hb)
  by_cases hs : c.has t 0
  · rw [decide_eq_true hs] at th
    rw [Cf.regR_ok hs, Cf.hasE_ok hs]
    obtain ⟨t, k9, rfl, hk9, ht, hk8⟩ := Cf.has_nat hs
    clear hk9 hk8
    have o := hs.1
    rw [Int.toNat_natCast]
    obtain ⟨g1, g2, _⟩ := Cf.ok_page o
    have n8 := (Cf.ok_n o).2
    have hid := Lib.hid (And.intro hI (And.intro o ht))
    obtain ⟨f, hf⟩ : ∃ f, (fun k => c.pages t k * c.page) = f := ⟨_, rfl⟩
    have hfk : ∀ k, c.pages t k * c.page = f k := fun k => by rw [← hf]
    have hreg : c.region t = sumTo f c.n := by rw [← hf]; rfl
    have bd : ∀ j, j ≤ c.n → 0 ≤ sumTo f j ∧ sumTo f j ≤ 2097152 := fun j hj => by rw [← hf]; exact Cf.region_to o ht hj
    have hid2 := Lib.hid (And.intro hreg (And.intro hfk bd))
    clear hreg hfk bd hf hs o ht
    rw [hid2.out.1]
    go_enter Tryz.func77, Tryz.ntmps77
    go_wp2_with (go_at_call 114; refine th.mono ?_; rintro e w' ⟨rfl, hg⟩)
    go_loopw [6, 7] (fun s i wr => ∃ j : Nat, j ≤ c.n ∧ i = .int .i64 (j : Nat) ∧ s = .int .i64 (sumTo f j) ∧ Bel (w.alloc (.cells #[.slice p1 c.n c1, .int .i64 c.page, .slice p2 c.m c2, .int .i64 c.wk, .int .i64 c.gr, .int .i64 c.gn] 25)) wr) (fun _ i _ => c.n - (intOf i).toNat)
    case atStart => exact ⟨0, Nat.zero_le _, rfl, rfl, hg⟩
    case round =>
      obtain ⟨j, hj, rfl, rfl, hbr⟩ := hrel
      obtain ⟨k0, k1, k2, k3, k4, k5⟩ := cf_at hbr
      by_cases cj : j < c.n
      · obtain ⟨hI, o, ht⟩ := hid.out
        have pg := rpages_any _ c t j _ (hI.bel (hb.trans hbr))
        rw [Cf.pagesR_ok (Cf.has_of o ht cj), Cf.hasE_ok (Cf.has_of o ht cj), Int.toNat_natCast, Int.toNat_natCast] at pg
        obtain ⟨q1, q2, _⟩ := Cf.pages_bd o ht cj
        obtain ⟨x1, x2⟩ := Cf.words_bd o ht cj
        have hX := hid2.out.2.1 j
        obtain ⟨y1, y2⟩ := hid2.out.2.2 j hj
        have hS : sumTo f (j + 1) = sumTo f j + f j := rfl
        rw [hX] at x1 x2
        have hid3 := Lib.hid hS
        clear hI o ht hS
        generalize c.pages t j = P at *
        generalize sumTo f j = S at *
        generalize f j = X at *
        go_wp2_with (go_at_call 115; refine pg.mono ?_; rintro e w' ⟨rfl, hg2⟩; obtain ⟨i0, i1, i2, i3, i4, i5⟩ := cf_at (hbr.trans hg2))
        go_roundw
        case rel => exact ⟨j + 1, by omega, by go_num, by rw [hid3.out], hbr.trans hg2⟩
        case measure => simp only [intOf]; omega
      · obtain rfl : j = c.n := by omega
        go_wp2
        go_ret2
        exact ⟨rfl, hb.trans hbr⟩
  · rw [decide_eq_false hs] at th
    rw [Cf.regR_no hs, Cf.hasE_no hs]
    clear hI hs
    go_enter Tryz.func77, Tryz.ntmps77
    go_wp2_with (go_at_call 114; refine th.mono ?_; rintro e w' ⟨rfl, hg⟩)
    go_ret2
    exact ⟨rfl, hb.trans hg⟩

set_option maxHeartbeats 1000000 in
theorem rbase_any (v : Value) (c : Cf) (t : Int) (w : World) (h : IsCf w v c) :
    Calls Tryz.prog 76 #[v, .int .i64 t] w fun e w' => e = .returned (.tuple #[.int .i64 (c.baseR t), .int .i64 (c.hasE t 0)]) ∧ Bel w w' := by
  have hI := h
  obtain ⟨vc, vt, rfl, hN, hT⟩ := h
  obtain ⟨p1, c1, rfl, b1⟩ := nums_slice hN
  obtain ⟨p2, c2, rfl, b2⟩ := tens_slice hT
  clear hN hT
  have hb0 : ∀ o, Bel w (w.alloc o) := fun o => (Bel.refl w).alloc o
  have hb := hb0 (.cells #[.slice p1 c.n c1, .int .i64 c.page, .slice p2 c.m c2, .int .i64 c.wk, .int .i64 c.gr, .int .i64 c.gn] 25)
  clear hb0
  have th := there_any _ c t 0 _ (hI.bel hb)
  by_cases hs : c.has t 0
  · rw [decide_eq_true hs] at th
    rw [Cf.baseR_ok hs, Cf.hasE_ok hs]
    obtain ⟨t, k9, rfl, hk9, ht, hk8⟩ := Cf.has_nat hs
    clear hk9 hk8
    have o := hs.1
    rw [Int.toNat_natCast]
    have m8 := (Cf.ok_m o).2
    have hid := Lib.hid (And.intro hI (And.intro o ht))
    have tb : t ≤ 8 := by omega
    clear hs o ht
    go_enter Tryz.func76, Tryz.ntmps76
    go_wp2_with (go_at_call 114; refine th.mono ?_; rintro e w' ⟨rfl, hg⟩)
    go_loopw [6, 7] (fun s i wr => ∃ j : Nat, j ≤ t ∧ i = .int .i64 (j : Nat) ∧ s = .int .i64 (c.base j) ∧ Bel (w.alloc (.cells #[.slice p1 c.n c1, .int .i64 c.page, .slice p2 c.m c2, .int .i64 c.wk, .int .i64 c.gr, .int .i64 c.gn] 25)) wr) (fun _ i _ => t - (intOf i).toNat)
    case atStart => exact ⟨0, Nat.zero_le _, rfl, rfl, hg⟩
    case round =>
      obtain ⟨j, hj, rfl, rfl, hbr⟩ := hrel
      obtain ⟨k0, k1, k2, k3, k4, k5⟩ := cf_at hbr
      by_cases cj : j < t
      · obtain ⟨hI, o, ht⟩ := hid.out
        have rg := rreg_any _ c j _ (hI.bel (hb.trans hbr))
        have hz := Cf.has_zero o (show j < c.m by omega)
        rw [Cf.regR_ok hz, Cf.hasE_ok hz, Int.toNat_natCast] at rg
        obtain ⟨x1, x2⟩ := Cf.region_bd o (show j < c.m by omega)
        obtain ⟨y1, y2⟩ := Cf.base_bd o (show j ≤ c.m by omega)
        have hS := Cf.base_succ c j
        have hid3 := Lib.hid hS
        clear hI o ht hS hz
        generalize c.base j = S at *
        generalize c.region j = X at *
        go_wp2_with (go_at_call 77; refine rg.mono ?_; rintro e w' ⟨rfl, hg2⟩; obtain ⟨i0, i1, i2, i3, i4, i5⟩ := cf_at (hbr.trans hg2))
        go_roundw
        case rel => exact ⟨j + 1, by omega, by go_num, by rw [hid3.out], hbr.trans hg2⟩
        case measure => simp only [intOf]; omega
      · obtain rfl : j = t := by omega
        go_wp2
        go_ret2
        exact ⟨rfl, hb.trans hbr⟩
  · rw [decide_eq_false hs] at th
    rw [Cf.baseR_no hs, Cf.hasE_no hs]
    clear hI hs
    go_enter Tryz.func76, Tryz.ntmps76
    go_wp2_with (go_at_call 114; refine th.mono ?_; rintro e w' ⟨rfl, hg⟩)
    go_ret2
    exact ⟨rfl, hb.trans hg⟩

set_option maxHeartbeats 1000000 in
theorem rtot_any (v : Value) (c : Cf) (w : World) (h : IsCf w v c) :
    Calls Tryz.prog 30 #[v] w fun e w' => e = .returned (.tuple #[.int .i64 c.totR, .int .i64 c.checkC]) ∧ Bel w w' := by
  have hI := h
  obtain ⟨vc, vt, rfl, hN, hT⟩ := h
  obtain ⟨p1, c1, rfl, b1⟩ := nums_slice hN
  obtain ⟨p2, c2, rfl, b2⟩ := tens_slice hT
  clear hN hT
  have hb0 : ∀ o, Bel w (w.alloc o) := fun o => (Bel.refl w).alloc o
  have hb := hb0 (.cells #[.slice p1 c.n c1, .int .i64 c.page, .slice p2 c.m c2, .int .i64 c.wk, .int .i64 c.gr, .int .i64 c.gn] 25)
  clear hb0
  have bs := fun w1 (g : Bel w w1) => (rbase_any _ c ((c.m : Int) - 1) w1 (hI.bel g)).mono fun e w' ⟨a, b⟩ => (⟨a, g.trans b⟩ : _ ∧ Bel w w')
  have bs := rbase_any _ c ((c.m : Int) - 1) _ (hI.bel hb)
  by_cases o : c.ok
  · have m1 := Cf.ok_m o
    obtain ⟨t, ht⟩ : ∃ t, c.m = t + 1 := ⟨c.m - 1, by omega⟩
    have et : ((c.m : Int) - 1) = (t : Int) := by omega
    have hz := Cf.has_zero o (show t < c.m by omega)
    rw [et, Cf.baseR_ok hz, Cf.hasE_ok hz, Int.toNat_natCast] at bs
    rw [Cf.totR_ok o, Cf.checkC_ok o]
    obtain ⟨x1, x2⟩ := Cf.region_bd o (show t < c.m by omega)
    obtain ⟨y1, y2⟩ := Cf.base_bd o (show t ≤ c.m by omega)
    have hS := Cf.base_succ c t
    rw [← ht] at hS
    rw [hS]
    have rg := fun w1 (g : Bel w w1) => (rreg_any _ c t w1 (hI.bel g))
    simp only [Cf.regR_ok hz, Cf.hasE_ok hz, Int.toNat_natCast] at rg
    have hid := Lib.hid hI
    clear hS hz o hI ht
    generalize c.base t = S at *
    generalize c.region t = X at *
    go_enter Tryz.func30, Tryz.ntmps30
    go_wp2_with (first
      | (go_at_call 76; refine bs.mono ?_; rintro e w' ⟨rfl, hg⟩; obtain ⟨i0, i1, i2, i3, i4, i5⟩ := cf_at hg; have hg1 := hb.trans hg)
      | (go_at_call 77; refine (rg _ (by assumption)).mono ?_; rintro e w' ⟨rfl, hg2⟩))
    go_ret2
    exact ⟨rfl, (hb.trans hg).trans hg2⟩
  · have hs : ¬ c.has ((c.m : Int) - 1) 0 := fun x => o x.1
    rw [Cf.baseR_no hs, Cf.hasE_no hs] at bs
    rw [Cf.totR_no o, Cf.checkC_no o]
    clear hI hs o
    go_enter Tryz.func30, Tryz.ntmps30
    go_wp2_with (go_at_call 76; refine bs.mono ?_; rintro e w' ⟨rfl, hg⟩)
    go_ret2
    exact ⟨rfl, hb.trans hg⟩

end Go.Proofs.YthokalcibjjihaaGreatDoor
