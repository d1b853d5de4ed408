/- Slots, Pages, Region of package conf. -/
import Derived.Test.YthokalcibjjihaaGreatDoorPsu
namespace Go.Proofs.YthokalcibjjihaaGreatDoor
open Go.ChangeShapes Go.WideShapes Go.ChangeAt Go.RowKit

/-- a boxed configuration's cells and five more, and that all lies as it lay -/
theorem keep11 {w W : World} {a b c d e f : Value} {t : TypeId} {x0 x1 x2 x3 x4 : Addr} {y0 y1 y2 y3 y4 : Value}
    (c0 : w.cell? x0 = some y0) (c1 : w.cell? x1 = some y1) (c2 : w.cell? x2 = some y2) (c3 : w.cell? x3 = some y3) (c4 : w.cell? x4 = some y4) (h : Bel (w.alloc (.cells #[a, b, c, d, e, f] t)) W) :
    Bel (w.alloc (.cells #[a, b, c, d, e, f] t)) W ∧ W.cell? ⟨w.heap.size, 0, none⟩ = some a ∧ W.cell? ⟨w.heap.size, 1, none⟩ = some b ∧ W.cell? ⟨w.heap.size, 2, none⟩ = some c ∧ W.cell? ⟨w.heap.size, 3, none⟩ = some d ∧ W.cell? ⟨w.heap.size, 4, none⟩ = some e ∧ W.cell? ⟨w.heap.size, 5, none⟩ = some f ∧
      W.cell? x0 = some y0 ∧ W.cell? x1 = some y1 ∧ W.cell? x2 = some y2 ∧ W.cell? x3 = some y3 ∧ W.cell? x4 = some y4 := by
  have g : Bel w W := ((Bel.refl w).alloc _).trans h
  obtain ⟨k0, k1, k2, k3, k4, k5⟩ := cf_at h
  exact ⟨h, k0, k1, k2, k3, k4, k5, cell_bel g c0, cell_bel g c1, cell_bel g c2, cell_bel g c3, cell_bel g c4⟩

set_option maxHeartbeats 1000000 in
theorem pslots_any (v : Value) (c : Cf) (t k : Int) (w : World) (h : IsCf w v c) :
    Calls Tryz.prog 69 #[v, .int .i64 t, .int .i64 k] w fun e w' => e = .returned (.tuple #[.int .i64 (c.slotsR t k), .int .i64 (c.hasE t k)]) ∧ Bel w w' := by
  have hI := h
  obtain ⟨vc, vt, rfl, hN, hT⟩ := h
  have hb0 : ∀ o, Bel w (w.alloc o) := fun o => (Bel.refl w).alloc o
  have hb := hb0 (.cells #[vc, .int .i64 c.page, vt, .int .i64 c.wk, .int .i64 c.gr, .int .i64 c.gn] 25)
  clear hb0
  have th := find_any _ c t k _ (hI.bel hb)
  clear hI
  by_cases hs : c.has t k
  · rw [Cf.hasE_ok hs] at th
    rw [Cf.slotsR_ok hs, Cf.hasE_ok hs]
    obtain ⟨t, k, rfl, rfl, ht, hk⟩ := Cf.has_nat hs
    have o := hs.1
    rcases hN with ⟨e, _⟩ | ⟨b1, off1, cap1, rfl, n1, n2, n3, hF⟩
    · exact absurd hk (by omega)
    rcases hT with ⟨e, _⟩ | ⟨b2, off2, cap2, rfl, m1, m2, m3, hT⟩
    · exact absurd ht (by omega)
    have cF := hF k hk
    obtain ⟨cQ, cT, cC, cA⟩ := hT t ht
    obtain ⟨q1, q2, _⟩ := Cf.ok_Q o ht
    obtain ⟨f1, f2, _⟩ := Cf.ok_F o hk
    obtain ⟨s1, s2, _⟩ := Cf.slots_bd o ht hk
    have sl := fun W => slots1_any (c.Q t) (c.Tr t) (c.Cp t) (c.As t) (c.F k) W (S := c.slots t k) rfl (by omega) q2 f1 f2 (by omega) s2
    rw [Int.toNat_natCast, Int.toNat_natCast]
    have tI : (t : Int) < (c.m : Int) := by omega
    have kI : (k : Int) < (c.n : Int) := by omega
    have t0 : (0 : Int) ≤ (t : Int) := by omega
    have k0 : (0 : Int) ≤ (k : Int) := by omega
    clear hF hT o hs ht hk q1 q2 f1 f2 s1 s2
    generalize c.slots t k = S at *
    generalize c.Q t = q at *
    generalize c.Tr t = tr at *
    generalize c.Cp t = cp at *
    generalize c.As t = sz at *
    generalize c.F k = f at *
    generalize c.n = n at *
    generalize c.m = m at *
    generalize c.page = pg at *
    generalize c.wk = wk at *
    generalize c.gr = gr at *
    generalize c.gn = gn at *
    have kp := fun W (g : Bel (w.alloc (.cells #[.slice (some ⟨b1, off1, none⟩) n cap1, .int .i64 pg, .slice (some ⟨b2, off2, none⟩) m cap2, .int .i64 wk, .int .i64 gr, .int .i64 gn] 25)) W) => keep11 cQ cT cC cA cF g
    go_enter Tryz.func69, Tryz.ntmps69
    go_wp2_with (go_at_call 104; refine th.mono ?_; rintro e w' ⟨rfl, hg⟩; obtain ⟨_, k0, k1, k2, k3, k4, k5, x0, x1, x2, x3, x4⟩ := kp _ hg)
    go_region_held3 (fun w' => Bel (w.alloc (.cells #[.slice (some ⟨b1, off1, none⟩) n cap1, .int .i64 pg, .slice (some ⟨b2, off2, none⟩) m cap2, .int .i64 wk, .int .i64 gr, .int .i64 gn] 25)) w' ∧ w'.cell? ⟨w.heap.size, 0, none⟩ = some (.slice (some ⟨b1, off1, none⟩) n cap1) ∧ w'.cell? ⟨w.heap.size, 1, none⟩ = some (.int .i64 pg) ∧ w'.cell? ⟨w.heap.size, 2, none⟩ = some (.slice (some ⟨b2, off2, none⟩) m cap2) ∧ w'.cell? ⟨w.heap.size, 3, none⟩ = some (.int .i64 wk) ∧ w'.cell? ⟨w.heap.size, 4, none⟩ = some (.int .i64 gr) ∧ w'.cell? ⟨w.heap.size, 5, none⟩ = some (.int .i64 gn) ∧
        w'.cell? ⟨b2, off2 + t * 4, none⟩ = some (.int .i64 q) ∧ w'.cell? ⟨b2, off2 + t * 4 + 1, none⟩ = some (.int .i64 tr) ∧ w'.cell? ⟨b2, off2 + t * 4 + 2, none⟩ = some (.int .i64 cp) ∧ w'.cell? ⟨b2, off2 + t * 4 + 3, none⟩ = some (.int .i64 sz) ∧ w'.cell? ⟨b1, off1 + k, none⟩ = some (.int .i64 f))
      (first | with_reducible exact kp _ (by assumption) | with_reducible exact kp _ (Bel.drew (by assumption)) | with_reducible exact kp _ (Bel.trans (by assumption) (by assumption)) | with_reducible exact kp _ (Bel.trans (Bel.drew (by assumption)) (by assumption)))
      (first | (go_at_call 106; refine (sl _).mono ?_; rintro e w' ⟨rfl, hg2⟩))
    go_wp2
    go_ret2
    exact ⟨rfl, hb.trans (hg.trans (Bel.trans ((Bel.refl _).drew) hg2))⟩
  · rw [Cf.hasE_no hs] at th
    rw [Cf.slotsR_no hs, Cf.hasE_no hs]
    obtain ⟨p1, c1, rfl, b1⟩ := nums_slice hN
    obtain ⟨p2, c2, rfl, b2⟩ := tens_slice hT
    clear hN hT hs
    generalize c.n = n at *
    generalize c.m = m at *
    generalize c.page = pg at *
    generalize c.wk = wk at *
    generalize c.gr = gr at *
    generalize c.gn = gn at *
    go_enter Tryz.func69, Tryz.ntmps69
    go_wp2_with (go_at_call 104; refine th.mono ?_; rintro e w' ⟨rfl, hg⟩; obtain ⟨k0, k1, k2, k3, k4, k5⟩ := cf_at hg)
    go_ret2
    exact ⟨rfl, hb.trans hg⟩

set_option maxHeartbeats 1000000 in
theorem ppages_any (v : Value) (c : Cf) (t k : Int) (w : World) (h : IsCf w v c) :
    Calls Tryz.prog 70 #[v, .int .i64 t, .int .i64 k] w fun e w' => e = .returned (.tuple #[.int .i64 (c.pagesR t k), .int .i64 (c.hasE t k)]) ∧ Bel w w' := by
  have hI := h
  obtain ⟨vc, vt, rfl, hN, hT⟩ := h
  have hb0 : ∀ o, Bel w (w.alloc o) := fun o => (Bel.refl w).alloc o
  have hb := hb0 (.cells #[vc, .int .i64 c.page, vt, .int .i64 c.wk, .int .i64 c.gr, .int .i64 c.gn] 25)
  clear hb0
  have th := find_any _ c t k _ (hI.bel hb)
  clear hI
  by_cases hs : c.has t k
  · rw [Cf.hasE_ok hs] at th
    rw [Cf.pagesR_ok hs, Cf.hasE_ok hs]
    obtain ⟨t, k, rfl, rfl, ht, hk⟩ := Cf.has_nat hs
    have o := hs.1
    rcases hN with ⟨e, _⟩ | ⟨b1, off1, cap1, rfl, n1, n2, n3, hF⟩
    · exact absurd hk (by omega)
    rcases hT with ⟨e, _⟩ | ⟨b2, off2, cap2, rfl, m1, m2, m3, hT⟩
    · exact absurd ht (by omega)
    have cF := hF k hk
    obtain ⟨cQ, cT, cC, cA⟩ := hT t ht
    have sl := fun W => pages_cf o ht hk W
    rw [Int.toNat_natCast, Int.toNat_natCast]
    have tI : (t : Int) < (c.m : Int) := by omega
    have kI : (k : Int) < (c.n : Int) := by omega
    have t0 : (0 : Int) ≤ (t : Int) := by omega
    have k0 : (0 : Int) ≤ (k : Int) := by omega
    clear hF hT o hs ht hk
    generalize c.pages t k = S at *
    generalize c.Q t = q at *
    generalize c.Tr t = tr at *
    generalize c.Cp t = cp at *
    generalize c.As t = sz at *
    generalize c.F k = f at *
    generalize c.n = n at *
    generalize c.m = m at *
    generalize c.page = pg at *
    generalize c.wk = wk at *
    generalize c.gr = gr at *
    generalize c.gn = gn at *
    have kp := fun W (g : Bel (w.alloc (.cells #[.slice (some ⟨b1, off1, none⟩) n cap1, .int .i64 pg, .slice (some ⟨b2, off2, none⟩) m cap2, .int .i64 wk, .int .i64 gr, .int .i64 gn] 25)) W) => keep11 cQ cT cC cA cF g
    go_enter Tryz.func70, Tryz.ntmps70
    go_wp2_with (go_at_call 104; refine th.mono ?_; rintro e w' ⟨rfl, hg⟩; obtain ⟨_, k0, k1, k2, k3, k4, k5, x0, x1, x2, x3, x4⟩ := kp _ hg)
    go_region_held3 (fun w' => Bel (w.alloc (.cells #[.slice (some ⟨b1, off1, none⟩) n cap1, .int .i64 pg, .slice (some ⟨b2, off2, none⟩) m cap2, .int .i64 wk, .int .i64 gr, .int .i64 gn] 25)) w' ∧ w'.cell? ⟨w.heap.size, 0, none⟩ = some (.slice (some ⟨b1, off1, none⟩) n cap1) ∧ w'.cell? ⟨w.heap.size, 1, none⟩ = some (.int .i64 pg) ∧ w'.cell? ⟨w.heap.size, 2, none⟩ = some (.slice (some ⟨b2, off2, none⟩) m cap2) ∧ w'.cell? ⟨w.heap.size, 3, none⟩ = some (.int .i64 wk) ∧ w'.cell? ⟨w.heap.size, 4, none⟩ = some (.int .i64 gr) ∧ w'.cell? ⟨w.heap.size, 5, none⟩ = some (.int .i64 gn) ∧
        w'.cell? ⟨b2, off2 + t * 4, none⟩ = some (.int .i64 q) ∧ w'.cell? ⟨b2, off2 + t * 4 + 1, none⟩ = some (.int .i64 tr) ∧ w'.cell? ⟨b2, off2 + t * 4 + 2, none⟩ = some (.int .i64 cp) ∧ w'.cell? ⟨b2, off2 + t * 4 + 3, none⟩ = some (.int .i64 sz) ∧ w'.cell? ⟨b1, off1 + k, none⟩ = some (.int .i64 f))
      (first | with_reducible exact kp _ (by assumption) | with_reducible exact kp _ (Bel.drew (by assumption)) | with_reducible exact kp _ (Bel.trans (by assumption) (by assumption)) | with_reducible exact kp _ (Bel.trans (Bel.drew (by assumption)) (by assumption)))
      (first | (go_at_call 107; refine (sl _).mono ?_; rintro e w' ⟨rfl, hg2⟩))
    go_wp2
    go_ret2
    exact ⟨rfl, hb.trans (hg.trans (Bel.trans ((Bel.refl _).drew) hg2))⟩
  · rw [Cf.hasE_no hs] at th
    rw [Cf.pagesR_no hs, Cf.hasE_no hs]
    obtain ⟨p1, c1, rfl, b1⟩ := nums_slice hN
    obtain ⟨p2, c2, rfl, b2⟩ := tens_slice hT
    clear hN hT hs
    generalize c.n = n at *
    generalize c.m = m at *
    generalize c.page = pg at *
    generalize c.wk = wk at *
    generalize c.gr = gr at *
    generalize c.gn = gn at *
    go_enter Tryz.func70, Tryz.ntmps70
    go_wp2_with (go_at_call 104; refine th.mono ?_; rintro e w' ⟨rfl, hg⟩; obtain ⟨k0, k1, k2, k3, k4, k5⟩ := cf_at hg)
    go_ret2
    exact ⟨rfl, hb.trans hg⟩

set_option maxHeartbeats 1000000 in
theorem preg_any (v : Value) (c : Cf) (t : Int) (w : World) (h : IsCf w v c) :
    Calls Tryz.prog 68 #[v, .int .i64 t] w fun e w' => e = .returned (.tuple #[.int .i64 (c.regR t), .int .i64 (c.hasE t 0)]) ∧ Bel w w' := by
  have hI := h
  obtain ⟨vc, vt, rfl, hN, hT⟩ := h
  have hb0 : ∀ o, Bel w (w.alloc o) := fun o => (Bel.refl w).alloc o
  have hb := hb0 (.cells #[vc, .int .i64 c.page, vt, .int .i64 c.wk, .int .i64 c.gr, .int .i64 c.gn] 25)
  clear hb0
  have th := find_any _ c t 0 _ (hI.bel hb)
  by_cases hs : c.has t 0
  · rw [Cf.hasE_ok hs] at th
    rw [Cf.regR_ok hs, Cf.hasE_ok hs]
    obtain ⟨t, k, rfl, -, ht, hk⟩ := Cf.has_nat hs
    have o := hs.1
    obtain ⟨p1, c1, rfl, _⟩ := nums_slice hN
    rcases hT with ⟨e, _⟩ | ⟨b2, off2, cap2, rfl, m1, m2, m3, hT⟩
    · exact absurd ht (by omega)
    obtain ⟨cQ, cT, cC, cA⟩ := hT t ht
    have sl := fun W (g : Bel (w.alloc (.cells #[.slice p1 c.n c1, .int .i64 c.page, .slice (some ⟨b2, off2, none⟩) c.m cap2, .int .i64 c.wk, .int .i64 c.gr, .int .i64 c.gn] 25)) W) => (region1_any _ c t W (hI.bel (hb.trans g)) o ht).mono fun e w' ⟨a, b⟩ => (⟨a, g.trans b⟩ : _ ∧ Bel (w.alloc (.cells #[.slice p1 c.n c1, .int .i64 c.page, .slice (some ⟨b2, off2, none⟩) c.m cap2, .int .i64 c.wk, .int .i64 c.gr, .int .i64 c.gn] 25)) w')
    rw [Int.toNat_natCast]
    have tI : (t : Int) < (c.m : Int) := by omega
    have t0 : (0 : Int) ≤ (t : Int) := by omega
    clear hT o hs ht hk hI hN
    generalize c.region t = S at *
    generalize c.Q t = q at *
    generalize c.Tr t = tr at *
    generalize c.Cp t = cp at *
    generalize c.As t = sz at *
    generalize c.n = n at *
    generalize c.m = m at *
    generalize c.page = pg at *
    generalize c.wk = wk at *
    generalize c.gr = gr at *
    generalize c.gn = gn at *
    have kp := fun W (g : Bel (w.alloc (.cells #[.slice p1 n c1, .int .i64 pg, .slice (some ⟨b2, off2, none⟩) m cap2, .int .i64 wk, .int .i64 gr, .int .i64 gn] 25)) W) => keep11 cQ cT cC cA cQ g
    go_enter Tryz.func68, Tryz.ntmps68
    go_wp2_with (go_at_call 104; refine th.mono ?_; rintro e w' ⟨rfl, hg⟩; obtain ⟨_, k0, k1, k2, k3, k4, k5, x0, x1, x2, x3, _⟩ := kp _ hg)
    go_region_held3 (fun w' => Bel (w.alloc (.cells #[.slice p1 n c1, .int .i64 pg, .slice (some ⟨b2, off2, none⟩) m cap2, .int .i64 wk, .int .i64 gr, .int .i64 gn] 25)) w' ∧ w'.cell? ⟨w.heap.size, 0, none⟩ = some (.slice p1 n c1) ∧ w'.cell? ⟨w.heap.size, 1, none⟩ = some (.int .i64 pg) ∧ w'.cell? ⟨w.heap.size, 2, none⟩ = some (.slice (some ⟨b2, off2, none⟩) m cap2) ∧ w'.cell? ⟨w.heap.size, 3, none⟩ = some (.int .i64 wk) ∧ w'.cell? ⟨w.heap.size, 4, none⟩ = some (.int .i64 gr) ∧ w'.cell? ⟨w.heap.size, 5, none⟩ = some (.int .i64 gn) ∧
        w'.cell? ⟨b2, off2 + t * 4, none⟩ = some (.int .i64 q) ∧ w'.cell? ⟨b2, off2 + t * 4 + 1, none⟩ = some (.int .i64 tr) ∧ w'.cell? ⟨b2, off2 + t * 4 + 2, none⟩ = some (.int .i64 cp) ∧ w'.cell? ⟨b2, off2 + t * 4 + 3, none⟩ = some (.int .i64 sz) ∧ w'.cell? ⟨b2, off2 + t * 4, none⟩ = some (.int .i64 q))
      (first | with_reducible exact kp _ (by assumption) | with_reducible exact kp _ (Bel.drew (by assumption)) | with_reducible exact kp _ (Bel.trans (by assumption) (by assumption)) | with_reducible exact kp _ (Bel.trans (Bel.drew (by assumption)) (by assumption)))
      (first | (go_at_call 105; refine (sl _ (by first | assumption | exact Bel.drew (by assumption))).mono ?_; rintro e w' ⟨rfl, hg2⟩))
    go_wp2
    go_ret2
    exact ⟨rfl, hb.trans hg2⟩
  · rw [Cf.hasE_no hs] at th
    rw [Cf.regR_no hs, Cf.hasE_no hs]
    obtain ⟨p1, c1, rfl, b1⟩ := nums_slice hN
    obtain ⟨p2, c2, rfl, b2⟩ := tens_slice hT
    clear hN hT hs hI
    generalize c.n = n at *
    generalize c.m = m at *
    generalize c.page = pg at *
    generalize c.wk = wk at *
    generalize c.gr = gr at *
    generalize c.gn = gn at *
    go_enter Tryz.func68, Tryz.ntmps68
    go_wp2_with (go_at_call 104; refine th.mono ?_; rintro e w' ⟨rfl, hg⟩; obtain ⟨k0, k1, k2, k3, k4, k5⟩ := cf_at hg)
    go_ret2
    exact ⟨rfl, hb.trans hg⟩


end Go.Proofs.YthokalcibjjihaaGreatDoor
