/- Base and Total of the program. -/
import Derived.Test.YteipadpifmjnmaaPsu
namespace Go.Proofs.Yteipadpifmjnmaa
open Go.ChangeShapes Go.WideShapes Go.ChangeAt Go.RowKit

/-- a boxed configuration's cells, and that all lies as it lay -/
theorem keep6 {w W : World} {a b c d e f : Value} {t : TypeId} (h : Bel (w.alloc (.cells #[a, b, c, d, e, f] t)) W) :
    Bel (w.alloc (.cells #[a, b, c, d, e, f] t)) W ∧ W.cell? ⟨w.heap.size, 0, none⟩ = some a ∧ W.cell? ⟨w.heap.size, 1, none⟩ = some b ∧ W.cell? ⟨w.heap.size, 2, none⟩ = some c ∧ W.cell? ⟨w.heap.size, 3, none⟩ = some d ∧ W.cell? ⟨w.heap.size, 4, none⟩ = some e ∧ W.cell? ⟨w.heap.size, 5, none⟩ = some f :=
  ⟨h, cf_at h⟩

set_option maxHeartbeats 1000000 in
theorem pbase_any (v : Value) (c : Cf) (t : Int) (w : World) (h : IsCf w v c) :
    Calls Try.prog 25 #[v, .int .i64 t] w fun e w' => e = .returned (.tuple #[.int .i64 (c.baseR t), .int .i64 (c.hasE t 0)]) ∧ Bel w w' := by
  have hI := h
  obtain ⟨vc, vt, rfl, hN, hT⟩ := h
  have hb0 : ∀ o, Bel w (w.alloc o) := fun o => (Bel.refl w).alloc o
  have hb := hb0 (.cells #[vc, .int .i64 c.page, vt, .int .i64 c.wk, .int .i64 c.gr, .int .i64 c.gn] 25)
  clear hb0
  have th := find_any _ c t 0 _ (hI.bel hb)
  by_cases hs : c.has t 0
  · rw [Cf.hasE_ok hs] at th
    rw [Cf.baseR_ok hs, Cf.hasE_ok hs]
    obtain ⟨t, k, rfl, -, ht, hk⟩ := Cf.has_nat hs
    have o := hs.1
    obtain ⟨p1, c1, rfl, _⟩ := nums_slice hN
    rcases hT with ⟨e, _⟩ | ⟨b2, off2, cap2, rfl, m1, m2, m3, hT⟩
    · exact absurd ht (by omega)
    have sl := fun W (g : Bel (w.alloc (.cells #[.slice p1 c.n c1, .int .i64 c.page, .slice (some ⟨b2, off2, none⟩) c.m cap2, .int .i64 c.wk, .int .i64 c.gr, .int .i64 c.gn] 25)) W) => (regions_any _ b2 off2 cap2 c.m cap2 t c W o rfl (hI.bel (hb.trans g)) (by omega) (by omega) m3 (fun j hj => (hT j (by omega)).bel (hb.trans g))).mono fun e w' ⟨a, b⟩ => (⟨a, g.trans b⟩ : _ ∧ Bel (w.alloc (.cells #[.slice p1 c.n c1, .int .i64 c.page, .slice (some ⟨b2, off2, none⟩) c.m cap2, .int .i64 c.wk, .int .i64 c.gr, .int .i64 c.gn] 25)) w')
    rw [Int.toNat_natCast]
    have tI : (t : Int) ≤ (cap2 : Int) := by omega
    have t0 : (0 : Int) ≤ (t : Int) := by omega
    have tC : t ≤ cap2 := by omega
    clear hT o hs ht hk hI hN
    generalize c.base t = S at *
    generalize c.n = n at *
    generalize c.m = m at *
    generalize c.page = pg at *
    generalize c.wk = wk at *
    generalize c.gr = gr at *
    generalize c.gn = gn at *
    go_enter Try.func25, Try.ntmps25
    go_wp2_with (go_at_call 46; refine th.mono ?_; rintro e w' ⟨rfl, hg⟩; obtain ⟨k0, k1, k2, k3, k4, k5⟩ := cf_at hg)
    go_region_held3 (fun w' => Bel (w.alloc (.cells #[.slice p1 n c1, .int .i64 pg, .slice (some ⟨b2, off2, none⟩) m cap2, .int .i64 wk, .int .i64 gr, .int .i64 gn] 25)) w' ∧ w'.cell? ⟨w.heap.size, 0, none⟩ = some (.slice p1 n c1) ∧ w'.cell? ⟨w.heap.size, 1, none⟩ = some (.int .i64 pg) ∧ w'.cell? ⟨w.heap.size, 2, none⟩ = some (.slice (some ⟨b2, off2, none⟩) m cap2) ∧ w'.cell? ⟨w.heap.size, 3, none⟩ = some (.int .i64 wk) ∧ w'.cell? ⟨w.heap.size, 4, none⟩ = some (.int .i64 gr) ∧ w'.cell? ⟨w.heap.size, 5, none⟩ = some (.int .i64 gn))
      (first | with_reducible exact keep6 (by assumption) | with_reducible exact keep6 (Bel.drew (by assumption)))
      (first | (go_at_call 45; refine (sl _ (by first | assumption | exact Bel.drew (by assumption))).mono ?_; rintro e w' ⟨rfl, hg2⟩))
    go_wp2
    go_ret2
    exact ⟨rfl, hb.trans hg2⟩
  · rw [Cf.hasE_no hs] at th
    rw [Cf.baseR_no hs, Cf.hasE_no hs]
    obtain ⟨p1, c1, rfl, b1⟩ := nums_slice hN
    obtain ⟨p2, c2, rfl, b2⟩ := tens_slice hT
    clear hN hT hs hI
    generalize c.n = n at *
    generalize c.m = m at *
    generalize c.page = pg at *
    generalize c.wk = wk at *
    generalize c.gr = gr at *
    generalize c.gn = gn at *
    go_enter Try.func25, Try.ntmps25
    go_wp2_with (go_at_call 46; refine th.mono ?_; rintro e w' ⟨rfl, hg⟩; obtain ⟨k0, k1, k2, k3, k4, k5⟩ := cf_at hg)
    go_ret2
    exact ⟨rfl, hb.trans hg⟩

set_option maxHeartbeats 1000000 in
theorem ptot_any (v : Value) (c : Cf) (w : World) (h : IsCf w v c) :
    Calls Try.prog 24 #[v] w fun e w' => e = .returned (.tuple #[.int .i64 c.totR, .int .i64 c.checkC]) ∧ Bel w w' := by
  have hI := h
  obtain ⟨vc, vt, rfl, hN, hT⟩ := h
  have hb0 : ∀ o, Bel w (w.alloc o) := fun o => (Bel.refl w).alloc o
  have hb := hb0 (.cells #[vc, .int .i64 c.page, vt, .int .i64 c.wk, .int .i64 c.gr, .int .i64 c.gn] 25)
  clear hb0
  have ch := pcheck_any _ c _ (hI.bel hb)
  by_cases o : c.ok
  · rw [Cf.checkC_ok o] at ch
    rw [Cf.totR_ok o, Cf.checkC_ok o]
    obtain ⟨p1, c1, rfl, _⟩ := nums_slice hN
    rcases hT with ⟨e, _⟩ | ⟨b2, off2, cap2, rfl, m1, m2, m3, hT⟩
    · exact absurd (Cf.ok_m o).1 (by omega)
    have sl := fun W (g : Bel (w.alloc (.cells #[.slice p1 c.n c1, .int .i64 c.page, .slice (some ⟨b2, off2, none⟩) c.m cap2, .int .i64 c.wk, .int .i64 c.gr, .int .i64 c.gn] 25)) W) => (regions_any _ b2 off2 cap2 c.m cap2 c.m c W o rfl (hI.bel (hb.trans g)) (Nat.le_refl _) (by omega) m3 (fun j hj => (hT j (by omega)).bel (hb.trans g))).mono fun e w' ⟨a, b⟩ => (⟨a, g.trans b⟩ : _ ∧ Bel (w.alloc (.cells #[.slice p1 c.n c1, .int .i64 c.page, .slice (some ⟨b2, off2, none⟩) c.m cap2, .int .i64 c.wk, .int .i64 c.gr, .int .i64 c.gn] 25)) w')
    clear hT o hI hN
    generalize c.base c.m = S at *
    generalize c.n = n at *
    generalize c.m = m at *
    generalize c.page = pg at *
    generalize c.wk = wk at *
    generalize c.gr = gr at *
    generalize c.gn = gn at *
    go_enter Try.func24, Try.ntmps24
    go_wp2_with (first
      | (go_at_call 44; refine ch.mono ?_; rintro e w' ⟨rfl, hg⟩; obtain ⟨k0, k1, k2, k3, k4, k5⟩ := cf_at hg)
      | (go_at_call 45; refine (sl _ (by assumption)).mono ?_; rintro e w' ⟨rfl, hg2⟩))
    go_ret2
    exact ⟨rfl, hb.trans hg2⟩
  · rw [Cf.checkC_no o] at ch
    rw [Cf.totR_no o, Cf.checkC_no o]
    obtain ⟨p1, c1, rfl, b1⟩ := nums_slice hN
    obtain ⟨p2, c2, rfl, b2⟩ := tens_slice hT
    clear hN hT o hI
    generalize c.n = n at *
    generalize c.m = m at *
    generalize c.page = pg at *
    generalize c.wk = wk at *
    generalize c.gr = gr at *
    generalize c.gn = gn at *
    go_enter Try.func24, Try.ntmps24
    go_wp2_with (go_at_call 44; refine ch.mono ?_; rintro e w' ⟨rfl, hg⟩; obtain ⟨k0, k1, k2, k3, k4, k5⟩ := cf_at hg)
    go_ret2
    exact ⟨rfl, hb.trans hg⟩

end Go.Proofs.Yteipadpifmjnmaa
