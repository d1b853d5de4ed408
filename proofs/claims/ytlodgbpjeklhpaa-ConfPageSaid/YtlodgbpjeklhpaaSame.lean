/- Same, of the document: a configuration is the same as itself, wherever it lies. -/
import Derived.Test.YtlodgbpjeklhpaaReg
namespace Go.Proofs.Ytlodgbpjeklhpaa
open Go.ChangeShapes Go.WideShapes Go.ChangeAt Go.RowKit

theorem nums_at {w : World} {v : Value} {n : Nat} {F : Nat → Int} (h : Nums w v n F) : ∃ p cap, v = .slice p n cap ∧ n ≤ 9223372036854775807 ∧ ∀ k, k < n → ∃ b off, p = some ⟨b, off, none⟩ ∧ w.cell? ⟨b, off + k, none⟩ = some (.int .i64 (F k)) := by
  rcases h with ⟨rfl, p, cap, rfl⟩ | ⟨b, off, cap, rfl, h1, h2, h3, h4⟩
  · exact ⟨p, cap, rfl, by omega, fun k hk => by omega⟩
  · exact ⟨_, cap, rfl, by omega, fun k hk => ⟨b, off, rfl, h4 k hk⟩⟩
theorem tens_at {w : World} {v : Value} {c : Cf} (h : Tens w v c) : ∃ p cap, v = .slice p c.m cap ∧ c.m ≤ 9223372036854775807 ∧ ∀ k, k < c.m → ∃ b off, p = some ⟨b, off, none⟩ ∧ Ten w b (off + k * 4) (c.Q k) (c.Tr k) (c.Cp k) (c.As k) := by
  rcases h with ⟨e, p, cap, rfl⟩ | ⟨b, off, cap, rfl, h1, h2, h3, h4⟩
  · exact ⟨p, cap, by rw [e], by omega, fun k hk => by omega⟩
  · exact ⟨_, cap, rfl, by omega, fun k hk => ⟨b, off, rfl, h4 k hk⟩⟩

/-- the cells of two configurations that were boxed -/
theorem cf_at2 {w W' : World} {o : Obj} {a b c d e f : Value} {t : TypeId} (h : Bel ((w.alloc o).alloc (.cells #[a, b, c, d, e, f] t)) W') :
    W'.cell? ⟨w.heap.size + 1, 0, none⟩ = some a ∧ W'.cell? ⟨w.heap.size + 1, 1, none⟩ = some b ∧ W'.cell? ⟨w.heap.size + 1, 2, none⟩ = some c ∧ W'.cell? ⟨w.heap.size + 1, 3, none⟩ = some d ∧ W'.cell? ⟨w.heap.size + 1, 4, none⟩ = some e ∧ W'.cell? ⟨w.heap.size + 1, 5, none⟩ = some f := by
  have s1 : (w.alloc o).heap.size = w.heap.size + 1 := by show (w.heap.push o).size = _; simp
  have := cf_at h
  rwa [s1] at this

set_option maxRecDepth 100000 in
set_option maxHeartbeats 2000000 in
theorem rsame_true (va vb : Value) (c : Cf) (w : World) (ha : IsCf w va c) (hb : IsCf w vb c) :
    Calls Try.prog 16 #[va, vb] w fun e w' => e = .returned (.bool true) ∧ Bel w w' := by
  obtain ⟨vc, vt, rfl, hN, hT⟩ := ha
  obtain ⟨p1, c1, rfl, b1, hN⟩ := nums_at hN
  obtain ⟨p2, c2, rfl, b2, hT⟩ := tens_at hT
  obtain ⟨vc, vt, rfl, hN2, hT2⟩ := hb
  obtain ⟨p3, c3, rfl, _, hN2⟩ := nums_at hN2
  obtain ⟨p4, c4, rfl, _, hT2⟩ := tens_at hT2
  have h1 : ∀ o1 o2, Bel w ((w.alloc o1).alloc o2) := fun o1 o2 => ((Bel.refl w).alloc o1).alloc o2
  have hb := h1 (.cells #[.slice p1 c.n c1, .int .i64 c.page, .slice p2 c.m c2, .int .i64 c.wk, .int .i64 c.gr, .int .i64 c.gn] 25) (.cells #[.slice p3 c.n c3, .int .i64 c.page, .slice p4 c.m c4, .int .i64 c.wk, .int .i64 c.gr, .int .i64 c.gn] 25)
  clear h1
  have g0 := Bel.refl ((w.alloc (.cells #[.slice p1 c.n c1, .int .i64 c.page, .slice p2 c.m c2, .int .i64 c.wk, .int .i64 c.gr, .int .i64 c.gn] 25)).alloc (.cells #[.slice p3 c.n c3, .int .i64 c.page, .slice p4 c.m c4, .int .i64 c.wk, .int .i64 c.gr, .int .i64 c.gn] 25))
  obtain ⟨k0, k1, k2, k3, k4, k5⟩ := cf_at2 g0
  obtain ⟨i0, i1, i2, i3, i4, i5⟩ := cf_at ((Bel.refl _).alloc (.cells #[.slice p3 c.n c3, .int .i64 c.page, .slice p4 c.m c4, .int .i64 c.wk, .int .i64 c.gr, .int .i64 c.gn] 25) : Bel (w.alloc (.cells #[.slice p1 c.n c1, .int .i64 c.page, .slice p2 c.m c2, .int .i64 c.wk, .int .i64 c.gr, .int .i64 c.gn] 25)) _)
  have hid := Lib.hid (And.intro hN (And.intro hT (And.intro hN2 hT2)))
  clear hN hT hN2 hT2
  go_enter Try.func16, Try.ntmps16
  go_wp2
  go_loopw [5] (fun i wr => ∃ k : Nat, k ≤ c.n ∧ i = .int .i64 (k : Nat) ∧ Bel ((w.alloc (.cells #[.slice p1 c.n c1, .int .i64 c.page, .slice p2 c.m c2, .int .i64 c.wk, .int .i64 c.gr, .int .i64 c.gn] 25)).alloc (.cells #[.slice p3 c.n c3, .int .i64 c.page, .slice p4 c.m c4, .int .i64 c.wk, .int .i64 c.gr, .int .i64 c.gn] 25)) wr) (fun i _ => c.n - (intOf i).toNat)
  case atStart => exact ⟨0, Nat.zero_le _, rfl, g0⟩
  case round =>
    obtain ⟨k, hk, rfl, hbr⟩ := hrel
    clear k0 k1 k2 k3 k4 k5 i0 i1 i2 i3 i4 i5
    obtain ⟨k0, k1, k2, k3, k4, k5⟩ := cf_at2 hbr
    obtain ⟨i0, i1, i2, i3, i4, i5⟩ := cf_at (((Bel.refl _).alloc _).trans hbr)
    by_cases ck : k < c.n
    · obtain ⟨hN, hT, hN2, hT2⟩ := hid.out
      obtain ⟨x1, o1, rfl, cc1⟩ := hN k ck
      obtain ⟨x2, o2, rfl, cc2⟩ := hN2 k ck
      have d1 := cell_bel (hb.trans hbr) cc1
      have d2 := cell_bel (hb.trans hbr) cc2
      have kI : (k : Int) < (c.n : Int) := by omega
      have kz : (0 : Int) ≤ (k : Int) := by omega
      clear hN hT hN2 hT2 hid cc1 cc2
      generalize c.F k = y at *
      go_wp2
      go_quiet (fail)
      go_wp2
      go_roundw
      case rel => exact ⟨k + 1, by omega, by go_num, hbr.then_drewN _⟩
      case measure => simp only [intOf]; omega
    · obtain rfl : k = c.n := by omega
      go_wp2
      go_loopw [6] (fun i wr => ∃ k : Nat, k ≤ c.m ∧ i = .int .i64 (k : Nat) ∧ Bel ((w.alloc (.cells #[.slice p1 c.n c1, .int .i64 c.page, .slice p2 c.m c2, .int .i64 c.wk, .int .i64 c.gr, .int .i64 c.gn] 25)).alloc (.cells #[.slice p3 c.n c3, .int .i64 c.page, .slice p4 c.m c4, .int .i64 c.wk, .int .i64 c.gr, .int .i64 c.gn] 25)) wr) (fun i _ => c.m - (intOf i).toNat)
      case atStart => exact ⟨0, Nat.zero_le _, rfl, hbr⟩
      case round =>
        obtain ⟨k, hk, rfl, hbr⟩ := hrel
        clear k0 k1 k2 k3 k4 k5 i0 i1 i2 i3 i4 i5
        obtain ⟨k0, k1, k2, k3, k4, k5⟩ := cf_at2 hbr
        obtain ⟨i0, i1, i2, i3, i4, i5⟩ := cf_at (((Bel.refl _).alloc _).trans hbr)
        by_cases ck : k < c.m
        · obtain ⟨hN, hT, hN2, hT2⟩ := hid.out
          obtain ⟨x1, o1, rfl, cc1⟩ := hT k ck
          obtain ⟨x2, o2, rfl, cc2⟩ := hT2 k ck
          obtain ⟨d1, d2, d3, d4⟩ := cc1.bel (hb.trans hbr)
          obtain ⟨e1, e2, e3, e4⟩ := cc2.bel (hb.trans hbr)
          have kI : (k : Int) < (c.m : Int) := by omega
          have kz : (0 : Int) ≤ (k : Int) := by omega
          clear hN hT hN2 hT2 hid cc1 cc2
          generalize c.Q k = y1 at *
          generalize c.Tr k = y2 at *
          generalize c.Cp k = y3 at *
          generalize c.As k = y4 at *
          go_wp2
          go_quiet (fail)
          go_wp2
          go_roundw
          case rel => exact ⟨k + 1, by omega, by go_num, hbr.then_drewN _⟩
          case measure => simp only [intOf]; omega
        · obtain rfl : k = c.m := by omega
          go_wp2
          go_ret
          exact ⟨rfl, hb.trans hbr⟩

end Go.Proofs.Ytlodgbpjeklhpaa
