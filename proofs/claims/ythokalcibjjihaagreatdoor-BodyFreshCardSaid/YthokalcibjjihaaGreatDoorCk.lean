/- Check of the document's configurations. -/
import Derived.Test.YthokalcibjjihaaGreatDoorCm
namespace Go.Proofs.YthokalcibjjihaaGreatDoor
open Go.ChangeShapes Go.WideShapes Go.ChangeAt Go.RowKit

theorem agg_at {w W' : World} {cs : Array Value} {t : TypeId} (h : Bel (w.alloc (.cells cs t)) W') (j : Nat) : W'.cell? ⟨w.heap.size, j, none⟩ = cs[j]? := by
  rw [Below.cell (p := ⟨w.heap.size, j, none⟩) h (by show w.heap.size < (w.heap.push _).size; simp)]
  exact cell_of_row _ _ j cs t (0, 0) (heap_alloc_new w _)
/-- the cells of a configuration that was boxed -/
theorem cf_at {w W' : World} {a b c d e f : Value} {t : TypeId} (h : Bel (w.alloc (.cells #[a, b, c, d, e, f] t)) W') :
    W'.cell? ⟨w.heap.size, 0, none⟩ = some a ∧ W'.cell? ⟨w.heap.size, 1, none⟩ = some b ∧ W'.cell? ⟨w.heap.size, 2, none⟩ = some c ∧ W'.cell? ⟨w.heap.size, 3, none⟩ = some d ∧ W'.cell? ⟨w.heap.size, 4, none⟩ = some e ∧ W'.cell? ⟨w.heap.size, 5, none⟩ = some f :=
  ⟨agg_at h 0, agg_at h 1, agg_at h 2, agg_at h 3, agg_at h 4, agg_at h 5⟩

theorem from_b {n a b : Int} {r : Bool} (h : decide (a ≤ n ∧ n ≤ b) = r) (w : World) :
    Calls Tryz.prog 79 #[.int .i64 n, .int .i64 a, .int .i64 b] w fun e w' => e = .returned (.bool r) ∧ w' = w := by
  have := from_any n a b w
  rwa [h] at this

/-- which of five tests falls -/
theorem five {a b c d e : Bool} (h : ¬ (a = true ∧ b = true ∧ c = true ∧ d = true ∧ e = true)) :
    a = false ∨ (a = true ∧ b = false) ∨ (a = true ∧ b = true ∧ c = false) ∨ (a = true ∧ b = true ∧ c = true ∧ d = false) ∨ (a = true ∧ b = true ∧ c = true ∧ d = true ∧ e = false) := by
  cases a <;> cases b <;> cases c <;> cases d <;> cases e <;> simp_all
theorem four {a b c d : Bool} (h : ¬ (a = true ∧ b = true ∧ c = true ∧ d = true)) :
    a = false ∨ (a = true ∧ b = false) ∨ (a = true ∧ b = true ∧ c = false) ∨ (a = true ∧ b = true ∧ c = true ∧ d = false) := by
  cases a <;> cases b <;> cases c <;> cases d <;> simp_all

set_option maxRecDepth 100000 in
set_option maxHeartbeats 2000000 in
theorem rck_any (v : Value) (c : Cf) (w : World) (h : IsCf w v c) :
    Calls Tryz.prog 32 #[v] w fun e w' => e = .returned (.int .i64 c.checkC) ∧ Bel w w' := by
  obtain ⟨vc, vt, rfl, hN, hT⟩ := h
  obtain ⟨R, hR⟩ : ∃ R, c.checkC = R := ⟨_, rfl⟩
  rw [hR]
  have hidR := Lib.hid hR
  clear hR
  have hb0 : ∀ o, Bel w (w.alloc o) := fun o => (Bel.refl w).alloc o
  have hb := hb0 (.cells #[vc, .int .i64 c.page, vt, .int .i64 c.wk, .int .i64 c.gr, .int .i64 c.gn] 25)
  clear hb0
  have ch := rcheck_any vc c.n c.F _ (hN.bel hb)
  by_cases v1 : Valid c.n c.F
  · rw [checkV_ok v1] at ch
    rcases hN with ⟨e, _⟩ | ⟨b1, off1, cap1, rfl, n1, n2, n3, hF⟩
    · exact absurd v1.1 (by omega)
    · have cG := hF (c.n - 1) (by omega)
      have eG : c.F (c.n - 1) = c.great := rfl
      rw [eG] at cG
      have eN : ((c.n : Int) - 1) = ((c.n - 1 : Nat) : Int) := by omega
      have gN : ((c.n - 1 : Nat) : Int) < (c.n : Int) := by omega
      obtain ⟨B1, hB1⟩ : ∃ b, decide (c.great ≤ c.page ∧ c.page ≤ 64) = b := ⟨_, rfl⟩
      obtain ⟨B2, hB2⟩ : ∃ b, decide ((1 : Int) ≤ (c.m : Int) ∧ (c.m : Int) ≤ 8) = b := ⟨_, rfl⟩
      obtain ⟨B3, hB3⟩ : ∃ b, decide (0 ≤ c.wk ∧ c.wk ≤ 8) = b := ⟨_, rfl⟩
      obtain ⟨B4, hB4⟩ : ∃ b, decide (1 ≤ c.gr ∧ c.gr ≤ 64) = b := ⟨_, rfl⟩
      obtain ⟨B5, hB5⟩ : ∃ b, decide (1 ≤ c.gn ∧ c.gn ≤ 2147483648) = b := ⟨_, rfl⟩
      have f1 := from_b hB1
      have f2 := from_b hB2
      have f3 := from_b hB3
      have f4 := from_b hB4
      have f5 := from_b hB5
      by_cases tp : c.topOk
      · obtain ⟨T0, T1, T2, T3, T4, T5⟩ := tp
        have mm := T2
        rcases hT with ⟨e, _⟩ | ⟨b2, off2, cap2, rfl, m1, m2, m3, hT⟩
        · exact absurd T2.1 (by omega)
        · have hid := Lib.hid (And.intro (⟨T0, T1, T2, T3, T4, T5⟩ : c.topOk) hT)
          rw [← hB1, decide_eq_true T1] at f1
          rw [← hB2, decide_eq_true (show (1 : Int) ≤ (c.m : Int) ∧ (c.m : Int) ≤ 8 by omega)] at f2
          rw [← hB3, decide_eq_true T3] at f3
          rw [← hB4, decide_eq_true T4] at f4
          rw [← hB5, decide_eq_true T5] at f5
          clear T0 T1 T3 T4 T5 T2 hB1 hB2 hB3 hB4 hB5 hF hT v1 eG
          obtain ⟨n, hn⟩ : ∃ n, c.n = n := ⟨_, rfl⟩
          obtain ⟨m, hm⟩ : ∃ m, c.m = m := ⟨_, rfl⟩
          obtain ⟨pg, hpg⟩ : ∃ x, c.page = x := ⟨_, rfl⟩
          obtain ⟨wk, hwk⟩ : ∃ x, c.wk = x := ⟨_, rfl⟩
          obtain ⟨gr, hgr⟩ : ∃ x, c.gr = x := ⟨_, rfl⟩
          obtain ⟨gn, hgn⟩ : ∃ x, c.gn = x := ⟨_, rfl⟩
          obtain ⟨G, hG⟩ : ∃ x, c.great = x := ⟨_, rfl⟩
          obtain ⟨N1, hN1⟩ : ∃ x, c.n - 1 = x := ⟨_, rfl⟩
          simp only [hN1] at cG eN gN
          simp only [hn, hm, hpg, hwk, hgr, hgn, hG] at ch hb cG eN gN f1 f2 f3 f4 f5 n1 n2 n3 m1 m2 m3 mm ⊢
          have hid2 := Lib.hid (And.intro hm hG)
          clear hn hm hpg hwk hgr hgn hG hN1
          go_enter Tryz.func32, Tryz.ntmps32
          go_wp2_with (first
            | (go_at_call 78; refine ch.mono ?_; rintro e w' ⟨rfl, hg⟩; obtain ⟨k0, k1, k2, k3, k4, k5⟩ := cf_at hg; have cG1 := cell_bel (hb.trans hg) cG)
            | (go_at_call 79; ((with_reducible refine (f1 _).mono ?_); rintro e w' ⟨rfl, hw⟩; rw [hw]))
            | (go_at_call 79; ((with_reducible refine (f2 _).mono ?_); rintro e w' ⟨rfl, hw⟩; rw [hw]))
            | (go_at_call 79; ((with_reducible refine (f3 _).mono ?_); rintro e w' ⟨rfl, hw⟩; rw [hw]))
            | (go_at_call 79; ((with_reducible refine (f4 _).mono ?_); rintro e w' ⟨rfl, hw⟩; rw [hw]))
            | (go_at_call 79; ((with_reducible refine (f5 _).mono ?_); rintro e w' ⟨rfl, hw⟩; rw [hw])))
          go_loopw [4] (fun i wr => ∃ k : Nat, k ≤ m ∧ i = .int .i64 (k : Nat) ∧ c.tensOk k ∧ Bel (w.alloc (.cells #[.slice (some ⟨b1, off1, none⟩) n cap1, .int .i64 pg, .slice (some ⟨b2, off2, none⟩) m cap2, .int .i64 wk, .int .i64 gr, .int .i64 gn] 25)) wr) (fun i _ => m - (intOf i).toNat)
          case atStart => exact ⟨0, Nat.zero_le _, rfl, fun i hi => absurd hi (Nat.not_lt_zero _), hg⟩
          case round =>
            obtain ⟨k, hk, rfl, hok, hbr⟩ := hrel
            clear k0 k1 k2 k3 k4 k5 cG1 hg
            obtain ⟨k0, k1, k2, k3, k4, k5⟩ := cf_at hbr
            by_cases ck : k < m
            · obtain ⟨t0, t1, t2, t3⟩ := ((hid.out.2 k (by rw [hid2.out.1]; exact ck)).bel hb).bel hbr
              have kI : (k : Int) < (m : Int) := by omega
              have kz : (0 : Int) ≤ (k : Int) := by omega
              have tk : c.tenOk k ↔ (G ≤ c.Q k ∧ c.Q k ≤ 4096) ∧ (1 ≤ c.Tr k ∧ c.Tr k ≤ 1048576) ∧ (1 ≤ c.Cp k ∧ c.Cp k ≤ 1024) ∧ (0 ≤ c.As k ∧ c.As k ≤ 1024) := by rw [← hid2.out.2]; exact Iff.rfl
              obtain ⟨D1, hD1⟩ : ∃ b, decide (G ≤ c.Q k ∧ c.Q k ≤ 4096) = b := ⟨_, rfl⟩
              obtain ⟨D2, hD2⟩ : ∃ b, decide (1 ≤ c.Tr k ∧ c.Tr k ≤ 1048576) = b := ⟨_, rfl⟩
              obtain ⟨D3, hD3⟩ : ∃ b, decide (1 ≤ c.Cp k ∧ c.Cp k ≤ 1024) = b := ⟨_, rfl⟩
              obtain ⟨D4, hD4⟩ : ∃ b, decide (0 ≤ c.As k ∧ c.As k ≤ 1024) = b := ⟨_, rfl⟩
              have g1 := from_b hD1
              have g2 := from_b hD2
              have g3 := from_b hD3
              have g4 := from_b hD4
              have tk2 : c.tenOk k ↔ (D1 = true ∧ D2 = true ∧ D3 = true ∧ D4 = true) := by
                rw [tk, ← hD1, ← hD2, ← hD3, ← hD4]
                simp only [decide_eq_true_eq]
              clear tk hD1 hD2 hD3 hD4 f1 f2 f3 f4 f5 ch
              by_cases key : D1 = true ∧ D2 = true ∧ D3 = true ∧ D4 = true
              · have hok2 : c.tensOk (k + 1) := fun i hi => by
                  by_cases x : i < k
                  · exact hok i x
                  · obtain rfl : i = k := by omega
                    exact tk2.2 key
                obtain ⟨rfl, rfl, rfl, rfl⟩ := key
                have hid3 := Lib.hid hok2
                clear hok hok2 tk2
                generalize c.Q k = qk at *
                generalize c.Tr k = trk at *
                generalize c.Cp k = cpk at *
                generalize c.As k = ask at *
                go_wp2_with (first
                  | (go_at_call 79; ((with_reducible refine (g1 _).mono ?_); rintro e w' ⟨rfl, hw⟩; rw [hw]))
                  | (go_at_call 79; ((with_reducible refine (g2 _).mono ?_); rintro e w' ⟨rfl, hw⟩; rw [hw]))
                  | (go_at_call 79; ((with_reducible refine (g3 _).mono ?_); rintro e w' ⟨rfl, hw⟩; rw [hw]))
                  | (go_at_call 79; ((with_reducible refine (g4 _).mono ?_); rintro e w' ⟨rfl, hw⟩; rw [hw])))
                go_roundw
                case rel => exact ⟨k + 1, by omega, by go_num, hid3.out, hbr.alloc _⟩
                case measure => simp only [intOf]; omega
              · have hR := hidR.out
                rw [Cf.checkC_no fun x => key (tk2.1 (x.2 k (by rw [hid2.out.1]; exact ck)))] at hR
                subst hR
                clear hok tk2
                generalize c.Q k = qk at *
                generalize c.Tr k = trk at *
                generalize c.Cp k = cpk at *
                generalize c.As k = ask at *
                rcases four key with rfl | ⟨rfl, rfl⟩ | ⟨rfl, rfl, rfl⟩ | ⟨rfl, rfl, rfl, rfl⟩
                all_goals
                  clear key
                  go_wp2_with (first
                    | (go_at_call 79; ((with_reducible refine (g1 _).mono ?_); rintro e w' ⟨rfl, hw⟩; rw [hw]))
                    | (go_at_call 79; ((with_reducible refine (g2 _).mono ?_); rintro e w' ⟨rfl, hw⟩; rw [hw]))
                    | (go_at_call 79; ((with_reducible refine (g3 _).mono ?_); rintro e w' ⟨rfl, hw⟩; rw [hw]))
                    | (go_at_call 79; ((with_reducible refine (g4 _).mono ?_); rintro e w' ⟨rfl, hw⟩; rw [hw])))
                  go_ret
                  exact ⟨rfl, hb.trans (hbr.alloc _)⟩
            · obtain rfl : k = m := by omega
              have hR := hidR.out
              rw [Cf.checkC_ok ⟨hid.out.1, by rw [hid2.out.1]; exact hok⟩] at hR
              subst hR
              clear hok
              go_wp2
              go_ret
              exact ⟨rfl, hb.trans hbr⟩
      · have key : ¬ (B1 = true ∧ B2 = true ∧ B3 = true ∧ B4 = true ∧ B5 = true) := by
          rw [← hB1, ← hB2, ← hB3, ← hB4, ← hB5]
          simp only [decide_eq_true_eq]
          intro x
          exact tp ⟨v1, x.1, by have := x.2.1; omega, x.2.2⟩
        have hR := hidR.out
        rw [Cf.checkC_no fun x => tp x.1] at hR
        subst hR
        obtain ⟨p2, c2, rfl, b2⟩ := tens_slice hT
        clear hT hF tp v1 hB1 hB2 hB3 hB4 hB5 eG
        generalize c.great = G at *
        generalize c.n - 1 = N1 at *
        generalize c.n = n at *
        generalize c.m = m at *
        generalize c.page = pg at *
        generalize c.wk = wk at *
        generalize c.gr = gr at *
        generalize c.gn = gn at *
        rcases five key with rfl | ⟨rfl, rfl⟩ | ⟨rfl, rfl, rfl⟩ | ⟨rfl, rfl, rfl, rfl⟩ | ⟨rfl, rfl, rfl, rfl, rfl⟩
        all_goals
          clear key
          go_enter Tryz.func32, Tryz.ntmps32
          go_wp2_with (first
            | (go_at_call 78; refine ch.mono ?_; rintro e w' ⟨rfl, hg⟩; obtain ⟨k0, k1, k2, k3, k4, k5⟩ := cf_at hg; have cG1 := cell_bel (hb.trans hg) cG)
            | (go_at_call 79; ((with_reducible refine (f1 _).mono ?_); rintro e w' ⟨rfl, hw⟩; rw [hw]))
            | (go_at_call 79; ((with_reducible refine (f2 _).mono ?_); rintro e w' ⟨rfl, hw⟩; rw [hw]))
            | (go_at_call 79; ((with_reducible refine (f3 _).mono ?_); rintro e w' ⟨rfl, hw⟩; rw [hw]))
            | (go_at_call 79; ((with_reducible refine (f4 _).mono ?_); rintro e w' ⟨rfl, hw⟩; rw [hw]))
            | (go_at_call 79; ((with_reducible refine (f5 _).mono ?_); rintro e w' ⟨rfl, hw⟩; rw [hw])))
          go_ret
          exact ⟨rfl, hb.trans hg⟩
  · rw [checkV_no v1] at ch
    have hR := hidR.out
    rw [Cf.checkC_no fun x => v1 x.1.1] at hR
    subst hR
    obtain ⟨p1, c1, rfl, b1⟩ := nums_slice hN
    obtain ⟨p2, c2, rfl, b2⟩ := tens_slice hT
    clear hN hT v1
    generalize c.n = n at *
    generalize c.m = m at *
    generalize c.page = pg at *
    generalize c.wk = wk at *
    generalize c.gr = gr at *
    generalize c.gn = gn at *
    go_enter Tryz.func32, Tryz.ntmps32
    go_wp2_with (go_at_call 78; refine ch.mono ?_; rintro e w' ⟨rfl, hg⟩)
    go_ret
    exact ⟨rfl, hb.trans hg⟩

end Go.Proofs.YthokalcibjjihaaGreatDoor
