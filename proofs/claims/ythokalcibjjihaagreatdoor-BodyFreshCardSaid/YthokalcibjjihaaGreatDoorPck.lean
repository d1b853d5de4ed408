/- Check of the program; which class of which tenant there is. -/
import Derived.Test.YthokalcibjjihaaGreatDoorWin
namespace Go.Proofs.YthokalcibjjihaaGreatDoor
open Go.ChangeShapes Go.WideShapes Go.ChangeAt Go.RowKit

theorem alloc_size (w : World) (o : Obj) : (w.alloc o).heap.size = w.heap.size + 1 := by show (w.heap.push o).size = _; simp
theorem agg_at' {w W' : World} {cs : Array Value} {t : TypeId} {s : Nat} (hs : w.heap.size = s) (h : Bel (w.alloc (.cells cs t)) W') (j : Nat) : W'.cell? ⟨s, j, none⟩ = cs[j]? := hs ▸ agg_at h j

set_option maxRecDepth 100000 in
set_option maxHeartbeats 2000000 in
theorem pcheck_any (v : Value) (c : Cf) (w : World) (h : IsCf w v c) :
    Calls Tryz.prog 116 #[v] w fun e w' => e = .returned (.int .i64 c.checkC) ∧ Bel w w' := by
  obtain ⟨vc, vt, rfl, hN, hT⟩ := h
  obtain ⟨R, hR⟩ : ∃ R, c.checkC = R := ⟨_, rfl⟩
  rw [hR]
  have hidR := Lib.hid hR
  clear hR
  have hb0 : ∀ o, Bel w (w.alloc o) := fun o => (Bel.refl w).alloc o
  have hb := hb0 (.cells #[vc, .int .i64 c.page, vt, .int .i64 c.wk, .int .i64 c.gr, .int .i64 c.gn] 25)
  clear hb0
  have ch := check_any vc c.n c.F _ (hN.bel hb)
  by_cases v1 : Valid c.n c.F
  · rw [checkV_ok v1] at ch
    rcases hN with ⟨e, _⟩ | ⟨b1, off1, cap1, rfl, n1, n2, n3, hF⟩
    · exact absurd v1.1 (by omega)
    · have cG := hF (c.n - 1) (by omega)
      have eG : c.F (c.n - 1) = c.great := rfl
      rw [eG] at cG
      have cG1 := cell_bel hb cG
      have eN : ((c.n : Int) - 1) = ((c.n - 1 : Nat) : Int) := by omega
      have gN : ((c.n - 1 : Nat) : Int) < (c.n : Int) := by omega
      have n8 : c.n ≤ 8 := v1.2.1
      obtain ⟨B, hB⟩ : ∃ b, decide ((c.great ≤ c.page ∧ c.page ≤ 64) ∧ ((1 : Int) ≤ (c.m : Int) ∧ (c.m : Int) ≤ 8) ∧ (0 ≤ c.wk ∧ c.wk ≤ 8) ∧ (1 ≤ c.gr ∧ c.gr ≤ 64) ∧ (1 ≤ c.gn ∧ c.gn ≤ 2147483648)) = b := ⟨_, rfl⟩
      have wi := fun W => within5 W _ _ _ _ _ _ _ _ _ _ _ _ _ _ _ hB
      by_cases tp : c.topOk
      · obtain ⟨T0, T1, T2, T3, T4, T5⟩ := tp
        have mm := T2
        rcases hT with ⟨e, _⟩ | ⟨b2, off2, cap2, rfl, m1, m2, m3, hT⟩
        · exact absurd T2.1 (by omega)
        · have hid := Lib.hid (And.intro (⟨T0, T1, T2, T3, T4, T5⟩ : c.topOk) hT)
          have hBt : B = true := by rw [← hB]; exact decide_eq_true ⟨T1, by omega, T3, T4, T5⟩
          subst hBt
          clear T0 T1 T3 T4 T5 T2 hB hF hT v1 eG cG
          obtain ⟨n, hn⟩ : ∃ n, c.n = n := ⟨_, rfl⟩
          obtain ⟨m, hm⟩ : ∃ m, c.m = m := ⟨_, rfl⟩
          obtain ⟨pg, hpg⟩ : ∃ x, c.page = x := ⟨_, rfl⟩
          obtain ⟨wk, hwk⟩ : ∃ x, c.wk = x := ⟨_, rfl⟩
          obtain ⟨gr, hgr⟩ : ∃ x, c.gr = x := ⟨_, rfl⟩
          obtain ⟨gn, hgn⟩ : ∃ x, c.gn = x := ⟨_, rfl⟩
          obtain ⟨G, hG⟩ : ∃ x, c.great = x := ⟨_, rfl⟩
          obtain ⟨N1, hN1⟩ : ∃ x, c.n - 1 = x := ⟨_, rfl⟩
          simp only [hN1] at cG1 eN gN
          simp only [hn, hm, hpg, hwk, hgr, hgn, hG] at ch hb cG1 eN gN wi n1 n2 n3 n8 m1 m2 m3 mm ⊢
          have hid2 := Lib.hid (And.intro hm hG)
          clear hn hm hpg hwk hgr hgn hG hN1
          have wi0 := wi (w.alloc (.cells #[.slice (some ⟨b1, off1, none⟩) n cap1, .int .i64 pg, .slice (some ⟨b2, off2, none⟩) m cap2, .int .i64 wk, .int .i64 gr, .int .i64 gn] 25))
          rw [alloc_size] at wi0
          clear wi
          go_enter Tryz.func116, Tryz.ntmps116
          go_wp2_with (first
            | (go_at_call 133; refine ch.mono ?_; rintro e w' ⟨rfl, rfl⟩)
            | (go_at_call 128; refine wi0.mono ?_; rintro e w' ⟨rfl, hg⟩; obtain ⟨k0, k1, k2, k3, k4, k5⟩ := cf_at hg))
          go_loopw [41] (fun i wr => ∃ k : Nat, k ≤ m ∧ i = .int .i64 (k : Nat) ∧ c.tensOk k ∧ Bel (w.alloc (.cells #[.slice (some ⟨b1, off1, none⟩) n cap1, .int .i64 pg, .slice (some ⟨b2, off2, none⟩) m cap2, .int .i64 wk, .int .i64 gr, .int .i64 gn] 25)) wr) (fun i _ => m - (intOf i).toNat)
          case atStart => exact ⟨0, Nat.zero_le _, rfl, fun i hi => absurd hi (Nat.not_lt_zero _), hg⟩
          case round =>
            obtain ⟨k, hk, rfl, hok, hbr⟩ := hrel
            clear k0 k1 k2 k3 k4 k5 cG1 hg
            obtain ⟨k0, k1, k2, k3, k4, k5⟩ := cf_at hbr
            by_cases ck : k < m
            · obtain ⟨t0, t1, t2, t3⟩ := ((hid.out.2 k (by rw [hid2.out.1]; exact ck)).bel hb).bel hbr
              have kI : (k : Int) < (m : Int) := by omega
              have kz : (0 : Int) ≤ (k : Int) := by omega
              have tk : c.tenOk k ↔ (G ≤ c.Q k ∧ c.Q k ≤ 4096) ∧ (1 ≤ c.Tr k ∧ c.Tr k ≤ 1048576) ∧ (1 ≤ c.Cp k ∧ c.Cp k ≤ 1024) ∧ (0 ≤ c.As k ∧ c.As k ≤ 1024) := by rw [← hid2.out.2]; exact Iff.rfl
              obtain ⟨D, hD⟩ : ∃ b, decide ((G ≤ c.Q k ∧ c.Q k ≤ 4096) ∧ (1 ≤ c.Tr k ∧ c.Tr k ≤ 1048576) ∧ (1 ≤ c.Cp k ∧ c.Cp k ≤ 1024) ∧ (0 ≤ c.As k ∧ c.As k ≤ 1024)) = b := ⟨_, rfl⟩
              have wi1 := within4 (wr.alloc (.cells #[.int .i64 (c.Q k), .int .i64 (c.Tr k), .int .i64 (c.Cp k), .int .i64 (c.As k)] 93)) _ _ _ _ _ _ _ _ _ _ _ _ hD
              rw [alloc_size] at wi1
              clear wi0 ch
              by_cases key : c.tenOk k
              · have hok2 : c.tensOk (k + 1) := fun i hi => by
                  by_cases x : i < k
                  · exact hok i x
                  · obtain rfl : i = k := by omega
                    exact key
                rw [decide_eq_true (tk.1 key)] at hD
                subst hD
                have hid3 := Lib.hid hok2
                clear hok hok2 tk key
                generalize c.Q k = qk at *
                generalize c.Tr k = trk at *
                generalize c.Cp k = cpk at *
                generalize c.As k = ask at *
                go_wp2_with (go_at_call 128; refine wi1.mono ?_; rintro e w' ⟨rfl, hg⟩)
                go_roundw
                case rel => exact ⟨k + 1, by omega, by go_num, hid3.out, (hbr.alloc _).trans hg⟩
                case measure => simp only [intOf]; omega
              · have hR := hidR.out
                rw [Cf.checkC_no fun x => key (x.2 k (by rw [hid2.out.1]; exact ck))] at hR
                subst hR
                rw [decide_eq_false fun x => key (tk.2 x)] at hD
                subst hD
                clear hok tk key
                generalize c.Q k = qk at *
                generalize c.Tr k = trk at *
                generalize c.Cp k = cpk at *
                generalize c.As k = ask at *
                go_wp2_with (go_at_call 128; refine wi1.mono ?_; rintro e w' ⟨rfl, hg⟩)
                go_ret
                exact ⟨rfl, hb.trans ((hbr.alloc _).trans hg)⟩
            · obtain rfl : k = m := by omega
              have hR := hidR.out
              rw [Cf.checkC_ok ⟨hid.out.1, by rw [hid2.out.1]; exact hok⟩] at hR
              subst hR
              clear hok
              go_wp2
              go_ret
              exact ⟨rfl, hb.trans hbr⟩
      · have hBf : B = false := by
          rw [← hB]
          refine decide_eq_false fun x => tp ⟨v1, x.1, ?_, x.2.2⟩
          have := x.2.1; omega
        have hR := hidR.out
        rw [Cf.checkC_no fun x => tp x.1] at hR
        subst hR
        subst hBf
        obtain ⟨p2, c2, rfl, b2⟩ := tens_slice hT
        clear hT hF tp v1 hB eG cG
        generalize c.great = G at *
        generalize c.n - 1 = N1 at *
        generalize c.n = n at *
        generalize c.m = m at *
        generalize c.page = pg at *
        generalize c.wk = wk at *
        generalize c.gr = gr at *
        generalize c.gn = gn at *
        have wi0 := wi (w.alloc (.cells #[.slice (some ⟨b1, off1, none⟩) n cap1, .int .i64 pg, .slice p2 m c2, .int .i64 wk, .int .i64 gr, .int .i64 gn] 25))
        rw [alloc_size] at wi0
        clear wi
        go_enter Tryz.func116, Tryz.ntmps116
        go_wp2_with (first
          | (go_at_call 133; refine ch.mono ?_; rintro e w' ⟨rfl, rfl⟩)
          | (go_at_call 128; refine wi0.mono ?_; rintro e w' ⟨rfl, hg⟩))
        go_ret
        exact ⟨rfl, hb.trans hg⟩
  · rw [checkV_no v1] at ch
    have hR := hidR.out
    rw [Cf.checkC_no fun x => v1 x.1.1] at hR
    subst hR
    obtain ⟨p1, c1, rfl, b1⟩ := nums_slice hN
    obtain ⟨p2, c2, rfl, b2⟩ := tens_slice hT
    clear hN hT v1
    generalize c.n = n at *
    generalize c.m = m at *
    generalize c.page = pg at *
    generalize c.wk = wk at *
    generalize c.gr = gr at *
    generalize c.gn = gn at *
    go_enter Tryz.func116, Tryz.ntmps116
    go_wp2_with (go_at_call 133; refine ch.mono ?_; rintro e w' ⟨rfl, rfl⟩)
    go_ret
    exact ⟨rfl, hb⟩

set_option maxHeartbeats 1000000 in
theorem find_any (v : Value) (c : Cf) (t k : Int) (w : World) (h : IsCf w v c) :
    Calls Tryz.prog 104 #[v, .int .i64 t, .int .i64 k] w fun e w' => e = .returned (.int .i64 (c.hasE t k)) ∧ Bel w w' := by
  have hI := h
  obtain ⟨vc, vt, rfl, hN, hT⟩ := h
  obtain ⟨p1, c1, rfl, b1⟩ := nums_slice hN
  obtain ⟨p2, c2, rfl, b2⟩ := tens_slice hT
  clear hN hT
  have hb0 : ∀ o, Bel w (w.alloc o) := fun o => (Bel.refl w).alloc o
  have hb := hb0 (.cells #[.slice p1 c.n c1, .int .i64 c.page, .slice p2 c.m c2, .int .i64 c.wk, .int .i64 c.gr, .int .i64 c.gn] 25)
  clear hb0
  have ch := pcheck_any _ c _ (hI.bel hb)
  clear hI
  obtain ⟨R, hR⟩ : ∃ R, c.hasE t k = R := ⟨_, rfl⟩
  rw [hR]
  by_cases o : c.ok
  · rw [Cf.checkC_ok o] at ch
    have m1 := (Cf.ok_m o)
    have n1 := (Cf.ok_n o)
    obtain ⟨B, hB⟩ : ∃ b, decide ((0 ≤ t ∧ t ≤ (c.m : Int) - 1) ∧ (0 ≤ k ∧ k ≤ (c.n : Int) - 1)) = b := ⟨_, rfl⟩
    have wi := fun W => within2 W _ _ _ _ _ _ hB
    by_cases hs : c.has t k
    · have hBt : B = true := by
        rw [← hB]
        obtain ⟨_, a, b⟩ := hs
        exact decide_eq_true ⟨by omega, by omega⟩
      subst hBt
      rw [Cf.hasE_ok hs] at hR
      subst hR
      clear hB hs o
      generalize c.n = n at *
      generalize c.m = m at *
      generalize c.page = pg at *
      generalize c.wk = wk at *
      generalize c.gr = gr at *
      generalize c.gn = gn at *
      go_enter Tryz.func104, Tryz.ntmps104
      go_wp2_with (first
        | (go_at_call 116; refine ch.mono ?_; rintro e w' ⟨rfl, hg⟩; obtain ⟨k0, k1, k2, k3, k4, k5⟩ := cf_at hg)
        | (go_at_call 128; refine (wi _).mono ?_; rintro e w2 ⟨rfl, hg2⟩))
      go_ret
      exact ⟨rfl, hb.trans (hg.trans hg2)⟩
    · have hBf : B = false := by
        rw [← hB]
        refine decide_eq_false fun x => hs ⟨o, ?_, ?_⟩
        · have := x.1; omega
        · have := x.2; omega
      subst hBf
      rw [Cf.hasE_no hs] at hR
      subst hR
      clear hB hs o
      generalize c.n = n at *
      generalize c.m = m at *
      generalize c.page = pg at *
      generalize c.wk = wk at *
      generalize c.gr = gr at *
      generalize c.gn = gn at *
      go_enter Tryz.func104, Tryz.ntmps104
      go_wp2_with (first
        | (go_at_call 116; refine ch.mono ?_; rintro e w' ⟨rfl, hg⟩; obtain ⟨k0, k1, k2, k3, k4, k5⟩ := cf_at hg)
        | (go_at_call 128; refine (wi _).mono ?_; rintro e w2 ⟨rfl, hg2⟩))
      go_ret
      exact ⟨rfl, hb.trans (hg.trans hg2)⟩
  · rw [Cf.checkC_no o] at ch
    rw [Cf.hasE_no fun x => o x.1] at hR
    subst hR
    clear o
    generalize c.n = n at *
    generalize c.m = m at *
    generalize c.page = pg at *
    generalize c.wk = wk at *
    generalize c.gr = gr at *
    generalize c.gn = gn at *
    go_enter Tryz.func104, Tryz.ntmps104
    go_wp2_with (go_at_call 116; refine ch.mono ?_; rintro e w' ⟨rfl, hg⟩; obtain ⟨k0, k1, k2, k3, k4, k5⟩ := cf_at hg)
    go_ret
    exact ⟨rfl, hb.trans hg⟩

end Go.Proofs.YthokalcibjjihaaGreatDoor
