/- Take tells the free slot of the class with the least number; what is taken and given at once leaves all as it was; for every input; the table of trailing zeros holds what the program lays in it (the card ties that), no other condition. -/
import Derived.Test.YtjgjomojcocegaaDoorQp
import Derived.Test.YtjgjomojcocegaaDoorOpn
import Derived.Deep.CutBlock
namespace Go.Proofs.YtjgjomojcocegaaDoor.arenaLowest
open Go.ChangeShapes Go.WideShapes Go.ChangeAt Go.RowKit Go.Joins Go.Deep
set_option linter.unusedVariables false

theorem step2 {w5 wr w6 w7 : World} {a : Value} {pl lo hi Bq : Nat} {P : Pl} {T T' : Nat → Bool} {x0 x1 x2 x3 x4 x5 y0 y1 y2 y3 y4 y5 : Value} (h : Lp w5 wr a pl lo hi Bq P T x0 x1 x2 x3 x4 x5)
    (hA : IsA w6 a pl lo hi P T') (hq : IsAr (fun k => Own lo hi k ∨ k = Bq) w6 (.agg #[y0, y1, y2, y3, y4, y5]) P T') (e : Exc (Own lo hi) wr w6)
    (hb : w7.heap[Bq]? = some (.cells #[y0, y1, y2, y3, y4, y5] 33 (0, 0))) (e2 : Exc (fun k => k = Bq) w6 w7) : Lp w5 w7 a pl lo hi Bq P T' y0 y1 y2 y3 y4 y5 := by
  have l1 := hA.low
  have l2 := hA.lt
  have l3 := h.top
  exact ⟨hA.exc e2 (fun x hx => ⟨by omega, fun y => by have := y.2; omega⟩), h.top, hb, hq.exc (e2.mono fun k hk => Or.inr hk), h.exc.trans ((e.mono fun k hk => Or.inl hk).trans (e2.mono fun k hk => Or.inr hk))⟩

set_option maxRecDepth 100000 in
set_option maxHeartbeats 8000000 in
theorem walk (v : Value) (c : Cf) (lv : Value) (n : Nat) (A : Nat → Ac) (kc : Int) (w : World) (h : IsCf w v c) (hA : Acts w lv n A) (hkc : i64b' kc) (ht : Tb w) :
    Calls Tryd.prog 6 #[v, lv, .int .i64 kc] w fun e w' => e = .returned (.bool true) ∧ Below w.heap.size w w' := by
  have hI := h
  obtain ⟨vc, vt, rfl, hN, hT⟩ := h
  obtain ⟨p1, c1, rfl, _⟩ := nums_slice hN
  obtain ⟨p2, c2, rfl, _⟩ := tens_slice hT
  obtain ⟨pl0, cl0, rfl, nb⟩ := hA.slice
  clear hN hT
  have hb := (Bel.refl w).alloc (.cells #[.slice p1 c.n c1, .int .i64 c.page, .slice p2 c.m c2, .int .i64 c.wk, .int .i64 c.gr, .int .i64 c.gn] 25)
  generalize hwb : w.alloc (.cells #[.slice p1 c.n c1, .int .i64 c.page, .slice p2 c.m c2, .int .i64 c.wk, .int .i64 c.gr, .int .i64 c.gn] 25) = wb at *
  have hIb := hI.bel hb
  have htb := ht.bel hb
  have aw := fun w1 (g : Bel w w1) => (awake10_any w1 (ht.bel g)).mono fun e w' ⟨x, y⟩ => (⟨x, g.trans y⟩ : _ ∧ Bel w w')
  by_cases ok : ¬ c.great10 ∧ c.ok
  · have mk := made_yes _ c 0 wb hIb ok.1 ok.2 (by omega) htb
    rw [show ((0 : Nat) : Int) = 0 from rfl] at mk
    generalize c.pl (0 % c.m) = P at *
    have hid := Lib.hid (And.intro hb (And.intro hA ht))
    clear hI hIb ok hA htb ht
    subst hwb
    go_enter Tryd.func6, Tryd.ntmps6
    go_upto_block 0 with (go_at_call 8; refine mk.mono ?_; rintro e w4 ⟨⟨pa, q, lo, hi, rfl, hA4, hq4, hh4, hlo⟩, hg4⟩
                          obtain ⟨bl4, ol4, cl4, pf4, cf4, pm4, cm4, p4, cap4, b4, off4, cb4, rfl, _, _⟩ := hq4.shape
                          have L0 := Lp.start hA4 hq4 hh4
                          have sz4 := hg4.size
                          have hg5 := (hid.out.1.trans hg4).alloc (.cells #[.slice (some ⟨bl4, ol4, none⟩) P.S cl4, .slice pf4 P.T cf4, .slice pm4 P.T cm4, .int .i64 (P.W : Nat), .slice p4 P.n cap4, .slice (some ⟨b4, off4, none⟩) P.S cb4] 33)
                          clear hA4 hq4 hh4 mk)
    obtain ⟨w5, hw5⟩ : ∃ w5, w4.alloc (.cells #[.slice (some ⟨bl4, ol4, none⟩) P.S cl4, .slice pf4 P.T cf4, .slice pm4 P.T cm4, .int .i64 (P.W : Nat), .slice p4 P.n cap4, .slice (some ⟨b4, off4, none⟩) P.S cb4] 33) = w5 := ⟨_, rfl⟩
    rw [hw5] at L0 hg5
    (try rw [hw5])
    clear hw5
    have hidA := Lib.hid (And.intro hid.out.2.1 (And.intro hg5 (And.intro (Nat.le_trans hid.out.1.size hlo) hid.out.2.2)))
    clear hg5 sz4 hlo hg4 hb
    generalize w4.heap.size = Bq at *
    go_cut [9] from 26 to 45 (fun _ wx => ∃ (T : Nat → Bool) (x0 x1 x2 x3 x4 x5 : Value), RowKit.Hid (Lp w5 wx (.pointer (some pa)) lo lo hi Bq P T x0 x1 x2 x3 x4 x5))
    case first =>
      go_wp2_with fail
      go_loopw [9] (fun i wr => ∃ (k : Nat) (T : Nat → Bool) (x0 x1 x2 x3 x4 x5 : Value), k ≤ n ∧ i = .int .i64 (k : Nat) ∧ RowKit.Hid (Lp w5 wr (.pointer (some pa)) lo lo hi Bq P T x0 x1 x2 x3 x4 x5)) (fun i _ => n - (intOf i).toNat)
      case atStart => exact ⟨0, _, _, _, _, _, _, _, Nat.zero_le _, rfl, Lib.hid L0⟩
      case round =>
        clear L0
        obtain ⟨k, T, x0, x1, x2, x3, x4, x5, hk, rfl, hL⟩ := hrel
        obtain ⟨bl, ol, cl, pf, cf, pm, cm, p, cap, bb, off, cb, rfl, rfl, rfl, rfl, rfl, rfl⟩ := hL.out.ar.six
        by_cases ckk : k < n ∧ k < 60
        · have hw : Bel w wr := Below.trans hidA.out.2.1 (hL.out.exc.below (fun q hq => by
            have := hidA.out.2.2.1
            have := hL.out.top
            have := hL.out.mem.lt
            rcases hq with hq | hq
            · have := hq.1; omega
            · omega) hidA.out.2.1.size)
          have tb := hL.out.tb (hidA.out.2.2.2.bel hidA.out.2.1)
          obtain ⟨ab, aoff, rfl, hbl, hac, hok⟩ := hidA.out.1.at ckk.1
          obtain ⟨a0, a1⟩ := hac.bel hw
          have kI : (k : Int) < (n : Int) := by omega
          have kz : (0 : Int) ≤ (k : Int) := by omega
          have kf : (k : Int) < 60 := by omega
          obtain ⟨⟨b0, b1, b2, b3, b4, b5⟩, _⟩ := box6 hL.out.box
          have hll := hL.out.mem.lt
          have hNB : ¬ Own lo hi Bq := fun x => by have := x.2; have := hL.out.top; omega
          have gd := Bel.drew (Bel.refl wr)
          have gwd : Exc (Own lo hi) wr wr.drew := gd.exc
          have dzA := does_any (X := fun q => Own lo hi q ∨ q = Bq) (.pointer (some pa)) (.agg #[.slice (some ⟨bl, ol, none⟩) P.S cl, .slice pf P.T cf, .slice pm P.T cm, .int .i64 (P.W : Nat), .slice p P.n cap, .slice (some ⟨bb, off, none⟩) P.S cb]) lo lo hi P T (A k).wh (A k).n wr.drew (hL.out.mem.bel gd) (Nat.le_trans hL.out.hh gd.size) (tb.bel gd) (hL.out.ar.bel gd) (fun q hq => Nat.lt_of_lt_of_le (hL.out.till q hq) gd.size) (fun q hq => Or.inl hq) hok.1 hok.2
          have hidk := Lib.hid (And.intro hNB hll)
          clear hok hNB hw hac gd tb
          go_upto_region 7 with fail
          go_region_law (first
            | (go_simp
               go_at_call 10; (with_reducible refine dzA.mono ?_); rintro e w6 ⟨q6, rfl, ⟨T6, hq6, hA6⟩, hE6⟩
               obtain ⟨bl6, ol6, cl6, pf6, cf6, pm6, cm6, p6, cap6, b6, off6, cb6, rfl, _, _⟩ := hq6.shape
               have G6 : Exc (Own lo hi) wr w6 := Exc.trans gwd hE6
               have hz6 := blk_exc G6 hL.out.box hidk.out.1
               have dd := box6 hz6
               obtain ⟨⟨z0, z1, z2, z3, z4, z5⟩, f0, f1, f2, f3, f4, f5⟩ := dd
               obtain ⟨W7, hW7, hbx7, hE7⟩ := six_store hz6 (.slice (some ⟨bl6, ol6, none⟩) P.S cl6) (.slice pf6 P.T cf6) (.slice pm6 P.T cm6) (.int .i64 (P.W : Nat)) (.slice p6 P.n cap6) (.slice (some ⟨b6, off6, none⟩) P.S cb6)
               have hid7 := Lib.hid (And.intro hq6 (And.intro hA6 (And.intro hbx7 (And.intro hE7 G6))))
               clear hq6 hA6 hE6 hbx7 hE7 hz6 G6))
          all_goals go_wp2_with fail
          all_goals
            obtain ⟨hq6, hA6, hbx7, hE7, G6⟩ := hid7.out
            exact ⟨⟨k + 1, T6, _, _, _, _, _, _, by omega, by go_num, Lib.hid (step2 hL.out hA6 hq6 G6 hbx7 hE7)⟩, by simp only [intOf]; omega⟩
        · by_cases ckn : k < n
          · have kI : (k : Int) < (n : Int) := by omega
            have kf : decide ((k : Int) < 60) = false := decide_eq_false (by omega)
            have kf2 : decide (k < 60) = false := decide_eq_false (by omega)
            go_wp2_with fail
            go_meet
            exact ⟨_, _, _, _, _, _, _, hL⟩
          · have kI : decide ((k : Int) < (n : Int)) = false := decide_eq_false (by omega)
            have kI2 : decide (k < n) = false := decide_eq_false ckn
            go_wp2_with fail
            go_meet
            exact ⟨_, _, _, _, _, _, _, hL⟩
    case rest =>
      clear L0
      obtain ⟨T, x0, x1, x2, x3, x4, x5, hL⟩ := hcut
      obtain ⟨bl, ol, cl, pf, cf, pm, cm, p, cap, bb, off, cb, rfl, rfl, rfl, rfl, rfl, rfl⟩ := hL.out.ar.six
      have hw : Bel w wc := Below.trans hidA.out.2.1 (hL.out.exc.below (fun q hq => by
        have := hidA.out.2.2.1
        have := hL.out.top
        have := hL.out.mem.lt
        rcases hq with hq | hq
        · have := hq.1; omega
        · omega) hidA.out.2.1.size)
      have tb := hL.out.tb (hidA.out.2.2.2.bel hidA.out.2.1)
      have hh := hL.out.hh
      rename World => wr
      have tk := qa_taken (.pointer (some pa)) lo lo hi P T wr hL.out.mem hh tb
      have hidr := Lib.hid (And.intro hw (And.intro tb hh))
      clear hw tb hh
      go_upto_region 8 with fail
      go_cut [10, 11] (fun s10 s11 wx => ∃ rb rg ca, s10 = .pointer (some ⟨rb, 0, none⟩) ∧ s11 = .int .i64 (P.used T P.S : Nat) ∧ RowKit.Hid (bt.RowIs wx rb rg ca P.S T ∧ wr.heap.size ≤ rb ∧ wr.heap.size ≤ rg ∧ Bel wr wx))
      case first =>
        go_wp2_with (first
          | (go_at_call 13; refine tk.mono ?_; rintro e w6 ⟨⟨r, rfl, rb, rg, rca, rfl, hR, hrb, hrg⟩, hg6⟩; have us6 := qa_used (.pointer (some pa)) lo lo hi P T _ (hL.out.mem.bel hg6) (Nat.le_trans hidr.out.2.2 hg6.size) (hidr.out.2.1.bel hg6))
          | (go_at_call 12; refine us6.mono ?_; rintro e w7 ⟨rfl, hg7⟩))
        go_meet
        exact ⟨_, _, _, rfl, rfl, Lib.hid ⟨hR.bel hg7, hrb, hrg, hg6.trans hg7⟩⟩
      case rest =>
        obtain ⟨rb, rg, ca, rfl, rfl, hX⟩ := hcut
        clear tk
        rename World => wx
        have tk := qa_take (.pointer (some pa)) lo lo hi P T wx (hL.out.mem.bel hX.out.2.2.2) (Nat.le_trans hidr.out.2.2 hX.out.2.2.2.size) (hidr.out.2.1.bel hX.out.2.2.2) kc hkc
        go_upto_region 9 with fail
        go_cut [12, 13] (fun s12 s13 wy => ∃ r e T4, s12 = .int .i64 r ∧ s13 = .int .i64 e ∧ RowKit.Hid (TakeR P T kc r e T4 ∧ IsA wy (.pointer (some pa)) lo lo hi P T4 ∧ Exc (Own lo hi) wx wy))
        case first =>
          go_wp2_with (go_at_call 14; refine tk.mono ?_; rintro e w6 ⟨⟨r, e, T4, rfl, hT4, hA4⟩, hE4⟩)
          go_meet
          exact ⟨_, _, _, rfl, rfl, Lib.hid ⟨hT4, hA4, hE4⟩⟩
        case rest =>
          obtain ⟨r, e, T4, rfl, rfl, hY⟩ := hcut
          clear tk
          rename World => wy
          have gy : Bel w wy := Below.trans (hidr.out.1.trans hX.out.2.2.2) (hY.out.2.2.below (fun q hq => by have := hq.1; have := hidA.out.2.2.1; omega) (hidr.out.1.trans hX.out.2.2.2).size)
          have hhy : hi ≤ wy.heap.size := Nat.le_trans hidr.out.2.2 (Nat.le_trans hX.out.2.2.2.size hY.out.2.2.size)
          have tby : Tb wy := (hidr.out.2.1.bel hX.out.2.2.2).exc hY.out.2.2 (fun x => by have := x.1; have := hL.out.mem.low; omega)
          have hRy := row_exc hX.out.1 hY.out.2.2 (fun x => by have := x.2; have := hX.out.2.1; have := hidr.out.2.2; omega) (fun x => by have := x.2; have := hX.out.2.2.1; have := hidr.out.2.2; omega)
          by_cases e0 : e = 0
          · have hr : ∃ i : Nat, i < P.S ∧ (P.cls i : Int) = kc ∧ T i = false ∧ (∀ j, j < i → (P.cls j : Int) = kc → T j = true) ∧ r = (i : Nat) ∧ T4 = upd T i true := by
              rcases hY.out.1 with ⟨_, h1, h2, h3⟩ | ⟨i, h1, h2, h3, h4, h5, h6, h7⟩ | ⟨_, _, h1, h2, h3⟩
              · exact absurd (h2 ▸ e0) (by decide)
              · exact ⟨i, h1, h2, h3, h4, h5, h7⟩
              · exact absurd (h2 ▸ e0) (by decide)
            obtain ⟨i, hi1, hi2, hi3, hi4, hr1, hr2⟩ := hr
            rw [hr2] at hY
            subst hr1 e0
            clear hr2
            have hbB : ¬ Own lo hi Bq := fun x => by have := x.2; have := hL.out.top; omega
            have hboxy := blk_exc hY.out.2.2 (heap_bel hX.out.2.2.2 hL.out.box) hbB
            have hary := (hL.out.ar.bel hX.out.2.2.2).exc (hY.out.2.2.mono fun k hk => Or.inl hk)
            obtain ⟨bl', ol', cl', pf', cf', pm', cm', p', cap', bb', off', cb', e', _, hten⟩ := hary.shape
            injection e' with e'
            injection e' with e'
            simp only [List.cons.injEq, and_true, Value.slice.injEq, Option.some.injEq, Addr.mk.injEq] at e'
            obtain ⟨⟨hbo, _⟩, _⟩ := e'
            obtain ⟨rfl, rfl⟩ := hbo
            subst hi2
            have hc0 := (box6 hboxy).1.1
            have kq0 := fun W (g : Bel wy W) j (hj : j < P.S) => (⟨g, cell_bel g hc0, cell_bel g (hten j hj).1⟩ : Bel wy W ∧ W.cell? ⟨Bq, 0, none⟩ = some (.slice (some ⟨bl, ol, none⟩) P.S cl) ∧ W.cell? ⟨bl, ol + j * 4, none⟩ = some (.int .i64 (P.cls j : Nat)))
            have kq := fun W g => kq0 W g i hi1
            have gt0 := fun W (g : Bel wy W) (k : Nat) => (bt.get_any (k : Nat) W (hRy.bel g)).mono fun e w' ⟨x, y⟩ => (⟨x, y ▸ g⟩ : e = Ending.returned (.bool (bt.getB P.S T (k : Nat))) ∧ Bel wy w')
            have gt1 := fun W g => gt0 W g i
            have qh1 := fun W (g : Bel wy W) => (qa_has (.pointer (some pa)) lo lo hi P (upd T i true) W (hY.out.2.1.bel g) (Nat.le_trans hhy g.size) (tby.bel g) (i : Nat) (by have := hL.out.mem.ok.2.1; exact ⟨by omega, by omega⟩)).mono fun e w' ⟨x, y⟩ => (⟨x, g.trans y⟩ : _ ∧ Bel wy w')
            simp only [getB_at hi1, upd_at, hi3] at qh1 gt1
            have kS : (i : Int) < (P.S : Int) := by omega
            have kz : (0 : Int) ≤ (i : Int) := by omega
            have kS3 : decide (P.S ≤ i) = false := decide_eq_false (by omega)
            have kz3 : decide ((i : Int) < 0) = false := decide_eq_false (by omega)
            have g0 := Bel.refl wy
            have hidt := Lib.hid (And.intro gy (And.intro hhy (And.intro tby (And.intro hRy (And.intro hten hboxy)))))
            clear hRy tby hhy hten hboxy hary
            obtain ⟨_, u0, t0⟩ := kq wy g0
            go_upto_block 2 with (first
                | (go_at_call 15; (with_reducible refine (gt1 _ (by assumption)).mono ?_); rintro e w6 ⟨rfl, hg6⟩)
                | (go_at_call 16; (with_reducible refine (qh1 _ (by assumption)).mono ?_); rintro e w7 ⟨rfl, hg7⟩))
            clear u0 t0
            have kb : (i : Int) ≤ 9223372036854775807 := by have := hL.out.mem.ok.2.1; omega
            have kb' : i ≤ 9223372036854775807 := by omega
            go_cut [14] from 108 to 127 (fun _ wx => Bel wy wx)
            case first =>
              go_wp2_with fail
              go_loopw [14] (fun i' wr' => ∃ k' : Nat, k' ≤ i ∧ i' = .int .i64 (k' : Nat) ∧ Bel wy wr') (fun i' _ => i - (intOf i').toNat)
              case atStart => exact ⟨0, Nat.zero_le _, rfl, by assumption⟩
              case round =>
                obtain ⟨k', hk', rfl, hbr⟩ := hrel
                by_cases ck : k' < i
                · have kI : (k' : Int) < (i : Int) := by omega
                  have kz' : (0 : Int) ≤ (k' : Int) := by omega
                  have hk1 : k' < P.S := by omega
                  have kS' : (k' : Int) < (P.S : Int) := by omega
                  have gt2 := fun W g => gt0 W g k'
                  obtain ⟨_, u0, t0⟩ := kq0 _ hbr k' hk1
                  by_cases hc : P.cls k' = P.cls i
                  · have hT := hi4 k' ck (by omega)
                    simp only [getB_at hk1, hT] at gt2
                    rw [hc] at t0
                    go_wp2_with (go_at_call 15; (with_reducible refine (gt2 _ (by assumption)).mono ?_); rintro e w8 ⟨rfl, hg8⟩)
                    go_roundw
                    case rel => exact ⟨k' + 1, by omega, by go_num, by assumption⟩
                    case measure => simp only [intOf]; omega
                  · have hc1 : decide ((P.cls k' : Int) = (P.cls i : Int)) = false := decide_eq_false (by omega)
                    have hc2 : ((P.cls k' : Int) == (P.cls i : Int)) = false := by simp; omega
                    have hc3 : (P.cls k' == P.cls i) = false := by simp; omega
                    have hc4 : decide (P.cls k' = P.cls i) = false := decide_eq_false (by omega)
                    clear gt2 gt0 gt1
                    go_wp2_with fail
                    go_roundw
                    case rel => exact ⟨k' + 1, by omega, by go_num, by assumption⟩
                    case measure => simp only [intOf]; omega
                · have kI : decide ((k' : Int) < (i : Int)) = false := decide_eq_false (by omega)
                  have kI2 : decide (k' < i) = false := decide_eq_false ck
                  go_wp2_with fail
                  go_meet
                  exact hbr
            case rest =>
              rename World => wz
              have gz : Bel wy wz := hcut
              obtain ⟨gy, hhy, tby, hRy, hten, hboxy⟩ := hidt.out
              have aw4 := fun W (g : Exc (Own lo hi) wz W) => aw W (Below.trans gy (Exc.below (B := w.heap.size) (Exc.trans gz.exc g) (fun q hq => by have := hq.1; have := hidA.out.2.2.1; omega) gy.size))
              have fa := fun W (g : Exc (Own lo hi) wz W) => (⟨Nat.le_trans hhy (Nat.le_trans gz.size g.size), (tby.bel gz).exc g (fun x => by have := x.1; have := hL.out.mem.low; omega), row_exc (hRy.bel gz) g (fun x => by have := x.2; have := hX.out.2.1; have := hidr.out.2.2; omega) (fun x => by have := x.2; have := hX.out.2.2.1; have := hidr.out.2.2; omega)⟩ : hi ≤ W.heap.size ∧ Tb W ∧ bt.RowIs W rb rg ca P.S T)
              have back : upd (upd T i true) i false = T := by
                funext j
                by_cases c : j = i
                · subst c; rw [upd_at]; exact hi3.symm
                · rw [upd_ne _ _ c, upd_ne _ _ c]
              have d1 : GiveR P (upd T i true) (i : Nat) 0 T := Or.inr (Or.inr ⟨i, rfl, hi1, upd_at _ _ _, rfl, back.symm⟩)
              have d2 : TakeR P T (P.cls i : Nat) (i : Nat) 0 (upd T i true) := Or.inr (Or.inl ⟨i, hi1, rfl, hi3, hi4, rfl, rfl, rfl⟩)
              have hib : i64b' (i : Nat) := ⟨by omega, by omega⟩
              have hkcb : i64b' (P.cls i : Nat) := hkc
              have r0 := Exc.refl (Own lo hi) wz
              have g1 := qa_give (.pointer (some pa)) lo lo hi P (upd T i true) wz (hY.out.2.1.bel gz) (fa _ r0).1 (fa _ r0).2.1 (i : Nat) hib
              have kc0 := cnt_same T P.S
              have hide := Lib.hid (And.intro d1 (And.intro d2 (And.intro hib hkcb)))
              clear gt0 gt1 qh1 kq kq0 hcut d1 d2 back gz gy hhy tby hRy hten hboxy
              go_wp2_with (first
                | (go_at_call 24; (with_reducible refine g1.mono ?_); rintro e v1 ⟨⟨c1, T5, rfl, hT5, hA5⟩, hE5⟩; obtain ⟨rfl, rfl⟩ := GiveR.det hide.out.1 hT5
                   have t1 := qa_take _ lo lo hi P T5 v1 hA5 (fa _ hE5).1 (fa _ hE5).2.1 (P.cls i : Nat) hide.out.2.2.2
                   clear g1)
                | (go_at_call 14; (with_reducible refine t1.mono ?_); rintro e v2 ⟨⟨r2, c2, T6, rfl, hT6, hA6⟩, hE6⟩; obtain ⟨rfl, rfl, rfl⟩ := TakeR.det hide.out.2.1 hT6
                   have X6 := Exc.trans hE5 hE6
                   have g2 := qa_give _ lo lo hi P _ v2 hA6 (fa _ X6).1 (fa _ X6).2.1 (i : Nat) hide.out.2.2.1
                   clear t1)
                | (go_at_call 24; (with_reducible refine g2.mono ?_); rintro e v3 ⟨⟨c3, T7, rfl, hT7, hA7⟩, hE7⟩; obtain ⟨rfl, rfl⟩ := GiveR.det hide.out.1 hT7
                   have X7 := Exc.trans X6 hE7
                   have u7 := qa_used _ lo lo hi P _ v3 hA7 (fa _ X7).1 (fa _ X7).2.1
                   clear g2)
                | (go_at_call 12; (with_reducible refine u7.mono ?_); rintro e v4 ⟨rfl, hg8⟩
                   have hA8 := hA7.bel hg8
                   have X8 := Exc.trans X7 (Bel.exc (X := Own lo hi) hg8)
                   have c8 := qa_count _ lo lo hi P _ v4 hA8 (fa _ X8).1 (fa _ X8).2.1)
                | (go_at_call 25; (with_reducible refine c8.mono ?_); rintro e v5 ⟨rfl, hg9⟩
                   have X9 := Exc.trans X8 (Bel.exc (X := Own lo hi) hg9)
                   have c9 := bt.count_any _ (fa _ X9).2.2)
                | (go_at_call 26; (with_reducible refine c9.mono ?_); rintro e v6 ⟨rfl, hv6⟩; rw [hv6]; clear hv6; rw [kc0]
                   have a9 := aw4 _ X9)
                | (go_at_call 9; (with_reducible refine a9.mono ?_); rintro e v7 ⟨rfl, hga⟩))
              go_ret
              exact ⟨rfl, hga⟩
          · have hr : r = 0 ∧ T4 = T ∧ (e = 2 ∨ e = 6) := by
              rcases hY.out.1 with ⟨_, h1, h2, h3⟩ | ⟨i, _, _, _, _, _, h2, _⟩ | ⟨_, _, h1, h2, h3⟩
              · exact ⟨h1, h3, Or.inl h2⟩
              · exact absurd h2 e0
              · exact ⟨h1, h3, Or.inr h2⟩
            obtain ⟨hr1, hr2, he⟩ := hr
            rw [hr2] at hY
            subst hr1
            clear hr2 e0
            have aw4 := fun W (g : Bel wy W) => aw W (gy.trans g)
            have qu := fun W (g : Bel wy W) => (qa_used _ lo lo hi P T W (hY.out.2.1.bel g) (Nat.le_trans hhy g.size) (tby.bel g)).mono fun e w' ⟨x, y⟩ => (⟨x, g.trans y⟩ : _ ∧ Bel wy w')
            have qc := fun W (g : Bel wy W) => (qa_count _ lo lo hi P T W (hY.out.2.1.bel g) (Nat.le_trans hhy g.size) (tby.bel g)).mono fun e w' ⟨x, y⟩ => (⟨x, g.trans y⟩ : _ ∧ Bel wy w')
            have rc := fun W (g : Bel wy W) => (bt.count_any W (hRy.bel g)).mono fun e w' ⟨x, y⟩ => (⟨x, y ▸ g⟩ : e = Ending.returned (.int .i64 (bt.cnt T P.S : Nat)) ∧ Bel wy w')
            rw [cnt_same] at rc
            have g0 := Bel.refl wy
            clear hRy tby hhy
            generalize Pl.cnt T P.S = C at *
            generalize P.used T P.S = U at *
            rcases he with rfl | rfl
            all_goals
              go_wp2_with (first
                | (go_at_call 12; refine (qu _ (by assumption)).mono ?_; rintro e w6 ⟨rfl, hg6⟩)
                | (go_at_call 25; refine (qc _ (by assumption)).mono ?_; rintro e w7 ⟨rfl, hg7⟩)
                | (go_at_call 26; refine (rc _ (by assumption)).mono ?_; rintro e w8 ⟨rfl, hg8⟩)
                | (go_at_call 9; refine (aw4 _ (by assumption)).mono ?_; rintro e w9 ⟨rfl, hg9⟩))
              go_ret
              exact ⟨rfl, hg9⟩
  · have mk := made_no _ c 0 wb hIb (by by_cases x : c.great10; exact Or.inl x; exact Or.inr fun y => ok ⟨x, y⟩)
    rw [show ((0 : Nat) : Int) = 0 from rfl] at mk
    clear hI hIb ok hA htb
    subst hwb
    go_enter Tryd.func6, Tryd.ntmps6
    go_wp2_with (first
      | (go_at_call 8; refine mk.mono ?_; rintro e w4 ⟨rfl, hg4⟩; have aw4 := aw _ ((hb.trans hg4).alloc (.cells #[.slice none 0 0, .slice none 0 0, .slice none 0 0, .int .i64 0, .slice none 0 0, .slice none 0 0] 33)))
      | (go_at_call 9; refine aw4.mono ?_; rintro e w5 ⟨rfl, hg5⟩))
    go_ret
    exact ⟨rfl, hg5⟩

/-! The row. -/
set_option maxRecDepth 100000 in
theorem lifted (os : Os) (started : os.Started) (H : Type) (enc : TypeId × Value → H) :
    ReturnsInHanded {} Tryd.checked os 6 .any (fun w args => (Rows.arenaLowestSpec.pre enc Tryd.prog Tryd.f6 [] false w args ∧ laidMetH Tryd.prog theLaid w) ∧ sizedMet enc Tryd.prog Tryd.f6 (OpenSpec.ofChange Rows.arenaLowestSpec) false w args)
      (Rows.arenaLowestSpec.post enc Tryd.prog Tryd.f6 false true false false) := by
  refine lift_laid (C := Tryd.checked) (X := Met) own started (by kernel_rfl) Tryd.func6 (fun _ _ h => Met.heap h) laid rowed full (by rw [Tryd.params6]; decide) rfl (by kernel_rfl) Tryd.underlying4
    (fun ds h => by rw [Tryd.params6] at h; match ds, h with | [_, _, _], _ => rfl)
    (ChangeSpec.witness_shaped (enc := enc) (C := Tryd.checked) (os := os) (X := fun w _ => Met w) false (World.doorLaid Tryd.prog 400 os) #[.agg #[.slice none 0 0, .int .i64 0, .slice none 0 0, .int .i64 0, .int .i64 0, .int .i64 0], .slice none 0 0, .int .i64 0] 8 rfl (World.shaped_of_RefB (by kernel_rfl) (by kernel_rfl)) (by kernel_rfl) (by kernel_rfl) (by kernel_rfl) (door_met os _)) ?_
  intro W base args ds p hval hA hM
  have hT := hM.tab
  change ∀ (j : Nat) t v, Tryd.f6.params[j]? = some t → args[j]? = some v → Value.okWide Tryd.prog W .any base t v at hval
  change DataW.TrodAll enc Tryd.prog W 0 (fun _ => true) true Tryd.f6.params.toList args.toList ds p at hA
  rw [Tryd.params6] at hA hval
  obtain ⟨v0, vs0, d0, ds0, p0, q0, hargs, rfl, rfl, h0, r0⟩ := trodAll_cons hA
  obtain ⟨v1, vs1, d1, ds1, p1, q1, hargs1, rfl, rfl, h1, r1⟩ := trodAll_cons r0
  obtain ⟨v2, vs2, d2, ds2, p2, q2, hargs2, rfl, rfl, h2, r2⟩ := trodAll_cons r1
  obtain ⟨rfl, rfl, rfl⟩ := trodAll_nil r2
  subst hargs2
  subst hargs1
  obtain rfl : args = #[v0, v1, v2] := by cases args; simp_all
  obtain ⟨c, hI, _⟩ := get_cf (hval 0 25 v0 rfl rfl) h0
  obtain ⟨nA, A, hA1⟩ := get_acts (hval 1 26 v1 rfl rfl) h1
  obtain ⟨k, rfl, hk0, hk1⟩ := get_i64 Tryd.underlying3 (hval 2 3 v2 rfl rfl) h2
  exact walk v0 c v1 nA A k W hI hA1 ⟨hk0, hk1⟩ hT

theorem over : Rows.arenaLowestRow.holds Tryd.pinned (OpenSpec.ofChange Rows.arenaLowestSpec) :=
  OpenClaim.holds_of_wide 6 Tryd.f6 rfl rfl rfl rfl rfl rfl rfl ⟨rfl, rfl, rfl, rfl, rfl⟩ rfl rfl rfl rfl rfl (by kernel_rfl) Tryd.func6 (by kernel_rfl)
    (of_decide_eq_true (by kernel_rfl)) (by unfold Func.isWrapper; first | (rw [if_pos (by decide +kernel)]; kernel_rfl) | (rw [if_neg (by decide +kernel)]; exact ⟨rfl, rfl⟩))
    (fun os started H enc _ => lifted os started H enc)

/-- The statement. -/
theorem proved : Rows.ArenaLowestCardSaid :=
  Claim7.holds_tied_plain_at .later [] [.data] true (true, "c638e9143258aeaec1d04d8d11f1ebc40f118957b767c87e444fc848b79354be") false
    over (fun _ h => by cases h) (by kernel_rfl) (fun _ h => by cases h) arenaLowest_row_tie rfl ⟨rfl, rfl⟩ (by kernel_rfl) rfl
    (fun f fn hf hfn => by
      obtain rfl : f = 6 := Option.some.inj ((show Tryd.prog.funcNamed "commonage/commonagelaw10.ArenaLowest" = some 6 by kernel_rfl).symm.trans hf) |>.symm
      obtain rfl : fn = Tryd.f6 := (Option.some.inj (Tryd.func6.symm.trans hfn)).symm
      exact ⟨by kernel_rfl, fun j t ht => by
        rw [Tryd.params6] at ht
        have hm : t ∈ [25, 26, 3] := by simpa using Array.mem_of_getElem? ht
        have hall : ([25, 26, 3].all fun u => !Tryd.prog.wantsStandIn u) = true := by kernel_rfl
        exact (show Tryd.prog.wantsStandIn t = false by simpa using List.all_eq_true.1 hall t hm)⟩)
    (by kernel_rfl)
#print axioms proved
end Go.Proofs.YtjgjomojcocegaaDoor.arenaLowest
