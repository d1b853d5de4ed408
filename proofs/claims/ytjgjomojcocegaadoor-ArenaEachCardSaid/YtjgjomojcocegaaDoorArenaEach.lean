/- Slots that are given back all at once are as those that are given one by one; for every input; the table of trailing zeros holds what the program lays in it (the card ties that), no other condition. -/
import Derived.Test.YtjgjomojcocegaaDoorQp
import Derived.Test.YtjgjomojcocegaaDoorOpn
import Derived.Deep.CutBlock
namespace Go.Proofs.YtjgjomojcocegaaDoor.arenaEach
open Go.ChangeShapes Go.WideShapes Go.ChangeAt Go.RowKit Go.Joins Go.Deep
set_option linter.unusedVariables false

/-- what is taken when some are given, from the last one on -/
def gmT (T R : Nat → Bool) (m : Nat) : Nat → Bool := fun j => T j && !(decide (m ≤ j) && R j)
theorem gm_yes {T R : Nat → Bool} {m : Nat} (h : R m = true) : gmT T R m = upd (gmT T R (m + 1)) m false := by
  funext j
  by_cases e : j = m
  · subst e; rw [upd_at]; simp [gmT, h]
  · rw [upd_ne _ _ e]
    unfold gmT
    rw [show decide (m + 1 ≤ j) = decide (m ≤ j) from decide_eq_decide.2 (by omega)]
theorem gm_no {T R : Nat → Bool} {m : Nat} (h : R m = false) : gmT T R m = gmT T R (m + 1) := by
  funext j
  unfold gmT
  by_cases e : j = m
  · subst e; simp [h]
  · rw [show decide (m + 1 ≤ j) = decide (m ≤ j) from decide_eq_decide.2 (by omega)]
theorem gm_top {T R : Nat → Bool} {n : Nat} (h : ∀ j, n ≤ j → R j = false) : gmT T R n = T := by
  funext j
  unfold gmT
  by_cases c : n ≤ j
  · rw [h j c]; simp
  · simp [c]
theorem gm_zero (T R : Nat → Bool) : gmT T R 0 = fun j => T j && !R j := by funext j; simp [gmT]
theorem gm_here (T R : Nat → Bool) (m : Nat) : gmT T R (m + 1) m = T m := by unfold gmT; simp
theorem rowB_sub {P : Pl} {T : Nat → Bool} {n : Int} (hn : 0 ≤ n) {j : Nat} (h : rowB P T n j = true) : T j = true := by
  unfold rowB at h
  have e : decide (n < 0) = false := decide_eq_false (by omega)
  rw [e] at h
  simp at h
  exact h.2.1
theorem rowB_far {P : Pl} {T : Nat → Bool} {n : Int} {j : Nat} (h : P.S ≤ j) : rowB P T n j = false := by
  unfold rowB
  rw [decide_eq_false (by omega)]
  rfl

theorem step2 {w5 wr w6 w7 : World} {a : Value} {pl lo hi Bq : Nat} {P : Pl} {T T' : Nat → Bool} {x0 x1 x2 x3 x4 x5 y0 y1 y2 y3 y4 y5 : Value} (h : Lp w5 wr a pl lo hi Bq P T x0 x1 x2 x3 x4 x5)
    (hA : IsA w6 a pl lo hi P T') (hq : IsAr (fun k => Own lo hi k ∨ k = Bq) w6 (.agg #[y0, y1, y2, y3, y4, y5]) P T') (e : Exc (Own lo hi) wr w6)
    (hb : w7.heap[Bq]? = some (.cells #[y0, y1, y2, y3, y4, y5] 33 (0, 0))) (e2 : Exc (fun k => k = Bq) w6 w7) : Lp w5 w7 a pl lo hi Bq P T' y0 y1 y2 y3 y4 y5 := by
  have l1 := hA.low
  have l2 := hA.lt
  have l3 := h.top
  exact ⟨hA.exc e2 (fun x hx => ⟨by omega, fun y => by have := y.2; omega⟩), h.top, hb, hq.exc (e2.mono fun k hk => Or.inr hk), h.exc.trans ((e.mono fun k hk => Or.inl hk).trans (e2.mono fun k hk => Or.inr hk))⟩

set_option maxRecDepth 100000 in
set_option maxHeartbeats 8000000 in
theorem walk (v : Value) (c : Cf) (lv : Value) (n : Nat) (A : Nat → Ac) (mk8 : Nat) (w : World) (h : IsCf w v c) (hA : Acts w lv n A) (hm8 : mk8 ≤ 255) (ht : Tb w) :
    Calls Tryd.prog 7 #[v, lv, .int .u8 (mk8 : Nat)] w fun e w' => e = .returned (.bool true) ∧ Below w.heap.size w w' := by
  have hI := h
  obtain ⟨vc, vt, rfl, hN, hT⟩ := h
  obtain ⟨p1, c1, rfl, _⟩ := nums_slice hN
  obtain ⟨p2, c2, rfl, _⟩ := tens_slice hT
  obtain ⟨pl0, cl0, rfl, nb⟩ := hA.slice
  clear hN hT
  have hb := (Bel.refl w).alloc (.cells #[.slice p1 c.n c1, .int .i64 c.page, .slice p2 c.m c2, .int .i64 c.wk, .int .i64 c.gr, .int .i64 c.gn] 25)
  generalize hwb : w.alloc (.cells #[.slice p1 c.n c1, .int .i64 c.page, .slice p2 c.m c2, .int .i64 c.wk, .int .i64 c.gr, .int .i64 c.gn] 25) = wb at *
  have hIb := hI.bel hb
  have htb := ht.bel hb
  have aw := fun w1 (g : Bel w w1) => (awake10_any w1 (ht.bel g)).mono fun e w' ⟨x, y⟩ => (⟨x, g.trans y⟩ : _ ∧ Bel w w')
  by_cases ok : ¬ c.great10 ∧ c.ok
  · have mk := made_yes _ c 0 wb hIb ok.1 ok.2 (by omega) htb
    rw [show ((0 : Nat) : Int) = 0 from rfl] at mk
    generalize c.pl (0 % c.m) = P at *
    have hid := Lib.hid (And.intro hb (And.intro hA ht))
    clear hI hIb ok hA htb ht
    subst hwb
    go_enter Tryd.func7, Tryd.ntmps7
    go_upto_block 0 with (go_at_call 8; refine mk.mono ?_; rintro e w4 ⟨⟨pa, q, lo, hi, rfl, hA4, hq4, hh4, hlo⟩, hg4⟩
                          obtain ⟨bl4, ol4, cl4, pf4, cf4, pm4, cm4, p4, cap4, b4, off4, cb4, rfl, _, _⟩ := hq4.shape
                          have L0 := Lp.start hA4 hq4 hh4
                          have sz4 := hg4.size
                          have hg5 := (hid.out.1.trans hg4).alloc (.cells #[.slice (some ⟨bl4, ol4, none⟩) P.S cl4, .slice pf4 P.T cf4, .slice pm4 P.T cm4, .int .i64 (P.W : Nat), .slice p4 P.n cap4, .slice (some ⟨b4, off4, none⟩) P.S cb4] 33)
                          clear hA4 hq4 hh4 mk)
    obtain ⟨w5, hw5⟩ : ∃ w5, w4.alloc (.cells #[.slice (some ⟨bl4, ol4, none⟩) P.S cl4, .slice pf4 P.T cf4, .slice pm4 P.T cm4, .int .i64 (P.W : Nat), .slice p4 P.n cap4, .slice (some ⟨b4, off4, none⟩) P.S cb4] 33) = w5 := ⟨_, rfl⟩
    rw [hw5] at L0 hg5
    (try rw [hw5])
    clear hw5
    have hidA := Lib.hid (And.intro hid.out.2.1 (And.intro hg5 (And.intro (Nat.le_trans hid.out.1.size hlo) hid.out.2.2)))
    clear hg5 sz4 hlo hg4 hb
    generalize w4.heap.size = Bq at *
    go_cut [9] from 23 to 42 (fun _ wx => ∃ (T : Nat → Bool) (x0 x1 x2 x3 x4 x5 : Value), RowKit.Hid (Lp w5 wx (.pointer (some pa)) lo lo hi Bq P T x0 x1 x2 x3 x4 x5))
    case first =>
      go_wp2_with fail
      go_loopw [9] (fun i wr => ∃ (k : Nat) (T : Nat → Bool) (x0 x1 x2 x3 x4 x5 : Value), k ≤ n ∧ i = .int .i64 (k : Nat) ∧ RowKit.Hid (Lp w5 wr (.pointer (some pa)) lo lo hi Bq P T x0 x1 x2 x3 x4 x5)) (fun i _ => n - (intOf i).toNat)
      case atStart => exact ⟨0, _, _, _, _, _, _, _, Nat.zero_le _, rfl, Lib.hid L0⟩
      case round =>
        clear L0
        obtain ⟨k, T, x0, x1, x2, x3, x4, x5, hk, rfl, hL⟩ := hrel
        obtain ⟨bl, ol, cl, pf, cf, pm, cm, p, cap, bb, off, cb, rfl, rfl, rfl, rfl, rfl, rfl⟩ := hL.out.ar.six
        by_cases ckk : k < n ∧ k < 60
        · have hw : Bel w wr := Below.trans hidA.out.2.1 (hL.out.exc.below (fun q hq => by
            have := hidA.out.2.2.1
            have := hL.out.top
            have := hL.out.mem.lt
            rcases hq with hq | hq
            · have := hq.1; omega
            · omega) hidA.out.2.1.size)
          have tb := hL.out.tb (hidA.out.2.2.2.bel hidA.out.2.1)
          obtain ⟨ab, aoff, rfl, hbl, hac, hok⟩ := hidA.out.1.at ckk.1
          obtain ⟨a0, a1⟩ := hac.bel hw
          have kI : (k : Int) < (n : Int) := by omega
          have kz : (0 : Int) ≤ (k : Int) := by omega
          have kf : (k : Int) < 60 := by omega
          obtain ⟨⟨b0, b1, b2, b3, b4, b5⟩, _⟩ := box6 hL.out.box
          have hll := hL.out.mem.lt
          have hNB : ¬ Own lo hi Bq := fun x => by have := x.2; have := hL.out.top; omega
          have gd := Bel.drew (Bel.refl wr)
          have gwd : Exc (Own lo hi) wr wr.drew := gd.exc
          have dzA := does_any (X := fun q => Own lo hi q ∨ q = Bq) (.pointer (some pa)) (.agg #[.slice (some ⟨bl, ol, none⟩) P.S cl, .slice pf P.T cf, .slice pm P.T cm, .int .i64 (P.W : Nat), .slice p P.n cap, .slice (some ⟨bb, off, none⟩) P.S cb]) lo lo hi P T (A k).wh (A k).n wr.drew (hL.out.mem.bel gd) (Nat.le_trans hL.out.hh gd.size) (tb.bel gd) (hL.out.ar.bel gd) (fun q hq => Nat.lt_of_lt_of_le (hL.out.till q hq) gd.size) (fun q hq => Or.inl hq) hok.1 hok.2
          have hidk := Lib.hid (And.intro hNB hll)
          clear hok hNB hw hac gd tb
          go_upto_region 7 with fail
          go_region_law (first
            | (go_simp
               go_at_call 10; (with_reducible refine dzA.mono ?_); rintro e w6 ⟨q6, rfl, ⟨T6, hq6, hA6⟩, hE6⟩
               obtain ⟨bl6, ol6, cl6, pf6, cf6, pm6, cm6, p6, cap6, b6, off6, cb6, rfl, _, _⟩ := hq6.shape
               have G6 : Exc (Own lo hi) wr w6 := Exc.trans gwd hE6
               have hz6 := blk_exc G6 hL.out.box hidk.out.1
               have dd := box6 hz6
               obtain ⟨⟨z0, z1, z2, z3, z4, z5⟩, f0, f1, f2, f3, f4, f5⟩ := dd
               obtain ⟨W7, hW7, hbx7, hE7⟩ := six_store hz6 (.slice (some ⟨bl6, ol6, none⟩) P.S cl6) (.slice pf6 P.T cf6) (.slice pm6 P.T cm6) (.int .i64 (P.W : Nat)) (.slice p6 P.n cap6) (.slice (some ⟨b6, off6, none⟩) P.S cb6)
               have hid7 := Lib.hid (And.intro hq6 (And.intro hA6 (And.intro hbx7 (And.intro hE7 G6))))
               clear hq6 hA6 hE6 hbx7 hE7 hz6 G6))
          all_goals go_wp2_with fail
          all_goals
            obtain ⟨hq6, hA6, hbx7, hE7, G6⟩ := hid7.out
            exact ⟨⟨k + 1, T6, _, _, _, _, _, _, by omega, by go_num, Lib.hid (step2 hL.out hA6 hq6 G6 hbx7 hE7)⟩, by simp only [intOf]; omega⟩
        · by_cases ckn : k < n
          · have kI : (k : Int) < (n : Int) := by omega
            have kf : decide ((k : Int) < 60) = false := decide_eq_false (by omega)
            have kf2 : decide (k < 60) = false := decide_eq_false (by omega)
            go_wp2_with fail
            go_meet
            exact ⟨_, _, _, _, _, _, _, hL⟩
          · have kI : decide ((k : Int) < (n : Int)) = false := decide_eq_false (by omega)
            have kI2 : decide (k < n) = false := decide_eq_false ckn
            go_wp2_with fail
            go_meet
            exact ⟨_, _, _, _, _, _, _, hL⟩
    case rest =>
      clear L0
      obtain ⟨T, x0, x1, x2, x3, x4, x5, hL⟩ := hcut
      obtain ⟨bl, ol, cl, pf, cf, pm, cm, p, cap, bb, off, cb, rfl, rfl, rfl, rfl, rfl, rfl⟩ := hL.out.ar.six
      have hw : Bel w wc := Below.trans hidA.out.2.1 (hL.out.exc.below (fun q hq => by
        have := hidA.out.2.2.1
        have := hL.out.top
        have := hL.out.mem.lt
        rcases hq with hq | hq
        · have := hq.1; omega
        · omega) hidA.out.2.1.size)
      have tb := hL.out.tb (hidA.out.2.2.2.bel hidA.out.2.1)
      have hh := hL.out.hh
      rename World => wr
      have ok := hL.out.mem.ok
      have hST := ok.T1
      have cp := qa_copy (.pointer (some pa)) lo lo hi P T wr hL.out.mem hh tb
      have q1 : IntKind.i64.wrap (mk8 : Int) = (mk8 : Int) := by rw [IntKind.wrap_i64]; omega
      have hsub : ∀ j, rowB P T (mk8 : Int) j = true → T j = true := fun j h => rowB_sub (by omega) h
      have hfar : ∀ j, P.S ≤ j → rowB P T (mk8 : Int) j = false := fun j h => rowB_far h
      have dd : GiveAllR P T (rowB P T (mk8 : Int)) P.S 0 (fun j => T j && !rowB P T (mk8 : Int) j) := Or.inr (Or.inr ⟨rfl, fun i _ h => hsub i h, rfl, rfl⟩)
      have hidr := Lib.hid (And.intro hw (And.intro tb (And.intro hh (And.intro dd (And.intro hsub (And.intro hfar ok))))))
      clear hw tb hh dd hsub hfar
      go_upto_block 2 with (first
        | (go_at_call 18; (with_reducible refine cp.mono ?_); rintro e w6 ⟨⟨p2, rfl, hC6⟩, hg6⟩
           have cc := box6 (heap_bel hg6 hL.out.box)
           obtain ⟨⟨u0, u1, u2, u3, u4, u5⟩, _⟩ := cc
           have ro := row_own _ P T (mk8 : Int) w6 (hL.out.ar.bel hg6) hidr.out.2.2.2.2.2.2.2.1 hST.1 (by omega))
        | (go_at_call 27; (with_reducible refine ro.mono ?_); rintro e w7 ⟨⟨rb, rg, rca, ov, rfl, hR7, hrb, hrg, hov, hav⟩, hg7⟩
           have g67 := hg6.trans hg7
           have s6 := hg6.size
           have h6 := hidr.out.2.2.1
           have ga := qa_all (.pointer (some pa)) lo lo hi P T w7 (hL.out.mem.bel g67) (Nat.le_trans h6 g67.size) (hidr.out.2.1.bel g67) rb rg rca P.S _ hR7 (fun x => by have := x.2; omega) (fun x => by have := x.2; omega)
           obtain ⟨vb, vo, vc, rfl, hcell⟩ := hov
           have hvb : w6.heap.size ≤ vb := Nat.le_of_not_lt (hav _ _ _ _ _ rfl)
           clear ro hav cp)
        | (go_at_call 22; (with_reducible refine ga.mono ?_); rintro e w8 ⟨⟨c8, T8, rfl, hG8, hA8⟩, hE8⟩; obtain ⟨rfl, rfl⟩ := GiveAllR.det hidr.out.2.2.2.1 hG8; clear ga))
      obtain ⟨R, hRd⟩ : ∃ R, rowB P T (mk8 : Int) = R := ⟨_, rfl⟩
      have hD := hidr.out.2.2.2.2
      rw [hRd] at hD hA8 hcell
      have hRd := Lib.hid hRd
      have hhr := hidr.out.2.2.1
      have g8 : Exc (Own lo hi) wr w8 := Exc.trans (Bel.exc g67) hE8
      have l2 := hC6.lt
      have hC8 : IsA w8 (.pointer (some p2)) lo wr.heap.size w6.heap.size P T := (hC6.bel hg7).exc hE8 (fun x hx => ⟨hx.1, fun y => by have := hx.2; have := y.1; omega⟩)
      have hc8 := fun j (hj : j < P.S) => cell_exc hE8 (hcell j hj) (fun x => by have x2 : vb < hi := x.2; omega)
      have z8 := hE8.size
      have z7 := hg7.size
      have tb8 : Tb w8 := hidr.out.2.1.exc g8 (fun x => by have := x.1; have := hL.out.mem.low; omega)
      have gw8 : Bel w w8 := Below.trans hidr.out.1 (g8.below (fun q hq => by have := hq.1; have := hidA.out.2.2.1; omega) hidr.out.1.size)
      have kb : P.S ≤ 32768 := hD.2.2.2.1
      have hst := Lib.hid (And.intro hC8 (And.intro hA8 (And.intro hc8 (And.intro tb8 (And.intro gw8 (And.intro hD.1 (And.intro hD.2.1 (And.intro z8 z7))))))))
      have h2S := hST.1
      clear hC8 hA8 hc8 tb8 gw8 hD hC6 hcell hE8 hR7 g8 ok
      go_cut [13] from 59 to 72 (fun _ wx => RowKit.Hid (IsA wx (.pointer (some p2)) lo wr.heap.size w6.heap.size P (gmT T R 0) ∧ Exc (Own wr.heap.size w6.heap.size) w8 wx))
      case first =>
        go_wp2_with fail
        go_loopw [13] (fun i wy => ∃ m : Nat, m ≤ P.S ∧ i = .int .i64 ((m : Int) - 1) ∧ RowKit.Hid (IsA wy (.pointer (some p2)) lo wr.heap.size w6.heap.size P (gmT T R m) ∧ Exc (Own wr.heap.size w6.heap.size) w8 wy)) (fun i _ => (intOf i + 1).toNat)
        case atStart => exact ⟨P.S, Nat.le_refl _, congrArg (Value.int .i64) (by unfold wrap64; omega), Lib.hid ⟨by rw [gm_top hst.out.2.2.2.2.2.2.1]; exact hst.out.1, Exc.refl _ _⟩⟩
        case round =>
          obtain ⟨m, hm, rfl, hJ⟩ := hrel
          rename World => wy
          by_cases m0 : m = 0
          · subst m0
            rw [show ((0 : Nat) : Int) - 1 = -1 by omega]
            go_wp2_with fail
            go_meet
            exact hJ
          · obtain ⟨k, rfl⟩ : ∃ k, m = k + 1 := ⟨m - 1, by omega⟩
            rw [show ((k + 1 : Nat) : Int) - 1 = (k : Int) by omega]
            have kS : (k : Int) < (P.S : Int) := by omega
            have kz : (0 : Int) ≤ (k : Int) := by omega
            have kz2 : (-1 : Int) ≤ (k : Int) - 1 := by omega
            have kb2 : (k : Int) ≤ 32768 := by omega
            have c0 := cell_exc hJ.out.2 (hst.out.2.2.1 k (by omega)) (fun x => by have x2 : vb < w6.heap.size := x.2; omega)
            cases hRk : R k
            · rw [hRk] at c0
              go_wp2_with fail
              go_roundw
              case rel => exact ⟨k, by omega, by go_num, by rw [gm_no hRk]; exact hJ⟩
              case measure => simp only [intOf]; omega
            · rw [hRk] at c0
              have hy := hJ.out.2.size
              have gv := qa_give _ lo wr.heap.size w6.heap.size P (gmT T R (k + 1)) wy hJ.out.1 (by omega) (hst.out.2.2.2.1.exc hJ.out.2 (fun x => by have := x.1; have := hL.out.mem.low; have := hL.out.mem.lt; omega)) (k : Nat) ⟨by omega, by omega⟩
              have dk : GiveR P (gmT T R (k + 1)) (k : Nat) 0 (gmT T R k) := Or.inr (Or.inr ⟨k, rfl, by omega, by rw [gm_here]; exact hst.out.2.2.2.2.2.1 k hRk, rfl, gm_yes hRk⟩)
              go_wp2_with (go_at_call 24; (with_reducible refine gv.mono ?_); rintro e v1 ⟨⟨c1, T5, rfl, hT5, hA5⟩, hE5⟩; obtain ⟨rfl, rfl⟩ := GiveR.det dk hT5)
              go_roundw
              case rel => exact ⟨k, by omega, by go_num, Lib.hid ⟨hA5, Exc.trans hJ.out.2 hE5⟩⟩
              case measure => simp only [intOf]; omega
      case rest =>
        rename World => wz
        have hJ : RowKit.Hid _ := hcut
        have zz := hJ.out.2.size
        have aE : Exc (Own wr.heap.size w6.heap.size) w8 wz := hJ.out.2
        have hAz : IsA wz (.pointer (some pa)) lo lo hi P (fun j => T j && !R j) := hst.out.2.1.exc aE (fun x hx => ⟨by have := hx.1; have := hL.out.mem.lt; omega, fun y => by have := hx.1; have := y.2; omega⟩)
        have hCz := hJ.out.1
        rw [gm_zero] at hCz
        have tbz : Tb wz := hst.out.2.2.2.1.exc aE (fun x => by have := x.1; have := hL.out.mem.low; have := hL.out.mem.lt; omega)
        have gwz : Bel w wz := Below.trans hst.out.2.2.2.2.1 (aE.below (fun q hq => by have := hq.1; have := hidr.out.1.size; omega) hst.out.2.2.2.2.1.size)
        have cz := fun j (hj : j < P.S) => cell_exc aE (hst.out.2.2.1 j hj) (fun x => by have x2 : vb < w6.heap.size := x.2; omega)
        have ha := fun W (g : Bel wz W) (k : Nat) (hk : k < P.S) => (qa_has _ lo lo hi P _ W (hAz.bel g) (by have := g.size; omega) (tbz.bel g) (k : Nat) ⟨by omega, by omega⟩).mono fun e w' ⟨x, y⟩ => (⟨by rw [getB_at hk] at x; exact x, g.trans y⟩ : e = Ending.returned (.bool (T k && !R k)) ∧ Bel wz w')
        have ho := fun W (g : Bel wz W) (k : Nat) (hk : k < P.S) => (qa_has _ lo wr.heap.size w6.heap.size P _ W (hCz.bel g) (by have := g.size; omega) (tbz.bel g) (k : Nat) ⟨by omega, by omega⟩).mono fun e w' ⟨x, y⟩ => (⟨by rw [getB_at hk] at x; exact x, g.trans y⟩ : e = Ending.returned (.bool (T k && !R k)) ∧ Bel wz w')
        have ua := fun W (g : Bel wz W) => (qa_used _ lo lo hi P _ W (hAz.bel g) (by have := g.size; omega) (tbz.bel g)).mono fun e w' ⟨x, y⟩ => (⟨x, g.trans y⟩ : _ ∧ Bel wz w')
        have uo := fun W (g : Bel wz W) => (qa_used _ lo wr.heap.size w6.heap.size P _ W (hCz.bel g) (by have := g.size; omega) (tbz.bel g)).mono fun e w' ⟨x, y⟩ => (⟨x, g.trans y⟩ : _ ∧ Bel wz w')
        have ca := fun W (g : Bel wz W) => (qa_count _ lo lo hi P _ W (hAz.bel g) (by have := g.size; omega) (tbz.bel g)).mono fun e w' ⟨x, y⟩ => (⟨x, g.trans y⟩ : _ ∧ Bel wz w')
        have co := fun W (g : Bel wz W) => (qa_count _ lo wr.heap.size w6.heap.size P _ W (hCz.bel g) (by have := g.size; omega) (tbz.bel g)).mono fun e w' ⟨x, y⟩ => (⟨x, g.trans y⟩ : _ ∧ Bel wz w')
        have az := fun W (g : Bel wz W) => aw W (gwz.trans g)
        have hidz := Lib.hid cz
        have rz := Bel.refl wz
        clear hCz hAz tbz gwz cz hcut hJ aE aw
        go_upto_block 4 with fail
        go_cut [14] from 73 to 96 (fun _ wx => Bel wz wx)
        case first =>
          clear ua uo ca co az
          go_wp2_with fail
          go_loopw [14] (fun i wy => ∃ k : Nat, k ≤ P.S ∧ i = .int .i64 (k : Nat) ∧ Bel wz wy) (fun i _ => P.S - (intOf i).toNat)
          case atStart => exact ⟨0, Nat.zero_le _, rfl, rz⟩
          case round =>
            obtain ⟨k, hk, rfl, hby⟩ := hrel
            by_cases ck : k < P.S
            · have kI : (k : Int) < (P.S : Int) := by omega
              have kz : (0 : Int) ≤ (k : Int) := by omega
              have hak := fun W g => ha W g k ck
              have hok := fun W g => ho W g k ck
              have ck8 := fun W (g : Bel wz W) => cell_bel g (hidz.out k ck)
              clear ha ho rz
              cases hRk : R k
              · simp only [hRk, Bool.not_false, Bool.and_true] at hak hok ck8
                generalize T k = tk at *
                cases tk
                all_goals
                  go_wp2_with (first
                    | (go_at_call 16; (with_reducible refine (hak _ (by assumption)).mono ?_); rintro e w9 ⟨rfl, g9⟩; have hak := hok; have c9 := ck8 _ g9))
                  go_roundw
                  case rel => exact ⟨k + 1, by omega, by go_num, by assumption⟩
                  case measure => simp only [intOf]; omega
              · simp only [hRk, Bool.not_true, Bool.and_false] at hak hok ck8
                go_wp2_with (first
                  | (go_at_call 16; (with_reducible refine (hak _ (by assumption)).mono ?_); rintro e w9 ⟨rfl, g9⟩; have c9 := ck8 _ g9)
                  | (go_at_call 16; (with_reducible refine (hok _ (by assumption)).mono ?_); rintro e w9 ⟨rfl, g9⟩; have c9 := ck8 _ g9))
                go_roundw
                case rel => exact ⟨k + 1, by omega, by go_num, by assumption⟩
                case measure => simp only [intOf]; omega
            · have kI : decide ((k : Int) < (P.S : Int)) = false := decide_eq_false (by omega)
              have kI2 : decide (k < P.S) = false := decide_eq_false ck
              go_wp2_with fail
              go_meet
              exact hby
        case rest =>
          rename World => wq
          have gq : Bel wz wq := hcut
          clear ha ho rz
          generalize P.used (fun j => T j && !R j) P.S = U at *
          generalize Pl.cnt (fun j => T j && !R j) P.S = C at *
          go_wp2_with (first
            | (go_at_call 12; (with_reducible refine (ua _ (by assumption)).mono ?_); rintro e v1 ⟨rfl, h1⟩)
            | (go_at_call 12; (with_reducible refine (uo _ (by assumption)).mono ?_); rintro e v2 ⟨rfl, h2⟩)
            | (go_at_call 25; (with_reducible refine (ca _ (by assumption)).mono ?_); rintro e v3 ⟨rfl, h3⟩)
            | (go_at_call 25; (with_reducible refine (co _ (by assumption)).mono ?_); rintro e v4 ⟨rfl, h4⟩)
            | (go_at_call 9; (with_reducible refine (az _ (by assumption)).mono ?_); rintro e v5 ⟨rfl, h5⟩))
          go_ret
          exact ⟨rfl, h5⟩
  · have mk := made_no _ c 0 wb hIb (by by_cases x : c.great10; exact Or.inl x; exact Or.inr fun y => ok ⟨x, y⟩)
    rw [show ((0 : Nat) : Int) = 0 from rfl] at mk
    clear hI hIb ok hA htb
    subst hwb
    go_enter Tryd.func7, Tryd.ntmps7
    go_wp2_with (first
      | (go_at_call 8; refine mk.mono ?_; rintro e w4 ⟨rfl, hg4⟩; have aw4 := aw _ ((hb.trans hg4).alloc (.cells #[.slice none 0 0, .slice none 0 0, .slice none 0 0, .int .i64 0, .slice none 0 0, .slice none 0 0] 33)))
      | (go_at_call 9; refine aw4.mono ?_; rintro e w5 ⟨rfl, hg5⟩))
    go_ret
    exact ⟨rfl, hg5⟩

/-! The row. -/
set_option maxRecDepth 100000 in
theorem lifted (os : Os) (started : os.Started) (H : Type) (enc : TypeId × Value → H) :
    ReturnsInHanded {} Tryd.checked os 7 .any (fun w args => (Rows.arenaEachSpec.pre enc Tryd.prog Tryd.f7 [] false w args ∧ laidMetH Tryd.prog theLaid w) ∧ sizedMet enc Tryd.prog Tryd.f7 (OpenSpec.ofChange Rows.arenaEachSpec) false w args)
      (Rows.arenaEachSpec.post enc Tryd.prog Tryd.f7 false true false false) := by
  refine lift_laid (C := Tryd.checked) (X := Met) own started (by kernel_rfl) Tryd.func7 (fun _ _ h => Met.heap h) laid rowed full (by rw [Tryd.params7]; decide) rfl (by kernel_rfl) Tryd.underlying4
    (fun ds h => by rw [Tryd.params7] at h; match ds, h with | [_, _, _], _ => rfl)
    (ChangeSpec.witness_shaped (enc := enc) (C := Tryd.checked) (os := os) (X := fun w _ => Met w) false (World.doorLaid Tryd.prog 400 os) #[.agg #[.slice none 0 0, .int .i64 0, .slice none 0 0, .int .i64 0, .int .i64 0, .int .i64 0], .slice none 0 0, .int .u8 0] 8 rfl (World.shaped_of_RefB (by kernel_rfl) (by kernel_rfl)) (by kernel_rfl) (by kernel_rfl) (by kernel_rfl) (door_met os _)) ?_
  intro W base args ds p hval hA hM
  have hT := hM.tab
  change ∀ (j : Nat) t v, Tryd.f7.params[j]? = some t → args[j]? = some v → Value.okWide Tryd.prog W .any base t v at hval
  change DataW.TrodAll enc Tryd.prog W 0 (fun _ => true) true Tryd.f7.params.toList args.toList ds p at hA
  rw [Tryd.params7] at hA hval
  obtain ⟨v0, vs0, d0, ds0, p0, q0, hargs, rfl, rfl, h0, r0⟩ := trodAll_cons hA
  obtain ⟨v1, vs1, d1, ds1, p1, q1, hargs1, rfl, rfl, h1, r1⟩ := trodAll_cons r0
  obtain ⟨v2, vs2, d2, ds2, p2, q2, hargs2, rfl, rfl, h2, r2⟩ := trodAll_cons r1
  obtain ⟨rfl, rfl, rfl⟩ := trodAll_nil r2
  subst hargs2
  subst hargs1
  obtain rfl : args = #[v0, v1, v2] := by cases args; simp_all
  obtain ⟨c, hI, _⟩ := get_cf (hval 0 25 v0 rfl rfl) h0
  obtain ⟨nA, A, hA1⟩ := get_acts (hval 1 26 v1 rfl rfl) h1
  obtain ⟨tn, rfl, htn⟩ := get_u8 Tryd.underlying5 (hval 2 5 v2 rfl rfl) h2
  exact walk v0 c v1 nA A tn W hI hA1 htn hT

theorem over : Rows.arenaEachRow.holds Tryd.pinned (OpenSpec.ofChange Rows.arenaEachSpec) :=
  OpenClaim.holds_of_wide 7 Tryd.f7 rfl rfl rfl rfl rfl rfl rfl ⟨rfl, rfl, rfl, rfl, rfl⟩ rfl rfl rfl rfl rfl (by kernel_rfl) Tryd.func7 (by kernel_rfl)
    (of_decide_eq_true (by kernel_rfl)) (by unfold Func.isWrapper; first | (rw [if_pos (by decide +kernel)]; kernel_rfl) | (rw [if_neg (by decide +kernel)]; exact ⟨rfl, rfl⟩))
    (fun os started H enc _ => lifted os started H enc)

/-- The statement. -/
theorem proved : Rows.ArenaEachCardSaid :=
  Claim7.holds_tied_plain_at .later [] [.data] true (true, "c638e9143258aeaec1d04d8d11f1ebc40f118957b767c87e444fc848b79354be") false
    over (fun _ h => by cases h) (by kernel_rfl) (fun _ h => by cases h) arenaEach_row_tie rfl ⟨rfl, rfl⟩ (by kernel_rfl) rfl
    (fun f fn hf hfn => by
      obtain rfl : f = 7 := Option.some.inj ((show Tryd.prog.funcNamed "commonage/commonagelaw10.ArenaEach" = some 7 by kernel_rfl).symm.trans hf) |>.symm
      obtain rfl : fn = Tryd.f7 := (Option.some.inj (Tryd.func7.symm.trans hfn)).symm
      exact ⟨by kernel_rfl, fun j t ht => by
        rw [Tryd.params7] at ht
        have hm : t ∈ [25, 26, 5] := by simpa using Array.mem_of_getElem? ht
        have hall : ([25, 26, 5].all fun u => !Tryd.prog.wantsStandIn u) = true := by kernel_rfl
        exact (show Tryd.prog.wantsStandIn t = false by simpa using List.all_eq_true.1 hall t hm)⟩)
    (by kernel_rfl)
#print axioms proved
end Go.Proofs.YtjgjomojcocegaaDoor.arenaEach
