/- All references and words of an object are those told one by one; there is no field behind them; for every input; the table of the head's widths holds what the program lays in it (the card ties that), no other condition. -/
import Derived.Test.YthokalcibjjihaaGreatDoorDq
import Derived.Test.YthokalcibjjihaaGreatDoorOpn
import Derived.Test.YthokalcibjjihaaGreatDoorDv
import Derived.Deep.CutBlock
import Derived.BigQuiet
namespace Go.Proofs.YthokalcibjjihaaGreatDoor.bodyEach
open Go.ChangeShapes Go.WideShapes Go.ChangeAt Go.RowKit Go.Joins Go.Deep hd
set_option linter.unusedVariables false

set_option maxRecDepth 100000 in
set_option maxHeartbeats 8000000 in
theorem walk (v : Value) (c : Cf) (lv : Value) (n : Nat) (B : Nat → Ac) (A : Ac) (w : World) (h : IsCf w v c) (hB : Acts w lv n B) (hA : A.Ok) (ht : TabW w) :
    Calls Tryz.prog 7 #[v, lv, .agg #[.int .u8 (A.wh : Nat), .int .i64 A.s, .int .i64 A.i, .int .i64 A.q, .int .u64 (A.u : Nat), .int .i64 A.c, .int .i64 A.r, .int .i64 A.n]] w fun e w' => e = .returned (.bool true) ∧ Below w.heap.size w w' := by
  have hI := h
  obtain ⟨vc, vt, rfl, hN, hT⟩ := h
  obtain ⟨p1, c1, rfl, _⟩ := nums_slice hN
  obtain ⟨p2, c2, rfl, _⟩ := tens_slice hT
  obtain ⟨pl0, cl0, rfl, nb⟩ := hB.slice
  clear hN hT
  obtain ⟨m0, m1⟩ := two w (.cells #[.slice p1 c.n c1, .int .i64 c.page, .slice p2 c.m c2, .int .i64 c.wk, .int .i64 c.gr, .int .i64 c.gn] 25) (.cells #[.int .u8 (A.wh : Nat), .int .i64 A.s, .int .i64 A.i, .int .i64 A.q, .int .u64 (A.u : Nat), .int .i64 A.c, .int .i64 A.r, .int .i64 A.n] 46)
  have hb : Bel w _ := bel_two w (.cells #[.slice p1 c.n c1, .int .i64 c.page, .slice p2 c.m c2, .int .i64 c.wk, .int .i64 c.gr, .int .i64 c.gn] 25) (.cells #[.int .u8 (A.wh : Nat), .int .i64 A.s, .int .i64 A.i, .int .i64 A.q, .int .u64 (A.u : Nat), .int .i64 A.c, .int .i64 A.r, .int .i64 A.n] 46)
  obtain ⟨W, hW⟩ : ∃ W, (w.alloc (.cells #[.slice p1 c.n c1, .int .i64 c.page, .slice p2 c.m c2, .int .i64 c.wk, .int .i64 c.gr, .int .i64 c.gn] 25)).alloc (.cells #[.int .u8 (A.wh : Nat), .int .i64 A.s, .int .i64 A.i, .int .i64 A.q, .int .u64 (A.u : Nat), .int .i64 A.c, .int .i64 A.r, .int .i64 A.n] 46) = W := ⟨_, rfl⟩
  rw [hW] at m0 m1 hb
  have htb := ht.bel hb
  have aw := fun w1 (g : Bel W w1) => (awake_any w1 (htb.bel g)).mono fun e w' ⟨x, y⟩ => (⟨x, hb.trans (g.trans y)⟩ : _ ∧ Bel w w')
  have kk := fun w1 (g : Bel W w1) => And.intro (cfb (heap_bel g m0)) (box8 (heap_bel g m1))
  obtain ⟨⟨k0, k1, k2, k3, k4, k5⟩, a0, a1, a2, a3, a4, a5, a6, a7⟩ := kk _ (Bel.refl _)
  have hBW := hB.bel hb
  by_cases ok : ¬ c.great11 ∧ c.ok
  · have mk := made_yes _ c 0 W (hI.bel hb) ok.1 ok.2 (by omega) htb
    rw [show ((0 : Nat) : Int) = 0 from rfl, Nat.zero_mod] at mk
    have hid := Lib.hid (And.intro hBW (And.intro hA (And.intro kk (And.intro aw (And.intro hb (show Pl.Inv (c.pl 0) c.zeros 0 from Pl.Inv.zeros c 0))))))
    clear hI ok hA htb ht m0 m1 kk hb aw hB hBW
    generalize c.pl 0 = P at *
    generalize c.zeros = R at *
    go_enter Tryz.func7, Tryz.ntmps7
    go_upto_region 1 with fail
    (try rw [hW])
    clear hW
    go_upto_block 0 with (go_at_call 9; refine mk.mono ?_; rintro e w4 ⟨⟨pa, pq, q, lo, hi, top, rfl, hM⟩, hg4⟩
                          obtain ⟨pr4, cr4, bl4, ol4, cl4, pf4, cf4, pm4, cm4, p4, cap4, rfl, _, _⟩ := shape0 hM.b
                          have L0 := Lp.start hM
                          have lo4 := hM.lo
                          have hg5 := hg4.alloc (.cells #[.slice pr4 R.length cr4, .int .i64 0, .slice (some ⟨bl4, ol4, none⟩) P.S cl4, .slice pf4 P.T cf4, .slice pm4 P.T cm4, .int .i64 (P.W : Nat), .slice p4 P.n cap4] 36)
                          clear hM mk)
    obtain ⟨w5, hw5⟩ : ∃ w5, w4.alloc (.cells #[.slice pr4 R.length cr4, .int .i64 0, .slice (some ⟨bl4, ol4, none⟩) P.S cl4, .slice pf4 P.T cf4, .slice pm4 P.T cm4, .int .i64 (P.W : Nat), .slice p4 P.n cap4] 36) = w5 := ⟨_, rfl⟩
    rw [hw5] at L0 hg5
    (try rw [hw5])
    clear hw5
    have hidA := Lib.hid (And.intro hg5 lo4)
    clear hg5 lo4 hg4
    generalize w4.heap.size = Bq at *
    go_cut [10] from 33 to 52 (fun _ wx => ∃ (S : List (List Nat)) (x0 x1 x2 x3 x4 x5 x6 : Value), RowKit.Hid (Lp w5 wx (.pointer (some pa)) (.pointer (some pq)) lo hi top Bq S 0 P (.agg #[x0, x1, x2, x3, x4, x5, x6]) x0 x1 x2 x3 x4 x5 x6 ∧ Pl.Inv P S 0))
    case first =>
      go_wp2_with fail
      go_loopw [10] (fun i wr => ∃ (k : Nat) (S : List (List Nat)) (x0 x1 x2 x3 x4 x5 x6 : Value), k ≤ n ∧ i = .int .i64 (k : Nat) ∧ RowKit.Hid (Lp w5 wr (.pointer (some pa)) (.pointer (some pq)) lo hi top Bq S 0 P (.agg #[x0, x1, x2, x3, x4, x5, x6]) x0 x1 x2 x3 x4 x5 x6 ∧ Pl.Inv P S 0)) (fun i _ => n - (intOf i).toNat)
      case atStart => exact ⟨0, _, _, _, _, _, _, _, _, Nat.zero_le _, rfl, Lib.hid ⟨L0, hid.out.2.2.2.2.2⟩⟩
      case round =>
        clear L0
        obtain ⟨k, S, x0, x1, x2, x3, x4, x5, x6, hk, rfl, hLI⟩ := hrel
        have hL := Lib.hid hLI.out.1
        have hVI := Lib.hid hLI.out.2
        obtain ⟨pr, cr, bl, ol, cl, pf, cf, pm, cm, p, cap, rfl, rfl, rfl, rfl, rfl, rfl, rfl⟩ := hL.out.seven0
        have hw : Bel W wr := hL.out.below hidA.out.1 hidA.out.2
        obtain ⟨tw, tq, hNB, ll, ht'⟩ := hL.out.boxes
        obtain ⟨⟨b0, b1, b2, b3, b4, b5, b6⟩, _⟩ := box7 hL.out.box
        by_cases ckk : k < n ∧ k < 40
        · obtain ⟨ab, aoff, rfl, hbl, hac, hok⟩ := hid.out.1.at ckk.1
          obtain ⟨a0, a1, a2, a3, a4, a5, a6, a7⟩ := hac.bel hw
          have kI : (k : Int) < (n : Int) := by omega
          have kz : (0 : Int) ≤ (k : Int) := by omega
          have kf : (k : Int) < 40 := by omega
          have gd := Bel.drew (Bel.refl wr)
          have gwd : Exc (Own lo hi) wr wr.drew := gd.exc
          have dzA := does_stp (X := fun q => Own lo hi q ∨ q = Bq) (.agg #[.slice pr S.length cr, .int .i64 0, .slice (some ⟨bl, ol, none⟩) P.S cl, .slice pf P.T cf, .slice pm P.T cm, .int .i64 (P.W : Nat), .slice p P.n cap]) (B k) hok (hL.out.mem.bel gd) (hL.out.doc.bel gd) (fun q hq => Nat.lt_of_lt_of_le (hL.out.till q hq) gd.size) (fun q hq => Or.inl hq)
          have hidk := Lib.hid hNB
          clear hok hNB hw hac gd tw tq ll ht'
          go_upto_region 7 with fail
          go_region_law (first
            | (go_simp
               go_at_call 11; (with_reducible refine dzA.mono ?_); rintro e w6 ⟨q6, rfl, ⟨S6, ⟨hq6, hD6⟩, hS6⟩, hE6⟩
               obtain ⟨pr6, cr6, bl6, ol6, cl6, pf6, cf6, pm6, cm6, p6, cap6, rfl, _, _⟩ := shape0 hq6
               have G6 : Exc (Own lo hi) wr w6 := Exc.trans gwd hE6
               have hz6 := blk_exc G6 hL.out.box hidk.out
               have dd := box7 hz6
               obtain ⟨⟨z0, z1, z2, z3, z4, z5, z6⟩, f0, f1, f2, f3, f4, f5, f6⟩ := dd
               obtain ⟨W7, hW7, hbx7, hE7⟩ := seven_store hz6 (.slice pr6 S6.length cr6) (.int .i64 0) (.slice (some ⟨bl6, ol6, none⟩) P.S cl6) (.slice pf6 P.T cf6) (.slice pm6 P.T cm6) (.int .i64 (P.W : Nat)) (.slice p6 P.n cap6)
               have hid7 := Lib.hid (And.intro hq6 (And.intro hD6 (And.intro hbx7 (And.intro hE7 (And.intro G6 hS6)))))
               clear hq6 hD6 hE6 hbx7 hE7 hz6 G6 hS6))
          all_goals go_wp2_with fail
          all_goals
            obtain ⟨hq6, hD6, hbx7, hE7, G6, hS6⟩ := hid7.out
            exact ⟨⟨k + 1, S6, _, _, _, _, _, _, _, by omega, by go_num, Lib.hid ⟨hL.out.step G6 hD6 hq6 hbx7 hE7, hVI.out.stp hL.out.mem.ok.pl.1 hL.out.mem.ok.reg hS6⟩⟩, by simp only [intOf]; omega⟩
        · by_cases ckn : k < n
          · have kI : (k : Int) < (n : Int) := by omega
            have kf : decide ((k : Int) < 40) = false := decide_eq_false (by omega)
            have kf2 : decide (k < 40) = false := decide_eq_false (by omega)
            go_wp2_with fail
            go_meet
            exact ⟨_, _, _, _, _, _, _, _, hLI⟩
          · have kI : decide ((k : Int) < (n : Int)) = false := decide_eq_false (by omega)
            have kI2 : decide (k < n) = false := decide_eq_false ckn
            go_wp2_with fail
            go_meet
            exact ⟨_, _, _, _, _, _, _, _, hLI⟩
    case rest =>
      clear L0
      obtain ⟨S, x0, x1, x2, x3, x4, x5, x6, hLI⟩ := hcut
      have hL := Lib.hid hLI.out.1
      have hVI := Lib.hid hLI.out.2
      obtain ⟨pr, cr, bl, ol, cl, pf, cf, pm, cm, p, cap, rfl, rfl, rfl, rfl, rfl, rfl, rfl⟩ := hL.out.seven0
      have hw : Bel W wc := hL.out.below hidA.out.1 hidA.out.2
      obtain ⟨tw, tq, hNB, ll, ht'⟩ := hL.out.boxes
      have A0 := hid.out.2.1.s
      have hm0 := hL.out.mem
      have hd0 := pb_head A.s A0 hm0
      have rf0 := fun W1 (g : Bel wc W1) => pb_refs' A.s A0 (hm0.bel g)
      have wd0 := fun W1 (g : Bel wc W1) => pb_words' A.s A0 (hm0.bel g)
      have kb : ∀ W1, Bel wc W1 → W1.cell? ⟨w.heap.size + 1, 1, none⟩ = some (.int .i64 A.s) := fun W1 g => (hid.out.2.2.1 W1 (hw.trans g)).2.2.1
      have awc := fun w1 (g : Bel wc w1) => hid.out.2.2.2.1 w1 (hw.trans g)
      have kb0 := kb _ (Bel.refl wc)
      by_cases he : P.hdE S 0 A.s = 0
      · have rE := hVI.out.refsE he
        have ea := Pl.each hVI.out he
        have lr : (P.refsL S 0 A.s).length = P.hdR S 0 A.s := by unfold Pl.refsL; rw [if_pos rE, Pl.refs_len]
        have lw : (P.wordsL S 0 A.s).length = P.hdN S 0 A.s := Pl.words_len _
        have bd := Pl.hd_few he
        have ra := fun W1 (g : Bel wc W1) (i : Int) => pb_ref A.s i A0 (hm0.bel g)
        have wa := fun W1 (g : Bel wc W1) (i : Int) => pb_word A.s i A0 (hm0.bel g)
        rw [he] at hd0
        simp only [rE, he, lr, lw] at rf0 wd0
        have hidE := Lib.hid (And.intro ea (And.intro ra (And.intro wa (And.intro kb awc))))
        clear ea ra wa lr lw rE he hm0 A0 tw tq hNB ll ht' hw kb awc
        generalize P.refsL S 0 A.s = LR at *
        generalize P.wordsL S 0 A.s = LW at *
        generalize P.hdC S 0 A.s = C at *
        generalize P.hdR S 0 A.s = hr at *
        generalize P.hdN S 0 A.s = hn at *
        go_wp2_with (first
          | (go_at_call 29; refine hd0.mono ?_; rintro e w6 ⟨rfl, h6⟩
             have g7 := h6.alloc (.cells #[.int .i64 (C : Nat), .int .i64 (hr : Nat), .int .i64 (hn : Nat)] 44)
             have kb7 := hidE.out.2.2.2.1 _ g7
             have hx7 := heap_alloc_new w6 (.cells #[.int .i64 (C : Nat), .int .i64 (hr : Nat), .int .i64 (hn : Nat)] 44)
             obtain ⟨x0, x1, x2, _⟩ := box3 hx7)
          | (go_at_call 21; refine (rf0 _ g7).mono ?_; rintro e w8 ⟨⟨p8, n8, c8, rfl, e8, hI8⟩, h8⟩; obtain rfl := e8.symm; have g8 := g7.trans h8; have kb8 := hidE.out.2.2.2.1 _ g8)
          | (go_at_call 22; refine (wd0 _ g8).mono ?_; rintro e w9 ⟨⟨p9, n9, c9, rfl, e9, hW9⟩, h9⟩; obtain rfl := e9.symm; have g9 := g8.trans h9; have kb9 := hidE.out.2.2.2.1 _ g9
             have hx9 := heap_bel (h8.trans h9) hx7
             obtain ⟨x0, x1, x2, _⟩ := box3 hx9
             have hidF := Lib.hid (And.intro (hI8.bel h9) (And.intro hW9 (And.intro hx9 g9)))))
        go_loopw [17] (fun s wr => ∃ i : Int, s = .int .i64 i ∧ (-1 ≤ i ∧ i ≤ (hr : Int) + (hn : Int) + 1) ∧ Bel w9 wr) (fun s _ => ((hr : Int) + (hn : Int) + 1 - intOf s).toNat)
        case atStart => exact ⟨-1, rfl, ⟨by omega, by omega⟩, Bel.refl _⟩
        case round =>
          obtain ⟨i, rfl, hi, hg⟩ := hrel
          have gr := hidF.out.2.2.2.trans hg
          have kbr := hidE.out.2.2.2.1 _ gr
          have ra := hidE.out.2.1 _ gr i
          have awr := hidE.out.2.2.2.2 _ gr
          have hxr := heap_bel hg hidF.out.2.2.1
          obtain ⟨x0, x1, x2, _⟩ := box3 hxr
          have q1 : IntKind.i64.wrap ((hr : Int) + (hn : Int)) = (hr : Int) + (hn : Int) := by rw [IntKind.wrap_i64]; omega
          have q2 : IntKind.i64.wrap (i + 1) = i + 1 := by rw [IntKind.wrap_i64]; omega
          by_cases c0 : i ≤ (hr : Int) + (hn : Int)
          · have d0 : decide (i ≤ (hr : Int) + (hn : Int)) = true := decide_eq_true c0
            rcases hidE.out.1 i with ⟨j, rfl, hj, e1, e2, e3⟩ | ⟨j, ej, hj, e1, e2, e3⟩ | ⟨hj, e1, e2⟩
            · obtain ⟨rb, ro, rfl, rc⟩ := is_at hidF.out.1 e2
              rw [e1] at ra
              have wa := fun W1 (g : Bel wc W1) => hidE.out.2.2.1 W1 g (j : Nat)
              rw [e3] at wa
              generalize P.rfR S 0 A.s (j : Nat) = X1 at *
              generalize P.wdR S 0 A.s (j : Nat) = X2 at *
              have y1 : (j : Int) < (hr : Int) := by omega
              have y2 : (0 : Int) ≤ (j : Int) := by omega
              have y3 : decide ((hr : Int) ≤ (j : Int)) = false := decide_eq_false (by omega)
              have y4 : decide (hr ≤ j) = false := decide_eq_false (by omega)
              clear awr
              go_upto_region 20 with (first
                | (go_at_call 25; refine ra.mono ?_; rintro e w10 ⟨rfl, h10⟩
                   have kb10 := hidE.out.2.2.2.1 _ (gr.trans h10))
                | (go_at_call 26; refine (wa _ (gr.trans h10)).mono ?_; rintro e w11 ⟨rfl, h11⟩
                   obtain ⟨x0, x1, x2, _⟩ := box3 (heap_bel (h10.trans h11) hxr)
                   have hg11 := Lib.hid (hg.trans (h10.trans h11))
                   have rc := cell_bel (hg.trans (h10.trans h11)) rc))
              go_quiet (fail)
              go_wp2_with fail
              go_roundw
              case rel => exact ⟨_, by first | rfl | go_num, ⟨by omega, by omega⟩, below_drewN hg11.out _⟩
              case measure => simp only [intOf]; omega
            · obtain ⟨rb, ro, rfl, rc⟩ := ws_at hidF.out.2.1 e3
              rw [e1] at ra
              have wa := fun W1 (g : Bel wc W1) => hidE.out.2.2.1 W1 g i
              rw [e2] at wa
              generalize P.rfR S 0 A.s i = X1 at *
              generalize P.wdR S 0 A.s i = X2 at *
              have y1 : decide (i < (hr : Int)) = false := decide_eq_false (by omega)
              have y2 : (0 : Int) ≤ i := by omega
              have y3 : (hr : Int) ≤ i := by omega
              have y4 : i < (hr : Int) + (hn : Int) := by omega
              have y5 : IntKind.i64.wrap (i - (hr : Int)) = (j : Int) := by rw [IntKind.wrap_i64]; omega
              have y6 : (j : Int) < (hn : Int) := by omega
              have y7 : (0 : Int) ≤ (j : Int) := by omega
              have hej := Lib.hid ej
              clear ej
              clear awr
              go_upto_region 20 with (first
                | (go_at_call 25; refine ra.mono ?_; rintro e w10 ⟨rfl, h10⟩
                   have kb10 := hidE.out.2.2.2.1 _ (gr.trans h10))
                | (go_at_call 26; refine (wa _ (gr.trans h10)).mono ?_; rintro e w11 ⟨rfl, h11⟩
                   obtain ⟨x0, x1, x2, _⟩ := box3 (heap_bel (h10.trans h11) hxr)
                   have hg11 := Lib.hid (hg.trans (h10.trans h11))
                   have rc := cell_bel (hg.trans (h10.trans h11)) rc))
              go_quiet (fail)
              go_wp2_with fail
              go_roundw
              case rel => exact ⟨_, by first | rfl | go_num, ⟨by omega, by omega⟩, below_drewN hg11.out _⟩
              case measure => simp only [intOf]; omega
            · rw [e1] at ra
              have wa := fun W1 (g : Bel wc W1) => hidE.out.2.2.1 W1 g i
              rw [e2] at wa
              generalize P.rfR S 0 A.s i = X1 at *
              generalize P.wdR S 0 A.s i = X2 at *
              rcases hj with hj | hj
              · have y1 : decide ((0 : Int) ≤ i) = false := decide_eq_false (by omega)
                have y2 : decide ((hr : Int) ≤ i) = false := decide_eq_false (by omega)
                clear awr
                go_upto_region 20 with (first
                  | (go_at_call 25; refine ra.mono ?_; rintro e w10 ⟨rfl, h10⟩
                     have kb10 := hidE.out.2.2.2.1 _ (gr.trans h10))
                  | (go_at_call 26; refine (wa _ (gr.trans h10)).mono ?_; rintro e w11 ⟨rfl, h11⟩
                     obtain ⟨x0, x1, x2, _⟩ := box3 (heap_bel (h10.trans h11) hxr)
                     have hg11 := Lib.hid (hg.trans (h10.trans h11))))
                go_quiet (fail)
                go_wp2_with fail
                go_roundw
                case rel => exact ⟨_, by first | rfl | go_num, ⟨by omega, by omega⟩, below_drewN hg11.out _⟩
                case measure => simp only [intOf]; omega
              · have y1 : (0 : Int) ≤ i := by omega
                have y2 : decide (i < (hr : Int)) = false := decide_eq_false (by omega)
                have y3 : (hr : Int) ≤ i := by omega
                have y4 : decide (i < (hr : Int) + (hn : Int)) = false := decide_eq_false (by omega)
                clear awr
                go_upto_region 20 with (first
                  | (go_at_call 25; refine ra.mono ?_; rintro e w10 ⟨rfl, h10⟩
                     have kb10 := hidE.out.2.2.2.1 _ (gr.trans h10))
                  | (go_at_call 26; refine (wa _ (gr.trans h10)).mono ?_; rintro e w11 ⟨rfl, h11⟩
                     obtain ⟨x0, x1, x2, _⟩ := box3 (heap_bel (h10.trans h11) hxr)
                     have hg11 := Lib.hid (hg.trans (h10.trans h11))))
                go_quiet (fail)
                go_wp2_with fail
                go_roundw
                case rel => exact ⟨_, by first | rfl | go_num, ⟨by omega, by omega⟩, below_drewN hg11.out _⟩
                case measure => simp only [intOf]; omega
          · have d0 : decide (i ≤ (hr : Int) + (hn : Int)) = false := decide_eq_false c0
            go_wp2_with (go_at_call 10; refine awr.mono ?_; rintro e w12 ⟨rfl, hz⟩)
            go_ret
            exact ⟨rfl, hz⟩
      · obtain ⟨n1, n2, n3⟩ := Pl.none_told (P := P) (R := S) (t := 0) (s := A.s) he
        have lr : (P.refsL S 0 A.s).length = 0 := by unfold Pl.refsL; rw [n1]; split <;> rfl
        have lw : (P.wordsL S 0 A.s).length = 0 := by rw [n2]; rfl
        have h0 : P.hdR S 0 A.s = 0 ∧ P.hdN S 0 A.s = 0 ∧ P.hdC S 0 A.s = 0 := by
          unfold Pl.hdR Pl.hdN Pl.hdC
          rw [if_neg he, if_neg he, if_neg he]
          exact ⟨rfl, rfl, rfl⟩
        rw [h0.1, h0.2.1, h0.2.2] at hd0
        simp only [lr, lw, n3] at rf0 wd0
        have hidE := Lib.hid (And.intro kb awc)
        clear lr lw n1 n2 n3 hm0 A0 tw tq hNB ll ht' hw kb awc h0
        generalize P.hdE S 0 A.s = E at *
        have d0 : decide (E = 0) = false := decide_eq_false he
        go_wp2_with (first
          | (go_at_call 29; refine hd0.mono ?_; rintro e w6 ⟨rfl, h6⟩
             have g7 := h6.alloc (.cells #[.int .i64 0, .int .i64 0, .int .i64 0] 44)
             have kb7 := hidE.out.1 _ g7)
          | (go_at_call 21; refine (rf0 _ g7).mono ?_; rintro e w8 ⟨⟨p8, n8, c8, rfl, rfl, _⟩, h8⟩; have g8 := g7.trans h8; have kb8 := hidE.out.1 _ g8)
          | (go_at_call 22; refine (wd0 _ g8).mono ?_; rintro e w9 ⟨⟨p9, n9, c9, rfl, rfl, _⟩, h9⟩; have aw9 := hidE.out.2 _ (g8.trans h9))
          | (go_at_call 10; refine aw9.mono ?_; rintro e w12 ⟨rfl, hz⟩))
        go_ret
        exact ⟨rfl, hz⟩
  · have mk := made_no _ c 0 W (hI.bel hb) (by by_cases x : c.great11; exact Or.inl x; exact Or.inr fun y => ok ⟨x, y⟩)
    rw [show ((0 : Nat) : Int) = 0 from rfl] at mk
    clear hI ok hA htb m0 m1 kk hB hBW
    go_enter Tryz.func7, Tryz.ntmps7
    go_upto_region 1 with fail
    (try rw [hW])
    clear hW
    go_wp2_with (first
      | (go_at_call 9; refine mk.mono ?_; rintro e w4 ⟨rfl, h4⟩; have aw4 := aw _ (h4.alloc (.cells #[.slice none 0 0, .int .i64 0, .slice none 0 0, .slice none 0 0, .slice none 0 0, .int .i64 0, .slice none 0 0] 36)))
      | (go_at_call 10; refine aw4.mono ?_; rintro e w5 ⟨rfl, h5⟩))
    go_ret
    exact ⟨rfl, h5⟩

/-! The row. -/
set_option maxRecDepth 100000 in
theorem lifted (os : Os) (started : os.Started) (H : Type) (enc : TypeId × Value → H) :
    ReturnsInHanded {} Tryz.checked os 7 .any (fun w args => (Rows.bodyEachSpec.pre enc Tryz.prog Tryz.f7 [] false w args ∧ laidMetH Tryz.prog theLaid w) ∧ sizedMet enc Tryz.prog Tryz.f7 (OpenSpec.ofChange Rows.bodyEachSpec) false w args)
      (Rows.bodyEachSpec.post enc Tryz.prog Tryz.f7 false true false false) := by
  refine lift_laid (C := Tryz.checked) (X := Met) own started (by kernel_rfl) Tryz.func7 (fun _ _ h => Met.heap h) laid rowed full (by rw [Tryz.params7]; decide) rfl (by kernel_rfl) Tryz.underlying4
    (fun ds h => by rw [Tryz.params7] at h; match ds, h with | [_, _, _], _ => rfl)
    (ChangeSpec.witness_shaped (enc := enc) (C := Tryz.checked) (os := os) (X := fun w _ => Met w) false (World.doorLaid Tryz.prog 400 os) #[.agg #[.slice none 0 0, .int .i64 0, .slice none 0 0, .int .i64 0, .int .i64 0, .int .i64 0], .slice none 0 0, .agg #[.int .u8 0, .int .i64 0, .int .i64 0, .int .i64 0, .int .u64 0, .int .i64 0, .int .i64 0, .int .i64 0]] 8 rfl (World.shaped_of_RefB (by kernel_rfl) (by kernel_rfl)) (by kernel_rfl) (by kernel_rfl) (by kernel_rfl) (door_met os _)) ?_
  intro W base args ds p hval hAll hM
  have hT := hM.tab
  change ∀ (j : Nat) t v, Tryz.f7.params[j]? = some t → args[j]? = some v → Value.okWide Tryz.prog W .any base t v at hval
  change DataW.TrodAll enc Tryz.prog W 0 (fun _ => true) true Tryz.f7.params.toList args.toList ds p at hAll
  rw [Tryz.params7] at hAll hval
  obtain ⟨v0, vs0, d0, ds0, p0, q0, hargs, rfl, rfl, h0, r0⟩ := trodAll_cons hAll
  obtain ⟨v1, vs1, d1, ds1, p1, q1, hargs1, rfl, rfl, h1, r1⟩ := trodAll_cons r0
  obtain ⟨v2, vs2, d2, ds2, p2, q2, hargs2, rfl, rfl, h2, r2⟩ := trodAll_cons r1
  obtain ⟨rfl, rfl, rfl⟩ := trodAll_nil r2
  subst hargs2
  subst hargs1
  obtain rfl : args = #[v0, v1, v2] := by cases args; simp_all
  obtain ⟨c, hI, _⟩ := get_cf (hval 0 25 v0 rfl rfl) h0
  obtain ⟨nB, B, hB1⟩ := get_acts (hval 1 26 v1 rfl rfl) h1
  obtain ⟨A, hA, rfl⟩ := get_act (hval 2 46 v2 rfl rfl) h2
  exact walk v0 c v1 nB B A W hI hB1 hA hT

theorem over : Rows.bodyEachRow.holds Tryz.pinned (OpenSpec.ofChange Rows.bodyEachSpec) :=
  OpenClaim.holds_of_wide 7 Tryz.f7 rfl rfl rfl rfl rfl rfl rfl ⟨rfl, rfl, rfl, rfl, rfl⟩ rfl rfl rfl rfl rfl (by kernel_rfl) Tryz.func7 (by kernel_rfl)
    (of_decide_eq_true (by kernel_rfl)) (by unfold Func.isWrapper; first | (rw [if_pos (by decide +kernel)]; kernel_rfl) | (rw [if_neg (by decide +kernel)]; exact ⟨rfl, rfl⟩))
    (fun os started H enc _ => lifted os started H enc)

/-- The statement. -/
theorem proved : Rows.BodyEachCardSaid :=
  Claim7.holds_tied_plain_at .later [] [.data] true (true, "4c33b7968f82caf130c1decf41a5dcf18a2cc1dc4bb0104c99295747923900d8") true
    over (fun _ h => by cases h) (by kernel_rfl) (fun _ h => by cases h) bodyEach_row_tie rfl ⟨rfl, rfl⟩ (by kernel_rfl) rfl
    (fun f fn hf hfn => by
      obtain rfl : f = 7 := Option.some.inj ((show Tryz.prog.funcNamed "commonage/commonagelaw11.BodyEach" = some 7 by kernel_rfl).symm.trans hf) |>.symm
      obtain rfl : fn = Tryz.f7 := (Option.some.inj (Tryz.func7.symm.trans hfn)).symm
      exact ⟨by kernel_rfl, fun j t ht => by
        rw [Tryz.params7] at ht
        have hm : t ∈ [25, 26, 46] := by simpa using Array.mem_of_getElem? ht
        have hall : ([25, 26, 46].all fun u => !Tryz.prog.wantsStandIn u) = true := by kernel_rfl
        exact (show Tryz.prog.wantsStandIn t = false by simpa using List.all_eq_true.1 hall t hm)⟩)
    (by kernel_rfl)
#print axioms proved
end Go.Proofs.YthokalcibjjihaaGreatDoor.bodyEach
