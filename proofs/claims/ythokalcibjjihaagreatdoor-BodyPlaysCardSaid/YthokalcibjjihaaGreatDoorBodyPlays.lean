/- A body answers as the document's, whatever is done; for every input; the table of the head's widths holds what the program lays in it (the card ties that), no other condition. -/
import Derived.Test.YthokalcibjjihaaGreatDoorDq
import Derived.Test.YthokalcibjjihaaGreatDoorOpn
namespace Go.Proofs.YthokalcibjjihaaGreatDoor.bodyPlays
open Go.ChangeShapes Go.WideShapes Go.ChangeAt Go.RowKit Go.Joins Go.Deep hd
set_option linter.unusedVariables false

set_option maxRecDepth 100000 in
set_option maxHeartbeats 8000000 in
theorem walk (v : Value) (c : Cf) (tn : Nat) (lv : Value) (n : Nat) (A : Nat → Ac) (w : World) (h : IsCf w v c) (h8 : tn ≤ 255) (hA : Acts w lv n A) (ht : TabW w) :
    Calls Tryz.prog 3 #[v, .int .u8 (tn : Nat), lv] w fun e w' => e = .returned (.bool true) ∧ Below w.heap.size w w' := by
  have hI := h
  obtain ⟨vc, vt, rfl, hN, hT⟩ := h
  obtain ⟨p1, c1, rfl, _⟩ := nums_slice hN
  obtain ⟨p2, c2, rfl, _⟩ := tens_slice hT
  obtain ⟨pl0, cl0, rfl, nb⟩ := hA.slice
  clear hN hT
  have hb := (Bel.refl w).alloc (.cells #[.slice p1 c.n c1, .int .i64 c.page, .slice p2 c.m c2, .int .i64 c.wk, .int .i64 c.gr, .int .i64 c.gn] 25)
  generalize hwb : w.alloc (.cells #[.slice p1 c.n c1, .int .i64 c.page, .slice p2 c.m c2, .int .i64 c.wk, .int .i64 c.gr, .int .i64 c.gn] 25) = wb at *
  have hIb := hI.bel hb
  have htb := ht.bel hb
  have aw := fun w1 (g : Bel w w1) => (awake_any w1 (ht.bel g)).mono fun e w' ⟨x, y⟩ => (⟨x, g.trans y⟩ : _ ∧ Bel w w')
  by_cases ok : ¬ c.great11 ∧ c.ok
  · have mk := made_yes _ c tn wb hIb ok.1 ok.2 h8 htb
    generalize c.pl (tn % c.m) = P at *
    generalize tn % c.m = t at *
    generalize c.zeros = R at *
    have hid := Lib.hid (And.intro hb (And.intro hA (And.intro ht aw)))
    clear hI hIb ok hA htb ht aw
    subst hwb
    go_enter Tryz.func3, Tryz.ntmps3
    go_wp2_with (go_at_call 9; refine mk.mono ?_; rintro e w4 ⟨⟨pa, pq, q, lo, hi, top, rfl, hM⟩, hg4⟩
                 obtain ⟨pr4, cr4, bl4, ol4, cl4, pf4, cf4, pm4, cm4, p4, cap4, rfl, _, _, _⟩ := hM.b.shape
                 have L0 := Lp.start hM
                 have lo4 := hM.lo
                 have hg5 := (hid.out.1.trans hg4).alloc (.cells #[.slice pr4 R.length cr4, .int .i64 (t : Nat), .slice (some ⟨bl4, ol4, none⟩) P.S cl4, .slice pf4 P.T cf4, .slice pm4 P.T cm4, .int .i64 (P.W : Nat), .slice p4 P.n cap4] 36)
                 clear hM mk)
    obtain ⟨w5, hw5⟩ : ∃ w5, w4.alloc (.cells #[.slice pr4 R.length cr4, .int .i64 (t : Nat), .slice (some ⟨bl4, ol4, none⟩) P.S cl4, .slice pf4 P.T cf4, .slice pm4 P.T cm4, .int .i64 (P.W : Nat), .slice p4 P.n cap4] 36) = w5 := ⟨_, rfl⟩
    rw [hw5] at L0 hg5
    (try rw [hw5])
    clear hw5
    have hidA := Lib.hid (And.intro hid.out.2.1 (And.intro hg5 (And.intro (Nat.le_trans hid.out.1.size lo4) hid.out.2.2.2)))
    clear hg5 lo4 hg4 hb
    generalize w4.heap.size = Bq at *
    go_loopw [10] (fun i wr => ∃ (k : Nat) (S : List (List Nat)) (x0 x1 x2 x3 x4 x5 x6 : Value), k ≤ n ∧ i = .int .i64 (k : Nat) ∧ RowKit.Hid (Lp w5 wr (.pointer (some pa)) (.pointer (some pq)) lo hi top Bq S t P (.agg #[x0, x1, x2, x3, x4, x5, x6]) x0 x1 x2 x3 x4 x5 x6)) (fun i _ => n - (intOf i).toNat)
    case atStart => exact ⟨0, _, _, _, _, _, _, _, _, Nat.zero_le _, rfl, Lib.hid L0⟩
    case round =>
      clear L0
      obtain ⟨k, S, x0, x1, x2, x3, x4, x5, x6, hk, rfl, hL⟩ := hrel
      obtain ⟨pr, cr, bl, ol, cl, pf, cf, pm, cm, p, cap, rfl, rfl, rfl, rfl, rfl, rfl, rfl⟩ := hL.out.seven
      have hw : Bel w wr := hL.out.below hidA.out.2.1 hidA.out.2.2.1
      obtain ⟨tw, tq, hNB, ll, ht'⟩ := hL.out.boxes
      obtain ⟨⟨b0, b1, b2, b3, b4, b5, b6⟩, _⟩ := box7 hL.out.box
      by_cases ckk : k < n ∧ k < 40
      · obtain ⟨ab, aoff, rfl, hbl, hac, hok⟩ := hidA.out.1.at ckk.1
        obtain ⟨a0, a1, a2, a3, a4, a5, a6, a7⟩ := hac.bel hw
        have kI : (k : Int) < (n : Int) := by omega
        have kz : (0 : Int) ≤ (k : Int) := by omega
        have kf : (k : Int) < 40 := by omega
        have hNb : ¬ Own lo hi ab := fun x => by have := x.1; have := hidA.out.2.2.1; omega
        have hNw : ¬ Own lo hi wr.heap.size := fun x => by have := x.2; omega
        have kp : ∀ W, Exc (Own lo hi) wr W → Exc (Own lo hi) wr W ∧ (W.cell? ⟨Bq, 0, none⟩ = some (.slice pr S.length cr) ∧ W.cell? ⟨Bq, 1, none⟩ = some (.int .i64 (t : Nat)) ∧ W.cell? ⟨Bq, 2, none⟩ = some (.slice (some ⟨bl, ol, none⟩) P.S cl) ∧ W.cell? ⟨Bq, 3, none⟩ = some (.slice pf P.T cf) ∧ W.cell? ⟨Bq, 4, none⟩ = some (.slice pm P.T cm) ∧ W.cell? ⟨Bq, 5, none⟩ = some (.int .i64 (P.W : Nat)) ∧ W.cell? ⟨Bq, 6, none⟩ = some (.slice p P.n cap)) ∧ (W.cell? ⟨ab, aoff + k * 8, none⟩ = some (.int .u8 ((A k).wh : Nat)) ∧ W.cell? ⟨ab, aoff + k * 8 + 1, none⟩ = some (.int .i64 (A k).s) ∧ W.cell? ⟨ab, aoff + k * 8 + 2, none⟩ = some (.int .i64 (A k).i) ∧ W.cell? ⟨ab, aoff + k * 8 + 3, none⟩ = some (.int .i64 (A k).q) ∧ W.cell? ⟨ab, aoff + k * 8 + 4, none⟩ = some (.int .u64 ((A k).u : Nat)) ∧ W.cell? ⟨ab, aoff + k * 8 + 5, none⟩ = some (.int .i64 (A k).c) ∧ W.cell? ⟨ab, aoff + k * 8 + 6, none⟩ = some (.int .i64 (A k).r) ∧ W.cell? ⟨ab, aoff + k * 8 + 7, none⟩ = some (.int .i64 (A k).n)) := fun W g =>
          ⟨g, ⟨cell_exc g b0 hNB, cell_exc g b1 hNB, cell_exc g b2 hNB, cell_exc g b3 hNB, cell_exc g b4 hNB, cell_exc g b5 hNB, cell_exc g b6 hNB⟩, cell_exc g a0 hNb, cell_exc g a1 hNb, cell_exc g a2 hNb, cell_exc g a3 hNb, cell_exc g a4 hNb, cell_exc g a5 hNb, cell_exc g a6 hNb, cell_exc g a7 hNb⟩
        have gd := Bel.drew (Bel.refl wr)
        have ga := (Bel.refl wr).alloc (.cells #[.slice none 0 0, .int .i64 0, .slice none 0 0, .slice none 0 0, .slice none 0 0, .int .i64 0, .slice none 0 0] 36)
        have gad := Bel.drew ga
        have gw : Exc (Own lo hi) wr wr := (Bel.refl wr).exc
        have gwd : Exc (Own lo hi) wr wr.drew := gd.exc
        have gwa : Exc (Own lo hi) wr (wr.alloc (.cells #[.slice none 0 0, .int .i64 0, .slice none 0 0, .slice none 0 0, .slice none 0 0, .int .i64 0, .slice none 0 0] 36)) := ga.exc
        have gwad : Exc (Own lo hi) wr (wr.alloc (.cells #[.slice none 0 0, .int .i64 0, .slice none 0 0, .slice none 0 0, .slice none 0 0, .int .i64 0, .slice none 0 0] 36)).drew := gad.exc
        have hbx0 : (wr.alloc (.cells #[.slice none 0 0, .int .i64 0, .slice none 0 0, .slice none 0 0, .slice none 0 0, .int .i64 0, .slice none 0 0] 36)).drew.heap[wr.heap.size]? = some (.cells #[.slice none 0 0, .int .i64 0, .slice none 0 0, .slice none 0 0, .slice none 0 0, .int .i64 0, .slice none 0 0] 36 (0, 0)) := heap_alloc_new wr _
        have dzA := does_any (X := fun q => Own lo hi q ∨ q = Bq) (.agg #[.slice pr S.length cr, .int .i64 (t : Nat), .slice (some ⟨bl, ol, none⟩) P.S cl, .slice pf P.T cf, .slice pm P.T cm, .int .i64 (P.W : Nat), .slice p P.n cap]) (A k) hok (hL.out.mem.bel gd) (hL.out.doc.bel gd) (fun q hq => Nat.lt_of_lt_of_le (hL.out.till q hq) gd.size) (fun q hq => Or.inl hq)
        have dzB := does_any (X := fun q => (Own lo hi q ∨ q = Bq) ∨ q = wr.heap.size) (.agg #[.slice pr S.length cr, .int .i64 (t : Nat), .slice (some ⟨bl, ol, none⟩) P.S cl, .slice pf P.T cf, .slice pm P.T cm, .int .i64 (P.W : Nat), .slice p P.n cap]) (A k) hok (hL.out.mem.bel gad) (((hL.out.doc.old hL.out.mem.ok).less fun q hq => hq.imp id fun y => by omega).bel gad) (fun q hq => by
          have s1 := size_alloc1 wr (.cells #[.slice none 0 0, .int .i64 0, .slice none 0 0, .slice none 0 0, .slice none 0 0, .int .i64 0, .slice none 0 0] 36)
          show q < (wr.alloc _).heap.size
          rcases hq with hq | hq
          · have := hL.out.till q hq; omega
          · omega) (fun q hq => Or.inl (Or.inl hq))
        have hidk := Lib.hid (And.intro hok.s (And.intro hNB (And.intro hNb (And.intro tw (And.intro hNw hbx0)))))
        clear hok hNB hNb hNw hw hac gd ga gad hbx0 tw ll ht'
        go_upto_region 7 with fail
        go_cut [11, 12] (fun s10 s11 wx => ∃ g10, s10 = .pointer (some ⟨g10, 0, none⟩) ∧ s11 = .bool true ∧ RowKit.Hid (∃ S' y0 y1 y2 y3 y4 y5 y6, Mid wr wx (.pointer (some pa)) lo hi top Bq g10 S' t P y0 y1 y2 y3 y4 y5 y6))
        case first =>
          go_region_held3 (fun W => Exc (Own lo hi) wr W ∧ (W.cell? ⟨Bq, 0, none⟩ = some (.slice pr S.length cr) ∧ W.cell? ⟨Bq, 1, none⟩ = some (.int .i64 (t : Nat)) ∧ W.cell? ⟨Bq, 2, none⟩ = some (.slice (some ⟨bl, ol, none⟩) P.S cl) ∧ W.cell? ⟨Bq, 3, none⟩ = some (.slice pf P.T cf) ∧ W.cell? ⟨Bq, 4, none⟩ = some (.slice pm P.T cm) ∧ W.cell? ⟨Bq, 5, none⟩ = some (.int .i64 (P.W : Nat)) ∧ W.cell? ⟨Bq, 6, none⟩ = some (.slice p P.n cap)) ∧ (W.cell? ⟨ab, aoff + k * 8, none⟩ = some (.int .u8 ((A k).wh : Nat)) ∧ W.cell? ⟨ab, aoff + k * 8 + 1, none⟩ = some (.int .i64 (A k).s) ∧ W.cell? ⟨ab, aoff + k * 8 + 2, none⟩ = some (.int .i64 (A k).i) ∧ W.cell? ⟨ab, aoff + k * 8 + 3, none⟩ = some (.int .i64 (A k).q) ∧ W.cell? ⟨ab, aoff + k * 8 + 4, none⟩ = some (.int .u64 ((A k).u : Nat)) ∧ W.cell? ⟨ab, aoff + k * 8 + 5, none⟩ = some (.int .i64 (A k).c) ∧ W.cell? ⟨ab, aoff + k * 8 + 6, none⟩ = some (.int .i64 (A k).r) ∧ W.cell? ⟨ab, aoff + k * 8 + 7, none⟩ = some (.int .i64 (A k).n)))
            (first | with_reducible exact kp _ (by assumption) | with_reducible exact kp _ (Exc.al (by assumption) _))
            (first
              | (go_at_call 11; (with_reducible refine dzA.mono ?_); rintro e w6 ⟨q6, rfl, ⟨S6, hq6, hA6⟩, hE6⟩
                 obtain ⟨pr6, cr6, bl6, ol6, cl6, pf6, cf6, pm6, cm6, p6, cap6, rfl, _, _, _⟩ := hq6.shape
                 have G6 : Exc (Own lo hi) wr w6 := Exc.trans gwd hE6
                 have hid7 := Lib.hid (And.intro hq6 hA6)
                 clear hq6 hA6 hE6)
              | (go_at_call 11; (with_reducible refine dzB.mono ?_); rintro e w6 ⟨q6, rfl, ⟨S6, hq6, hA6⟩, hE6⟩
                 obtain ⟨pr6, cr6, bl6, ol6, cl6, pf6, cf6, pm6, cm6, p6, cap6, rfl, _, _, _⟩ := hq6.shape
                 have G6 : Exc (Own lo hi) wr w6 := Exc.trans gwad hE6
                 have hz6 := blk_exc hE6 hidk.out.2.2.2.2.2 hidk.out.2.2.2.2.1
                 have dd := box7 hz6
                 obtain ⟨⟨z0, z1, z2, z3, z4, z5, z6⟩, f0, f1, f2, f3, f4, f5, f6⟩ := dd
                 obtain ⟨W7, hW7, hbx7, hE7⟩ := seven_store hz6 (.slice pr6 S6.length cr6) (.int .i64 (t : Nat)) (.slice (some ⟨bl6, ol6, none⟩) P.S cl6) (.slice pf6 P.T cf6) (.slice pm6 P.T cm6) (.int .i64 (P.W : Nat)) (.slice p6 P.n cap6)
                 have G7 : Exc (Own lo hi) wr W7 := G6.tail hE7 (fun q hq => by omega)
                 have hid7 := Lib.hid (And.intro hq6 (And.intro hA6 (And.intro hbx7 hE7)))
                 clear hq6 hA6 hE6 hbx7 hE7 hz6))
          all_goals go_wp2_with fail
          all_goals go_meet
          · exact ⟨_, rfl, rfl, Lib.hid ⟨_, _, _, _, _, _, _, _, Mid.after hid7.out.2 hid7.out.1 G6⟩⟩
          · exact ⟨_, rfl, rfl, Lib.hid ⟨_, _, _, _, _, _, _, _, Mid.ahead hid7.out.2.1 hidk.out.2.2.2.1 hid7.out.1 G7 hid7.out.2.2.1 hid7.out.2.2.2 (Nat.le_refl _)⟩⟩
        case rest =>
          obtain ⟨g10, rfl, rfl, hMid⟩ := hcut
          obtain ⟨S', y0, y1, y2, y3, y4, y5, y6, hM⟩ := hMid.out
          obtain ⟨pr6, cr6, bl6, ol6, cl6, pf6, cf6, pm6, cm6, p6, cap6, rfl, rfl, rfl, rfl, rfl, rfl, rfl⟩ := hM.seven
          have cc := box7 hM.box
          obtain ⟨⟨u0, u1, u2, u3, u4, u5, u6⟩, _⟩ := cc
          have hbq := blk_exc hM.exc hL.out.box hidk.out.2.1
          have a1' := cell_exc hM.exc a1 hidk.out.2.2.1
          have sm := fun W (g : Bel wc W) => (told_any _ (A k).s hidk.out.1 (hM.mem.bel g) (hM.doc.bel g)).mono fun e w' ⟨x, y⟩ => (⟨x, g.trans y⟩ : _ ∧ Bel wc w')
          have kr : ∀ W, Bel wc W → Bel wc W ∧ (W.cell? ⟨g10, 0, none⟩ = some (.slice pr6 S'.length cr6) ∧ W.cell? ⟨g10, 1, none⟩ = some (.int .i64 (t : Nat)) ∧ W.cell? ⟨g10, 2, none⟩ = some (.slice (some ⟨bl6, ol6, none⟩) P.S cl6) ∧ W.cell? ⟨g10, 3, none⟩ = some (.slice pf6 P.T cf6) ∧ W.cell? ⟨g10, 4, none⟩ = some (.slice pm6 P.T cm6) ∧ W.cell? ⟨g10, 5, none⟩ = some (.int .i64 (P.W : Nat)) ∧ W.cell? ⟨g10, 6, none⟩ = some (.slice p6 P.n cap6)) ∧ W.cell? ⟨ab, aoff + k * 8 + 1, none⟩ = some (.int .i64 (A k).s) := fun W g => ⟨g, ⟨cell_bel g u0, cell_bel g u1, cell_bel g u2, cell_bel g u3, cell_bel g u4, cell_bel g u5, cell_bel g u6⟩, cell_bel g a1'⟩
          have g0 := Bel.refl wc
          have hidM := Lib.hid (And.intro hM hbq)
          clear hM hbq hMid dzA dzB gw gwd gwa gwad a0 a1 a2 a3 a4 a5 a6 a7 b0 b1 b2 b3 b4 b5 b6 kp
          go_upto_region 8 with fail
          go_region_held3 (fun W => Bel wc W ∧ (W.cell? ⟨g10, 0, none⟩ = some (.slice pr6 S'.length cr6) ∧ W.cell? ⟨g10, 1, none⟩ = some (.int .i64 (t : Nat)) ∧ W.cell? ⟨g10, 2, none⟩ = some (.slice (some ⟨bl6, ol6, none⟩) P.S cl6) ∧ W.cell? ⟨g10, 3, none⟩ = some (.slice pf6 P.T cf6) ∧ W.cell? ⟨g10, 4, none⟩ = some (.slice pm6 P.T cm6) ∧ W.cell? ⟨g10, 5, none⟩ = some (.int .i64 (P.W : Nat)) ∧ W.cell? ⟨g10, 6, none⟩ = some (.slice p6 P.n cap6)) ∧ W.cell? ⟨ab, aoff + k * 8 + 1, none⟩ = some (.int .i64 (A k).s))
            (first | with_reducible exact kr _ (by assumption) | with_reducible exact kr _ (Bel.drew (by assumption)))
            (first | (go_at_call 12; refine (sm _ (by first | assumption | exact Bel.drew (by assumption))).mono ?_; rintro e w8 ⟨rfl, hg8⟩
                      have cc := box7 (heap_bel hg8 hidM.out.1.box)
                      obtain ⟨⟨u0, u1, u2, u3, u4, u5, u6⟩, _⟩ := cc
                      have hz8 := heap_bel hg8 hidM.out.2
                      have dd := box7 hz8
                      obtain ⟨⟨z0, z1, z2, z3, z4, z5, z6⟩, f0, f1, f2, f3, f4, f5, f6⟩ := dd
                      obtain ⟨W9, hW9, hbx9, hE9⟩ := seven_store hz8 (.slice pr6 S'.length cr6) (.int .i64 (t : Nat)) (.slice (some ⟨bl6, ol6, none⟩) P.S cl6) (.slice pf6 P.T cf6) (.slice pm6 P.T cm6) (.int .i64 (P.W : Nat)) (.slice p6 P.n cap6)
                      have hid9 := Lib.hid (And.intro hbx9 (And.intro hE9 hg8))
                      clear hbx9 hE9 hz8))
          go_wp2_with fail
          go_roundw
          case rel =>
            obtain ⟨hbx9, hE9, hg8⟩ := hid9.out
            exact ⟨k + 1, S', _, _, _, _, _, _, _, by omega, by go_num, Lib.hid (hL.out.mids (hidM.out.1.bel hg8) hbx9 hE9)⟩
          case measure => simp only [intOf]; omega
      · have oa := hL.out.all
        have ora := hL.out.rall
        have hwz := Lib.hid hw
        have aw5 := fun w1 (g : Bel wr w1) => (awake_any w1 (hL.out.mem.tab.bel g)).mono fun e w' ⟨x, y⟩ => (⟨x, g.trans y⟩ : _ ∧ Bel wr w')
        have kq : ∀ W, Bel wr W → Bel wr W ∧ W.cell? ⟨Bq, 0, none⟩ = some (.slice pr S.length cr) := fun W g => ⟨g, cell_bel g b0⟩
        have g0 := Bel.refl wr
        clear hw tw tq hNB ll ht' b1 b2 b3 b4 b5 b6 nb
        by_cases ckn : k < n
        · have kI : (k : Int) < (n : Int) := by omega
          have kf : decide ((k : Int) < 40) = false := decide_eq_false (by omega)
          have kf2 : decide (k < 40) = false := decide_eq_false (by omega)
          go_upto_region 11 with fail
          go_region_held3 (fun W => Bel wr W ∧ W.cell? ⟨Bq, 0, none⟩ = some (.slice pr S.length cr))
            (first | with_reducible exact kq _ (by assumption) | with_reducible exact kq _ (Bel.drew (by assumption)))
            (first
              | (go_at_call 14; refine (oa _ (by first | assumption | exact Bel.drew (by assumption))).mono ?_; rintro e w5 ⟨⟨la, na, ka, rfl, hla⟩, hga, hgb⟩)
              | (go_at_call 15; refine (ora _ (by first | assumption | exact Bel.drew (by assumption))).mono ?_; rintro e w6 ⟨⟨lb, nb', kb, rfl, hlb⟩, hgc, hgd⟩)
              | (go_at_call 13; refine (wsame_yes (by first | assumption | exact mm.Ws.bel hla (by assumption)) (by first | assumption | exact mm.Ws.bel hlb (by assumption))).mono ?_; rintro e w7 ⟨rfl, hge⟩; have hgf : Bel wr w7 := Bel.trans (by assumption) hge)
              | (go_at_call 10; refine (aw5 _ hgf).mono ?_; rintro e w8 ⟨rfl, hgz⟩))
          go_wp2
          go_ret
          exact ⟨rfl, hwz.out.trans hgz⟩
        · have kI : decide ((k : Int) < (n : Int)) = false := decide_eq_false (by omega)
          have kI2 : decide (k < n) = false := decide_eq_false ckn
          go_upto_region 11 with fail
          go_region_held3 (fun W => Bel wr W ∧ W.cell? ⟨Bq, 0, none⟩ = some (.slice pr S.length cr))
            (first | with_reducible exact kq _ (by assumption) | with_reducible exact kq _ (Bel.drew (by assumption)))
            (first
              | (go_at_call 14; refine (oa _ (by first | assumption | exact Bel.drew (by assumption))).mono ?_; rintro e w5 ⟨⟨la, na, ka, rfl, hla⟩, hga, hgb⟩)
              | (go_at_call 15; refine (ora _ (by first | assumption | exact Bel.drew (by assumption))).mono ?_; rintro e w6 ⟨⟨lb, nb', kb, rfl, hlb⟩, hgc, hgd⟩)
              | (go_at_call 13; refine (wsame_yes (by first | assumption | exact mm.Ws.bel hla (by assumption)) (by first | assumption | exact mm.Ws.bel hlb (by assumption))).mono ?_; rintro e w7 ⟨rfl, hge⟩; have hgf : Bel wr w7 := Bel.trans (by assumption) hge)
              | (go_at_call 10; refine (aw5 _ hgf).mono ?_; rintro e w8 ⟨rfl, hgz⟩))
          go_wp2
          go_ret
          exact ⟨rfl, hwz.out.trans hgz⟩
  · have mk := made_no _ c tn wb hIb (by by_cases x : c.great11; exact Or.inl x; exact Or.inr fun y => ok ⟨x, y⟩)
    clear hI hIb ok hA htb
    subst hwb
    go_enter Tryz.func3, Tryz.ntmps3
    go_wp2_with (first
      | (go_at_call 9; refine mk.mono ?_; rintro e w4 ⟨rfl, hg4⟩; have aw4 := aw _ ((hb.trans hg4).alloc (.cells #[.slice none 0 0, .int .i64 0, .slice none 0 0, .slice none 0 0, .slice none 0 0, .int .i64 0, .slice none 0 0] 36)))
      | (go_at_call 10; refine aw4.mono ?_; rintro e w5 ⟨rfl, hg5⟩))
    go_ret
    exact ⟨rfl, hg5⟩

/-! The row. -/
set_option maxRecDepth 100000 in
theorem lifted (os : Os) (started : os.Started) (H : Type) (enc : TypeId × Value → H) :
    ReturnsInHanded {} Tryz.checked os 3 .any (fun w args => (Rows.bodyPlaysSpec.pre enc Tryz.prog Tryz.f3 [] false w args ∧ laidMetH Tryz.prog theLaid w) ∧ sizedMet enc Tryz.prog Tryz.f3 (OpenSpec.ofChange Rows.bodyPlaysSpec) false w args)
      (Rows.bodyPlaysSpec.post enc Tryz.prog Tryz.f3 false true false false) := by
  refine lift_laid (C := Tryz.checked) (X := Met) own started (by kernel_rfl) Tryz.func3 (fun _ _ h => Met.heap h) laid rowed full (by rw [Tryz.params3]; decide) rfl (by kernel_rfl) Tryz.underlying4
    (fun ds h => by rw [Tryz.params3] at h; match ds, h with | [_, _, _], _ => rfl)
    (ChangeSpec.witness_shaped (enc := enc) (C := Tryz.checked) (os := os) (X := fun w _ => Met w) false (World.doorLaid Tryz.prog 400 os) #[.agg #[.slice none 0 0, .int .i64 0, .slice none 0 0, .int .i64 0, .int .i64 0, .int .i64 0], .int .u8 0, .slice none 0 0] 8 rfl (World.shaped_of_RefB (by kernel_rfl) (by kernel_rfl)) (by kernel_rfl) (by kernel_rfl) (by kernel_rfl) (door_met os _)) ?_
  intro W base args ds p hval hAll hM
  have hT := hM.tab
  change ∀ (j : Nat) t v, Tryz.f3.params[j]? = some t → args[j]? = some v → Value.okWide Tryz.prog W .any base t v at hval
  change DataW.TrodAll enc Tryz.prog W 0 (fun _ => true) true Tryz.f3.params.toList args.toList ds p at hAll
  rw [Tryz.params3] at hAll hval
  obtain ⟨v0, vs0, d0, ds0, p0, q0, hargs, rfl, rfl, h0, r0⟩ := trodAll_cons hAll
  obtain ⟨v1, vs1, d1, ds1, p1, q1, hargs1, rfl, rfl, h1, r1⟩ := trodAll_cons r0
  obtain ⟨v2, vs2, d2, ds2, p2, q2, hargs2, rfl, rfl, h2, r2⟩ := trodAll_cons r1
  obtain ⟨rfl, rfl, rfl⟩ := trodAll_nil r2
  subst hargs2
  subst hargs1
  obtain rfl : args = #[v0, v1, v2] := by cases args; simp_all
  obtain ⟨c, hI, _⟩ := get_cf (hval 0 25 v0 rfl rfl) h0
  obtain ⟨tn, rfl, htn⟩ := get_u8 Tryz.underlying5 (hval 1 5 v1 rfl rfl) h1
  obtain ⟨nA, A, hA2⟩ := get_acts (hval 2 26 v2 rfl rfl) h2
  exact walk v0 c tn v2 nA A W hI htn hA2 hT

theorem over : Rows.bodyPlaysRow.holds Tryz.pinned (OpenSpec.ofChange Rows.bodyPlaysSpec) :=
  OpenClaim.holds_of_wide 3 Tryz.f3 rfl rfl rfl rfl rfl rfl rfl ⟨rfl, rfl, rfl, rfl, rfl⟩ rfl rfl rfl rfl rfl (by kernel_rfl) Tryz.func3 (by kernel_rfl)
    (of_decide_eq_true (by kernel_rfl)) (by unfold Func.isWrapper; first | (rw [if_pos (by decide +kernel)]; kernel_rfl) | (rw [if_neg (by decide +kernel)]; exact ⟨rfl, rfl⟩))
    (fun os started H enc _ => lifted os started H enc)

/-- The statement. -/
theorem proved : Rows.BodyPlaysCardSaid :=
  Claim7.holds_tied_plain_at .later [] [.data] true (true, "4c33b7968f82caf130c1decf41a5dcf18a2cc1dc4bb0104c99295747923900d8") true
    over (fun _ h => by cases h) (by kernel_rfl) (fun _ h => by cases h) bodyPlays_row_tie rfl ⟨rfl, rfl⟩ (by kernel_rfl) rfl
    (fun f fn hf hfn => by
      obtain rfl : f = 3 := Option.some.inj ((show Tryz.prog.funcNamed "commonage/commonagelaw11.BodyPlays" = some 3 by kernel_rfl).symm.trans hf) |>.symm
      obtain rfl : fn = Tryz.f3 := (Option.some.inj (Tryz.func3.symm.trans hfn)).symm
      exact ⟨by kernel_rfl, fun j t ht => by
        rw [Tryz.params3] at ht
        have hm : t ∈ [25, 5, 26] := by simpa using Array.mem_of_getElem? ht
        have hall : ([25, 5, 26].all fun u => !Tryz.prog.wantsStandIn u) = true := by kernel_rfl
        exact (show Tryz.prog.wantsStandIn t = false by simpa using List.all_eq_true.1 hall t hm)⟩)
    (by kernel_rfl)
#print axioms proved
end Go.Proofs.YthokalcibjjihaaGreatDoor.bodyPlays
