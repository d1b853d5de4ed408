/- What is done to a copy, and to a row that was told, is not seen; rows of another length are refused; an arena that is none answers so; for every input; the table of trailing zeros holds what the program lays in it (the card ties that), no other condition. -/
import Derived.Test.YtjgjomojcocegaaDoorQp
import Derived.Test.YtjgjomojcocegaaDoorOpn
import Derived.Deep.CutBlock
namespace Go.Proofs.YtjgjomojcocegaaDoor.arenaApart
open Go.ChangeShapes Go.WideShapes Go.ChangeAt Go.RowKit Go.Joins Go.Deep
set_option linter.unusedVariables false

theorem step2 {w5 wr w6 w7 : World} {a : Value} {pl lo hi Bq : Nat} {P : Pl} {T T' : Nat → Bool} {x0 x1 x2 x3 x4 x5 y0 y1 y2 y3 y4 y5 : Value} (h : Lp w5 wr a pl lo hi Bq P T x0 x1 x2 x3 x4 x5)
    (hA : IsA w6 a pl lo hi P T') (hq : IsAr (fun k => Own lo hi k ∨ k = Bq) w6 (.agg #[y0, y1, y2, y3, y4, y5]) P T') (e : Exc (Own lo hi) wr w6)
    (hb : w7.heap[Bq]? = some (.cells #[y0, y1, y2, y3, y4, y5] 33 (0, 0))) (e2 : Exc (fun k => k = Bq) w6 w7) : Lp w5 w7 a pl lo hi Bq P T' y0 y1 y2 y3 y4 y5 := by
  have l1 := hA.low
  have l2 := hA.lt
  have l3 := h.top
  exact ⟨hA.exc e2 (fun x hx => ⟨by omega, fun y => by have := y.2; omega⟩), h.top, hb, hq.exc (e2.mono fun k hk => Or.inr hk), h.exc.trans ((e.mono fun k hk => Or.inl hk).trans (e2.mono fun k hk => Or.inr hk))⟩

set_option maxRecDepth 100000 in
set_option maxHeartbeats 8000000 in
theorem walk (v : Value) (c : Cf) (lv : Value) (n : Nat) (A : Nat → Ac) (lv2 : Value) (n2 : Nat) (A2 : Nat → Ac) (w : World) (h : IsCf w v c) (hA : Acts w lv n A) (hA2 : Acts w lv2 n2 A2) (ht : Tb w) :
    Calls Tryd.prog 5 #[v, lv, lv2] w fun e w' => e = .returned (.bool true) ∧ Below w.heap.size w w' := by
  have hI := h
  obtain ⟨vc, vt, rfl, hN, hT⟩ := h
  obtain ⟨p1, c1, rfl, _⟩ := nums_slice hN
  obtain ⟨p2, c2, rfl, _⟩ := tens_slice hT
  obtain ⟨pl0, cl0, rfl, nb⟩ := hA.slice
  obtain ⟨pl2, cl2, rfl, nb2⟩ := hA2.slice
  clear hN hT
  have hb := (Bel.refl w).alloc (.cells #[.slice p1 c.n c1, .int .i64 c.page, .slice p2 c.m c2, .int .i64 c.wk, .int .i64 c.gr, .int .i64 c.gn] 25)
  generalize hwb : w.alloc (.cells #[.slice p1 c.n c1, .int .i64 c.page, .slice p2 c.m c2, .int .i64 c.wk, .int .i64 c.gr, .int .i64 c.gn] 25) = wb at *
  have hIb := hI.bel hb
  have htb := ht.bel hb
  have aw := fun w1 (g : Bel w w1) => (awake10_any w1 (ht.bel g)).mono fun e w' ⟨x, y⟩ => (⟨x, g.trans y⟩ : _ ∧ Bel w w')
  by_cases ok : ¬ c.great10 ∧ c.ok
  · have mk := made_yes _ c 0 wb hIb ok.1 ok.2 (by omega) htb
    rw [show ((0 : Nat) : Int) = 0 from rfl] at mk
    generalize c.pl (0 % c.m) = P at *
    have hid := Lib.hid (And.intro hb (And.intro hA ht))
    clear hI hIb ok hA htb ht
    subst hwb
    go_enter Tryd.func5, Tryd.ntmps5
    go_upto_block 0 with (go_at_call 8; refine mk.mono ?_; rintro e w4 ⟨⟨pa, q, lo, hi, rfl, hA4, hq4, hh4, hlo⟩, hg4⟩
                          obtain ⟨bl4, ol4, cl4, pf4, cf4, pm4, cm4, p4, cap4, b4, off4, cb4, rfl, _, _⟩ := hq4.shape
                          have L0 := Lp.start hA4 hq4 hh4
                          have sz4 := hg4.size
                          have hg5 := (hid.out.1.trans hg4).alloc (.cells #[.slice (some ⟨bl4, ol4, none⟩) P.S cl4, .slice pf4 P.T cf4, .slice pm4 P.T cm4, .int .i64 (P.W : Nat), .slice p4 P.n cap4, .slice (some ⟨b4, off4, none⟩) P.S cb4] 33)
                          clear hA4 hq4 hh4 mk)
    obtain ⟨w5, hw5⟩ : ∃ w5, w4.alloc (.cells #[.slice (some ⟨bl4, ol4, none⟩) P.S cl4, .slice pf4 P.T cf4, .slice pm4 P.T cm4, .int .i64 (P.W : Nat), .slice p4 P.n cap4, .slice (some ⟨b4, off4, none⟩) P.S cb4] 33) = w5 := ⟨_, rfl⟩
    rw [hw5] at L0 hg5
    (try rw [hw5])
    clear hw5
    have hidA := Lib.hid (And.intro hid.out.2.1 (And.intro hg5 (And.intro (Nat.le_trans hid.out.1.size hlo) hid.out.2.2)))
    clear hg5 sz4 hlo hg4 hb
    generalize w4.heap.size = Bq at *
    go_cut [9] from 32 to 51 (fun _ wx => ∃ (T : Nat → Bool) (x0 x1 x2 x3 x4 x5 : Value), RowKit.Hid (Lp w5 wx (.pointer (some pa)) lo lo hi Bq P T x0 x1 x2 x3 x4 x5))
    case first =>
      go_wp2_with fail
      go_loopw [9] (fun i wr => ∃ (k : Nat) (T : Nat → Bool) (x0 x1 x2 x3 x4 x5 : Value), k ≤ n ∧ i = .int .i64 (k : Nat) ∧ RowKit.Hid (Lp w5 wr (.pointer (some pa)) lo lo hi Bq P T x0 x1 x2 x3 x4 x5)) (fun i _ => n - (intOf i).toNat)
      case atStart => exact ⟨0, _, _, _, _, _, _, _, Nat.zero_le _, rfl, Lib.hid L0⟩
      case round =>
        clear L0
        obtain ⟨k, T, x0, x1, x2, x3, x4, x5, hk, rfl, hL⟩ := hrel
        obtain ⟨bl, ol, cl, pf, cf, pm, cm, p, cap, bb, off, cb, rfl, rfl, rfl, rfl, rfl, rfl⟩ := hL.out.ar.six
        by_cases ckk : k < n ∧ k < 40
        · have hw : Bel w wr := Below.trans hidA.out.2.1 (hL.out.exc.below (fun q hq => by
            have := hidA.out.2.2.1
            have := hL.out.top
            have := hL.out.mem.lt
            rcases hq with hq | hq
            · have := hq.1; omega
            · omega) hidA.out.2.1.size)
          have tb := hL.out.tb (hidA.out.2.2.2.bel hidA.out.2.1)
          obtain ⟨ab, aoff, rfl, hbl, hac, hok⟩ := hidA.out.1.at ckk.1
          obtain ⟨a0, a1⟩ := hac.bel hw
          have kI : (k : Int) < (n : Int) := by omega
          have kz : (0 : Int) ≤ (k : Int) := by omega
          have kf : (k : Int) < 40 := by omega
          obtain ⟨⟨b0, b1, b2, b3, b4, b5⟩, _⟩ := box6 hL.out.box
          have hll := hL.out.mem.lt
          have hNB : ¬ Own lo hi Bq := fun x => by have := x.2; have := hL.out.top; omega
          have gd := Bel.drew (Bel.refl wr)
          have gwd : Exc (Own lo hi) wr wr.drew := gd.exc
          have dzA := does_any (X := fun q => Own lo hi q ∨ q = Bq) (.pointer (some pa)) (.agg #[.slice (some ⟨bl, ol, none⟩) P.S cl, .slice pf P.T cf, .slice pm P.T cm, .int .i64 (P.W : Nat), .slice p P.n cap, .slice (some ⟨bb, off, none⟩) P.S cb]) lo lo hi P T (A k).wh (A k).n wr.drew (hL.out.mem.bel gd) (Nat.le_trans hL.out.hh gd.size) (tb.bel gd) (hL.out.ar.bel gd) (fun q hq => Nat.lt_of_lt_of_le (hL.out.till q hq) gd.size) (fun q hq => Or.inl hq) hok.1 hok.2
          have hidk := Lib.hid (And.intro hNB hll)
          clear hok hNB hw hac gd tb
          go_upto_region 7 with fail
          go_region_law (first
            | (go_simp
               go_at_call 10; (with_reducible refine dzA.mono ?_); rintro e w6 ⟨q6, rfl, ⟨T6, hq6, hA6⟩, hE6⟩
               obtain ⟨bl6, ol6, cl6, pf6, cf6, pm6, cm6, p6, cap6, b6, off6, cb6, rfl, _, _⟩ := hq6.shape
               have G6 : Exc (Own lo hi) wr w6 := Exc.trans gwd hE6
               have hz6 := blk_exc G6 hL.out.box hidk.out.1
               have dd := box6 hz6
               obtain ⟨⟨z0, z1, z2, z3, z4, z5⟩, f0, f1, f2, f3, f4, f5⟩ := dd
               obtain ⟨W7, hW7, hbx7, hE7⟩ := six_store hz6 (.slice (some ⟨bl6, ol6, none⟩) P.S cl6) (.slice pf6 P.T cf6) (.slice pm6 P.T cm6) (.int .i64 (P.W : Nat)) (.slice p6 P.n cap6) (.slice (some ⟨b6, off6, none⟩) P.S cb6)
               have hid7 := Lib.hid (And.intro hq6 (And.intro hA6 (And.intro hbx7 (And.intro hE7 G6))))
               clear hq6 hA6 hE6 hbx7 hE7 hz6 G6))
          all_goals go_wp2_with fail
          all_goals
            obtain ⟨hq6, hA6, hbx7, hE7, G6⟩ := hid7.out
            exact ⟨⟨k + 1, T6, _, _, _, _, _, _, by omega, by go_num, Lib.hid (step2 hL.out hA6 hq6 G6 hbx7 hE7)⟩, by simp only [intOf]; omega⟩
        · by_cases ckn : k < n
          · have kI : (k : Int) < (n : Int) := by omega
            have kf : decide ((k : Int) < 40) = false := decide_eq_false (by omega)
            have kf2 : decide (k < 40) = false := decide_eq_false (by omega)
            go_wp2_with fail
            go_meet
            exact ⟨_, _, _, _, _, _, _, hL⟩
          · have kI : decide ((k : Int) < (n : Int)) = false := decide_eq_false (by omega)
            have kI2 : decide (k < n) = false := decide_eq_false ckn
            go_wp2_with fail
            go_meet
            exact ⟨_, _, _, _, _, _, _, hL⟩
    case rest =>
      clear L0
      obtain ⟨T, x0, x1, x2, x3, x4, x5, hL⟩ := hcut
      obtain ⟨bl, ol, cl, pf, cf, pm, cm, p, cap, bb, off, cb, rfl, rfl, rfl, rfl, rfl, rfl⟩ := hL.out.ar.six
      have hw : Bel w wc := Below.trans hidA.out.2.1 (hL.out.exc.below (fun q hq => by
        have := hidA.out.2.2.1
        have := hL.out.top
        have := hL.out.mem.lt
        rcases hq with hq | hq
        · have := hq.1; omega
        · omega) hidA.out.2.1.size)
      have tb := hL.out.tb (hidA.out.2.2.2.bel hidA.out.2.1)
      have hh := hL.out.hh
      rename World => wr
      have ok := hL.out.mem.ok
      have hST := ok.T1
      have cp := qa_copy (.pointer (some pa)) lo lo hi P T wr hL.out.mem hh tb
      have hA2 := Lib.hid hA2
      have hidr := Lib.hid (And.intro hw (And.intro tb (And.intro hh ok)))
      clear hw tb hh ok
      obtain ⟨⟨u0, u1, u2, u3, u4, u5⟩, _⟩ := box6 hL.out.box
      go_upto_region 9 with (go_at_call 18; (with_reducible refine cp.mono ?_); rintro e w6 ⟨⟨p2, rfl, hC6⟩, hg6⟩)
      clear u0 u1 u2 u3 u4 u5 cp
      obtain ⟨⟨u0, u1, u2, u3, u4, u5⟩, _⟩ := box6 (heap_bel hg6 hL.out.box)
      have s6 := hg6.size
      have l2 := hC6.lt
      have hq6 : IsAr (fun k => (Own lo hi k ∨ k = Bq) ∨ wr.heap.size ≤ k) w6 (.agg #[.slice (some ⟨bl, ol, none⟩) P.S cl, .slice pf P.T cf, .slice pm P.T cm, .int .i64 (P.W : Nat), .slice p P.n cap, .slice (some ⟨bb, off, none⟩) P.S cb]) P T := (hL.out.ar.old hST.1 hST.2).bel hg6
      have L2 := Lp.start hC6 (hq6.less fun k hk => Or.inr hk.1) (Nat.le_refl _)
      have al6 := (Bel.refl w6).alloc (.cells #[.slice (some ⟨bl, ol, none⟩) P.S cl, .slice pf P.T cf, .slice pm P.T cm, .int .i64 (P.W : Nat), .slice p P.n cap, .slice (some ⟨bb, off, none⟩) P.S cb] 33)
      have hq7 := hq6.bel al6
      have g7 := hg6.trans al6
      have z7 := size_alloc1 w6 (.cells #[.slice (some ⟨bl, ol, none⟩) P.S cl, .slice pf P.T cf, .slice pm P.T cm, .int .i64 (P.W : Nat), .slice p P.n cap, .slice (some ⟨bb, off, none⟩) P.S cb] 33)
      go_upto_block 2 with fail
      obtain ⟨w7, hw7⟩ : ∃ w7, w6.alloc (.cells #[.slice (some ⟨bl, ol, none⟩) P.S cl, .slice pf P.T cf, .slice pm P.T cm, .int .i64 (P.W : Nat), .slice p P.n cap, .slice (some ⟨bb, off, none⟩) P.S cb] 33) = w7 := ⟨_, rfl⟩
      rw [hw7] at L2 hq7 g7 z7
      (try rw [hw7])
      clear hw7 u0 u1 u2 u3 u4 u5 al6 hq6
      have hA7 := hL.out.mem.bel g7
      have hb7 := heap_bel g7 hL.out.box
      have t7 := hidr.out.2.1.bel g7
      have gw7 := hidr.out.1.trans g7
      have hid7 := Lib.hid (And.intro hA7 (And.intro hq7 (And.intro hb7 (And.intro t7 (And.intro gw7 z7)))))
      have hll := hL.out.mem.lt
      have hlw := hL.out.mem.low
      have hBq := heap_lt hL.out.box
      have hloq := hidA.out.2.2.1
      have hhr := hidr.out.2.2.1
      clear hA7 hq7 hb7 t7 gw7 g7 hC6
      generalize w6.heap.size = h2 at *
      generalize wr.heap.size = l2' at *
      go_cut [12, 13, 14] from 55 to 77 (fun _ _ _ wx => ∃ (T' : Nat → Bool) (x0 x1 x2 x3 x4 x5 : Value), RowKit.Hid (Lp w7 wx (.pointer (some p2)) lo l2' h2 h2 P T' x0 x1 x2 x3 x4 x5))
      case first =>
        go_wp2_with fail
        go_loopw [12] (fun i wy => ∃ (k : Nat) (T' : Nat → Bool) (x0 x1 x2 x3 x4 x5 : Value), k ≤ n2 ∧ i = .int .i64 (k : Nat) ∧ RowKit.Hid (Lp w7 wy (.pointer (some p2)) lo l2' h2 h2 P T' x0 x1 x2 x3 x4 x5)) (fun i _ => n2 - (intOf i).toNat)
        case atStart => exact ⟨0, _, _, _, _, _, _, _, Nat.zero_le _, rfl, Lib.hid L2⟩
        case round =>
          clear L2
          obtain ⟨k, T', x0, x1, x2, x3, x4, x5, hk, rfl, hM⟩ := hrel
          rename World => wy
          obtain ⟨bl', ol', cl', pf', cf', pm', cm', p', cap', bb', off', cb', rfl, rfl, rfl, rfl, rfl, rfl⟩ := hM.out.ar.six
          have gy : Bel w wy := Below.trans hid7.out.2.2.2.2.1 (hM.out.exc.below (fun q hq => by
            have := hidr.out.1.size
            rcases hq with hq | hq
            · have := hq.1; omega
            · omega) hid7.out.2.2.2.2.1.size)
          have ty := hM.out.tb hid7.out.2.2.2.1
          by_cases ckk : k < n2 ∧ k < 40
          · obtain ⟨ab, aoff, rfl, hbl, hac, hok⟩ := hA2.out.at ckk.1
            obtain ⟨a0, a1⟩ := hac.bel gy
            have kI : (k : Int) < (n2 : Int) := by omega
            have kz : (0 : Int) ≤ (k : Int) := by omega
            have kf : (k : Int) < 40 := by omega
            obtain ⟨⟨b0, b1, b2, b3, b4, b5⟩, _⟩ := box6 hM.out.box
            have hwz := hidr.out.1.size
            have hNB : ¬ Own l2' h2 h2 := fun x => by have := x.2; omega
            have hNb : ¬ Own l2' h2 ab := fun x => by have := x.1; omega
            have hNw : ¬ Own l2' h2 wy.heap.size := fun x => by have := x.2; have := hM.out.hh; omega
            have kp : ∀ W, Exc (Own l2' h2) wy W → Exc (Own l2' h2) wy W ∧ W.cell? ⟨h2, 0, none⟩ = some (.slice (some ⟨bl', ol', none⟩) P.S cl') ∧ W.cell? ⟨h2, 1, none⟩ = some (.slice pf' P.T cf') ∧ W.cell? ⟨h2, 2, none⟩ = some (.slice pm' P.T cm') ∧ W.cell? ⟨h2, 3, none⟩ = some (.int .i64 (P.W : Nat)) ∧ W.cell? ⟨h2, 4, none⟩ = some (.slice p' P.n cap') ∧ W.cell? ⟨h2, 5, none⟩ = some (.slice (some ⟨bb', off', none⟩) P.S cb') ∧ W.cell? ⟨ab, aoff + k * 2, none⟩ = some (.int .u8 ((A2 k).wh : Nat)) ∧ W.cell? ⟨ab, aoff + k * 2 + 1, none⟩ = some (.int .i64 (A2 k).n) := fun W g =>
              ⟨g, cell_exc g b0 hNB, cell_exc g b1 hNB, cell_exc g b2 hNB, cell_exc g b3 hNB, cell_exc g b4 hNB, cell_exc g b5 hNB, cell_exc g a0 hNb, cell_exc g a1 hNb⟩
            have gd := Bel.drew (Bel.refl wy)
            have ga := (Bel.refl wy).alloc (.cells #[.slice none 0 0, .slice none 0 0, .slice none 0 0, .int .i64 0, .slice none 0 0, .slice none 0 0] 33)
            have gad := Bel.drew ga
            have gw : Exc (Own l2' h2) wy wy := (Bel.refl wy).exc
            have gwd : Exc (Own l2' h2) wy wy.drew := gd.exc
            have gwa : Exc (Own l2' h2) wy (wy.alloc (.cells #[.slice none 0 0, .slice none 0 0, .slice none 0 0, .int .i64 0, .slice none 0 0, .slice none 0 0] 33)) := ga.exc
            have gwad : Exc (Own l2' h2) wy (wy.alloc (.cells #[.slice none 0 0, .slice none 0 0, .slice none 0 0, .int .i64 0, .slice none 0 0, .slice none 0 0] 33)).drew := gad.exc
            have hbx0 : (wy.alloc (.cells #[.slice none 0 0, .slice none 0 0, .slice none 0 0, .int .i64 0, .slice none 0 0, .slice none 0 0] 33)).drew.heap[wy.heap.size]? = some (.cells #[.slice none 0 0, .slice none 0 0, .slice none 0 0, .int .i64 0, .slice none 0 0, .slice none 0 0] 33 (0, 0)) := heap_alloc_new wy _
            have dzA := does_any (X := fun q => Own l2' h2 q ∨ q = h2) (.pointer (some p2)) (.agg #[.slice (some ⟨bl', ol', none⟩) P.S cl', .slice pf' P.T cf', .slice pm' P.T cm', .int .i64 (P.W : Nat), .slice p' P.n cap', .slice (some ⟨bb', off', none⟩) P.S cb']) lo l2' h2 P T' (A2 k).wh (A2 k).n wy.drew (hM.out.mem.bel gd) (Nat.le_trans hM.out.hh gd.size) (ty.bel gd) (hM.out.ar.bel gd) (fun q hq => Nat.lt_of_lt_of_le (hM.out.till q hq) gd.size) (fun q hq => Or.inl hq) hok.1 hok.2
            have dzB := does_any (X := fun q => (Own l2' h2 q ∨ q = h2) ∨ q = wy.heap.size) (.pointer (some p2)) (.agg #[.slice (some ⟨bl', ol', none⟩) P.S cl', .slice pf' P.T cf', .slice pm' P.T cm', .int .i64 (P.W : Nat), .slice p' P.n cap', .slice (some ⟨bb', off', none⟩) P.S cb']) lo l2' h2 P T' (A2 k).wh (A2 k).n (wy.alloc (.cells #[.slice none 0 0, .slice none 0 0, .slice none 0 0, .int .i64 0, .slice none 0 0, .slice none 0 0] 33)).drew (hM.out.mem.bel gad) (Nat.le_trans hM.out.hh gad.size) (ty.bel gad) (((hM.out.ar.old hST.1 hST.2).less fun q hq => hq.imp id fun y => by omega).bel gad) (fun q hq => by
              have s1 := size_alloc1 wy (.cells #[.slice none 0 0, .slice none 0 0, .slice none 0 0, .int .i64 0, .slice none 0 0, .slice none 0 0] 33)
              show q < (wy.alloc _).heap.size
              rcases hq with hq | hq
              · have := hM.out.till q hq; omega
              · omega) (fun q hq => Or.inl (Or.inl hq)) hok.1 hok.2
            have hidk := Lib.hid (And.intro hok (And.intro hNB (And.intro hNb (And.intro gy (And.intro hNw (And.intro hbx0 ty))))))
            clear hok hNB hNb hNw gy hac gd ga gad hbx0 ty
            go_upto_region 13 with fail
            go_cut [13, 14] (fun s13 s14 wx => ∃ g13, s13 = .pointer (some ⟨g13, 0, none⟩) ∧ s14 = .bool true ∧ RowKit.Hid (∃ T1 y0 y1 y2 y3 y4 y5, Mid wy wx (.pointer (some p2)) lo l2' h2 h2 g13 P T1 y0 y1 y2 y3 y4 y5))
            case first =>
              go_region_held3 (fun W => Exc (Own l2' h2) wy W ∧ W.cell? ⟨h2, 0, none⟩ = some (.slice (some ⟨bl', ol', none⟩) P.S cl') ∧ W.cell? ⟨h2, 1, none⟩ = some (.slice pf' P.T cf') ∧ W.cell? ⟨h2, 2, none⟩ = some (.slice pm' P.T cm') ∧ W.cell? ⟨h2, 3, none⟩ = some (.int .i64 (P.W : Nat)) ∧ W.cell? ⟨h2, 4, none⟩ = some (.slice p' P.n cap') ∧ W.cell? ⟨h2, 5, none⟩ = some (.slice (some ⟨bb', off', none⟩) P.S cb') ∧ W.cell? ⟨ab, aoff + k * 2, none⟩ = some (.int .u8 ((A2 k).wh : Nat)) ∧ W.cell? ⟨ab, aoff + k * 2 + 1, none⟩ = some (.int .i64 (A2 k).n))
                (first | with_reducible exact kp _ (by assumption) | with_reducible exact kp _ (Exc.al (by assumption) _))
                (first
                  | (go_at_call 10; (with_reducible refine dzA.mono ?_); rintro e v6 ⟨q6, rfl, ⟨T6, hq6, hA6⟩, hE6⟩
                     obtain ⟨bl6, ol6, cl6, pf6, cf6, pm6, cm6, p6, cap6, b6, off6, cb6, rfl, _, _⟩ := hq6.shape
                     have G6 : Exc (Own l2' h2) wy v6 := Exc.trans gwd hE6
                     have hid8 := Lib.hid (And.intro hq6 hA6)
                     clear hq6 hA6 hE6)
                  | (go_at_call 10; (with_reducible refine dzB.mono ?_); rintro e v6 ⟨q6, rfl, ⟨T6, hq6, hA6⟩, hE6⟩
                     obtain ⟨bl6, ol6, cl6, pf6, cf6, pm6, cm6, p6, cap6, b6, off6, cb6, rfl, _, _⟩ := hq6.shape
                     have G6 : Exc (Own l2' h2) wy v6 := Exc.trans gwad hE6
                     have hz6 := blk_exc hE6 hidk.out.2.2.2.2.2.1 hidk.out.2.2.2.2.1
                     have dd := box6 hz6
                     obtain ⟨⟨z0, z1, z2, z3, z4, z5⟩, f0, f1, f2, f3, f4, f5⟩ := dd
                     obtain ⟨W7, hW7, hbx7, hE7⟩ := six_store hz6 (.slice (some ⟨bl6, ol6, none⟩) P.S cl6) (.slice pf6 P.T cf6) (.slice pm6 P.T cm6) (.int .i64 (P.W : Nat)) (.slice p6 P.n cap6) (.slice (some ⟨b6, off6, none⟩) P.S cb6)
                     have G7 : Exc (Own l2' h2) wy W7 := G6.tail hE7 (fun q hq => by omega)
                     have hid8 := Lib.hid (And.intro hq6 (And.intro hA6 (And.intro hbx7 hE7)))
                     clear hq6 hA6 hE6 hbx7 hE7 hz6))
              all_goals go_wp2_with fail
              all_goals go_meet
              · exact ⟨_, rfl, rfl, Lib.hid ⟨_, _, _, _, _, _, _, Mid.after hid8.out.2 hid8.out.1 G6⟩⟩
              · exact ⟨_, rfl, rfl, Lib.hid ⟨_, _, _, _, _, _, _, Mid.ahead hid8.out.2.1 hM.out.hh hid8.out.1 G7 hid8.out.2.2.1 hid8.out.2.2.2 (Nat.le_refl _)⟩⟩
            case rest =>
              obtain ⟨g13, rfl, rfl, hMid⟩ := hcut
              obtain ⟨T1, y0, y1, y2, y3, y4, y5, hMd⟩ := hMid.out
              obtain ⟨bl6, ol6, cl6, pf6, cf6, pm6, cm6, p6, cap6, b6, off6, cb6, rfl, rfl, rfl, rfl, rfl, rfl⟩ := hMd.ar.six
              have cc := box6 hMd.box
              obtain ⟨⟨u0, u1, u2, u3, u4, u5⟩, _⟩ := cc
              have hbq := blk_exc hMd.exc hM.out.box hidk.out.2.1
              have dd := box6 hbq
              obtain ⟨⟨z0, z1, z2, z3, z4, z5⟩, f0, f1, f2, f3, f4, f5⟩ := dd
              obtain ⟨W9, hW9, hbx9, hE9⟩ := six_store hbq (.slice (some ⟨bl6, ol6, none⟩) P.S cl6) (.slice pf6 P.T cf6) (.slice pm6 P.T cm6) (.int .i64 (P.W : Nat)) (.slice p6 P.n cap6) (.slice (some ⟨b6, off6, none⟩) P.S cb6)
              have hid9 := Lib.hid (And.intro hMd (And.intro hbx9 hE9))
              clear hMd hbq hMid dzA dzB gw gwd gwa gwad hbx9 hE9
              go_wp2_with fail
              go_roundw
              case rel => exact ⟨k + 1, T1, _, _, _, _, _, _, by omega, by go_num, Lib.hid (hM.out.step hid9.out.1 hid9.out.2.1 hid9.out.2.2)⟩
              case measure => simp only [intOf]; omega
          · by_cases ckn : k < n2
            · have kI : (k : Int) < (n2 : Int) := by omega
              have kf : decide ((k : Int) < 40) = false := decide_eq_false (by omega)
              have kf2 : decide (k < 40) = false := decide_eq_false (by omega)
              clear gy ty
              go_wp2_with fail
              go_meet
              exact ⟨_, _, _, _, _, _, _, hM⟩
            · have kI : decide ((k : Int) < (n2 : Int)) = false := decide_eq_false (by omega)
              have kI2 : decide (k < n2) = false := decide_eq_false ckn
              clear gy ty
              go_wp2_with fail
              go_meet
              exact ⟨_, _, _, _, _, _, _, hM⟩
      case rest =>
        clear L2
        obtain ⟨T', x0, x1, x2, x3, x4, x5, hM⟩ := hcut
        obtain ⟨bl', ol', cl', pf', cf', pm', cm', p', cap', bb', off', cb', rfl, rfl, rfl, rfl, rfl, rfl⟩ := hM.out.ar.six
        rename World => wx
        have hwx : Bel w wx := Below.trans hid7.out.2.2.2.2.1 (hM.out.exc.below (fun q hq => by
          have := hidr.out.1.size
          rcases hq with hq | hq
          · have := hq.1; omega
          · omega) hid7.out.2.2.2.2.1.size)
        have tbx := hM.out.tb hid7.out.2.2.2.1
        have hAx : IsA wx (.pointer (some pa)) lo lo hi P T := hid7.out.1.exc hM.out.exc (fun x hx => by
          rcases hx with hx | hx
          · exact ⟨by have := hx.1; omega, fun y => by have := hx.1; have := y.2; omega⟩
          · exact ⟨by omega, fun y => by have := y.2; omega⟩)
        have hqx : IsAr (fun k => Own l2' h2 k ∨ k = h2) wx (.agg #[.slice (some ⟨bl, ol, none⟩) P.S cl, .slice pf P.T cf, .slice pm P.T cm, .int .i64 (P.W : Nat), .slice p P.n cap, .slice (some ⟨bb, off, none⟩) P.S cb]) P T := (hid7.out.2.1.less fun k hk => Or.inr (by
          rcases hk with hk | hk
          · exact hk.1
          · omega)).exc hM.out.exc
        have hbx := blk_exc hM.out.exc hid7.out.2.2.1 (fun x => by
          rcases x with x | x
          · have := x.1; omega
          · omega)
        have hhx := hM.out.hh
        have hihx : hi ≤ wx.heap.size := by omega
        have kS := hidr.out.2.2.2.2.1
        have tk := qa_taken (.pointer (some pa)) lo lo hi P T wx hAx hihx tbx
        have o1 := fun W (g : Bel wx W) q m s mm (hq : bt.Hdr W q m s mm) (hm : m ≠ P.S) => all_other (.pointer (some pa)) lo lo hi P T W (hAx.bel g) q m s mm hq hm
        have s1 := fun W (g : Bel wx W) => same_any (.pointer (some pa)) _ lo lo hi P T W (hAx.bel g) (Nat.le_trans hihx g.size) (tbx.bel g) (hqx.bel g) hST.1
        have s2 := fun W (g : Bel wx W) => same_any (.pointer (some p2)) _ lo l2' h2 P T' W (hM.out.mem.bel g) (Nat.le_trans hhx g.size) (tbx.bel g) (hM.out.ar.bel g) hST.1
        have az := fun W (g : Bel wx W) => aw W (hwx.trans g)
        have bxs := fun W (g : Bel wx W) => And.intro (heap_bel g hbx) (heap_bel g hM.out.box)
        have o1 := Lib.hid o1
        have s1 := Lib.hid s1
        have s2 := Lib.hid s2
        have az := Lib.hid az
        have bxs := Lib.hid bxs
        clear hAx hqx hbx tbx hwx aw
        go_wp2_with (first
          | (go_at_call 13; (with_reducible refine tk.mono ?_); rintro e v1 ⟨⟨r, rfl, tb1, tg1, tca1, rfl, tR1, htb1, htg1⟩, k1⟩
             have c1 := bt.clear_any v1 tR1
             clear tk)
          | (go_at_call 19; (with_reducible refine c1.mono ?_); rintro e v2 ⟨rfl, tR2, kB2⟩
             have k2 : Bel wx v2 := bt.But.below k1 kB2 htg1 k1.size
             have ln2 := bt.len_any v2 tR2.hdr
             clear c1)
          | (go_at_call 21; (with_reducible refine ln2.mono ?_); rintro e v3 ⟨rfl, hv3⟩; rw [hv3]; clear hv3
             have nw2 := bt.new_ok (P.S + 1) (by omega) v2
             rw [show ((P.S + 1 : Nat) : Int) = (P.S : Int) + 1 by omega] at nw2)
          | (go_at_call 20; (with_reducible refine nw2.mono ?_); rintro e v4 ⟨sb4, sg4, sca4, rfl, sR4, hsg4, hsb4, k4⟩
             have K4 : Bel wx v4 := Bel.trans k2 k4
             have g1 := o1.out v4 K4 _ _ _ _ sR4.hdr (by omega)
             clear nw2 ln2)
          | (go_at_call 22; (with_reducible refine g1.mono ?_); rintro e v5 ⟨rfl, k5⟩
             have K5 : Bel wx v5 := Bel.trans K4 k5
             have g2 := o1.out v5 K5 _ 0 _ _ (bt.hdr_nil v5) (by omega)
             clear g1)
          | (go_at_call 22; (with_reducible refine g2.mono ?_); rintro e v6 ⟨rfl, k6⟩
             have K6 : Bel wx v6 := Bel.trans K5 k6
             obtain ⟨⟨u0, u1, u2, u3, u4, u5⟩, _⟩ := box6 (bxs.out v6 K6).1
             have q1 := s1.out v6 K6
             clear g2)
          | (go_at_call 11; (with_reducible refine q1.mono ?_); rintro e v7 ⟨rfl, k7⟩
             have K7 : Bel wx v7 := Bel.trans K6 k7
             obtain ⟨⟨u0, u1, u2, u3, u4, u5⟩, _⟩ := box6 (bxs.out v7 K7).2
             have q2 := s2.out v7 K7
             clear q1)
          | (go_at_call 11; (with_reducible refine q2.mono ?_); rintro e v8 ⟨rfl, k8⟩
             have K8 : Bel wx v8 := Bel.trans K7 k8
             have al8 := K8.alloc (.cells #[.pointer none, .pointer none, .int .i64 0] 60)
             have hz8 := heap_alloc_new v8 (.cells #[.pointer none, .pointer none, .int .i64 0] 60)
             clear q2)
          | (go_at_call 14; (with_reducible refine (qn_take _ 0).mono ?_); rintro e v9 ⟨rfl, k9⟩
             have K9 : Bel wx v9 := Bel.trans al8 k9
             have hz9 := heap_bel k9 hz8)
          | (go_at_call 23; (with_reducible refine (qa_new_nil _).mono ?_); rintro e va ⟨rfl, ka⟩
             have Ka : Bel wx va := Bel.trans K9 ka
             have hza : ZeroA va v8.heap.size := heap_bel ka hz9)
          | (go_at_call 24; (with_reducible refine (qz_give _ _ 0 hza).mono ?_); rintro e vb ⟨rfl, kb⟩
             have Kb : Bel wx vb := Bel.trans Ka kb
             have hzb : ZeroA vb v8.heap.size := heap_bel kb hza)
          | (go_at_call 22; (with_reducible refine (qn_all _ _).mono ?_); rintro e vc ⟨rfl, kc⟩
             have Kc : Bel wx vc := Bel.trans Kb kc
             have hzc : ZeroA vc v8.heap.size := heap_bel kc hzb)
          | (go_at_call 16; (with_reducible refine (qn_has _ 0).mono ?_); rintro e vd ⟨rfl, kd⟩
             have Kd : Bel wx vd := Bel.trans Kc kd
             have hzd : ZeroA vd v8.heap.size := heap_bel kd hzc)
          | (go_at_call 12; (with_reducible refine (qn_used _).mono ?_); rintro e ve ⟨rfl, ke⟩
             have Ke : Bel wx ve := Bel.trans Kd ke
             have hze : ZeroA ve v8.heap.size := heap_bel ke hzd)
          | (go_at_call 25; (with_reducible refine (qz_count _ _ hze).mono ?_); rintro e vf ⟨rfl, kf⟩
             have Kf : Bel wx vf := Bel.trans Ke kf
             have hzf : ZeroA vf v8.heap.size := heap_bel kf hze)
          | (go_at_call 13; (with_reducible refine (qn_taken _).mono ?_); rintro e vg ⟨rfl, kg⟩
             have Kg : Bel wx vg := Bel.trans Kf kg
             have hzg : ZeroA vg v8.heap.size := heap_bel kg hzf)
          | (go_at_call 18; (with_reducible refine (qz_copy _ _ hzg).mono ?_); rintro e vh ⟨rfl, kh⟩
             have Kh : Bel wx vh := Bel.trans Kg kh)
          | (go_at_call 9; (with_reducible refine (az.out _ Kh).mono ?_); rintro e vi ⟨rfl, ki⟩))
        go_ret
        exact ⟨rfl, ki⟩
  · have mk := made_no _ c 0 wb hIb (by by_cases x : c.great10; exact Or.inl x; exact Or.inr fun y => ok ⟨x, y⟩)
    rw [show ((0 : Nat) : Int) = 0 from rfl] at mk
    clear hI hIb ok hA htb
    subst hwb
    go_enter Tryd.func5, Tryd.ntmps5
    go_wp2_with (first
      | (go_at_call 8; refine mk.mono ?_; rintro e w4 ⟨rfl, hg4⟩; have aw4 := aw _ ((hb.trans hg4).alloc (.cells #[.slice none 0 0, .slice none 0 0, .slice none 0 0, .int .i64 0, .slice none 0 0, .slice none 0 0] 33)))
      | (go_at_call 9; refine aw4.mono ?_; rintro e w5 ⟨rfl, hg5⟩))
    go_ret
    exact ⟨rfl, hg5⟩

/-! The row. -/
set_option maxRecDepth 100000 in
theorem lifted (os : Os) (started : os.Started) (H : Type) (enc : TypeId × Value → H) :
    ReturnsInHanded {} Tryd.checked os 5 .any (fun w args => (Rows.arenaApartSpec.pre enc Tryd.prog Tryd.f5 [] false w args ∧ laidMetH Tryd.prog theLaid w) ∧ sizedMet enc Tryd.prog Tryd.f5 (OpenSpec.ofChange Rows.arenaApartSpec) false w args)
      (Rows.arenaApartSpec.post enc Tryd.prog Tryd.f5 false true false false) := by
  refine lift_laid (C := Tryd.checked) (X := Met) own started (by kernel_rfl) Tryd.func5 (fun _ _ h => Met.heap h) laid rowed full (by rw [Tryd.params5]; decide) rfl (by kernel_rfl) Tryd.underlying4
    (fun ds h => by rw [Tryd.params5] at h; match ds, h with | [_, _, _], _ => rfl)
    (ChangeSpec.witness_shaped (enc := enc) (C := Tryd.checked) (os := os) (X := fun w _ => Met w) false (World.doorLaid Tryd.prog 400 os) #[.agg #[.slice none 0 0, .int .i64 0, .slice none 0 0, .int .i64 0, .int .i64 0, .int .i64 0], .slice none 0 0, .slice none 0 0] 8 rfl (World.shaped_of_RefB (by kernel_rfl) (by kernel_rfl)) (by kernel_rfl) (by kernel_rfl) (by kernel_rfl) (door_met os _)) ?_
  intro W base args ds p hval hA hM
  have hT := hM.tab
  change ∀ (j : Nat) t v, Tryd.f5.params[j]? = some t → args[j]? = some v → Value.okWide Tryd.prog W .any base t v at hval
  change DataW.TrodAll enc Tryd.prog W 0 (fun _ => true) true Tryd.f5.params.toList args.toList ds p at hA
  rw [Tryd.params5] at hA hval
  obtain ⟨v0, vs0, d0, ds0, p0, q0, hargs, rfl, rfl, h0, r0⟩ := trodAll_cons hA
  obtain ⟨v1, vs1, d1, ds1, p1, q1, hargs1, rfl, rfl, h1, r1⟩ := trodAll_cons r0
  obtain ⟨v2, vs2, d2, ds2, p2, q2, hargs2, rfl, rfl, h2, r2⟩ := trodAll_cons r1
  obtain ⟨rfl, rfl, rfl⟩ := trodAll_nil r2
  subst hargs2
  subst hargs1
  obtain rfl : args = #[v0, v1, v2] := by cases args; simp_all
  obtain ⟨c, hI, _⟩ := get_cf (hval 0 25 v0 rfl rfl) h0
  obtain ⟨nA, A, hA1⟩ := get_acts (hval 1 26 v1 rfl rfl) h1
  obtain ⟨nB, B, hA2⟩ := get_acts (hval 2 26 v2 rfl rfl) h2
  exact walk v0 c v1 nA A v2 nB B W hI hA1 hA2 hT

theorem over : Rows.arenaApartRow.holds Tryd.pinned (OpenSpec.ofChange Rows.arenaApartSpec) :=
  OpenClaim.holds_of_wide 5 Tryd.f5 rfl rfl rfl rfl rfl rfl rfl ⟨rfl, rfl, rfl, rfl, rfl⟩ rfl rfl rfl rfl rfl (by kernel_rfl) Tryd.func5 (by kernel_rfl)
    (of_decide_eq_true (by kernel_rfl)) (by unfold Func.isWrapper; first | (rw [if_pos (by decide +kernel)]; kernel_rfl) | (rw [if_neg (by decide +kernel)]; exact ⟨rfl, rfl⟩))
    (fun os started H enc _ => lifted os started H enc)

/-- The statement. -/
theorem proved : Rows.ArenaApartCardSaid :=
  Claim7.holds_tied_plain_at .later [] [.data] true (true, "c638e9143258aeaec1d04d8d11f1ebc40f118957b767c87e444fc848b79354be") false
    over (fun _ h => by cases h) (by kernel_rfl) (fun _ h => by cases h) arenaApart_row_tie rfl ⟨rfl, rfl⟩ (by kernel_rfl) rfl
    (fun f fn hf hfn => by
      obtain rfl : f = 5 := Option.some.inj ((show Tryd.prog.funcNamed "commonage/commonagelaw10.ArenaApart" = some 5 by kernel_rfl).symm.trans hf) |>.symm
      obtain rfl : fn = Tryd.f5 := (Option.some.inj (Tryd.func5.symm.trans hfn)).symm
      exact ⟨by kernel_rfl, fun j t ht => by
        rw [Tryd.params5] at ht
        have hm : t ∈ [25, 26, 26] := by simpa using Array.mem_of_getElem? ht
        have hall : ([25, 26, 26].all fun u => !Tryd.prog.wantsStandIn u) = true := by kernel_rfl
        exact (show Tryd.prog.wantsStandIn t = false by simpa using List.all_eq_true.1 hall t hm)⟩)
    (by kernel_rfl)
#print axioms proved
end Go.Proofs.YtjgjomojcocegaaDoor.arenaApart
