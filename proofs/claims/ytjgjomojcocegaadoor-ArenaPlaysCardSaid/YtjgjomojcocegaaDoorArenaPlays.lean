/- An arena has the document's slots, and answers as the document says, whatever is done; for every input; the table of trailing zeros holds what the program lays in it (the card ties that), no other condition. -/
import Derived.Test.YtjgjomojcocegaaDoorQp
import Derived.Test.YtjgjomojcocegaaDoorOpn
namespace Go.Proofs.YtjgjomojcocegaaDoor.arenaPlays
open Go.ChangeShapes Go.WideShapes Go.ChangeAt Go.RowKit Go.Joins Go.Deep
set_option linter.unusedVariables false

set_option maxRecDepth 100000 in
set_option maxHeartbeats 4000000 in
theorem walk (v : Value) (c : Cf) (tn : Nat) (lv : Value) (n : Nat) (A : Nat → Ac) (w : World) (h : IsCf w v c) (h8 : tn ≤ 255) (hA : Acts w lv n A) (ht : Tb w) :
    Calls Tryd.prog 3 #[v, .int .u8 (tn : Nat), lv] w fun e w' => e = .returned (.bool true) ∧ Below w.heap.size w w' := by
  have hI := h
  obtain ⟨vc, vt, rfl, hN, hT⟩ := h
  obtain ⟨p1, c1, rfl, _⟩ := nums_slice hN
  obtain ⟨p2, c2, rfl, _⟩ := tens_slice hT
  obtain ⟨pl0, cl0, rfl, nb⟩ := hA.slice
  clear hN hT
  have hb := (Bel.refl w).alloc (.cells #[.slice p1 c.n c1, .int .i64 c.page, .slice p2 c.m c2, .int .i64 c.wk, .int .i64 c.gr, .int .i64 c.gn] 25)
  generalize hwb : w.alloc (.cells #[.slice p1 c.n c1, .int .i64 c.page, .slice p2 c.m c2, .int .i64 c.wk, .int .i64 c.gr, .int .i64 c.gn] 25) = wb at *
  have hIb := hI.bel hb
  have htb := ht.bel hb
  have aw := fun w1 (g : Bel w w1) => (awake10_any w1 (ht.bel g)).mono fun e w' ⟨x, y⟩ => (⟨x, g.trans y⟩ : _ ∧ Bel w w')
  by_cases ok : ¬ c.great10 ∧ c.ok
  · have mk := made_yes _ c tn wb hIb ok.1 ok.2 h8 htb
    generalize c.pl (tn % c.m) = P at *
    have hid := Lib.hid (And.intro hb (And.intro hA ht))
    clear hI hIb ok hA htb ht
    subst hwb
    go_enter Tryd.func3, Tryd.ntmps3
    go_wp2_with (go_at_call 8; refine mk.mono ?_; rintro e w4 ⟨⟨pa, q, lo, hi, rfl, hA4, hq4, hh4, hlo⟩, hg4⟩
                 obtain ⟨bl4, ol4, cl4, pf4, cf4, pm4, cm4, p4, cap4, b4, off4, cb4, rfl, _, _⟩ := hq4.shape
                 have L0 := Lp.start hA4 hq4 hh4
                 have sz4 := hg4.size
                 have hg5 := (hid.out.1.trans hg4).alloc (.cells #[.slice (some ⟨bl4, ol4, none⟩) P.S cl4, .slice pf4 P.T cf4, .slice pm4 P.T cm4, .int .i64 (P.W : Nat), .slice p4 P.n cap4, .slice (some ⟨b4, off4, none⟩) P.S cb4] 33)
                 clear hA4 hq4 hh4 mk)
    obtain ⟨w5, hw5⟩ : ∃ w5, w4.alloc (.cells #[.slice (some ⟨bl4, ol4, none⟩) P.S cl4, .slice pf4 P.T cf4, .slice pm4 P.T cm4, .int .i64 (P.W : Nat), .slice p4 P.n cap4, .slice (some ⟨b4, off4, none⟩) P.S cb4] 33) = w5 := ⟨_, rfl⟩
    rw [hw5] at L0 hg5
    (try rw [hw5])
    clear hw5
    have hidA := Lib.hid (And.intro hid.out.2.1 (And.intro hg5 (And.intro (Nat.le_trans hid.out.1.size hlo) hid.out.2.2)))
    clear hg5 sz4 hlo hg4 hb
    generalize w4.heap.size = Bq at *
    go_loopw [9] (fun i wr => ∃ (k : Nat) (T : Nat → Bool) (x0 x1 x2 x3 x4 x5 : Value), k ≤ n ∧ i = .int .i64 (k : Nat) ∧ RowKit.Hid (Lp w5 wr (.pointer (some pa)) lo lo hi Bq P T x0 x1 x2 x3 x4 x5)) (fun i _ => n - (intOf i).toNat)
    case atStart => exact ⟨0, _, _, _, _, _, _, _, Nat.zero_le _, rfl, Lib.hid L0⟩
    case round =>
      clear L0
      obtain ⟨k, T, x0, x1, x2, x3, x4, x5, hk, rfl, hL⟩ := hrel
      obtain ⟨bl, ol, cl, pf, cf, pm, cm, p, cap, bb, off, cb, rfl, rfl, rfl, rfl, rfl, rfl⟩ := hL.out.ar.six
      have hw : Bel w wr := Below.trans hidA.out.2.1 (hL.out.exc.below (fun q hq => by
        have := hidA.out.2.2.1
        have := hL.out.top
        have := hL.out.mem.lt
        rcases hq with hq | hq
        · have := hq.1; omega
        · omega) hidA.out.2.1.size)
      have tb := hL.out.tb (hidA.out.2.2.2.bel hidA.out.2.1)
      by_cases ckk : k < n ∧ k < 80
      · obtain ⟨ab, aoff, rfl, hbl, hac, hok⟩ := hidA.out.1.at ckk.1
        obtain ⟨a0, a1⟩ := hac.bel hw
        have kI : (k : Int) < (n : Int) := by omega
        have kz : (0 : Int) ≤ (k : Int) := by omega
        have kf : (k : Int) < 80 := by omega
        obtain ⟨⟨b0, b1, b2, b3, b4, b5⟩, _⟩ := box6 hL.out.box
        have hll := hL.out.mem.lt
        have hNB : ¬ Own lo hi Bq := fun x => by have := x.2; have := hL.out.top; omega
        have hNb : ¬ Own lo hi ab := fun x => by have := x.1; have := hidA.out.2.2.1; omega
        have hNw : ¬ Own lo hi wr.heap.size := fun x => by have := x.2; have := hL.out.hh; omega
        have kp : ∀ W, Exc (Own lo hi) wr W → Exc (Own lo hi) wr W ∧ W.cell? ⟨Bq, 0, none⟩ = some (.slice (some ⟨bl, ol, none⟩) P.S cl) ∧ W.cell? ⟨Bq, 1, none⟩ = some (.slice pf P.T cf) ∧ W.cell? ⟨Bq, 2, none⟩ = some (.slice pm P.T cm) ∧ W.cell? ⟨Bq, 3, none⟩ = some (.int .i64 (P.W : Nat)) ∧ W.cell? ⟨Bq, 4, none⟩ = some (.slice p P.n cap) ∧ W.cell? ⟨Bq, 5, none⟩ = some (.slice (some ⟨bb, off, none⟩) P.S cb) ∧ W.cell? ⟨ab, aoff + k * 2, none⟩ = some (.int .u8 ((A k).wh : Nat)) ∧ W.cell? ⟨ab, aoff + k * 2 + 1, none⟩ = some (.int .i64 (A k).n) := fun W g =>
          ⟨g, cell_exc g b0 hNB, cell_exc g b1 hNB, cell_exc g b2 hNB, cell_exc g b3 hNB, cell_exc g b4 hNB, cell_exc g b5 hNB, cell_exc g a0 hNb, cell_exc g a1 hNb⟩
        have gd := Bel.drew (Bel.refl wr)
        have ga := (Bel.refl wr).alloc (.cells #[.slice none 0 0, .slice none 0 0, .slice none 0 0, .int .i64 0, .slice none 0 0, .slice none 0 0] 33)
        have gad := Bel.drew ga
        have gw : Exc (Own lo hi) wr wr := (Bel.refl wr).exc
        have gwd : Exc (Own lo hi) wr wr.drew := gd.exc
        have gwa : Exc (Own lo hi) wr (wr.alloc (.cells #[.slice none 0 0, .slice none 0 0, .slice none 0 0, .int .i64 0, .slice none 0 0, .slice none 0 0] 33)) := ga.exc
        have gwad : Exc (Own lo hi) wr (wr.alloc (.cells #[.slice none 0 0, .slice none 0 0, .slice none 0 0, .int .i64 0, .slice none 0 0, .slice none 0 0] 33)).drew := gad.exc
        have hbx0 : (wr.alloc (.cells #[.slice none 0 0, .slice none 0 0, .slice none 0 0, .int .i64 0, .slice none 0 0, .slice none 0 0] 33)).drew.heap[wr.heap.size]? = some (.cells #[.slice none 0 0, .slice none 0 0, .slice none 0 0, .int .i64 0, .slice none 0 0, .slice none 0 0] 33 (0, 0)) := heap_alloc_new wr _
        have hST := hL.out.mem.ok.T1
        have dzA := does_any (X := fun q => Own lo hi q ∨ q = Bq) (.pointer (some pa)) (.agg #[.slice (some ⟨bl, ol, none⟩) P.S cl, .slice pf P.T cf, .slice pm P.T cm, .int .i64 (P.W : Nat), .slice p P.n cap, .slice (some ⟨bb, off, none⟩) P.S cb]) lo lo hi P T (A k).wh (A k).n wr.drew (hL.out.mem.bel gd) (Nat.le_trans hL.out.hh gd.size) (tb.bel gd) (hL.out.ar.bel gd) (fun q hq => Nat.lt_of_lt_of_le (hL.out.till q hq) gd.size) (fun q hq => Or.inl hq) hok.1 hok.2
        have dzB := does_any (X := fun q => (Own lo hi q ∨ q = Bq) ∨ q = wr.heap.size) (.pointer (some pa)) (.agg #[.slice (some ⟨bl, ol, none⟩) P.S cl, .slice pf P.T cf, .slice pm P.T cm, .int .i64 (P.W : Nat), .slice p P.n cap, .slice (some ⟨bb, off, none⟩) P.S cb]) lo lo hi P T (A k).wh (A k).n (wr.alloc (.cells #[.slice none 0 0, .slice none 0 0, .slice none 0 0, .int .i64 0, .slice none 0 0, .slice none 0 0] 33)).drew (hL.out.mem.bel gad) (Nat.le_trans hL.out.hh gad.size) (tb.bel gad) (((hL.out.ar.old hST.1 hST.2).less fun q hq => hq.imp id fun y => by omega).bel gad) (fun q hq => by
          have s1 := size_alloc1 wr (.cells #[.slice none 0 0, .slice none 0 0, .slice none 0 0, .int .i64 0, .slice none 0 0, .slice none 0 0] 33)
          show q < (wr.alloc _).heap.size
          rcases hq with hq | hq
          · have := hL.out.till q hq; omega
          · omega) (fun q hq => Or.inl (Or.inl hq)) hok.1 hok.2
        have sm := fun W (g : Exc (Own lo hi) wr W) => g
        have hidk := Lib.hid (And.intro hok (And.intro hNB (And.intro hNb (And.intro hw (And.intro hNw (And.intro hbx0 tb))))))
        clear hok hNB hNb hNw hw hac gd ga gad hbx0 tb sm
        go_upto_region 7 with fail
        go_cut [10, 11] (fun s10 s11 wx => ∃ g10, s10 = .pointer (some ⟨g10, 0, none⟩) ∧ s11 = .bool true ∧ RowKit.Hid (∃ T' y0 y1 y2 y3 y4 y5, Mid wr wx (.pointer (some pa)) lo lo hi Bq g10 P T' y0 y1 y2 y3 y4 y5))
        case first =>
          go_region_held3 (fun W => Exc (Own lo hi) wr W ∧ W.cell? ⟨Bq, 0, none⟩ = some (.slice (some ⟨bl, ol, none⟩) P.S cl) ∧ W.cell? ⟨Bq, 1, none⟩ = some (.slice pf P.T cf) ∧ W.cell? ⟨Bq, 2, none⟩ = some (.slice pm P.T cm) ∧ W.cell? ⟨Bq, 3, none⟩ = some (.int .i64 (P.W : Nat)) ∧ W.cell? ⟨Bq, 4, none⟩ = some (.slice p P.n cap) ∧ W.cell? ⟨Bq, 5, none⟩ = some (.slice (some ⟨bb, off, none⟩) P.S cb) ∧ W.cell? ⟨ab, aoff + k * 2, none⟩ = some (.int .u8 ((A k).wh : Nat)) ∧ W.cell? ⟨ab, aoff + k * 2 + 1, none⟩ = some (.int .i64 (A k).n))
            (first | with_reducible exact kp _ (by assumption) | with_reducible exact kp _ (Exc.al (by assumption) _))
            (first
              | (go_at_call 10; (with_reducible refine dzA.mono ?_); rintro e w6 ⟨q6, rfl, ⟨T6, hq6, hA6⟩, hE6⟩
                 obtain ⟨bl6, ol6, cl6, pf6, cf6, pm6, cm6, p6, cap6, b6, off6, cb6, rfl, _, _⟩ := hq6.shape
                 have G6 : Exc (Own lo hi) wr w6 := Exc.trans gwd hE6
                 have hid7 := Lib.hid (And.intro hq6 hA6)
                 clear hq6 hA6 hE6)
              | (go_at_call 10; (with_reducible refine dzB.mono ?_); rintro e w6 ⟨q6, rfl, ⟨T6, hq6, hA6⟩, hE6⟩
                 obtain ⟨bl6, ol6, cl6, pf6, cf6, pm6, cm6, p6, cap6, b6, off6, cb6, rfl, _, _⟩ := hq6.shape
                 have G6 : Exc (Own lo hi) wr w6 := Exc.trans gwad hE6
                 have hz6 := blk_exc hE6 hidk.out.2.2.2.2.2.1 hidk.out.2.2.2.2.1
                 have dd := box6 hz6
                 obtain ⟨⟨z0, z1, z2, z3, z4, z5⟩, f0, f1, f2, f3, f4, f5⟩ := dd
                 obtain ⟨W7, hW7, hbx7, hE7⟩ := six_store hz6 (.slice (some ⟨bl6, ol6, none⟩) P.S cl6) (.slice pf6 P.T cf6) (.slice pm6 P.T cm6) (.int .i64 (P.W : Nat)) (.slice p6 P.n cap6) (.slice (some ⟨b6, off6, none⟩) P.S cb6)
                 have G7 : Exc (Own lo hi) wr W7 := G6.tail hE7 (fun q hq => by omega)
                 have hid7 := Lib.hid (And.intro hq6 (And.intro hA6 (And.intro hbx7 hE7)))
                 clear hq6 hA6 hE6 hbx7 hE7 hz6))
          all_goals go_wp2_with fail
          all_goals go_meet
          · exact ⟨_, rfl, rfl, Lib.hid ⟨_, _, _, _, _, _, _, Mid.after hid7.out.2 hid7.out.1 G6⟩⟩
          · exact ⟨_, rfl, rfl, Lib.hid ⟨_, _, _, _, _, _, _, Mid.ahead hid7.out.2.1 hL.out.hh hid7.out.1 G7 hid7.out.2.2.1 hid7.out.2.2.2 (Nat.le_refl _)⟩⟩
        case rest =>
          obtain ⟨g10, rfl, rfl, hMid⟩ := hcut
          obtain ⟨T', y0, y1, y2, y3, y4, y5, hM⟩ := hMid.out
          obtain ⟨bl6, ol6, cl6, pf6, cf6, pm6, cm6, p6, cap6, b6, off6, cb6, rfl, rfl, rfl, rfl, rfl, rfl⟩ := hM.ar.six
          have cc := box6 hM.box
          obtain ⟨⟨u0, u1, u2, u3, u4, u5⟩, _⟩ := cc
          have tb' := hidk.out.2.2.2.2.2.2.exc hM.exc (fun x => by
            have := x.1
            have := hM.mem.low
            omega)
          have sm := same_any (.pointer (some pa)) _ lo lo hi P T' wc hM.mem (Nat.le_trans hL.out.hh hM.exc.size) tb' hM.ar hM.mem.ok.T1.1
          have hbq := blk_exc hM.exc hL.out.box hidk.out.2.1
          have hidM := Lib.hid (And.intro hM hbq)
          clear hM hbq tb' hMid dzA dzB gw gwd gwa gwad
          go_wp2_with (go_at_call 11; refine sm.mono ?_; rintro e w8 ⟨rfl, hg8⟩
                       have cc := box6 (heap_bel hg8 hidM.out.1.box)
                       obtain ⟨⟨u0, u1, u2, u3, u4, u5⟩, _⟩ := cc
                       have hz8 := heap_bel hg8 hidM.out.2
                       have dd := box6 hz8
                       obtain ⟨⟨z0, z1, z2, z3, z4, z5⟩, f0, f1, f2, f3, f4, f5⟩ := dd
                       obtain ⟨W9, hW9, hbx9, hE9⟩ := six_store hz8 (.slice (some ⟨bl6, ol6, none⟩) P.S cl6) (.slice pf6 P.T cf6) (.slice pm6 P.T cm6) (.int .i64 (P.W : Nat)) (.slice p6 P.n cap6) (.slice (some ⟨b6, off6, none⟩) P.S cb6)
                       have hid9 := Lib.hid (And.intro hbx9 (And.intro hE9 hg8))
                       clear hbx9 hE9 hg8 hz8)
          go_roundw
          case rel =>
            obtain ⟨hbx9, hE9, hg8⟩ := hid9.out
            have hM := hidM.out.1
            have hM8 : Mid wr w8 (.pointer (some pa)) lo lo hi Bq g10 P T' (.slice (some ⟨bl6, ol6, none⟩) P.S cl6) (.slice pf6 P.T cf6) (.slice pm6 P.T cm6) (.int .i64 (P.W : Nat)) (.slice p6 P.n cap6) (.slice (some ⟨b6, off6, none⟩) P.S cb6) := ⟨hM.mem.bel hg8, hM.exc.trans hg8.exc, heap_bel hg8 hM.box, hM.ar.bel hg8, hM.new⟩
            exact ⟨k + 1, T', _, _, _, _, _, _, by omega, by go_num, Lib.hid (hL.out.step hM8 hbx9 hE9)⟩
          case measure => simp only [intOf]; omega
      · have aw5 := aw wr hw
        by_cases ckn : k < n
        · have kI : (k : Int) < (n : Int) := by omega
          have kf : decide ((k : Int) < 80) = false := decide_eq_false (by omega)
          have kf2 : decide (k < 80) = false := decide_eq_false (by omega)
          clear hw tb
          go_wp2_with (go_at_call 9; refine aw5.mono ?_; rintro e w7 ⟨rfl, hg8⟩)
          go_ret
          exact ⟨rfl, hg8⟩
        · have kI : decide ((k : Int) < (n : Int)) = false := decide_eq_false (by omega)
          have kI2 : decide (k < n) = false := decide_eq_false ckn
          clear hw tb
          go_wp2_with (go_at_call 9; refine aw5.mono ?_; rintro e w7 ⟨rfl, hg8⟩)
          go_ret
          exact ⟨rfl, hg8⟩
  · have mk := made_no _ c tn wb hIb (by by_cases x : c.great10; exact Or.inl x; exact Or.inr fun y => ok ⟨x, y⟩)
    clear hI hIb ok hA htb
    subst hwb
    go_enter Tryd.func3, Tryd.ntmps3
    go_wp2_with (first
      | (go_at_call 8; refine mk.mono ?_; rintro e w4 ⟨rfl, hg4⟩; have aw4 := aw _ ((hb.trans hg4).alloc (.cells #[.slice none 0 0, .slice none 0 0, .slice none 0 0, .int .i64 0, .slice none 0 0, .slice none 0 0] 33)))
      | (go_at_call 9; refine aw4.mono ?_; rintro e w5 ⟨rfl, hg5⟩))
    go_ret
    exact ⟨rfl, hg5⟩

/-! The row. -/
set_option maxRecDepth 100000 in
theorem lifted (os : Os) (started : os.Started) (H : Type) (enc : TypeId × Value → H) :
    ReturnsInHanded {} Tryd.checked os 3 .any (fun w args => (Rows.arenaPlaysSpec.pre enc Tryd.prog Tryd.f3 [] false w args ∧ laidMetH Tryd.prog theLaid w) ∧ sizedMet enc Tryd.prog Tryd.f3 (OpenSpec.ofChange Rows.arenaPlaysSpec) false w args)
      (Rows.arenaPlaysSpec.post enc Tryd.prog Tryd.f3 false true false false) := by
  refine lift_laid (C := Tryd.checked) (X := Met) own started (by kernel_rfl) Tryd.func3 (fun _ _ h => Met.heap h) laid rowed full (by rw [Tryd.params3]; decide) rfl (by kernel_rfl) Tryd.underlying4
    (fun ds h => by rw [Tryd.params3] at h; match ds, h with | [_, _, _], _ => rfl)
    (ChangeSpec.witness_shaped (enc := enc) (C := Tryd.checked) (os := os) (X := fun w _ => Met w) false (World.doorLaid Tryd.prog 400 os) #[.agg #[.slice none 0 0, .int .i64 0, .slice none 0 0, .int .i64 0, .int .i64 0, .int .i64 0], .int .u8 0, .slice none 0 0] 8 rfl (World.shaped_of_RefB (by kernel_rfl) (by kernel_rfl)) (by kernel_rfl) (by kernel_rfl) (by kernel_rfl) (door_met os _)) ?_
  intro W base args ds p hval hA hM
  have hT := hM.tab
  change ∀ (j : Nat) t v, Tryd.f3.params[j]? = some t → args[j]? = some v → Value.okWide Tryd.prog W .any base t v at hval
  change DataW.TrodAll enc Tryd.prog W 0 (fun _ => true) true Tryd.f3.params.toList args.toList ds p at hA
  rw [Tryd.params3] at hA hval
  obtain ⟨v0, vs0, d0, ds0, p0, q0, hargs, rfl, rfl, h0, r0⟩ := trodAll_cons hA
  obtain ⟨v1, vs1, d1, ds1, p1, q1, hargs1, rfl, rfl, h1, r1⟩ := trodAll_cons r0
  obtain ⟨v2, vs2, d2, ds2, p2, q2, hargs2, rfl, rfl, h2, r2⟩ := trodAll_cons r1
  obtain ⟨rfl, rfl, rfl⟩ := trodAll_nil r2
  subst hargs2
  subst hargs1
  obtain rfl : args = #[v0, v1, v2] := by cases args; simp_all
  obtain ⟨c, hI, _⟩ := get_cf (hval 0 25 v0 rfl rfl) h0
  obtain ⟨tn, rfl, htn⟩ := get_u8 Tryd.underlying5 (hval 1 5 v1 rfl rfl) h1
  obtain ⟨nA, A, hA2⟩ := get_acts (hval 2 26 v2 rfl rfl) h2
  exact walk v0 c tn v2 nA A W hI htn hA2 hT

theorem over : Rows.arenaPlaysRow.holds Tryd.pinned (OpenSpec.ofChange Rows.arenaPlaysSpec) :=
  OpenClaim.holds_of_wide 3 Tryd.f3 rfl rfl rfl rfl rfl rfl rfl ⟨rfl, rfl, rfl, rfl, rfl⟩ rfl rfl rfl rfl rfl (by kernel_rfl) Tryd.func3 (by kernel_rfl)
    (of_decide_eq_true (by kernel_rfl)) (by unfold Func.isWrapper; first | (rw [if_pos (by decide +kernel)]; kernel_rfl) | (rw [if_neg (by decide +kernel)]; exact ⟨rfl, rfl⟩))
    (fun os started H enc _ => lifted os started H enc)

/-- The statement. -/
theorem proved : Rows.ArenaPlaysCardSaid :=
  Claim7.holds_tied_plain_at .later [] [.data] true (true, "c638e9143258aeaec1d04d8d11f1ebc40f118957b767c87e444fc848b79354be") false
    over (fun _ h => by cases h) (by kernel_rfl) (fun _ h => by cases h) arenaPlays_row_tie rfl ⟨rfl, rfl⟩ (by kernel_rfl) rfl
    (fun f fn hf hfn => by
      obtain rfl : f = 3 := Option.some.inj ((show Tryd.prog.funcNamed "commonage/commonagelaw10.ArenaPlays" = some 3 by kernel_rfl).symm.trans hf) |>.symm
      obtain rfl : fn = Tryd.f3 := (Option.some.inj (Tryd.func3.symm.trans hfn)).symm
      exact ⟨by kernel_rfl, fun j t ht => by
        rw [Tryd.params3] at ht
        have hm : t ∈ [25, 5, 26] := by simpa using Array.mem_of_getElem? ht
        have hall : ([25, 5, 26].all fun u => !Tryd.prog.wantsStandIn u) = true := by kernel_rfl
        exact (show Tryd.prog.wantsStandIn t = false by simpa using List.all_eq_true.1 hall t hm)⟩)
    (by kernel_rfl)
#print axioms proved
end Go.Proofs.YtjgjomojcocegaaDoor.arenaPlays
