/- As long as what is used, and a class's size, are together not above the quota, Take of that class is not refused; and it tells no slot that is taken; for every input; the table of trailing zeros holds what the program lays in it (the card ties that), no other condition. -/
import Derived.Test.YtjgjomojcocegaaDoorQp
import Derived.Test.YtjgjomojcocegaaDoorOpn
import Derived.Test.YtjgjomojcocegaaDoorQu
import Derived.Deep.CutBlock
import Derived.Deep.QuietTactic
import Derived.BigQuiet
namespace Go.Proofs.YtjgjomojcocegaaDoor.arenaRoom
open Go.ChangeShapes Go.WideShapes Go.ChangeAt Go.RowKit Go.Joins Go.Deep
set_option linter.unusedVariables false

set_option maxRecDepth 100000 in
set_option maxHeartbeats 8000000 in
theorem walk (v : Value) (c : Cf) (tn : Nat) (lv : Value) (n : Nat) (A : Nat → Ac) (w : World) (h : IsCf w v c) (h8 : tn ≤ 255) (hA : Acts w lv n A) (ht : Tb w) :
    Calls Tryd.prog 4 #[v, .int .u8 (tn : Nat), lv] w fun e w' => e = .returned (.bool true) ∧ Below w.heap.size w w' := by
  have hI := h
  obtain ⟨vc, vt, rfl, hN, hT⟩ := h
  obtain ⟨p1, c1, rfl, nb1⟩ := nums_slice hN
  obtain ⟨p2, c2, rfl, nb2⟩ := tens_slice hT
  obtain ⟨pl0, cl0, rfl, nb⟩ := hA.slice
  have hb := (Bel.refl w).alloc (.cells #[.slice p1 c.n c1, .int .i64 c.page, .slice p2 c.m c2, .int .i64 c.wk, .int .i64 c.gr, .int .i64 c.gn] 25)
  have hbxw := heap_alloc_new w (.cells #[.slice p1 c.n c1, .int .i64 c.page, .slice p2 c.m c2, .int .i64 c.wk, .int .i64 c.gr, .int .i64 c.gn] 25)
  generalize hwb : w.alloc (.cells #[.slice p1 c.n c1, .int .i64 c.page, .slice p2 c.m c2, .int .i64 c.wk, .int .i64 c.gr, .int .i64 c.gn] 25) = wb at *
  have hIb := hI.bel hb
  have htb := ht.bel hb
  have aw := fun w1 (g : Bel w w1) => (awake10_any w1 (ht.bel g)).mono fun e w' ⟨x, y⟩ => (⟨x, g.trans y⟩ : _ ∧ Bel w w')
  by_cases ok : ¬ c.great10 ∧ c.ok
  · have mk := made_yes _ c tn wb hIb ok.1 ok.2 h8 htb
    have m1' := Cf.ok_m ok.2
    have n1' := Cf.ok_n ok.2
    have htm : tn % c.m < c.m := Nat.mod_lt _ (by omega)
    obtain ⟨b2, off2, hp2, hten⟩ : ∃ b2 off2, p2 = some ⟨b2, off2, none⟩ ∧ w.cell? ⟨b2, off2 + (tn % c.m) * 4, none⟩ = some (.int .i64 (c.Q (tn % c.m))) := by
      rcases hT with ⟨h0, _⟩ | ⟨b, off, cap, e, _, _, _, hx⟩
      · omega
      · injection e with e1 e2 e3
        exact ⟨b, off, e1, (hx _ htm).1⟩
    obtain ⟨b1, off1, hp1, hnum⟩ : ∃ b1 off1, p1 = some ⟨b1, off1, none⟩ ∧ ∀ k, k < c.n → w.cell? ⟨b1, off1 + k, none⟩ = some (.int .i64 (c.F k)) := by
      rcases hN with ⟨h0, _⟩ | ⟨b, off, cap, e, _, _, _, hx⟩
      · omega
      · injection e with e1 e2 e3
        exact ⟨b, off, e1, hx⟩
    subst hp1 hp2
    have room := fun k (hk : k < c.n) => pl_room ok.2 htm hk
    have q1 : IntKind.i64.wrap (tn : Int) = (tn : Int) := by rw [IntKind.wrap_i64]; omega
    have q2 : (tn : Int) % (c.m : Int) = ((tn % c.m : Nat) : Int) := by omega
    have q3 : (tn : Int).tmod (c.m : Int) = ((tn % c.m : Nat) : Int) := by rw [← q2]; exact Int.tmod_eq_emod_of_nonneg (by omega)
    have q4 : ¬ c.m = 0 := by omega
    have q5 : (c.m : Int) ≠ 0 := by omega
    have q6 : (0 : Int) ≤ (tn : Int) := by omega
    have hPn : (c.pl (tn % c.m)).n = c.n := rfl
    obtain ⟨r0a, r0b, hQ0, hQ1, r0e⟩ := room 0 (by omega)
    clear hN hT r0a r0b r0e
    generalize hP : c.pl (tn % c.m) = P at *
    clear hP
    generalize htt : tn % c.m = t at *
    clear htt
    generalize c.Q t = Qt at *
    have q7 : (t : Int) < (c.m : Int) := by omega
    have q8 : (0 : Int) ≤ (t : Int) := by omega
    have hid := Lib.hid (And.intro hb (And.intro hA (And.intro ht (And.intro hbxw (And.intro hten (And.intro hnum (And.intro room hPn)))))))
    clear hI hIb ok hA htb ht hbxw hten hnum room hPn
    subst hwb
    go_enter Tryd.func4, Tryd.ntmps4
    go_upto_region 4 with (go_at_call 8; refine mk.mono ?_; rintro e w4 ⟨⟨pa, q, lo, hi, rfl, hA4, hq4, hh4, hlo⟩, hg4⟩
                           obtain ⟨bl4, ol4, cl4, pf4, cf4, pm4, cm4, p4, cap4, b4, off4, cb4, rfl, _, _⟩ := hq4.shape
                           have L0 := Lp.start hA4 hq4 hh4
                           have sz4 := hg4.size
                           have al4 := (Bel.refl w4).alloc (.cells #[.slice (some ⟨bl4, ol4, none⟩) P.S cl4, .slice pf4 P.T cf4, .slice pm4 P.T cm4, .int .i64 (P.W : Nat), .slice p4 P.n cap4, .slice (some ⟨b4, off4, none⟩) P.S cb4] 33)
                           have hg5 := (hid.out.1.trans hg4).alloc (.cells #[.slice (some ⟨bl4, ol4, none⟩) P.S cl4, .slice pf4 P.T cf4, .slice pm4 P.T cm4, .int .i64 (P.W : Nat), .slice p4 P.n cap4, .slice (some ⟨b4, off4, none⟩) P.S cb4] 33)
                           have hgc := hg4.trans al4
                           clear hA4 hq4 hh4 mk)
    obtain ⟨w5, hw5⟩ : ∃ w5, w4.alloc (.cells #[.slice (some ⟨bl4, ol4, none⟩) P.S cl4, .slice pf4 P.T cf4, .slice pm4 P.T cm4, .int .i64 (P.W : Nat), .slice p4 P.n cap4, .slice (some ⟨b4, off4, none⟩) P.S cb4] 33) = w5 := ⟨_, rfl⟩
    rw [hw5] at L0 hg5 hgc al4
    (try rw [hw5])
    clear hw5
    have hbx5 := heap_bel hgc hid.out.2.2.2.1
    have hten5 := cell_bel hg5 hid.out.2.2.2.2.1
    have hcb : w.heap.size < lo := by
      have := heap_lt hid.out.2.2.2.1
      omega
    have hidA := Lib.hid (And.intro hid.out.2.1 (And.intro hg5 (And.intro hcb (And.intro hid.out.2.2.1 hbx5))))
    obtain ⟨⟨x0, x1, x2, x3, x4, x5⟩, _⟩ := box6 hbx5
    have d2 : w5.cell? ⟨w.heap.size, 2, none⟩ = some (.slice (some ⟨b2, off2, none⟩) c.m c2) := x2
    have e2 : w5.cell? ⟨b2, off2 + t * 4, none⟩ = some (.int .i64 Qt) := hten5
    clear hg5 sz4 hlo hg4 hb hgc al4 hbx5 hten5 x0 x1 x2 x3 x4 x5
    generalize w4.heap.size = Bq at *
    have d2' : w5.drew.cell? ⟨w.heap.size, 2, none⟩ = some (.slice (some ⟨b2, off2, none⟩) c.m c2) := d2
    have e2' : w5.drew.cell? ⟨b2, off2 + t * 4, none⟩ = some (.int .i64 Qt) := e2
    go_region
    have L1 := L0.bel (Bel.drew (Bel.refl w5))
    clear L0 d2 e2 d2' e2' q1 q2 q3 q4 q5 q6 q7 q8
    go_upto_block 0 with fail
    obtain ⟨w6, hw6⟩ : ∃ w6, w5.drew = w6 := ⟨_, rfl⟩
    rw [hw6] at L1
    (try rw [hw6])
    clear hw6
    go_wp2_with fail
    go_loopw [10] (fun i wr => ∃ (k : Nat) (T : Nat → Bool) (x0 x1 x2 x3 x4 x5 : Value), k ≤ n ∧ i = .int .i64 (k : Nat) ∧ RowKit.Hid (Lp w5 wr (.pointer (some pa)) lo lo hi Bq P T x0 x1 x2 x3 x4 x5)) (fun i _ => n - (intOf i).toNat)
    case atStart => exact ⟨0, _, _, _, _, _, _, _, Nat.zero_le _, rfl, Lib.hid L1⟩
    case round =>
      clear L1
      obtain ⟨k, T, x0, x1, x2, x3, x4, x5, hk, rfl, hL⟩ := hrel
      obtain ⟨bl, ol, cl, pf, cf, pm, cm, p, cap, bb, off, cb, rfl, rfl, rfl, rfl, rfl, rfl⟩ := hL.out.ar.six
      have hw : Bel w wr := Below.trans hidA.out.2.1 (hL.out.exc.below (fun q hq => by
        have := hidA.out.2.2.1
        have := hL.out.top
        have := hL.out.mem.lt
        rcases hq with hq | hq
        · have := hq.1; omega
        · omega) hidA.out.2.1.size)
      have tb := hL.out.tb (hidA.out.2.2.2.1.bel hidA.out.2.1)
      have hll := hL.out.mem.lt
      have htop := hL.out.top
      have hcb := hidA.out.2.2.1
      by_cases ckk : k < n ∧ k < 80
      · obtain ⟨ab, aoff, rfl, hbl, hac, hok⟩ := hidA.out.1.at ckk.1
        obtain ⟨a0, a1⟩ := hac.bel hw
        have kI : (k : Int) < (n : Int) := by omega
        have kz : (0 : Int) ≤ (k : Int) := by omega
        have kf : (k : Int) < 80 := by omega
        have hbxr : wr.heap[w.heap.size]? = some (.cells #[.slice (some ⟨b1, off1, none⟩) c.n c1, .int .i64 c.page, .slice (some ⟨b2, off2, none⟩) c.m c2, .int .i64 c.wk, .int .i64 c.gr, .int .i64 c.gn] 25) := blk_exc hL.out.exc hidA.out.2.2.2.2 (fun x => by
          rcases x with x | x
          · have := x.1; omega
          · omega)
        have ga := (Bel.refl wr).alloc (.cells #[.int .u8 ((A k).wh : Nat), .int .i64 (A k).n] 40)
        have hxa := heap_alloc_new wr (.cells #[.int .u8 ((A k).wh : Nat), .int .i64 (A k).n] 40)
        have hwh := hok.1
        have hNb := hok.2
        obtain ⟨wh, hwhd⟩ : ∃ x, (A k).wh = x := ⟨_, rfl⟩
        obtain ⟨N, hNd⟩ : ∃ x, (A k).n = x := ⟨_, rfl⟩
        rw [hwhd] at a0 hwh hxa ga
        rw [hNd] at a1 hNb hxa ga
        clear hwhd hNd hok hac
        have hh := hL.out.hh
        have hid1 := Lib.hid (And.intro hw (And.intro tb (And.intro hbxr (And.intro hxa ga))))
        clear hw tb hbxr hxa ga hbl
        go_upto_region 10 with fail
        obtain ⟨W1, hW1⟩ : ∃ W1, wr.alloc (.cells #[.int .u8 (wh : Nat), .int .i64 N] 40) = W1 := ⟨_, rfl⟩
        have hid1 : RowKit.Hid _ := hid1
        rw [hW1] at hid1
        (try rw [hW1])
        clear hW1 a0 a1
        have hU := used_le hL.out.mem.ok T
        have hA1 : IsA W1 (.pointer (some pa)) lo lo hi P T := hL.out.mem.bel hid1.out.2.2.2.2
        have g1 : Bel w W1 := hid1.out.1.trans hid1.out.2.2.2.2
        have us := fun j => used_same _ lo lo hi P T (W1.drewN j) (hA1.bel (Bel.drewN W1 j))
        obtain ⟨⟨x0, x1, x2, x3, x4, x5⟩, _⟩ := box6 (heap_bel hid1.out.2.2.2.2 hid1.out.2.2.1)
        clear x1 x2 x3 x4 x5
        have nn : c.n ≤ 8 := by have := hL.out.mem.ok.2.2.2.2.1; rw [hid.out.2.2.2.2.2.2.2] at this; exact this
        go_cut [13] from 54 to 80 (fun s13 wx => ∃ f : Bool, s13 = .bool f ∧ RowKit.Hid ((f = true → ∃ K : Nat, N = (K : Int) ∧ K < P.n ∧ (P.used T P.S : Int) + (P.f K : Nat) ≤ Qt) ∧ Bel W1 wx))
        case first =>
          have hidU := Lib.hid hA1
          clear hA1
          generalize hUd : P.used T P.S = U at *
          by_cases n0 : N < 0
          · have d0 : decide ((0 : Int) ≤ N) = false := decide_eq_false (by omega)
            go_quiet (fail)
            go_wp2
            go_meet
            exact ⟨_, rfl, Lib.hid ⟨fun h => (by cases h), Bel.drewN _ _⟩⟩
          · have d0 : (0 : Int) ≤ N := by omega
            by_cases n1 : (c.n : Int) ≤ N
            · have d1 : decide (N < (c.n : Int)) = false := decide_eq_false (by omega)
              go_quiet (fail)
              go_wp2
              go_meet
              exact ⟨_, rfl, Lib.hid ⟨fun h => (by cases h), Bel.drewN _ _⟩⟩
            · obtain ⟨K, rfl⟩ : ∃ K : Nat, N = K := ⟨N.toNat, by omega⟩
              have hKn : K < c.n := by omega
              obtain ⟨f1, f2, _⟩ := hid.out.2.2.2.2.2.2.1 K hKn
              have cK := cell_bel g1 (hid.out.2.2.2.2.2.1 K hKn)
              rw [f1] at cK
              have m1 : min (K : Int) ((c.n : Int) - 1) = (K : Int) := by omega
              have m2 : max (0 : Int) (K : Int) = (K : Int) := by omega
              have d1 : (K : Int) < (c.n : Int) := by omega
              have hPK := Lib.hid (show K < P.n by rw [hid.out.2.2.2.2.2.2.2]; exact hKn)
              obtain ⟨fK, hfK⟩ : ∃ x, P.f K = x := ⟨_, rfl⟩
              rw [hfK] at cK f2
              have sm : (U : Int) + (fK : Int) ≤ 4294967296 := by omega
              have sm0 : (0 : Int) ≤ (U : Int) + (fK : Int) := by omega
              clear f1 hKn n0 n1
              go_quiet (first | (go_at_call 12; refine Calls.quiet_of_same (us _)))
              go_wp2
              go_meet
              exact ⟨_, rfl, Lib.hid ⟨fun h => ⟨K, rfl, hPK.out, by rw [hfK]; simpa using h⟩, Bel.drewN _ _⟩⟩
        case rest =>
          obtain ⟨f, rfl, hF⟩ := hcut
          rename World => wx
          have gx : Bel wr wx := hid1.out.2.2.2.2.trans hF.out.2
          have tk := qa_taken (.pointer (some pa)) lo lo hi P T wx (hL.out.mem.bel gx) (Nat.le_trans hh gx.size) (hid1.out.2.1.bel gx)
          clear us hA1 g1 x0
          go_upto_region 11 with fail
          go_cut [14, 15] (fun s14 s15 wy => ∃ rb rg rca, s14 = .pointer (some ⟨rb, 0, none⟩) ∧ s15 = .int .i64 (P.used T P.S : Nat) ∧ RowKit.Hid (bt.RowIs wy rb rg rca P.S T ∧ wr.heap.size ≤ rb ∧ wr.heap.size ≤ rg ∧ Bel wx wy))
          case first =>
            go_wp2_with (first
              | (go_at_call 13; refine tk.mono ?_; rintro e w7 ⟨⟨r, rfl, rb, rg, rca, rfl, hR, hrb, hrg⟩, hg6⟩; have us6 := used_same (.pointer (some pa)) lo lo hi P T _ (hL.out.mem.bel (gx.trans hg6)))
              | (go_at_call 12; refine us6.mono ?_; rintro e w8 ⟨rfl, hw8⟩; rw [hw8]; clear hw8))
            go_meet
            exact ⟨_, _, _, rfl, rfl, Lib.hid ⟨hR, Nat.le_trans gx.size hrb, Nat.le_trans gx.size hrg, hg6⟩⟩
          case rest =>
            obtain ⟨rb, rg, rca, rfl, rfl, hX⟩ := hcut
            clear tk
            rename World => wy
            have gy : Bel wr wy := gx.trans hX.out.2.2.2
            have g1y : Bel W1 wy := hF.out.2.trans hX.out.2.2.2
            have hAy := hL.out.mem.bel gy
            have hhy := Nat.le_trans hh gy.size
            have tby := hid1.out.2.1.bel gy
            have hwy := hid1.out.1.trans gy
            have hxy := heap_bel g1y hid1.out.2.2.2.1
            obtain ⟨⟨a0, a1⟩, _⟩ := box2 hxy
            have hBy := heap_bel gy hL.out.box
            have hNB : ¬ Own lo hi Bq := fun x => by have := x.2; omega
            by_cases hw2 : wh % 4 = 2 ∨ wh % 4 = 3
            · have e4 : (1 : Int) < (wh : Int) % 4 := by omega
              have dz := does_any (X := fun q => Own lo hi q ∨ q = Bq) (.pointer (some pa)) (.agg #[.slice (some ⟨bl, ol, none⟩) P.S cl, .slice pf P.T cf, .slice pm P.T cm, .int .i64 (P.W : Nat), .slice p P.n cap, .slice (some ⟨bb, off, none⟩) P.S cb]) lo lo hi P T wh N wy hAy hhy tby (hL.out.ar.bel gy) (hL.out.till.bel gy) (fun q hq => Or.inl hq) hwh hNb
              obtain ⟨⟨b0', b1', b2', b3', b4', b5'⟩, _⟩ := box6 hBy
              have gyE : Exc (Own lo hi) wr wy := gy.exc
              have hidk := Lib.hid (And.intro hNB hBy)
              clear hAy tby hwy hxy g1y hNB hBy gx
              go_wp2_with (go_at_call 10; (with_reducible refine dz.mono ?_); rintro e v6 ⟨q6, rfl, ⟨T6, hq6, hA6⟩, hE6⟩
                           obtain ⟨bl6, ol6, cl6, pf6, cf6, pm6, cm6, p6, cap6, b6, off6, cb6, rfl, _, _⟩ := hq6.shape
                           have G6 : Exc (Own lo hi) wr v6 := Exc.trans gyE hE6
                           have hz6 := blk_exc hE6 hidk.out.2 hidk.out.1
                           have dd := box6 hz6
                           obtain ⟨⟨z0, z1, z2, z3, z4, z5⟩, f0, f1, f2, f3, f4, f5⟩ := dd
                           obtain ⟨W7, hW7, hbx7, hE7⟩ := six_store hz6 (.slice (some ⟨bl6, ol6, none⟩) P.S cl6) (.slice pf6 P.T cf6) (.slice pm6 P.T cm6) (.int .i64 (P.W : Nat)) (.slice p6 P.n cap6) (.slice (some ⟨b6, off6, none⟩) P.S cb6)
                           have hid7 := Lib.hid (And.intro hq6 (And.intro hA6 (And.intro hbx7 (And.intro hE7 G6))))
                           clear hq6 hA6 hE6 hbx7 hE7 hz6 G6)
              go_roundw
              case rel =>
                obtain ⟨hq6, hA6, hbx7, hE7, G6⟩ := hid7.out
                exact ⟨k + 1, T6, _, _, _, _, _, _, by omega, by go_num, Lib.hid (Lp.turn hL.out hA6 hq6 G6 hbx7 hE7)⟩
              case measure => simp only [intOf]; omega
            · have e4 : decide ((1 : Int) < (wh : Int) % 4) = false := decide_eq_false (by omega)
              have tk2 := qa_take (.pointer (some pa)) lo lo hi P T wy hAy hhy tby N hNb
              have hid2 := Lib.hid (And.intro hNB (And.intro hBy (And.intro hwy (And.intro gy tby))))
              clear hAy tby hwy hxy g1y hNB hBy gx gy
              go_upto_region 15 with (go_at_call 14; (with_reducible refine tk2.mono ?_); rintro e v4 ⟨⟨r4, c4, T4, rfl, hT4, hA4⟩, hE4⟩)
              clear a0 a1 tk2
              have G4 : Exc (Own lo hi) wr v4 := Exc.trans hid2.out.2.2.2.1.exc hE4
              have us4 := fun j => used_same _ lo lo hi P T4 (v4.drewN j) (hA4.bel (Bel.drewN v4 j))
              have hT4' := Lib.hid hT4
              have nu : (6 : Int) ≠ 0 := by decide
              rcases hT4 with ⟨h1, rfl, rfl, rfl⟩ | ⟨i, h1, h2, h3, h4, rfl, rfl, rfl⟩ | ⟨h1, h2, rfl, rfl, rfl⟩
              · have ff : f = false := by
                  cases f
                  · rfl
                  · obtain ⟨K, hK1, hK2, _⟩ := hF.out.1 rfl
                    exact absurd ⟨by omega, by omega⟩ h1
                subst ff
                have hid4 := Lib.hid (And.intro hA4 G4)
                clear hA4 hE4 G4 h1
                generalize hUd : P.used T4 P.S = U at *
                go_quiet (first | (go_at_call 12; refine Calls.quiet_of_same (us4 _)))
                go_wp2_with fail
                go_roundw
                case rel => exact ⟨k + 1, T4, _, _, _, _, _, _, by omega, by go_num, Lib.hid ((Lp.same hL.out hid4.out.1 hid4.out.2).bel (Bel.drewN _ _))⟩
                case measure => simp only [intOf]; omega
              · have hcn : P.cls i < c.n := by rw [← hid.out.2.2.2.2.2.2.2]; exact Pl.cls_lt h1
                subst h2
                obtain ⟨f1, f2, _⟩ := hid.out.2.2.2.2.2.2.1 _ hcn
                have lowb := hid.out.1.size
                have cK := cell_exc hE4 (cell_bel hid2.out.2.2.1 (hid.out.2.2.2.2.2.1 _ hcn)) (fun x => by
                  have x1 : lo ≤ b1 := x.1
                  have x2 : b1 < w.heap.size := (cell_block (hid.out.2.2.2.2.2.1 _ hcn)).1
                  omega)
                rw [f1] at cK
                have hbx4 := blk_exc hE4 (heap_bel hid2.out.2.2.2.1 hid1.out.2.2.1) (fun x => by have := x.1; omega)
                obtain ⟨⟨x0, x1, x2, x3, x4, x5⟩, _⟩ := box6 hbx4
                clear x1 x2 x3 x4 x5
                have hR4 := row_exc hX.out.1 hE4 (fun x => by have := x.2; have := hX.out.2.1; omega) (fun x => by have := x.2; have := hX.out.2.2.1; omega)
                have hh4 : hi ≤ v4.heap.size := Nat.le_trans hhy hE4.size
                have tb4 : Tb v4 := hid2.out.2.2.2.2.exc hE4 (fun x => by have := x.1; have := hL.out.mem.low; omega)
                have gt4 := fun j => bt.get_any (i : Nat) (v4.drewN j) (hR4.bel (Bel.drewN v4 j))
                have hs4 := fun j => has_same _ lo lo hi P (upd T i true) (v4.drewN j) (hA4.bel (Bel.drewN v4 j)) hh4 (tb4.bel (Bel.drewN v4 j)) (i : Nat)
                have eU : P.used (upd T i true) P.S = P.used T P.S + P.f (P.cls i) := by rw [Pl.used_take h3, if_pos h1]; rfl
                simp only [getB_at h1, upd_at, h3] at gt4 hs4
                rw [eU] at us4
                have kz' : (0 : Int) ≤ (P.cls i : Int) := by omega
                have kc' : (P.cls i : Int) < (c.n : Int) := by omega
                have sm : ((P.used T P.S : Nat) : Int) + ((P.f (P.cls i) : Nat) : Int) = ((P.used T P.S + P.f (P.cls i) : Nat) : Int) := by omega
                have smb : P.used T P.S + P.f (P.cls i) ≤ 4294967296 := by omega
                have hB4 := blk_exc hE4 hid2.out.2.1 hid2.out.1
                have hq4 := (hL.out.ar.bel hid2.out.2.2.2.1).exc (hE4.mono fun q hq => Or.inl hq)
                have ht4 : Till (fun q => Own lo hi q ∨ q = Bq) v4 := fun q hq => by
                  have a := hE4.size
                  have b := heap_lt hB4
                  rcases hq with hq | hq
                  · have := hq.2; omega
                  · omega
                have rt := fun W (g : Bel v4 W) => rtake _ P T (P.cls i : Nat) W (ht4.bel g) (hq4.bel g) hL.out.mem.ok.2.1
                have dT : TakeR P T (P.cls i : Nat) (i : Nat) 0 (upd T i true) := Or.inr (Or.inl ⟨i, h1, rfl, h3, h4, rfl, rfl, rfl⟩)
                have kBq := fun W (g : Bel v4 W) => heap_bel g hB4
                have hid4 := Lib.hid (And.intro hA4 (And.intro G4 (And.intro dT hB4)))
                have kBq := Lib.hid kBq
                have rt := Lib.hid rt
                clear hA4 hE4 G4 h1 h3 h4 hR4 tb4 hq4 ht4 hbx4 hB4 dT hT4' f1 f2 eU hh4
                generalize P.used T P.S + P.f (P.cls i) = UU at *
                generalize hUd : P.used T P.S = U at *
                generalize hfd : P.f (P.cls i) = fK at *
                cases f
                all_goals
                  go_quiet (first
                    | (go_at_call 12; refine Calls.quiet_of_same (us4 _))
                    | (go_at_call 15; refine Calls.quiet_of_same (gt4 _))
                    | (go_at_call 16; refine Calls.quiet_of_same (hs4 _)))
                  have hz5 := kBq.out _ (Bel.drewN v4 nq)
                  have cc := box6 hz5
                  obtain ⟨⟨u0, u1, u2, u3, u4, u5⟩, _⟩ := cc
                  have rt5 := rt.out _ (Bel.drewN v4 nq)
                  go_wp2_with (go_at_call 17; (with_reducible refine rt5.mono ?_); rintro e v6 ⟨⟨q6, r6, c6, T6, rfl, hT6, hq6⟩, hg6⟩; obtain ⟨rfl, rfl, rfl⟩ := TakeR.det hid4.out.2.2.1 hT6
                               obtain ⟨bl6, ol6, cl6, pf6, cf6, pm6, cm6, p6, cap6, b6, off6, cb6, rfl, _, _⟩ := hq6.shape
                               have hz6 := heap_bel hg6 hz5
                               have dd := box6 hz6
                               obtain ⟨⟨z0, z1, z2, z3, z4, z5⟩, f0, f1, f2, f3, f4, f5⟩ := dd
                               obtain ⟨W7, hW7, hbx7, hE7⟩ := six_store hz6 (.slice (some ⟨bl6, ol6, none⟩) P.S cl6) (.slice pf6 P.T cf6) (.slice pm6 P.T cm6) (.int .i64 (P.W : Nat)) (.slice p6 P.n cap6) (.slice (some ⟨b6, off6, none⟩) P.S cb6)
                               have hid7 := Lib.hid (And.intro hq6 (And.intro hbx7 (And.intro hE7 hg6)))
                               clear hq6 hbx7 hE7 hz6 hg6)
                  go_roundw
                  case rel =>
                    obtain ⟨hq6, hbx7, hE7, hg6⟩ := hid7.out
                    exact ⟨k + 1, _, _, _, _, _, _, _, by omega, by go_num, Lib.hid (Lp.turn hL.out ((hid4.out.1.bel (Bel.drewN v4 nq)).bel hg6) hq6 ((hid4.out.2.1.trans (Bel.drewN v4 nq).exc).trans hg6.exc) hbx7 hE7)⟩
                  case measure => simp only [intOf]; omega
              · have ff : f = false := by
                  cases f
                  · rfl
                  · obtain ⟨K, hK1, hK2, hK3⟩ := hF.out.1 rfl
                    obtain ⟨_, _, _, _, hr⟩ := hid.out.2.2.2.2.2.2.1 K (by rw [← hid.out.2.2.2.2.2.2.2]; exact hK2)
                    subst hK1
                    obtain ⟨Qn, rfl⟩ : ∃ Qn : Nat, Qt = (Qn : Int) := ⟨Qt.toNat, by omega⟩
                    exact absurd (room hK2 (Int.ofNat_lt.1 hr) (by omega) hT4'.out) nu
                subst ff
                have hid4 := Lib.hid (And.intro hA4 G4)
                clear hA4 hE4 G4 h1 h2
                generalize hUd : P.used T4 P.S = U at *
                go_quiet (first | (go_at_call 12; refine Calls.quiet_of_same (us4 _)))
                go_wp2_with fail
                go_roundw
                case rel => exact ⟨k + 1, T4, _, _, _, _, _, _, by omega, by go_num, Lib.hid ((Lp.same hL.out hid4.out.1 hid4.out.2).bel (Bel.drewN _ _))⟩
                case measure => simp only [intOf]; omega
      · have aw5 := aw wr hw
        by_cases ckn : k < n
        · have kI : (k : Int) < (n : Int) := by omega
          have kf : decide ((k : Int) < 80) = false := decide_eq_false (by omega)
          have kf2 : decide (k < 80) = false := decide_eq_false (by omega)
          clear hw tb
          go_wp2_with (go_at_call 9; refine aw5.mono ?_; rintro e w7 ⟨rfl, hg8⟩)
          go_ret
          exact ⟨rfl, hg8⟩
        · have kI : decide ((k : Int) < (n : Int)) = false := decide_eq_false (by omega)
          have kI2 : decide (k < n) = false := decide_eq_false ckn
          clear hw tb
          go_wp2_with (go_at_call 9; refine aw5.mono ?_; rintro e w7 ⟨rfl, hg8⟩)
          go_ret
          exact ⟨rfl, hg8⟩
  · have mk := made_no _ c tn wb hIb (by by_cases x : c.great10; exact Or.inl x; exact Or.inr fun y => ok ⟨x, y⟩)
    clear hI hIb ok hA htb hN hT hbxw
    subst hwb
    go_enter Tryd.func4, Tryd.ntmps4
    go_wp2_with (first
      | (go_at_call 8; refine mk.mono ?_; rintro e w4 ⟨rfl, hg4⟩; have aw4 := aw _ ((hb.trans hg4).alloc (.cells #[.slice none 0 0, .slice none 0 0, .slice none 0 0, .int .i64 0, .slice none 0 0, .slice none 0 0] 33)))
      | (go_at_call 9; refine aw4.mono ?_; rintro e w5 ⟨rfl, hg5⟩))
    go_ret
    exact ⟨rfl, hg5⟩

/-! The row. -/
set_option maxRecDepth 100000 in
theorem lifted (os : Os) (started : os.Started) (H : Type) (enc : TypeId × Value → H) :
    ReturnsInHanded {} Tryd.checked os 4 .any (fun w args => (Rows.arenaRoomSpec.pre enc Tryd.prog Tryd.f4 [] false w args ∧ laidMetH Tryd.prog theLaid w) ∧ sizedMet enc Tryd.prog Tryd.f4 (OpenSpec.ofChange Rows.arenaRoomSpec) false w args)
      (Rows.arenaRoomSpec.post enc Tryd.prog Tryd.f4 false true false false) := by
  refine lift_laid (C := Tryd.checked) (X := Met) own started (by kernel_rfl) Tryd.func4 (fun _ _ h => Met.heap h) laid rowed full (by rw [Tryd.params4]; decide) rfl (by kernel_rfl) Tryd.underlying4
    (fun ds h => by rw [Tryd.params4] at h; match ds, h with | [_, _, _], _ => rfl)
    (ChangeSpec.witness_shaped (enc := enc) (C := Tryd.checked) (os := os) (X := fun w _ => Met w) false (World.doorLaid Tryd.prog 400 os) #[.agg #[.slice none 0 0, .int .i64 0, .slice none 0 0, .int .i64 0, .int .i64 0, .int .i64 0], .int .u8 0, .slice none 0 0] 8 rfl (World.shaped_of_RefB (by kernel_rfl) (by kernel_rfl)) (by kernel_rfl) (by kernel_rfl) (by kernel_rfl) (door_met os _)) ?_
  intro W base args ds p hval hA hM
  have hT := hM.tab
  change ∀ (j : Nat) t v, Tryd.f4.params[j]? = some t → args[j]? = some v → Value.okWide Tryd.prog W .any base t v at hval
  change DataW.TrodAll enc Tryd.prog W 0 (fun _ => true) true Tryd.f4.params.toList args.toList ds p at hA
  rw [Tryd.params4] at hA hval
  obtain ⟨v0, vs0, d0, ds0, p0, q0, hargs, rfl, rfl, h0, r0⟩ := trodAll_cons hA
  obtain ⟨v1, vs1, d1, ds1, p1, q1, hargs1, rfl, rfl, h1, r1⟩ := trodAll_cons r0
  obtain ⟨v2, vs2, d2, ds2, p2, q2, hargs2, rfl, rfl, h2, r2⟩ := trodAll_cons r1
  obtain ⟨rfl, rfl, rfl⟩ := trodAll_nil r2
  subst hargs2
  subst hargs1
  obtain rfl : args = #[v0, v1, v2] := by cases args; simp_all
  obtain ⟨c, hI, _⟩ := get_cf (hval 0 25 v0 rfl rfl) h0
  obtain ⟨tn, rfl, htn⟩ := get_u8 Tryd.underlying5 (hval 1 5 v1 rfl rfl) h1
  obtain ⟨nA, A, hA2⟩ := get_acts (hval 2 26 v2 rfl rfl) h2
  exact walk v0 c tn v2 nA A W hI htn hA2 hT

theorem over : Rows.arenaRoomRow.holds Tryd.pinned (OpenSpec.ofChange Rows.arenaRoomSpec) :=
  OpenClaim.holds_of_wide 4 Tryd.f4 rfl rfl rfl rfl rfl rfl rfl ⟨rfl, rfl, rfl, rfl, rfl⟩ rfl rfl rfl rfl rfl (by kernel_rfl) Tryd.func4 (by kernel_rfl)
    (of_decide_eq_true (by kernel_rfl)) (by unfold Func.isWrapper; first | (rw [if_pos (by decide +kernel)]; kernel_rfl) | (rw [if_neg (by decide +kernel)]; exact ⟨rfl, rfl⟩))
    (fun os started H enc _ => lifted os started H enc)

/-- The statement. -/
theorem proved : Rows.ArenaRoomCardSaid :=
  Claim7.holds_tied_plain_at .later [] [.data] true (true, "c638e9143258aeaec1d04d8d11f1ebc40f118957b767c87e444fc848b79354be") false
    over (fun _ h => by cases h) (by kernel_rfl) (fun _ h => by cases h) arenaRoom_row_tie rfl ⟨rfl, rfl⟩ (by kernel_rfl) rfl
    (fun f fn hf hfn => by
      obtain rfl : f = 4 := Option.some.inj ((show Tryd.prog.funcNamed "commonage/commonagelaw10.ArenaRoom" = some 4 by kernel_rfl).symm.trans hf) |>.symm
      obtain rfl : fn = Tryd.f4 := (Option.some.inj (Tryd.func4.symm.trans hfn)).symm
      exact ⟨by kernel_rfl, fun j t ht => by
        rw [Tryd.params4] at ht
        have hm : t ∈ [25, 5, 26] := by simpa using Array.mem_of_getElem? ht
        have hall : ([25, 5, 26].all fun u => !Tryd.prog.wantsStandIn u) = true := by kernel_rfl
        exact (show Tryd.prog.wantsStandIn t = false by simpa using List.all_eq_true.1 hall t hm)⟩)
    (by kernel_rfl)
#print axioms proved
end Go.Proofs.YtjgjomojcocegaaDoor.arenaRoom
