/- Behind Wipe no object lies in the slot, its words are 0, no other word is turned; an object may be made there again; for every input; the table of the head's widths holds what the program lays in it (the card ties that), no other condition. -/
import Derived.Test.YthokalcibjjihaaGreatDoorDq
import Derived.Test.YthokalcibjjihaaGreatDoorOpn
import Derived.Test.YthokalcibjjihaaGreatDoorDv
import Derived.Deep.CutBlock
import Derived.BigQuiet
namespace Go.Proofs.YthokalcibjjihaaGreatDoor.bodyGone
open Go.ChangeShapes Go.WideShapes Go.ChangeAt Go.RowKit Go.Joins Go.Deep hd
set_option linter.unusedVariables false

set_option maxRecDepth 100000 in
set_option maxHeartbeats 8000000 in
theorem walk (v : Value) (c : Cf) (lv : Value) (n : Nat) (B : Nat → Ac) (A : Ac) (w : World) (h : IsCf w v c) (hB : Acts w lv n B) (hA : A.Ok) (ht : TabW w) :
    Calls Tryz.prog 8 #[v, lv, .agg #[.int .u8 (A.wh : Nat), .int .i64 A.s, .int .i64 A.i, .int .i64 A.q, .int .u64 (A.u : Nat), .int .i64 A.c, .int .i64 A.r, .int .i64 A.n]] w fun e w' => e = .returned (.bool true) ∧ Below w.heap.size w w' := by
  have hI := h
  obtain ⟨vc, vt, rfl, hN, hT⟩ := h
  obtain ⟨p1, c1, rfl, _⟩ := nums_slice hN
  obtain ⟨p2, c2, rfl, _⟩ := tens_slice hT
  obtain ⟨pl0, cl0, rfl, nb⟩ := hB.slice
  clear hN hT
  obtain ⟨m0, m1⟩ := two w (.cells #[.slice p1 c.n c1, .int .i64 c.page, .slice p2 c.m c2, .int .i64 c.wk, .int .i64 c.gr, .int .i64 c.gn] 25) (.cells #[.int .u8 (A.wh : Nat), .int .i64 A.s, .int .i64 A.i, .int .i64 A.q, .int .u64 (A.u : Nat), .int .i64 A.c, .int .i64 A.r, .int .i64 A.n] 46)
  have hb : Bel w _ := bel_two w (.cells #[.slice p1 c.n c1, .int .i64 c.page, .slice p2 c.m c2, .int .i64 c.wk, .int .i64 c.gr, .int .i64 c.gn] 25) (.cells #[.int .u8 (A.wh : Nat), .int .i64 A.s, .int .i64 A.i, .int .i64 A.q, .int .u64 (A.u : Nat), .int .i64 A.c, .int .i64 A.r, .int .i64 A.n] 46)
  obtain ⟨W, hW⟩ : ∃ W, (w.alloc (.cells #[.slice p1 c.n c1, .int .i64 c.page, .slice p2 c.m c2, .int .i64 c.wk, .int .i64 c.gr, .int .i64 c.gn] 25)).alloc (.cells #[.int .u8 (A.wh : Nat), .int .i64 A.s, .int .i64 A.i, .int .i64 A.q, .int .u64 (A.u : Nat), .int .i64 A.c, .int .i64 A.r, .int .i64 A.n] 46) = W := ⟨_, rfl⟩
  rw [hW] at m0 m1 hb
  have htb := ht.bel hb
  have aw := fun w1 (g : Bel W w1) => (awake_any w1 (htb.bel g)).mono fun e w' ⟨x, y⟩ => (⟨x, hb.trans (g.trans y)⟩ : _ ∧ Bel w w')
  have kk := fun w1 (g : Bel W w1) => And.intro (cfb (heap_bel g m0)) (box8 (heap_bel g m1))
  obtain ⟨⟨k0, k1, k2, k3, k4, k5⟩, a0, a1, a2, a3, a4, a5, a6, a7⟩ := kk _ (Bel.refl _)
  have hBW := hB.bel hb
  by_cases ok : ¬ c.great11 ∧ c.ok
  · have mk := made_yes _ c 0 W (hI.bel hb) ok.1 ok.2 (by omega) htb
    rw [show ((0 : Nat) : Int) = 0 from rfl, Nat.zero_mod] at mk
    have hid := Lib.hid (And.intro hBW (And.intro hA (And.intro kk (And.intro aw (And.intro hb (show Pl.Inv (c.pl 0) c.zeros 0 from Pl.Inv.zeros c 0))))))
    clear hI ok hA htb ht m0 m1 kk hb aw hB hBW
    generalize c.pl 0 = P at *
    generalize c.zeros = R at *
    go_enter Tryz.func8, Tryz.ntmps8
    go_upto_region 1 with fail
    (try rw [hW])
    clear hW
    go_upto_region 2 with (go_at_call 9; refine mk.mono ?_; rintro e w4 ⟨⟨pa, pq, q, lo, hi, top, rfl, hM⟩, hg4⟩
                           obtain ⟨pr4, cr4, bl4, ol4, cl4, pf4, cf4, pm4, cm4, p4, cap4, rfl, _, _⟩ := shape0 hM.b
                           have L0 := Lp.start hM
                           have lo4 := hM.lo
                           have hg5 := hg4.alloc (.cells #[.slice pr4 R.length cr4, .int .i64 0, .slice (some ⟨bl4, ol4, none⟩) P.S cl4, .slice pf4 P.T cf4, .slice pm4 P.T cm4, .int .i64 (P.W : Nat), .slice p4 P.n cap4] 36)
                           clear hM mk)
    obtain ⟨w5, hw5⟩ : ∃ w5, w4.alloc (.cells #[.slice pr4 R.length cr4, .int .i64 0, .slice (some ⟨bl4, ol4, none⟩) P.S cl4, .slice pf4 P.T cf4, .slice pm4 P.T cm4, .int .i64 (P.W : Nat), .slice p4 P.n cap4] 36) = w5 := ⟨_, rfl⟩
    rw [hw5] at L0 hg5
    (try rw [hw5])
    clear hw5
    have hidA := Lib.hid (And.intro hg5 lo4)
    clear hg5 lo4 hg4
    generalize w4.heap.size = Bq at *
    have hs := has_any _ P A.s w5 L0.plan
    obtain ⟨⟨b0, b1, b2, b3, b4, b5, b6⟩, _⟩ := box7 L0.box
    obtain ⟨_, a0, a1, a2, a3, a4, a5, a6, a7⟩ := hid.out.2.2.1 _ hidA.out.1
    by_cases hS : P.isS A.s = true
    rotate_left
    · rw [show decide (0 ≤ A.s ∧ A.s < (P.S : Int)) = false by unfold Pl.isS at hS; simpa using hS] at hs
      have aw5 := fun w1 (g : Bel w5 w1) => hid.out.2.2.2.1 w1 (hidA.out.1.trans g)
      clear L0 hS
      go_wp2_with (first
        | (go_at_call 18; refine hs.mono ?_; rintro e w6 ⟨rfl, h6⟩)
        | (go_at_call 10; refine (aw5 _ h6).mono ?_; rintro e w7 ⟨rfl, h7⟩))
      go_ret
      exact ⟨rfl, h7⟩
    rw [show decide (0 ≤ A.s ∧ A.s < (P.S : Int)) = true from hS] at hs
    go_upto_block 0 with (go_at_call 18; refine hs.mono ?_; rintro e w6 ⟨rfl, h6⟩; have L0 := L0.bel h6; clear b0 b1 b2 b3 b4 b5 b6 a0 a1 a2 a3 a4 a5 a6 a7)
    clear hs
    go_cut [10] from 39 to 58 (fun _ wx => ∃ (S : List (List Nat)) (x0 x1 x2 x3 x4 x5 x6 : Value), RowKit.Hid (Lp w5 wx (.pointer (some pa)) (.pointer (some pq)) lo hi top Bq S 0 P (.agg #[x0, x1, x2, x3, x4, x5, x6]) x0 x1 x2 x3 x4 x5 x6 ∧ Pl.Inv P S 0))
    case first =>
      go_wp2_with fail
      go_loopw [10] (fun i wr => ∃ (k : Nat) (S : List (List Nat)) (x0 x1 x2 x3 x4 x5 x6 : Value), k ≤ n ∧ i = .int .i64 (k : Nat) ∧ RowKit.Hid (Lp w5 wr (.pointer (some pa)) (.pointer (some pq)) lo hi top Bq S 0 P (.agg #[x0, x1, x2, x3, x4, x5, x6]) x0 x1 x2 x3 x4 x5 x6 ∧ Pl.Inv P S 0)) (fun i _ => n - (intOf i).toNat)
      case atStart => exact ⟨0, _, _, _, _, _, _, _, _, Nat.zero_le _, rfl, Lib.hid ⟨L0, hid.out.2.2.2.2.2⟩⟩
      case round =>
        clear L0
        obtain ⟨k, S, x0, x1, x2, x3, x4, x5, x6, hk, rfl, hLI⟩ := hrel
        have hL := Lib.hid hLI.out.1
        have hVI := Lib.hid hLI.out.2
        obtain ⟨pr, cr, bl, ol, cl, pf, cf, pm, cm, p, cap, rfl, rfl, rfl, rfl, rfl, rfl, rfl⟩ := hL.out.seven0
        have hw : Bel W wr := hL.out.below hidA.out.1 hidA.out.2
        obtain ⟨tw, tq, hNB, ll, ht'⟩ := hL.out.boxes
        obtain ⟨⟨b0, b1, b2, b3, b4, b5, b6⟩, _⟩ := box7 hL.out.box
        by_cases ckk : k < n ∧ k < 40
        · obtain ⟨ab, aoff, rfl, hbl, hac, hok⟩ := hid.out.1.at ckk.1
          obtain ⟨a0, a1, a2, a3, a4, a5, a6, a7⟩ := hac.bel hw
          have kI : (k : Int) < (n : Int) := by omega
          have kz : (0 : Int) ≤ (k : Int) := by omega
          have kf : (k : Int) < 40 := by omega
          have gd := Bel.drew (Bel.refl wr)
          have gwd : Exc (Own lo hi) wr wr.drew := gd.exc
          have dzA := does_stp (X := fun q => Own lo hi q ∨ q = Bq) (.agg #[.slice pr S.length cr, .int .i64 0, .slice (some ⟨bl, ol, none⟩) P.S cl, .slice pf P.T cf, .slice pm P.T cm, .int .i64 (P.W : Nat), .slice p P.n cap]) (B k) hok (hL.out.mem.bel gd) (hL.out.doc.bel gd) (fun q hq => Nat.lt_of_lt_of_le (hL.out.till q hq) gd.size) (fun q hq => Or.inl hq)
          have hidk := Lib.hid hNB
          clear hok hNB hw hac gd tw tq ll ht'
          go_upto_region 7 with fail
          go_region_law (first
            | (go_simp
               go_at_call 11; (with_reducible refine dzA.mono ?_); rintro e w6 ⟨q6, rfl, ⟨S6, ⟨hq6, hD6⟩, hS6⟩, hE6⟩
               obtain ⟨pr6, cr6, bl6, ol6, cl6, pf6, cf6, pm6, cm6, p6, cap6, rfl, _, _⟩ := shape0 hq6
               have G6 : Exc (Own lo hi) wr w6 := Exc.trans gwd hE6
               have hz6 := blk_exc G6 hL.out.box hidk.out
               have dd := box7 hz6
               obtain ⟨⟨z0, z1, z2, z3, z4, z5, z6⟩, f0, f1, f2, f3, f4, f5, f6⟩ := dd
               obtain ⟨W7, hW7, hbx7, hE7⟩ := seven_store hz6 (.slice pr6 S6.length cr6) (.int .i64 0) (.slice (some ⟨bl6, ol6, none⟩) P.S cl6) (.slice pf6 P.T cf6) (.slice pm6 P.T cm6) (.int .i64 (P.W : Nat)) (.slice p6 P.n cap6)
               have hid7 := Lib.hid (And.intro hq6 (And.intro hD6 (And.intro hbx7 (And.intro hE7 (And.intro G6 hS6)))))
               clear hq6 hD6 hE6 hbx7 hE7 hz6 G6 hS6))
          all_goals go_wp2_with fail
          all_goals
            obtain ⟨hq6, hD6, hbx7, hE7, G6, hS6⟩ := hid7.out
            exact ⟨⟨k + 1, S6, _, _, _, _, _, _, _, by omega, by go_num, Lib.hid ⟨hL.out.step G6 hD6 hq6 hbx7 hE7, hVI.out.stp hL.out.mem.ok.pl.1 hL.out.mem.ok.reg hS6⟩⟩, by simp only [intOf]; omega⟩
        · by_cases ckn : k < n
          · have kI : (k : Int) < (n : Int) := by omega
            have kf : decide ((k : Int) < 40) = false := decide_eq_false (by omega)
            have kf2 : decide (k < 40) = false := decide_eq_false (by omega)
            go_wp2_with fail
            go_meet
            exact ⟨_, _, _, _, _, _, _, _, hLI⟩
          · have kI : decide ((k : Int) < (n : Int)) = false := decide_eq_false (by omega)
            have kI2 : decide (k < n) = false := decide_eq_false ckn
            go_wp2_with fail
            go_meet
            exact ⟨_, _, _, _, _, _, _, _, hLI⟩
    case rest =>
      clear L0
      obtain ⟨S, x0, x1, x2, x3, x4, x5, x6, hLI⟩ := hcut
      have hL := Lib.hid hLI.out.1
      have hVI := Lib.hid hLI.out.2
      obtain ⟨pr, cr, bl, ol, cl, pf, cf, pm, cm, p, cap, rfl, rfl, rfl, rfl, rfl, rfl, rfl⟩ := hL.out.seven0
      have hw : Bel W wc := hL.out.below hidA.out.1 hidA.out.2
      obtain ⟨tw, tq, hNB, ll, ht'⟩ := hL.out.boxes
      obtain ⟨sN, es, hsN⟩ := Pl.isS_of hS
      have okS := hL.out.mem.ok
      have A0 := hid.out.2.1.s
      obtain ⟨z64, c7⟩ := Pl.sz_le okS.pl hsN
      have z2 := (Pl.ad_bd okS.pl.1 hsN).2.2
      have aw0 := Pl.ad_words okS.pl.1 hsN
      have pW := okS.pl.2.2.2.1
      have pS := okS.pl.2.1
      obtain ⟨M, hM⟩ : ∃ M, P.sz sN = M + 1 := ⟨P.sz sN - 1, by omega⟩
      obtain ⟨e1, e2, e3, e4, e5, e6, e7⟩ := Pl.gone okS hsN hM
      obtain ⟨N, hN⟩ : ∃ N, S.flatten.length = N := ⟨_, rfl⟩
      rw [hN] at e3 e4
      have kb : ∀ W1, Bel W W1 → W1.cell? ⟨w.heap.size + 1, 1, none⟩ = some (.int .i64 (sN : Nat)) := fun W1 g => by rw [← es]; exact (hid.out.2.2.1 W1 g).2.2.1
      have al1 := fun W1 (g : Bel wc W1) => pallx hL.out.im.1 hL.out.im.2 g hN
      have wp := fun W1 (g : Bel wc W1) => pb_wipe (sN : Nat) (es ▸ A0) (hL.out.mem.bel g)
      have hd := fun W1 (hD : IsD W1 (.pointer (some pa)) lo hi top (P.wpM S 0 sN) 0 P) => pb_head (sN : Nat) (es ▸ A0) hD
      have h0 : P.hdR (P.wpM S 0 sN) 0 sN = 0 ∧ P.hdN (P.wpM S 0 sN) 0 sN = 0 ∧ P.hdC (P.wpM S 0 sN) 0 sN = 0 := by
        unfold Pl.hdR Pl.hdN Pl.hdC
        rw [e2]
        exact ⟨rfl, rfl, rfl⟩
      have mk := fun W1 (hD : IsD W1 (.pointer (some pa)) lo hi top (P.wpM S 0 sN) 0 P) => pb_make (sN : Nat) (P.cls sN : Nat) 0 (M : Nat) (es ▸ A0) ⟨by omega, by omega⟩ ⟨by omega, by omega⟩ ⟨by omega, by omega⟩ hD
      have wo := fun W1 (hD : IsD W1 (.pointer (some pa)) lo hi top (P.mkM (P.wpM S 0 sN) 0 sN (P.cls sN : Nat) 0 (M : Nat)) 0 P) => pb_words' (sN : Nat) (es ▸ A0) hD
      simp only [e1] at wp
      simp only [e2, h0.1, h0.2.1, h0.2.2] at hd
      simp only [e5] at mk
      simp only [e6, e7, List.length_replicate] at wo
      have tn := fun W1 (h : IsB (fun k => Own lo hi k ∨ k = Bq) W1 (.agg #[.slice pr S.length cr, .int .i64 0, .slice (some ⟨bl, ol, none⟩) P.S cl, .slice pf P.T cf, .slice pm P.T cm, .int .i64 (P.W : Nat), .slice p P.n cap]) S 0 P) => ten_of h hsN
      have bd := (mm.flat_bd okS.full okS.reg.1).2
      rw [hN] at bd
      generalize P.mkM (P.wpM S 0 sN) 0 sN (P.cls sN : Nat) 0 (M : Nat) = S2 at *
      generalize P.wpM S 0 sN = S1 at *
      generalize P.ad sN = a at *
      generalize P.sz sN = Z at *
      generalize P.cls sN = C at *
      generalize P.pg sN = G at *
      have q0 : IntKind.i64.wrap ((a : Int) + (Z : Int)) = (a : Int) + (Z : Int) := by rw [IntKind.wrap_i64]; omega
      have q1 : IntKind.i64.wrap ((Z : Int) - 1) = (M : Int) := by rw [IntKind.wrap_i64]; omega
      have hMi := Lib.hid (And.intro hM (And.intro z64 z2))
      have hM9 : M ≤ 64 := by omega
      clear hM z64 z2
      have kb0 := kb _ hw
      have hb := hL.out.box
      have hlo := hidA.out.2
      go_upto_region 9 with (go_at_call 14; refine (al1 _ (Bel.refl _)).mono ?_; rintro e w6 ⟨⟨p6, c6, rfl, hW6⟩, h6⟩; have kb6 := kb _ (hw.trans h6))
      go_upto_region 10 with (go_at_call 19; refine (wp _ h6).mono ?_; rintro e w7 ⟨rfl, hD7, hE7⟩
                              have hw7 : Bel W w7 := bel_exc (hw.trans h6) hE7 fun k hk => by
                                have := hk.1
                                omega
                              have kb7 := kb _ hw7
                              have im7 := (hL.out.bel h6).after hE7 hD7
                              have b7 := blk_exc hE7 (heap_bel h6 hb) hNB
                              have q7 := (hL.out.doc.bel h6).exc (hE7.mono fun k hk => Or.inl hk)
                              have W7 := hW6.exc hE7)
      have hmk : ∀ W : World, (Instr.makeSlice 49 (.int .i64 (M : Nat)) (.int .i64 (M : Nat))).run Tryz.prog W = .ok (.slice (some ⟨W.heap.size, 0, none⟩) M M) (W.alloc (.cells (madeCells (#[.int .u64 0] : Array Value) M) 42)) := fun W => by
        obtain ⟨i0, hi, hz0, hz1, hz2⟩ := info_parts mm.info_u64
        have := run_make (P := Tryz.prog) W 49 42 i0 _ Tryz.underlying49 hi hz0 .i64 .i64 M M (by omega) (Int.le_refl _) (by rw [hz2]; omega) (by omega)
        rw [this, hz1, Int.toNat_natCast, Nat.mul_one]
        rfl
      have hd7 := hd _ hD7
      have al2 := fun W1 (g : Bel w7 W1) => pallx im7.1 im7.2 g e3
      have hid7 := Lib.hid (And.intro hD7 (And.intro im7.2 (And.intro hw7 (And.intro b7 (And.intro q7 (And.intro W7 (And.intro (hid.out.2.2.2.1) (And.intro e4 (And.intro mk (And.intro wo kb))))))))))
      have hidb := Lib.hid (And.intro hlo (And.intro tw (And.intro ll ht')))
      clear hD7 im7 hw7 b7 q7 W7 hW6 e4 mk wo kb hd wp al1 e1 e2 e3 e5 e6 e7 h0 hb hlo tw tq hNB ll ht' hw kb6 hE7 h6 okS A0 es c7 aw0 pW hN kb0
      have kS : (sN : Int) < (P.S : Int) := by omega
      have kS0 : (0 : Int) ≤ (sN : Int) := by omega
      go_wp2_with (first
        | (go_at_call 29; refine hd7.mono ?_; rintro e w8 ⟨rfl, h8⟩
           have g9 := h8.alloc (.cells #[.int .i64 0, .int .i64 0, .int .i64 0] 44))
        | (go_at_call 14; refine (al2 _ g9).mono ?_; rintro e w10 ⟨⟨p10, c10, rfl, hW10⟩, h10⟩
           have g10 := g9.trans h10
           have kb10 := hid7.out.2.2.2.2.2.2.2.2.2.2 _ (hid7.out.2.2.1.trans g10)
           obtain ⟨⟨b0, b1, b2, b3, b4, b5, b6⟩, _⟩ := box7 (heap_bel g10 hid7.out.2.2.2.1)
           obtain ⟨t0, t1, t2, t3⟩ := tn _ (hid7.out.2.2.2.2.1.bel g10)
           have hx11 := heap_alloc_new w10 (.cells #[.int .i64 (C : Nat), .int .i64 (Z : Nat), .int .i64 (a : Nat), .int .i64 (G : Nat)] 71)
           have al11 := (Bel.refl w10).alloc (.cells #[.int .i64 (C : Nat), .int .i64 (Z : Nat), .int .i64 (a : Nat), .int .i64 (G : Nat)] 71)
           have hid10 := Lib.hid (And.intro (hW10.bel al11) (And.intro (g10.trans al11) hx11))
           clear hW10 g10 hx11 al11))
      obtain ⟨w11, hw11⟩ : ∃ w11, w10.alloc (.cells #[.int .i64 (C : Nat), .int .i64 (Z : Nat), .int .i64 (a : Nat), .int .i64 (G : Nat)] 71) = w11 := ⟨_, rfl⟩
      rw [hw11] at hid10
      (try rw [hw11])
      clear hw11
      have hBs : hi ≤ w10.heap.size := Nat.le_trans hid7.out.2.1 (Nat.le_trans g9.size h10.size)
      generalize w10.heap.size = Bs at *
      clear al2 hd7 b0 b1 b2 b3 b4 b5 b6 t0 t1 t2 t3 tn kb10 g9 h10 h8
      go_loopw [17] (fun i wr => ∃ k : Nat, k ≤ N ∧ i = .int .i64 (k : Nat) ∧ Bel w11 wr) (fun i _ => N - (intOf i).toNat)
      case atStart => exact ⟨0, Nat.zero_le _, rfl, Bel.refl _⟩
      case round =>
        obtain ⟨k, hk, rfl, hg⟩ := hrel
        have hxr := heap_bel hg hid10.out.2.2
        obtain ⟨x0, x1, x2, _⟩ := box4 hxr
        by_cases ck : k < N
        · have kI : (k : Int) < (N : Int) := by omega
          have kz : (0 : Int) ≤ (k : Int) := by omega
          have hln := ws_len hid7.out.2.2.2.2.2.1
          obtain ⟨u, hu⟩ : ∃ u, S.flatten[k]? = some u := ⟨_, List.getElem?_eq_getElem (by omega)⟩
          have hu1 := hid7.out.2.2.2.2.2.2.2.1 k ck
          obtain ⟨rb, ro, rfl, rc⟩ := ws_at (hid7.out.2.2.2.2.2.1.bel (hid10.out.2.1.trans hg)) hu
          clear hln
          by_cases hin : a ≤ k ∧ k < a + Z
          · rw [if_pos hin] at hu1
            obtain ⟨rb2, ro2, rfl, rc2⟩ := ws_at (hid10.out.1.bel hg) hu1
            have rc3 : wr.cell? ⟨rb2, ro2 + k, none⟩ = some (.int .u64 0) := rc2
            have y1 : (a : Int) ≤ (k : Int) := by omega
            have y2 : (k : Int) < (a : Int) + (Z : Int) := by omega
            have y3 := hin.1
            clear hu hu1 hin rc2
            go_upto_region 17 with fail
            go_quiet (fail)
            go_wp2_with fail
            go_roundw
            case rel => exact ⟨k + 1, by omega, by go_num, below_drewN hg _⟩
            case measure => simp only [intOf]; omega
          · rw [if_neg hin, hu] at hu1
            obtain ⟨rb2, ro2, rfl, rc2⟩ := ws_at (hid10.out.1.bel hg) hu1
            clear hu hu1
            by_cases y : a ≤ k
            · have y1 : (a : Int) ≤ (k : Int) := by omega
              have y2 : decide ((k : Int) < (a : Int) + (Z : Int)) = false := decide_eq_false (by omega)
              clear hin
              go_upto_region 17 with fail
              go_quiet (fail)
              go_wp2_with fail
              go_roundw
              case rel => exact ⟨k + 1, by omega, by go_num, below_drewN hg _⟩
              case measure => simp only [intOf]; omega
            · have y1 : decide ((a : Int) ≤ (k : Int)) = false := decide_eq_false (by omega)
              have y2 : decide (a ≤ k) = false := decide_eq_false y
              clear hin
              go_upto_region 17 with fail
              go_quiet (fail)
              go_wp2_with fail
              go_roundw
              case rel => exact ⟨k + 1, by omega, by go_num, below_drewN hg _⟩
              case measure => simp only [intOf]; omega
        · have kI : decide ((k : Int) < (N : Int)) = false := decide_eq_false (by omega)
          have kI2 : decide (k < N) = false := decide_eq_false ck
          have g7 := hid10.out.2.1.trans hg
          have mk0 := hid7.out.2.2.2.2.2.2.2.2.1 _ (hid7.out.1.bel g7)
          have kbr := hid7.out.2.2.2.2.2.2.2.2.2.2 _ (hid7.out.2.2.1.trans g7)
          go_wp2_with (first
            | (go_at_call 20; refine mk0.mono ?_; rintro e w12 ⟨rfl, hD12, hE12⟩
               have hw12 : Bel W w12 := bel_exc (hid7.out.2.2.1.trans g7) hE12 fun k hk => by
                 have := hk.1
                 have := hidb.out.1
                 omega
               have kb12 := hid7.out.2.2.2.2.2.2.2.2.2.2 _ hw12
               have hx12 := blk_exc hE12 hxr fun hk => by
                 have := hk.2
                 omega
               have wo12 := hid7.out.2.2.2.2.2.2.2.2.2.1 _ hD12
               clear hD12 hE12)
            | (go_at_call 22; refine wo12.mono ?_; rintro e w13 ⟨⟨p13, n13, c13, rfl, e13, hW13⟩, h13⟩; obtain rfl := e13.symm
               obtain ⟨x0, x1, x2, _⟩ := box4 (heap_bel h13 hx12)
               have hz13 := mm.own_zeros w13 M (by unfold maxLen; omega)
               have al13 := (Bel.refl w13).alloc (.cells (madeCells (#[.int .u64 0] : Array Value) M) 42)
               have ws13 := wsame_yes (hW13.bel al13) (hz13.ws (X := fun _ => False) fun _ _ _ h => h)
               have hw13 := hw12.trans (h13.trans al13)
               clear hz13 al13 hW13)
            | (go_at_call 13; refine ws13.mono ?_; rintro e w14 ⟨rfl, h14⟩; have aw14 := hid7.out.2.2.2.2.2.2.1 _ (hw13.trans h14))
            | (go_at_call 10; refine aw14.mono ?_; rintro e w15 ⟨rfl, h15⟩))
          go_ret
          exact ⟨rfl, h15⟩
  · have mk := made_no _ c 0 W (hI.bel hb) (by by_cases x : c.great11; exact Or.inl x; exact Or.inr fun y => ok ⟨x, y⟩)
    rw [show ((0 : Nat) : Int) = 0 from rfl] at mk
    clear hI ok hA htb m0 m1 kk hB hBW
    go_enter Tryz.func8, Tryz.ntmps8
    go_upto_region 1 with fail
    (try rw [hW])
    clear hW
    go_wp2_with (first
      | (go_at_call 9; refine mk.mono ?_; rintro e w4 ⟨rfl, h4⟩; have aw4 := aw _ (h4.alloc (.cells #[.slice none 0 0, .int .i64 0, .slice none 0 0, .slice none 0 0, .slice none 0 0, .int .i64 0, .slice none 0 0] 36)))
      | (go_at_call 10; refine aw4.mono ?_; rintro e w5 ⟨rfl, h5⟩))
    go_ret
    exact ⟨rfl, h5⟩

/-! The row. -/
set_option maxRecDepth 100000 in
theorem lifted (os : Os) (started : os.Started) (H : Type) (enc : TypeId × Value → H) :
    ReturnsInHanded {} Tryz.checked os 8 .any (fun w args => (Rows.bodyGoneSpec.pre enc Tryz.prog Tryz.f8 [] false w args ∧ laidMetH Tryz.prog theLaid w) ∧ sizedMet enc Tryz.prog Tryz.f8 (OpenSpec.ofChange Rows.bodyGoneSpec) false w args)
      (Rows.bodyGoneSpec.post enc Tryz.prog Tryz.f8 false true false false) := by
  refine lift_laid (C := Tryz.checked) (X := Met) own started (by kernel_rfl) Tryz.func8 (fun _ _ h => Met.heap h) laid rowed full (by rw [Tryz.params8]; decide) rfl (by kernel_rfl) Tryz.underlying4
    (fun ds h => by rw [Tryz.params8] at h; match ds, h with | [_, _, _], _ => rfl)
    (ChangeSpec.witness_shaped (enc := enc) (C := Tryz.checked) (os := os) (X := fun w _ => Met w) false (World.doorLaid Tryz.prog 400 os) #[.agg #[.slice none 0 0, .int .i64 0, .slice none 0 0, .int .i64 0, .int .i64 0, .int .i64 0], .slice none 0 0, .agg #[.int .u8 0, .int .i64 0, .int .i64 0, .int .i64 0, .int .u64 0, .int .i64 0, .int .i64 0, .int .i64 0]] 8 rfl (World.shaped_of_RefB (by kernel_rfl) (by kernel_rfl)) (by kernel_rfl) (by kernel_rfl) (by kernel_rfl) (door_met os _)) ?_
  intro W base args ds p hval hAll hM
  have hT := hM.tab
  change ∀ (j : Nat) t v, Tryz.f8.params[j]? = some t → args[j]? = some v → Value.okWide Tryz.prog W .any base t v at hval
  change DataW.TrodAll enc Tryz.prog W 0 (fun _ => true) true Tryz.f8.params.toList args.toList ds p at hAll
  rw [Tryz.params8] at hAll hval
  obtain ⟨v0, vs0, d0, ds0, p0, q0, hargs, rfl, rfl, h0, r0⟩ := trodAll_cons hAll
  obtain ⟨v1, vs1, d1, ds1, p1, q1, hargs1, rfl, rfl, h1, r1⟩ := trodAll_cons r0
  obtain ⟨v2, vs2, d2, ds2, p2, q2, hargs2, rfl, rfl, h2, r2⟩ := trodAll_cons r1
  obtain ⟨rfl, rfl, rfl⟩ := trodAll_nil r2
  subst hargs2
  subst hargs1
  obtain rfl : args = #[v0, v1, v2] := by cases args; simp_all
  obtain ⟨c, hI, _⟩ := get_cf (hval 0 25 v0 rfl rfl) h0
  obtain ⟨nB, B, hB1⟩ := get_acts (hval 1 26 v1 rfl rfl) h1
  obtain ⟨A, hA, rfl⟩ := get_act (hval 2 46 v2 rfl rfl) h2
  exact walk v0 c v1 nB B A W hI hB1 hA hT

theorem over : Rows.bodyGoneRow.holds Tryz.pinned (OpenSpec.ofChange Rows.bodyGoneSpec) :=
  OpenClaim.holds_of_wide 8 Tryz.f8 rfl rfl rfl rfl rfl rfl rfl ⟨rfl, rfl, rfl, rfl, rfl⟩ rfl rfl rfl rfl rfl (by kernel_rfl) Tryz.func8 (by kernel_rfl)
    (of_decide_eq_true (by kernel_rfl)) (by unfold Func.isWrapper; first | (rw [if_pos (by decide +kernel)]; kernel_rfl) | (rw [if_neg (by decide +kernel)]; exact ⟨rfl, rfl⟩))
    (fun os started H enc _ => lifted os started H enc)

/-- The statement. -/
theorem proved : Rows.BodyGoneCardSaid :=
  Claim7.holds_tied_plain_at .later [] [.data] true (true, "4c33b7968f82caf130c1decf41a5dcf18a2cc1dc4bb0104c99295747923900d8") true
    over (fun _ h => by cases h) (by kernel_rfl) (fun _ h => by cases h) bodyGone_row_tie rfl ⟨rfl, rfl⟩ (by kernel_rfl) rfl
    (fun f fn hf hfn => by
      obtain rfl : f = 8 := Option.some.inj ((show Tryz.prog.funcNamed "commonage/commonagelaw11.BodyGone" = some 8 by kernel_rfl).symm.trans hf) |>.symm
      obtain rfl : fn = Tryz.f8 := (Option.some.inj (Tryz.func8.symm.trans hfn)).symm
      exact ⟨by kernel_rfl, fun j t ht => by
        rw [Tryz.params8] at ht
        have hm : t ∈ [25, 26, 46] := by simpa using Array.mem_of_getElem? ht
        have hall : ([25, 26, 46].all fun u => !Tryz.prog.wantsStandIn u) = true := by kernel_rfl
        exact (show Tryz.prog.wantsStandIn t = false by simpa using List.all_eq_true.1 hall t hm)⟩)
    (by kernel_rfl)
#print axioms proved
end Go.Proofs.YthokalcibjjihaaGreatDoor.bodyGone
