/- Behind Make all references are none, all words 0, whatever lay there; what is set is read, and nothing else is turned by it; for every input; the table of the head's widths holds what the program lays in it (the card ties that), no other condition. -/
import Derived.Test.YthokalcibjjihaaGreatDoorDq
import Derived.Test.YthokalcibjjihaaGreatDoorOpn
import Derived.Test.YthokalcibjjihaaGreatDoorDv
import Derived.Deep.CutBlock
import Derived.BigQuiet
namespace Go.Proofs.YthokalcibjjihaaGreatDoor.bodyFresh
open Go.ChangeShapes Go.WideShapes Go.ChangeAt Go.RowKit Go.Joins Go.Deep hd
set_option linter.unusedVariables false

set_option maxRecDepth 100000 in
set_option maxHeartbeats 8000000 in
theorem walk (v : Value) (c : Cf) (lv : Value) (l : List Nat) (A : Ac) (w : World) (h : IsCf w v c) (hl : mm.Ws (fun _ => False) w lv l) (hlb : ∀ u ∈ l, u < 18446744073709551616) (hA : A.Ok) (ht : TabW w) :
    Calls Tryz.prog 5 #[v, lv, .agg #[.int .u8 (A.wh : Nat), .int .i64 A.s, .int .i64 A.i, .int .i64 A.q, .int .u64 (A.u : Nat), .int .i64 A.c, .int .i64 A.r, .int .i64 A.n]] w fun e w' => e = .returned (.bool true) ∧ Below w.heap.size w w' := by
  have hI := h
  obtain ⟨vc, vt, rfl, hN, hT⟩ := h
  obtain ⟨p1, c1, rfl, _⟩ := nums_slice hN
  obtain ⟨p2, c2, rfl, _⟩ := tens_slice hT
  obtain ⟨pl0, n, cl0, rfl, -, nb⟩ := words_slice hl
  clear hN hT
  obtain ⟨m0, m1⟩ := two w (.cells #[.slice p1 c.n c1, .int .i64 c.page, .slice p2 c.m c2, .int .i64 c.wk, .int .i64 c.gr, .int .i64 c.gn] 25) (.cells #[.int .u8 (A.wh : Nat), .int .i64 A.s, .int .i64 A.i, .int .i64 A.q, .int .u64 (A.u : Nat), .int .i64 A.c, .int .i64 A.r, .int .i64 A.n] 46)
  have hb : Bel w _ := bel_two w (.cells #[.slice p1 c.n c1, .int .i64 c.page, .slice p2 c.m c2, .int .i64 c.wk, .int .i64 c.gr, .int .i64 c.gn] 25) (.cells #[.int .u8 (A.wh : Nat), .int .i64 A.s, .int .i64 A.i, .int .i64 A.q, .int .u64 (A.u : Nat), .int .i64 A.c, .int .i64 A.r, .int .i64 A.n] 46)
  obtain ⟨W, hW⟩ : ∃ W, (w.alloc (.cells #[.slice p1 c.n c1, .int .i64 c.page, .slice p2 c.m c2, .int .i64 c.wk, .int .i64 c.gr, .int .i64 c.gn] 25)).alloc (.cells #[.int .u8 (A.wh : Nat), .int .i64 A.s, .int .i64 A.i, .int .i64 A.q, .int .u64 (A.u : Nat), .int .i64 A.c, .int .i64 A.r, .int .i64 A.n] 46) = W := ⟨_, rfl⟩
  rw [hW] at m0 m1 hb
  have htb := ht.bel hb
  have aw := fun w1 (g : Bel W w1) => (awake_any w1 (htb.bel g)).mono fun e w' ⟨x, y⟩ => (⟨x, hb.trans (g.trans y)⟩ : _ ∧ Bel w w')
  have kk := fun w1 (g : Bel W w1) => And.intro (cfb (heap_bel g m0)) (box8 (heap_bel g m1))
  obtain ⟨⟨k0, k1, k2, k3, k4, k5⟩, a0, a1, a2, a3, a4, a5, a6, a7⟩ := kk _ (Bel.refl _)
  have hlW := hl.bel hb
  by_cases ok : ¬ c.great11 ∧ c.ok
  · have mk := made_yes _ c 0 W (hI.bel hb) ok.1 ok.2 (by omega) htb
    rw [show ((0 : Nat) : Int) = 0 from rfl, Nat.zero_mod] at mk
    have hid := Lib.hid (And.intro hlW (And.intro hlb (And.intro hA (And.intro kk (And.intro aw (And.intro hb nb))))))
    clear hI ok hA htb ht m0 m1 kk hb aw hl hlW hlb
    generalize c.pl 0 = P at *
    generalize c.zeros = R at *
    go_enter Tryz.func5, Tryz.ntmps5
    go_upto_region 1 with fail
    (try rw [hW])
    clear hW
    go_upto_region 2 with (go_at_call 9; refine mk.mono ?_; rintro e w4 ⟨⟨pa, pq, q, lo, hi, top, rfl, hM⟩, hg4⟩
                           obtain ⟨pr, cr, bl, ol, cl, pf, cf, pm, cm, p, cap, rfl, _, _⟩ := shape0 hM.b
                           have L0 := Lp.start hM
                           have lo4 := hM.lo
                           have hg5 := hg4.alloc (.cells #[.slice pr R.length cr, .int .i64 0, .slice (some ⟨bl, ol, none⟩) P.S cl, .slice pf P.T cf, .slice pm P.T cm, .int .i64 (P.W : Nat), .slice p P.n cap] 36)
                           clear hM mk)
    obtain ⟨w5, hw5⟩ : ∃ w5, w4.alloc (.cells #[.slice pr R.length cr, .int .i64 0, .slice (some ⟨bl, ol, none⟩) P.S cl, .slice pf P.T cf, .slice pm P.T cm, .int .i64 (P.W : Nat), .slice p P.n cap] 36) = w5 := ⟨_, rfl⟩
    rw [hw5] at L0 hg5
    (try rw [hw5])
    clear hw5
    have hidA := Lib.hid (And.intro hg5 lo4)
    clear hg5 lo4 hg4
    generalize w4.heap.size = Bq at *
    have hs := has_any _ P A.s w5 L0.plan
    obtain ⟨⟨b0, b1, b2, b3, b4, b5, b6⟩, _⟩ := box7 L0.box
    obtain ⟨_, a0, a1, a2, a3, a4, a5, a6, a7⟩ := hid.out.2.2.2.1 _ hidA.out.1
    by_cases hS : P.isS A.s = true
    rotate_left
    · rw [show decide (0 ≤ A.s ∧ A.s < (P.S : Int)) = false by unfold Pl.isS at hS; simpa using hS] at hs
      have aw5 := fun w1 (g : Bel w5 w1) => hid.out.2.2.2.2.1 w1 (hidA.out.1.trans g)
      clear L0 hS
      go_wp2_with (first
        | (go_at_call 18; refine hs.mono ?_; rintro e w6 ⟨rfl, h6⟩)
        | (go_at_call 10; refine (aw5 _ h6).mono ?_; rintro e w7 ⟨rfl, h7⟩))
      go_ret
      exact ⟨rfl, h7⟩
    rw [show decide (0 ≤ A.s ∧ A.s < (P.S : Int)) = true from hS] at hs
    go_upto_block 0 with (go_at_call 18; refine hs.mono ?_; rintro e w6 ⟨rfl, h6⟩; have L1 := Lib.hid (L0.bel h6); have hw6 := Lib.hid (hidA.out.1.trans h6); clear L0 b0 b1 b2 b3 b4 b5 b6 a0 a1 a2 a3 a4 a5 a6 a7)
    clear hs
    have hF0 := Lib.hid (And.intro L1.out.mem (Exc.refl (Own lo hi) w6))
    go_cut [10] from 45 to 61 (fun _ wx => ∃ S : List (List Nat), RowKit.Hid (IsD wx (.pointer (some pa)) lo hi top S 0 P ∧ Exc (Own lo hi) w6 wx))
    case first =>
      go_wp2_with fail
      go_loopw [10] (fun i wr => ∃ (k : Nat) (S : List (List Nat)), k ≤ n ∧ i = .int .i64 (k : Nat) ∧ RowKit.Hid (IsD wr (.pointer (some pa)) lo hi top S 0 P ∧ Exc (Own lo hi) w6 wr)) (fun i _ => n - (intOf i).toNat)
      case atStart => exact ⟨0, _, Nat.zero_le _, rfl, hF0⟩
      case round =>
        obtain ⟨k, S, hk, rfl, hF⟩ := hrel
        have hw : Bel W wr := bel_exc hw6.out hF.out.2 fun k hk => by
          have := hk.1
          have := hidA.out.2
          omega
        by_cases ckk : k < n ∧ k < 200
        · obtain ⟨ab, aoff, u, rfl, hu, hbl, hac⟩ := word_at hid.out.1 ckk.1
          have u64 := hid.out.2.1 u (List.mem_of_getElem? hu)
          have kI : (k : Int) < (n : Int) := by omega
          have kz : (0 : Int) ≤ (k : Int) := by omega
          have kf : (k : Int) < 200 := by omega
          have x0 := cell_bel hw hac
          have im := L1.out.after hF.out.2 hF.out.1
          have ps := mm.pm_store (.pointer (some pq)) lo hi S 0 (k : Nat) u wr im.1 im.2
          have ok' := hF.out.1.ok.store0 u64 (k : Nat)
          have hid2 := Lib.hid ok'
          clear hw ok' u64 hu hac im
          generalize storeR S 0 (k : Nat) u = S2 at *
          go_wp2_with (go_at_call 16; refine ps.mono ?_; rintro e w7 ⟨rfl, hm7, hE7⟩; have hid3 := Lib.hid (And.intro hm7 hE7); clear hm7 hE7)
          go_roundw
          case rel => exact ⟨k + 1, S2, by omega, by go_num, Lib.hid (L1.out.store hF.out.2 hF.out.1 hid3.out.2 hid3.out.1 hid2.out)⟩
          case measure => simp only [intOf]; omega
        · by_cases ckn : k < n
          · have kI : (k : Int) < (n : Int) := by omega
            have kf : decide ((k : Int) < 200) = false := decide_eq_false (by omega)
            have kf2 : decide (k < 200) = false := decide_eq_false (by omega)
            go_wp2_with fail
            go_meet
            exact ⟨_, hF⟩
          · have kI : decide ((k : Int) < (n : Int)) = false := decide_eq_false (by omega)
            have kI2 : decide (k < n) = false := decide_eq_false ckn
            go_wp2_with fail
            go_meet
            exact ⟨_, hF⟩
    case rest =>
      obtain ⟨S, hF⟩ := hcut
      have hw : Bel W wc := bel_exc hw6.out hF.out.2 fun k hk => by
        have := hk.1
        have := hidA.out.2
        omega
      obtain ⟨sN, es, hsN⟩ := Pl.isS_of hS
      have okS := hF.out.1.ok
      have A0 : i64b' (sN : Int) := es ▸ hid.out.2.2.1.s
      have kb : ∀ W1, Bel W W1 → W1.cell? ⟨w.heap.size + 1, 0, none⟩ = some (.int .u8 (A.wh : Nat)) ∧ W1.cell? ⟨w.heap.size + 1, 1, none⟩ = some (.int .i64 A.s) ∧ W1.cell? ⟨w.heap.size + 1, 2, none⟩ = some (.int .i64 A.i) ∧ W1.cell? ⟨w.heap.size + 1, 3, none⟩ = some (.int .i64 A.q) ∧ W1.cell? ⟨w.heap.size + 1, 4, none⟩ = some (.int .u64 (A.u : Nat)) ∧ W1.cell? ⟨w.heap.size + 1, 5, none⟩ = some (.int .i64 A.c) ∧ W1.cell? ⟨w.heap.size + 1, 6, none⟩ = some (.int .i64 A.r) ∧ W1.cell? ⟨w.heap.size + 1, 7, none⟩ = some (.int .i64 A.n) := fun W1 g => (hid.out.2.2.2.1 W1 g).2
      have kbs : ∀ W1, Bel W W1 → W1.cell? ⟨w.heap.size + 1, 1, none⟩ = some (.int .i64 (sN : Nat)) := fun W1 g => by rw [← es]; exact (kb W1 g).2.1
      have e1 : P.wpE sN = 0 := by unfold Pl.wpE; rw [if_pos (Pl.isS_nat hsN)]
      have wp := pb_wipe (sN : Nat) A0 hF.out.1
      rw [e1] at wp
      generalize hS1 : P.wpM S 0 sN = S1 at *
      obtain ⟨N, hN⟩ : ∃ N, S1.flatten.length = N := ⟨_, rfl⟩
      obtain ⟨z64, c7⟩ := Pl.sz_le okS.pl hsN
      have aw0 := Pl.ad_words okS.pl.1 hsN
      have pW := okS.pl.2.2.2.1
      have pS := okS.pl.2.1
      have kb0 := kb _ hw
      have ks0 := kbs _ hw
      have hlo := hidA.out.2
      have lims := hF.out.1.lims
      clear hS1 e1 okS
      go_upto_region 9 with (go_at_call 19; refine wp.mono ?_; rintro e w7 ⟨rfl, hD7, hE7⟩
                             have hw7 : Bel W w7 := bel_exc hw hE7 fun k hk => by
                               have := hk.1
                               omega
                             have X7 := hF.out.2.trans hE7
                             have im7 := L1.out.after X7 hD7
                             have al7 := pallx im7.1 im7.2 (Bel.refl w7) hN)
      go_upto_region 10 with (go_at_call 14; refine al7.mono ?_; rintro e w8 ⟨⟨p8, c8, rfl, hW8⟩, h8⟩
                              have ks8 := kbs _ (hw7.trans h8)
                              obtain ⟨_, a1, a2, a3, a4, a5, a6, a7⟩ := kb _ (hw7.trans h8))
      have hD8 := hD7.bel h8
      have X8 := X7.trans h8.exc
      have hw8 := hw7.trans h8
      have bdN := (mm.flat_bd hD8.ok.full hD8.ok.reg.1).2
      rw [hN] at bdN
      by_cases hE0 : P.mkE S1 0 sN A.c A.r A.n = 0
      rotate_left
      · have mk8 := pb_make (sN : Nat) A.c A.r A.n A0 hid.out.2.2.1.c hid.out.2.2.1.r hid.out.2.2.1.n hD8
        rw [show P.mkM S1 0 sN A.c A.r A.n = S1 by unfold Pl.mkM; rw [if_neg hE0]] at mk8
        generalize P.mkE S1 0 sN A.c A.r A.n = E at *
        have d0 : decide (E = 0) = false := decide_eq_false hE0
        have hid8 := Lib.hid (And.intro hW8 (And.intro X8 (And.intro hw8 hid.out.2.2.2.2.1)))
        clear hW8 X8 hw8 hD8 hD7 hE7 hw7 X7 im7 al7 h8 kb0 ks0 hw wp
        go_wp2_with (first
          | (go_at_call 20; refine mk8.mono ?_; rintro e w9 ⟨rfl, hD9, hE9⟩
             have hw9 : Bel W w9 := bel_exc hid8.out.2.2.1 hE9 fun k hk => by
               have := hk.1
               omega
             have im9 := L1.out.after (hid8.out.2.1.trans hE9) hD9
             have al9 := pallx im9.1 im9.2 (Bel.refl w9) hN
             have W9 := hid8.out.1.exc hE9
             clear hD9 hE9 im9)
          | (go_at_call 14; refine al9.mono ?_; rintro e w10 ⟨⟨p10, c10, rfl, hW10⟩, h10⟩
             have sm := wsame_yes (hW10.less (Y := fun _ => False) fun _ x => x.elim) ((W9.bel h10).less (Y := fun _ => False) fun _ x => x.elim)
             have hw10 := hw9.trans h10
             clear hW10 W9 h10)
          | (go_at_call 13; refine sm.mono ?_; rintro e w11 ⟨rfl, h11⟩; have aw11 := hid8.out.2.2.2 _ (hw10.trans h11))
          | (go_at_call 10; refine aw11.mono ?_; rintro e w12 ⟨rfl, h12⟩))
        go_ret
        exact ⟨rfl, h12⟩
      obtain ⟨s', C, r, n', es', ec, er, en⟩ := Pl.mk_nat hE0
      clear es'
      have mk8 := pb_make (sN : Nat) A.c A.r A.n A0 hid.out.2.2.1.c hid.out.2.2.1.r hid.out.2.2.1.n hD8
      rw [hE0] at mk8
      rw [ec, er, en] at hE0
      obtain ⟨f1, f2, f3, f4⟩ := Pl.fresh hD8.ok hE0
      rw [ec, er, en] at mk8
      rw [ec] at a5
      rw [er] at a6
      rw [en] at a7
      generalize P.mkM S1 0 sN (C : Nat) (r : Nat) (n' : Nat) = S2 at *
      have kbn : ∀ W1, Bel W W1 → W1.cell? ⟨w.heap.size + 1, 6, none⟩ = some (.int .i64 (r : Nat)) ∧ W1.cell? ⟨w.heap.size + 1, 7, none⟩ = some (.int .i64 (n' : Nat)) := fun W1 g => by
        rw [← er, ← en]
        exact (kb W1 g).2.2.2.2.2.2
      have rf := fun W1 (hD : IsD W1 (.pointer (some pa)) lo hi top S2 0 P) => pb_refs' (sN : Nat) A0 hD
      have wd := fun W1 (hD : IsD W1 (.pointer (some pa)) lo hi top S2 0 P) => pb_words' (sN : Nat) A0 hD
      simp only [f2, f3, List.length_replicate] at rf
      simp only [f1, f4, List.length_replicate] at wd
      obtain ⟨N2, hN2⟩ : ∃ N2, S2.flatten.length = N2 := ⟨_, rfl⟩
      have hid8 := Lib.hid (And.intro X8 hw8)
      clear hW8 X8 hw8 hD8 hD7 hE7 hw7 X7 im7 al7 h8 kb0 ks0 hw wp f1 f2 f3 f4 hE0
      go_wp2_with (first
        | (go_at_call 20; refine mk8.mono ?_; rintro e w9 ⟨rfl, hD9, hE9⟩
           have hw9 : Bel W w9 := bel_exc hid8.out.2 hE9 fun k hk => by
             have := hk.1
             omega
           have X9 := hid8.out.1.trans hE9
           have ks9 := kbs _ hw9
           have rf9 := rf _ hD9)
        | (go_at_call 21; refine rf9.mono ?_; rintro e w10 ⟨⟨p10, n10, c10, rfl, e10, hI10⟩, h10⟩; obtain rfl := e10.symm
           have ks10 := kbs _ (hw9.trans h10)
           have wd10 := wd _ (hD9.bel h10))
        | (go_at_call 22; refine wd10.mono ?_; rintro e w11 ⟨⟨p11, n11, c11, rfl, e11, hW11⟩, h11⟩; obtain rfl := e11.symm
           have hw11 := hw9.trans (h10.trans h11)
           obtain ⟨a6, a7⟩ := kbn _ hw11
           have hid11 := Lib.hid (And.intro (hD9.bel (h10.trans h11)) (And.intro (X9.trans (h10.trans h11).exc) (And.intro hw11 (And.intro (hI10.bel h11) hW11))))
           clear hD9 X9 hI10 hW11 h10 h11 hE9 hw9 hw11))
      have rb := hid.out.2.2.1.r.2
      have nb2 := hid.out.2.2.1.n.2
      rw [er] at rb
      rw [en] at nb2
      clear kbn rf wd mk8
      go_loopw [16] (fun i wr => ∃ k : Nat, k ≤ r ∧ i = .int .i64 (k : Nat) ∧ Bel w11 wr) (fun i _ => r - (intOf i).toNat)
      case atStart => exact ⟨0, Nat.zero_le _, rfl, Bel.refl _⟩
      case round =>
        obtain ⟨k, hk, rfl, hg⟩ := hrel
        by_cases ck : k < r
        · have kI : (k : Int) < (r : Int) := by omega
          have kz : (0 : Int) ≤ (k : Int) := by omega
          obtain ⟨rb', ro, rfl, rc⟩ := is_at (hid11.out.2.2.2.1.bel hg) (j := k) (x := -1) (by rw [List.getElem?_replicate, if_pos ck])
          go_wp2_with fail
          go_roundw
          case rel => exact ⟨k + 1, by omega, by go_num, hg⟩
          case measure => simp only [intOf]; omega
        · have kI : decide ((k : Int) < (r : Int)) = false := decide_eq_false (by omega)
          have kI2 : decide (k < r) = false := decide_eq_false ck
          go_wp2_with fail
          clear kI kI2
          go_loopw [17] (fun i wy => ∃ k : Nat, k ≤ n' ∧ i = .int .i64 (k : Nat) ∧ Bel w11 wy) (fun i _ => n' - (intOf i).toNat)
          case atStart => exact ⟨0, Nat.zero_le _, rfl, hg⟩
          case round =>
            clear hg ck hk
            obtain ⟨k, hk, rfl, hg⟩ := hrel
            by_cases ck : k < n'
            · have kI : (k : Int) < (n' : Int) := by omega
              have kz : (0 : Int) ≤ (k : Int) := by omega
              obtain ⟨rb', ro, rfl, rc⟩ := ws_at (hid11.out.2.2.2.2.bel hg) (j := k) (u := 0) (by rw [List.getElem?_replicate, if_pos ck])
              have rc2 := rc
              rw [show ((0 : Nat) : Int) = 0 from rfl] at rc2
              clear rc
              go_wp2_with fail
              go_roundw
              case rel => exact ⟨k + 1, by omega, by go_num, hg⟩
              case measure => simp only [intOf]; omega
            · have kI : decide ((k : Int) < (n' : Int)) = false := decide_eq_false (by omega)
              have kI2 : decide (k < n') = false := decide_eq_false ck
              have im11 := L1.out.after hid11.out.2.1 hid11.out.1
              have al11 := pallx im11.1 im11.2 hg hN2
              go_upto_region 27 with (go_at_call 14; refine al11.mono ?_; rintro e w12 ⟨⟨p12, c12, rfl, hW12⟩, h12⟩)
              clear kI kI2 im11 al11 rb nb2 ck hk
              have hw12 := hid11.out.2.2.1.trans (hg.trans h12)
              have kb12 := kb _ hw12
              have ks12 := kbs _ hw12
              have hD12 := hid11.out.1.bel (hg.trans h12)
              have X12 := hid11.out.2.1.trans (hg.trans h12).exc
              have hNa : ¬ Own lo hi (w.heap.size + 1) := fun x => by
                have := x.1
                have h9 : w.heap.size + 1 < W.heap.size := (cell_block (kb W (Bel.refl W)).1).1
                have h8 := hidA.out.2
                omega
              have kp : ∀ W1, Exc (Own lo hi) w12 W1 → Exc (Own lo hi) w12 W1 ∧ W1.cell? ⟨w.heap.size + 1, 1, none⟩ = some (.int .i64 (sN : Nat)) ∧ W1.cell? ⟨w.heap.size + 1, 2, none⟩ = some (.int .i64 A.i) ∧ W1.cell? ⟨w.heap.size + 1, 3, none⟩ = some (.int .i64 A.q) ∧ W1.cell? ⟨w.heap.size + 1, 4, none⟩ = some (.int .u64 (A.u : Nat)) := fun W1 g =>
                ⟨g, cell_exc g ks12 hNa, cell_exc g kb12.2.2.1 hNa, cell_exc g kb12.2.2.2.1 hNa, cell_exc g kb12.2.2.2.2.1 hNa⟩
              have sr := fun W1 R1 (hD : IsD W1 (.pointer (some pa)) lo hi top R1 0 P) => pb_setref (sN : Nat) A.i A.q A0 hid.out.2.2.1.q hD
              have sw := fun W1 R1 (hD : IsD W1 (.pointer (some pa)) lo hi top R1 0 P) => pb_setword (sN : Nat) A.i A.u A0 hD hid.out.2.2.1.u
              have G0 : Exc (Own lo hi) w12 w12 := Exc.refl _ _
              have hid12 := Lib.hid (And.intro hW12 (And.intro X12 (And.intro hw12 (And.intro hNa hD12.ok))))
              obtain ⟨_, a1, a2, a3, a4⟩ := kp _ G0
              clear hW12 X12 hw12 hNa kb12 ks12 hg h12 a5 a6 a7
              go_cut [19, 20] (fun s19 s20 wx => ∃ g k : Int, s19 = .int .i64 g ∧ s20 = .int .i64 k ∧ RowKit.Hid (∃ S3, Pl.Kept P S2 S3 (sN : Nat) A.i A.q A.u g k ∧ IsD wx (.pointer (some pa)) lo hi top S3 0 P ∧ Exc (Own lo hi) w12 wx))
              case first =>
                go_region_held3 (fun W1 => Exc (Own lo hi) w12 W1 ∧ W1.cell? ⟨w.heap.size + 1, 1, none⟩ = some (.int .i64 (sN : Nat)) ∧ W1.cell? ⟨w.heap.size + 1, 2, none⟩ = some (.int .i64 A.i) ∧ W1.cell? ⟨w.heap.size + 1, 3, none⟩ = some (.int .i64 A.q) ∧ W1.cell? ⟨w.heap.size + 1, 4, none⟩ = some (.int .u64 (A.u : Nat)))
                  (first | with_reducible exact kp _ (by assumption) | with_reducible exact kp _ (Exc.trans (by assumption) ((Bel.refl _).drew).exc))
                  (first
                    | (go_at_call 23; refine (sr _ _ (by first | assumption | exact IsD.bel (by assumption) ((Bel.refl _).drew))).mono ?_; rintro e wA ⟨rfl, hDA, hEA⟩
                       have GA : Exc (Own lo hi) w12 wA := Exc.trans (by first | assumption | exact Exc.trans (by assumption) ((Bel.refl _).drew).exc) hEA)
                    | (go_at_call 24; refine (sw _ _ (by first | assumption | exact IsD.bel (by assumption) ((Bel.refl _).drew))).mono ?_; rintro e wB ⟨rfl, hDB, hEB⟩
                       have GB : Exc (Own lo hi) w12 wB := Exc.trans (by first | assumption | exact Exc.trans (by assumption) ((Bel.refl _).drew).exc) hEB))
                all_goals go_wp2_with fail
                all_goals go_meet
                all_goals first
                  | exact ⟨_, _, rfl, rfl, Lib.hid ⟨_, Pl.kept_ab hid12.out.2.2.2.2 _ _ _ _, hDB, GB⟩⟩
                  | exact ⟨_, _, rfl, rfl, Lib.hid ⟨_, Pl.kept_ba hid12.out.2.2.2.2 _ _ _ _, hDA, GA⟩⟩
              case rest =>
                obtain ⟨g, k, rfl, rfl, hK⟩ := hcut
                obtain ⟨S3, hKp, hD3, hX3⟩ := hK.out
                have hwB : Bel W wc := bel_exc hid12.out.2.2.1 hX3 fun k hk => by
                  have := hk.1
                  have := hidA.out.2
                  omega
                have XB := hid12.out.2.1.trans hX3
                obtain ⟨kp1, kp2, kp3, kp5, kp4, kp6⟩ := hKp
                rw [hN2] at kp4
                have rfc := pb_ref (sN : Nat) A.i A0 hD3
                have wdc := fun W1 (g : Bel wc W1) => pb_word (sN : Nat) A.i A0 (hD3.bel g)
                have imB := L1.out.after XB hD3
                have alB := fun W1 (g : Bel wc W1) => pallx imB.1 imB.2 g kp4
                have hbB := (box7 (blk_exc XB L1.out.box L1.out.boxes.2.2.1)).1.2.2.1
                have tnB := fun W1 (g : Bel wc W1) => ten_of ((L1.out.doc.exc (XB.mono fun k hk => Or.inl hk)).bel g) hsN
                have kc : ∀ W1, Bel wc W1 → (W1.cell? ⟨Bq, 2, none⟩ = some (.slice (some ⟨bl, ol, none⟩) P.S cl) ∧ Ten W1 bl (ol + sN * 4) (P.cls sN : Nat) (P.sz sN : Nat) (P.ad sN : Nat) (P.pg sN : Nat)) ∧ W1.cell? ⟨w.heap.size + 1, 1, none⟩ = some (.int .i64 (sN : Nat)) ∧ W1.cell? ⟨w.heap.size + 1, 2, none⟩ = some (.int .i64 A.i) ∧ W1.cell? ⟨w.heap.size + 1, 3, none⟩ = some (.int .i64 A.q) ∧ W1.cell? ⟨w.heap.size + 1, 4, none⟩ = some (.int .u64 (A.u : Nat)) := fun W1 g =>
                  ⟨⟨cell_bel g hbB, tnB _ g⟩, kbs _ (hwB.trans g), (kb _ (hwB.trans g)).2.2.1, (kb _ (hwB.trans g)).2.2.2.1, (kb _ (hwB.trans g)).2.2.2.2.1⟩
                have awB := fun W1 (g : Bel wc W1) => hid.out.2.2.2.2.1 W1 (hwB.trans g)
                have hWB := hid12.out.1.exc hX3
                have l2 := ws_len hWB
                rw [Int.toNat_natCast] at kp6
                generalize P.rfR S3 0 (sN : Nat) A.i = v1 at *
                generalize P.rfE S3 0 (sN : Nat) A.i = j1 at *
                generalize P.wdR S3 0 (sN : Nat) A.i = v2 at *
                generalize P.wdE S3 0 (sN : Nat) A.i = j2 at *
                generalize P.ad sN = a at *
                generalize P.sz sN = Z at *
                generalize P.cls sN = C' at *
                generalize P.pg sN = G at *
                have q1 : IntKind.i64.wrap ((a : Int) + 1) = (a : Int) + 1 := by rw [IntKind.wrap_i64]; omega
                have ha : a ≤ 2097152 := by omega
                have bd2 : N2 ≤ 1000000 := by
                  have := (mm.flat_bd hid12.out.2.2.2.2.full hid12.out.2.2.2.2.reg.1).2
                  omega
                have hidz := Lib.hid (And.intro kc (And.intro awB (And.intro hWB (And.intro l2 (And.intro kp4 (And.intro kp5 kp6))))))
                have kS : (sN : Int) < (P.S : Int) := by omega
                have kS0 : (0 : Int) ≤ (sN : Int) := by omega
                obtain ⟨_, a1, a2, a3, a4⟩ := kc _ (Bel.refl _)
                have hS2 := Lib.hid hN2
                (try clear hD3)
                (try clear hX3)
                (try clear hwB)
                (try clear XB)
                (try clear imB)
                (try clear kc)
                (try clear awB)
                (try clear hWB)
                (try clear l2)
                (try clear kp4)
                (try clear kp5)
                (try clear kp6)
                (try clear hbB)
                (try clear tnB)
                (try clear hK)
                (try clear sr)
                (try clear sw)
                (try clear kp)
                (try clear G0)
                (try clear hD12)
                (try clear X12)
                (try clear hN2)
                (try clear z64)
                (try clear c7)
                (try clear aw0)
                (try clear pW)
                (try clear pS)
                (try clear kb)
                (try clear kbs)
                (try clear hw)
                (try clear lims)
                (try clear hN)
                (try clear bdN)
                (try clear hlo)
                by_cases g0 : g = 0
                · as_aux_lemma =>
                    subst g0
                    obtain ⟨rfl, rfl⟩ := kp1 rfl
                    have k0 : ¬ k = 0 := fun x => kp3 ⟨rfl, x⟩
                    have d1 : decide (k = 0) = false := decide_eq_false k0
                    have ib := hidz.out.2.2.2.2.2.1 (Or.inl rfl)
                    have q2 : IntKind.i64.wrap ((a : Int) + 1 + A.i) = (a : Int) + 1 + A.i := by rw [IntKind.wrap_i64]; omega
                    clear kp1 kp2 kp3 ib
                    go_wp2_with (first
                      | (go_at_call 25; refine rfc.mono ?_; rintro e w13 ⟨rfl, h13⟩; obtain ⟨_, a1, a2, a3, a4⟩ := hidz.out.1 _ h13)
                      | (go_at_call 26; refine (wdc _ h13).mono ?_; rintro e w14 ⟨rfl, h14⟩; have g14 := h13.trans h14; obtain ⟨_, a1, a2, a3, a4⟩ := hidz.out.1 _ g14)
                      | (go_at_call 14; refine (alB _ g14).mono ?_; rintro e w15 ⟨⟨p15, c15, rfl, hW15⟩, h15⟩; have g15 := Lib.hid (g14.trans h15); have hW15' := Lib.hid hW15; clear hW15 g14 h15 h14 h13))
                    clear rfc wdc alB a1 a2 a3 a4
                    go_loopw [26] (fun i wr => ∃ m : Nat, m ≤ N2 ∧ i = .int .i64 (m : Nat) ∧ Bel w15 wr) (fun i _ => N2 - (intOf i).toNat)
                    case atStart => exact ⟨0, Nat.zero_le _, rfl, Bel.refl _⟩
                    case round =>
                      obtain ⟨m, hm, rfl, hg⟩ := hrel
                      have gB := g15.out.trans hg
                      by_cases cm : m < N2
                      · have kI : (m : Int) < (N2 : Int) := by omega
                        have kz : (0 : Int) ≤ (m : Int) := by omega
                        have l2 := hidz.out.2.2.2.1
                        obtain ⟨u1, hu1⟩ : ∃ u, S2.flatten[m]? = some u := ⟨_, List.getElem?_eq_getElem (by omega)⟩
                        obtain ⟨rb1, ro1, rfl, rc1⟩ := ws_at (hidz.out.2.2.1.bel gB) hu1
                        have k6 := hidz.out.2.2.2.2.2.2 m
                        obtain ⟨⟨b2, t0, t1, t2, t3⟩, a1, a2, a3, a4⟩ := hidz.out.1 _ gB
                        have gBi := Lib.hid gB
                        clear l2 gB
                        by_cases y : (m : Int) = (a : Int) + 1 + A.i
                        · have y1 : (a : Int) + 1 + A.i = (m : Int) := y.symm
                          have hl3 := hidz.out.2.2.2.2.1
                          obtain ⟨u2, hu2⟩ : ∃ u, S3.flatten[m]? = some u := ⟨_, List.getElem?_eq_getElem (by omega)⟩
                          obtain ⟨rb2, ro2, rfl, rc2⟩ := ws_at (hW15'.out.bel hg) hu2
                          have yi := Lib.hid y
                          clear k6 hu1 hu2 hl3 y
                          by_cases yu : u1 = u2
                          · subst yu
                            go_upto_region 36 with fail
                            go_quiet (fail)
                            go_upto_region 37 with fail
                            go_quiet (fail)
                            go_wp2_with fail
                            go_roundw
                            case rel => exact ⟨m + 1, by omega, by go_num, by first | exact below_drewN hg _ | exact below_drewN (below_drewN hg _) _⟩
                            case measure => simp only [intOf]; omega
                          · have yu1 : decide ((u1 : Int) = (u2 : Int)) = false := decide_eq_false (by omega)
                            have yu2 : decide (u1 = u2) = false := decide_eq_false yu
                            have yu3 : ((u1 : Int) == (u2 : Int)) = false := by rw [beq_eq_false_iff_ne]; omega
                            have yu4 : (u1 == u2) = false := by rw [beq_eq_false_iff_ne]; omega
                            have yu5 : ((u1 : Int) != (u2 : Int)) = true := by unfold bne; rw [yu3]; rfl
                            have yu6 : ¬ ((u1 : Int) = (u2 : Int)) := by omega
                            have yu7 : decide (¬ ((u1 : Int) = (u2 : Int))) = true := decide_eq_true yu6
                            go_upto_region 36 with fail
                            go_quiet (fail)
                            go_upto_region 37 with fail
                            go_quiet (fail)
                            go_wp2_with fail
                            go_roundw
                            case rel => exact ⟨m + 1, by omega, by go_num, by first | exact below_drewN hg _ | exact below_drewN (below_drewN hg _) _⟩
                            case measure => simp only [intOf]; omega
                        · have y1 : decide ((m : Int) = (a : Int) + 1 + A.i) = false := decide_eq_false y
                          have k6 := k6.resolve_right fun x => y x.2
                          obtain ⟨rb2, ro2, rfl, rc2⟩ := ws_at (hW15'.out.bel hg) (k6.trans hu1)
                          clear k6 hu1
                          go_upto_region 36 with fail
                          go_quiet (fail)
                          go_upto_region 37 with fail
                          go_quiet (fail)
                          go_wp2_with fail
                          go_roundw
                          case rel => exact ⟨m + 1, by omega, by go_num, by first | exact below_drewN hg _ | exact below_drewN (below_drewN hg _) _⟩
                          case measure => simp only [intOf]; omega
                      · have kI : decide ((m : Int) < (N2 : Int)) = false := decide_eq_false (by omega)
                        have kI2 : decide (m < N2) = false := decide_eq_false cm
                        have awz := hidz.out.2.1 _ gB
                        go_wp2_with (go_at_call 10; refine awz.mono ?_; rintro e w16 ⟨rfl, h16⟩)
                        go_ret
                        exact ⟨rfl, h16⟩
                · by_cases k0 : k = 0
                  · as_aux_lemma =>
                      subst k0
                      obtain ⟨rfl, rfl⟩ := kp2 rfl
                      have d0 : decide (g = 0) = false := decide_eq_false g0
                      have ib := hidz.out.2.2.2.2.2.1 (Or.inr rfl)
                      have q2 : IntKind.i64.wrap ((a : Int) + 1 + A.i) = (a : Int) + 1 + A.i := by rw [IntKind.wrap_i64]; omega
                      clear kp1 kp2 kp3 ib
                      go_wp2_with (first
                        | (go_at_call 25; refine rfc.mono ?_; rintro e w13 ⟨rfl, h13⟩; obtain ⟨_, a1, a2, a3, a4⟩ := hidz.out.1 _ h13)
                        | (go_at_call 26; refine (wdc _ h13).mono ?_; rintro e w14 ⟨rfl, h14⟩; have g14 := h13.trans h14; obtain ⟨_, a1, a2, a3, a4⟩ := hidz.out.1 _ g14)
                        | (go_at_call 14; refine (alB _ g14).mono ?_; rintro e w15 ⟨⟨p15, c15, rfl, hW15⟩, h15⟩; have g15 := Lib.hid (g14.trans h15); have hW15' := Lib.hid hW15; clear hW15 g14 h15 h14 h13))
                      clear rfc wdc alB a1 a2 a3 a4
                      go_loopw [26] (fun i wr => ∃ m : Nat, m ≤ N2 ∧ i = .int .i64 (m : Nat) ∧ Bel w15 wr) (fun i _ => N2 - (intOf i).toNat)
                      case atStart => exact ⟨0, Nat.zero_le _, rfl, Bel.refl _⟩
                      case round =>
                        obtain ⟨m, hm, rfl, hg⟩ := hrel
                        have gB := g15.out.trans hg
                        by_cases cm : m < N2
                        · have kI : (m : Int) < (N2 : Int) := by omega
                          have kz : (0 : Int) ≤ (m : Int) := by omega
                          have l2 := hidz.out.2.2.2.1
                          obtain ⟨u1, hu1⟩ : ∃ u, S2.flatten[m]? = some u := ⟨_, List.getElem?_eq_getElem (by omega)⟩
                          obtain ⟨rb1, ro1, rfl, rc1⟩ := ws_at (hidz.out.2.2.1.bel gB) hu1
                          have k6 := hidz.out.2.2.2.2.2.2 m
                          obtain ⟨⟨b2, t0, t1, t2, t3⟩, a1, a2, a3, a4⟩ := hidz.out.1 _ gB
                          have gBi := Lib.hid gB
                          clear l2 gB
                          by_cases y : (m : Int) = (a : Int) + 1 + A.i
                          · have y1 : (a : Int) + 1 + A.i = (m : Int) := y.symm
                            have hl3 := hidz.out.2.2.2.2.1
                            obtain ⟨u2, hu2⟩ : ∃ u, S3.flatten[m]? = some u := ⟨_, List.getElem?_eq_getElem (by omega)⟩
                            obtain ⟨rb2, ro2, rfl, rc2⟩ := ws_at (hW15'.out.bel hg) hu2
                            have yi := Lib.hid y
                            clear k6 hu1 hu2 hl3 y
                            by_cases yu : u1 = u2
                            · subst yu
                              go_upto_region 36 with fail
                              go_quiet (fail)
                              go_upto_region 37 with fail
                              go_quiet (fail)
                              go_wp2_with fail
                              go_roundw
                              case rel => exact ⟨m + 1, by omega, by go_num, by first | exact below_drewN hg _ | exact below_drewN (below_drewN hg _) _⟩
                              case measure => simp only [intOf]; omega
                            · have yu1 : decide ((u1 : Int) = (u2 : Int)) = false := decide_eq_false (by omega)
                              have yu2 : decide (u1 = u2) = false := decide_eq_false yu
                              have yu3 : ((u1 : Int) == (u2 : Int)) = false := by rw [beq_eq_false_iff_ne]; omega
                              have yu4 : (u1 == u2) = false := by rw [beq_eq_false_iff_ne]; omega
                              have yu5 : ((u1 : Int) != (u2 : Int)) = true := by unfold bne; rw [yu3]; rfl
                              have yu6 : ¬ ((u1 : Int) = (u2 : Int)) := by omega
                              have yu7 : decide (¬ ((u1 : Int) = (u2 : Int))) = true := decide_eq_true yu6
                              go_upto_region 36 with fail
                              go_quiet (fail)
                              go_upto_region 37 with fail
                              go_quiet (fail)
                              go_wp2_with fail
                              go_roundw
                              case rel => exact ⟨m + 1, by omega, by go_num, by first | exact below_drewN hg _ | exact below_drewN (below_drewN hg _) _⟩
                              case measure => simp only [intOf]; omega
                          · have y1 : decide ((m : Int) = (a : Int) + 1 + A.i) = false := decide_eq_false y
                            have k6 := k6.resolve_right fun x => y x.2
                            obtain ⟨rb2, ro2, rfl, rc2⟩ := ws_at (hW15'.out.bel hg) (k6.trans hu1)
                            clear k6 hu1
                            go_upto_region 36 with fail
                            go_quiet (fail)
                            go_upto_region 37 with fail
                            go_quiet (fail)
                            go_wp2_with fail
                            go_roundw
                            case rel => exact ⟨m + 1, by omega, by go_num, by first | exact below_drewN hg _ | exact below_drewN (below_drewN hg _) _⟩
                            case measure => simp only [intOf]; omega
                        · have kI : decide ((m : Int) < (N2 : Int)) = false := decide_eq_false (by omega)
                          have kI2 : decide (m < N2) = false := decide_eq_false cm
                          have awz := hidz.out.2.1 _ gB
                          go_wp2_with (go_at_call 10; refine awz.mono ?_; rintro e w16 ⟨rfl, h16⟩)
                          go_ret
                          exact ⟨rfl, h16⟩
                  · as_aux_lemma =>
                      have d0 : decide (g = 0) = false := decide_eq_false g0
                      have d1 : decide (k = 0) = false := decide_eq_false k0
                      clear kp1 kp2 kp3
                      go_wp2_with (first
                        | (go_at_call 25; refine rfc.mono ?_; rintro e w13 ⟨rfl, h13⟩; obtain ⟨_, a1, a2, a3, a4⟩ := hidz.out.1 _ h13)
                        | (go_at_call 26; refine (wdc _ h13).mono ?_; rintro e w14 ⟨rfl, h14⟩; have g14 := h13.trans h14; obtain ⟨_, a1, a2, a3, a4⟩ := hidz.out.1 _ g14)
                        | (go_at_call 14; refine (alB _ g14).mono ?_; rintro e w15 ⟨⟨p15, c15, rfl, hW15⟩, h15⟩; have g15 := Lib.hid (g14.trans h15); have hW15' := Lib.hid hW15; clear hW15 g14 h15 h14 h13))
                      clear rfc wdc alB a1 a2 a3 a4
                      go_loopw [26] (fun i wr => ∃ m : Nat, m ≤ N2 ∧ i = .int .i64 (m : Nat) ∧ Bel w15 wr) (fun i _ => N2 - (intOf i).toNat)
                      case atStart => exact ⟨0, Nat.zero_le _, rfl, Bel.refl _⟩
                      case round =>
                        obtain ⟨m, hm, rfl, hg⟩ := hrel
                        have gB := g15.out.trans hg
                        by_cases cm : m < N2
                        · have kI : (m : Int) < (N2 : Int) := by omega
                          have kz : (0 : Int) ≤ (m : Int) := by omega
                          have l2 := hidz.out.2.2.2.1
                          obtain ⟨u1, hu1⟩ : ∃ u, S2.flatten[m]? = some u := ⟨_, List.getElem?_eq_getElem (by omega)⟩
                          obtain ⟨rb1, ro1, rfl, rc1⟩ := ws_at (hidz.out.2.2.1.bel gB) hu1
                          have k6 := hidz.out.2.2.2.2.2.2 m
                          obtain ⟨⟨b2, t0, t1, t2, t3⟩, a1, a2, a3, a4⟩ := hidz.out.1 _ gB
                          have gBi := Lib.hid gB
                          clear l2 gB
                          have k6 := k6.resolve_right fun x => x.1.elim g0 k0
                          obtain ⟨rb2, ro2, rfl, rc2⟩ := ws_at (hW15'.out.bel hg) (k6.trans hu1)
                          clear k6 hu1
                          go_upto_region 36 with fail
                          go_quiet (fail)
                          go_upto_region 37 with fail
                          go_quiet (fail)
                          go_wp2_with fail
                          go_roundw
                          case rel => exact ⟨m + 1, by omega, by go_num, by first | exact below_drewN hg _ | exact below_drewN (below_drewN hg _) _⟩
                          case measure => simp only [intOf]; omega
                        · have kI : decide ((m : Int) < (N2 : Int)) = false := decide_eq_false (by omega)
                          have kI2 : decide (m < N2) = false := decide_eq_false cm
                          have awz := hidz.out.2.1 _ gB
                          go_wp2_with (go_at_call 10; refine awz.mono ?_; rintro e w16 ⟨rfl, h16⟩)
                          go_ret
                          exact ⟨rfl, h16⟩
  · have mk := made_no _ c 0 W (hI.bel hb) (by by_cases x : c.great11; exact Or.inl x; exact Or.inr fun y => ok ⟨x, y⟩)
    rw [show ((0 : Nat) : Int) = 0 from rfl] at mk
    clear hI ok hA htb m0 m1 kk hl hlW
    go_enter Tryz.func5, Tryz.ntmps5
    go_upto_region 1 with fail
    (try rw [hW])
    clear hW
    go_wp2_with (first
      | (go_at_call 9; refine mk.mono ?_; rintro e w4 ⟨rfl, h4⟩; have aw4 := aw _ (h4.alloc (.cells #[.slice none 0 0, .int .i64 0, .slice none 0 0, .slice none 0 0, .slice none 0 0, .int .i64 0, .slice none 0 0] 36)))
      | (go_at_call 10; refine aw4.mono ?_; rintro e w5 ⟨rfl, h5⟩))
    go_ret
    exact ⟨rfl, h5⟩

/-! The row. -/
set_option maxRecDepth 100000 in
theorem lifted (os : Os) (started : os.Started) (H : Type) (enc : TypeId × Value → H) :
    ReturnsInHanded {} Tryz.checked os 5 .any (fun w args => (Rows.bodyFreshSpec.pre enc Tryz.prog Tryz.f5 [] false w args ∧ laidMetH Tryz.prog theLaid w) ∧ sizedMet enc Tryz.prog Tryz.f5 (OpenSpec.ofChange Rows.bodyFreshSpec) false w args)
      (Rows.bodyFreshSpec.post enc Tryz.prog Tryz.f5 false true false false) := by
  refine lift_laid (C := Tryz.checked) (X := Met) own started (by kernel_rfl) Tryz.func5 (fun _ _ h => Met.heap h) laid rowed full (by rw [Tryz.params5]; decide) rfl (by kernel_rfl) Tryz.underlying4
    (fun ds h => by rw [Tryz.params5] at h; match ds, h with | [_, _, _], _ => rfl)
    (ChangeSpec.witness_shaped (enc := enc) (C := Tryz.checked) (os := os) (X := fun w _ => Met w) false (World.doorLaid Tryz.prog 400 os) #[.agg #[.slice none 0 0, .int .i64 0, .slice none 0 0, .int .i64 0, .int .i64 0, .int .i64 0], .slice none 0 0, .agg #[.int .u8 0, .int .i64 0, .int .i64 0, .int .i64 0, .int .u64 0, .int .i64 0, .int .i64 0, .int .i64 0]] 8 rfl (World.shaped_of_RefB (by kernel_rfl) (by kernel_rfl)) (by kernel_rfl) (by kernel_rfl) (by kernel_rfl) (door_met os _)) ?_
  intro W base args ds p hval hAll hM
  have hT := hM.tab
  change ∀ (j : Nat) t v, Tryz.f5.params[j]? = some t → args[j]? = some v → Value.okWide Tryz.prog W .any base t v at hval
  change DataW.TrodAll enc Tryz.prog W 0 (fun _ => true) true Tryz.f5.params.toList args.toList ds p at hAll
  rw [Tryz.params5] at hAll hval
  obtain ⟨v0, vs0, d0, ds0, p0, q0, hargs, rfl, rfl, h0, r0⟩ := trodAll_cons hAll
  obtain ⟨v1, vs1, d1, ds1, p1, q1, hargs1, rfl, rfl, h1, r1⟩ := trodAll_cons r0
  obtain ⟨v2, vs2, d2, ds2, p2, q2, hargs2, rfl, rfl, h2, r2⟩ := trodAll_cons r1
  obtain ⟨rfl, rfl, rfl⟩ := trodAll_nil r2
  subst hargs2
  subst hargs1
  obtain rfl : args = #[v0, v1, v2] := by cases args; simp_all
  obtain ⟨c, hI, _⟩ := get_cf (hval 0 25 v0 rfl rfl) h0
  obtain ⟨l, hl, hlb⟩ := get_words (hval 1 49 v1 rfl rfl) h1
  obtain ⟨A, hA, rfl⟩ := get_act (hval 2 46 v2 rfl rfl) h2
  exact walk v0 c v1 l A W hI hl hlb hA hT

theorem over : Rows.bodyFreshRow.holds Tryz.pinned (OpenSpec.ofChange Rows.bodyFreshSpec) :=
  OpenClaim.holds_of_wide 5 Tryz.f5 rfl rfl rfl rfl rfl rfl rfl ⟨rfl, rfl, rfl, rfl, rfl⟩ rfl rfl rfl rfl rfl (by kernel_rfl) Tryz.func5 (by kernel_rfl)
    (of_decide_eq_true (by kernel_rfl)) (by unfold Func.isWrapper; first | (rw [if_pos (by decide +kernel)]; kernel_rfl) | (rw [if_neg (by decide +kernel)]; exact ⟨rfl, rfl⟩))
    (fun os started H enc _ => lifted os started H enc)

/-- The statement. -/
theorem proved : Rows.BodyFreshCardSaid :=
  Claim7.holds_tied_plain_at .later [] [.data] true (true, "4c33b7968f82caf130c1decf41a5dcf18a2cc1dc4bb0104c99295747923900d8") true
    over (fun _ h => by cases h) (by kernel_rfl) (fun _ h => by cases h) bodyFresh_row_tie rfl ⟨rfl, rfl⟩ (by kernel_rfl) rfl
    (fun f fn hf hfn => by
      obtain rfl : f = 5 := Option.some.inj ((show Tryz.prog.funcNamed "commonage/commonagelaw11.BodyFresh" = some 5 by kernel_rfl).symm.trans hf) |>.symm
      obtain rfl : fn = Tryz.f5 := (Option.some.inj (Tryz.func5.symm.trans hfn)).symm
      exact ⟨by kernel_rfl, fun j t ht => by
        rw [Tryz.params5] at ht
        have hm : t ∈ [25, 49, 46] := by simpa using Array.mem_of_getElem? ht
        have hall : ([25, 49, 46].all fun u => !Tryz.prog.wantsStandIn u) = true := by kernel_rfl
        exact (show Tryz.prog.wantsStandIn t = false by simpa using List.all_eq_true.1 hall t hm)⟩)
    (by kernel_rfl)
#print axioms proved
end Go.Proofs.YthokalcibjjihaaGreatDoor.bodyFresh
