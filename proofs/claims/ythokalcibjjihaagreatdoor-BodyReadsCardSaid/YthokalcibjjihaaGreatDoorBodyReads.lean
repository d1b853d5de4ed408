/- What lies in a memory is read as the document's body reads it; for every input; the table of the head's widths holds what the program lays in it (the card ties that), no other condition. -/
import Derived.Test.YthokalcibjjihaaGreatDoorDq
import Derived.Test.YthokalcibjjihaaGreatDoorOpn
import Derived.Deep.CutBlock
namespace Go.Proofs.YthokalcibjjihaaGreatDoor.bodyReads
open Go.ChangeShapes Go.WideShapes Go.ChangeAt Go.RowKit Go.Joins Go.Deep hd
set_option linter.unusedVariables false

set_option maxRecDepth 100000 in
set_option maxHeartbeats 8000000 in
theorem walk (v : Value) (c : Cf) (lv : Value) (l : List Nat) (A : Ac) (w : World) (h : IsCf w v c) (hl : mm.Ws (fun _ => False) w lv l) (hlb : ∀ u ∈ l, u < 18446744073709551616) (hA : A.Ok) (ht : TabW w) :
    Calls Tryz.prog 4 #[v, lv, .agg #[.int .u8 (A.wh : Nat), .int .i64 A.s, .int .i64 A.i, .int .i64 A.q, .int .u64 (A.u : Nat), .int .i64 A.c, .int .i64 A.r, .int .i64 A.n]] w fun e w' => e = .returned (.bool true) ∧ Below w.heap.size w w' := by
  have hI := h
  obtain ⟨vc, vt, rfl, hN, hT⟩ := h
  obtain ⟨p1, c1, rfl, _⟩ := nums_slice hN
  obtain ⟨p2, c2, rfl, _⟩ := tens_slice hT
  obtain ⟨pl0, n, cl0, rfl, -, nb⟩ := words_slice hl
  clear hN hT
  obtain ⟨m0, m1⟩ := two w (.cells #[.slice p1 c.n c1, .int .i64 c.page, .slice p2 c.m c2, .int .i64 c.wk, .int .i64 c.gr, .int .i64 c.gn] 25) (.cells #[.int .u8 (A.wh : Nat), .int .i64 A.s, .int .i64 A.i, .int .i64 A.q, .int .u64 (A.u : Nat), .int .i64 A.c, .int .i64 A.r, .int .i64 A.n] 46)
  have hb : Bel w _ := bel_two w (.cells #[.slice p1 c.n c1, .int .i64 c.page, .slice p2 c.m c2, .int .i64 c.wk, .int .i64 c.gr, .int .i64 c.gn] 25) (.cells #[.int .u8 (A.wh : Nat), .int .i64 A.s, .int .i64 A.i, .int .i64 A.q, .int .u64 (A.u : Nat), .int .i64 A.c, .int .i64 A.r, .int .i64 A.n] 46)
  obtain ⟨W, hW⟩ : ∃ W, (w.alloc (.cells #[.slice p1 c.n c1, .int .i64 c.page, .slice p2 c.m c2, .int .i64 c.wk, .int .i64 c.gr, .int .i64 c.gn] 25)).alloc (.cells #[.int .u8 (A.wh : Nat), .int .i64 A.s, .int .i64 A.i, .int .i64 A.q, .int .u64 (A.u : Nat), .int .i64 A.c, .int .i64 A.r, .int .i64 A.n] 46) = W := ⟨_, rfl⟩
  rw [hW] at m0 m1 hb
  have htb := ht.bel hb
  have aw := fun w1 (g : Bel W w1) => (awake_any w1 (htb.bel g)).mono fun e w' ⟨x, y⟩ => (⟨x, hb.trans (g.trans y)⟩ : _ ∧ Bel w w')
  have kk := fun w1 (g : Bel W w1) => And.intro (cfb (heap_bel g m0)) (box8 (heap_bel g m1))
  obtain ⟨⟨k0, k1, k2, k3, k4, k5⟩, a0, a1, a2, a3, a4, a5, a6, a7⟩ := kk _ (Bel.refl _)
  have hlW := hl.bel hb
  by_cases ok : ¬ c.great11 ∧ c.ok
  · have mk := made_yes _ c 0 W (hI.bel hb) ok.1 ok.2 (by omega) htb
    rw [show ((0 : Nat) : Int) = 0 from rfl, Nat.zero_mod] at mk
    have hid := Lib.hid (And.intro hlW (And.intro hlb (And.intro hA (And.intro kk (And.intro aw (And.intro hb nb))))))
    clear hI ok hA htb ht m0 m1 kk hb aw hl hlW hlb
    generalize c.pl 0 = P at *
    generalize c.zeros = R at *
    go_enter Tryz.func4, Tryz.ntmps4
    go_upto_region 1 with fail
    (try rw [hW])
    clear hW
    go_upto_block 0 with (go_at_call 9; refine mk.mono ?_; rintro e w4 ⟨⟨pa, pq, q, lo, hi, top, rfl, hM⟩, hg4⟩
                          obtain ⟨pr4, cr4, bl4, ol4, cl4, pf4, cf4, pm4, cm4, p4, cap4, rfl, _, _⟩ := shape0 hM.b
                          have L0 := Lp.start hM
                          have lo4 := hM.lo
                          have hg5 := hg4.alloc (.cells #[.slice pr4 R.length cr4, .int .i64 0, .slice (some ⟨bl4, ol4, none⟩) P.S cl4, .slice pf4 P.T cf4, .slice pm4 P.T cm4, .int .i64 (P.W : Nat), .slice p4 P.n cap4] 36)
                          clear hM mk)
    obtain ⟨w5, hw5⟩ : ∃ w5, w4.alloc (.cells #[.slice pr4 R.length cr4, .int .i64 0, .slice (some ⟨bl4, ol4, none⟩) P.S cl4, .slice pf4 P.T cf4, .slice pm4 P.T cm4, .int .i64 (P.W : Nat), .slice p4 P.n cap4] 36) = w5 := ⟨_, rfl⟩
    rw [hw5] at L0 hg5
    (try rw [hw5])
    clear hw5
    have hidA := Lib.hid (And.intro hg5 lo4)
    clear hg5 lo4 hg4
    generalize w4.heap.size = Bq at *
    go_cut [10] from 23 to 51 (fun _ wx => ∃ (S : List (List Nat)) (x0 x1 x2 x3 x4 x5 x6 : Value), RowKit.Hid (Lp w5 wx (.pointer (some pa)) (.pointer (some pq)) lo hi top Bq S 0 P (.agg #[x0, x1, x2, x3, x4, x5, x6]) x0 x1 x2 x3 x4 x5 x6))
    case first =>
      go_wp2_with fail
      go_loopw [10] (fun i wr => ∃ (k : Nat) (S : List (List Nat)) (x0 x1 x2 x3 x4 x5 x6 : Value), k ≤ n ∧ i = .int .i64 (k : Nat) ∧ RowKit.Hid (Lp w5 wr (.pointer (some pa)) (.pointer (some pq)) lo hi top Bq S 0 P (.agg #[x0, x1, x2, x3, x4, x5, x6]) x0 x1 x2 x3 x4 x5 x6)) (fun i _ => n - (intOf i).toNat)
      case atStart => exact ⟨0, _, _, _, _, _, _, _, _, Nat.zero_le _, rfl, Lib.hid L0⟩
      case round =>
        clear L0
        obtain ⟨k, S, x0, x1, x2, x3, x4, x5, x6, hk, rfl, hL⟩ := hrel
        obtain ⟨pr, cr, bl, ol, cl, pf, cf, pm, cm, p, cap, rfl, rfl, rfl, rfl, rfl, rfl, rfl⟩ := hL.out.seven0
        have hw : Bel W wr := hL.out.below hidA.out.1 hidA.out.2
        obtain ⟨tw, tq, hNB, ll, ht'⟩ := hL.out.boxes
        obtain ⟨⟨b0, b1, b2, b3, b4, b5, b6⟩, _⟩ := box7 hL.out.box
        by_cases ckk : k < n ∧ k < 200
        · obtain ⟨ab, aoff, u, rfl, hu, hbl, hac⟩ := word_at hid.out.1 ckk.1
          have u64 := hid.out.2.1 u (List.mem_of_getElem? hu)
          have kI : (k : Int) < (n : Int) := by omega
          have kz : (0 : Int) ≤ (k : Int) := by omega
          have kf : (k : Int) < 200 := by omega
          have hNb : ¬ Own lo hi ab := fun x => by have := x.1; have := hidA.out.2; omega
          have x0 := cell_bel hw hac
          have ps := mm.pm_store (.pointer (some pq)) lo hi S 0 (k : Nat) u wr hL.out.im.1 hL.out.im.2
          have rs0 := fun W1 (rq : mm.IsRm (fun k => Own lo hi k ∨ k = Bq) W1 (.agg #[.slice pr S.length cr]) S) (ht : Till (fun k => Own lo hi k ∨ k = Bq) W1) => mm.rstore_any (fun k => Own lo hi k ∨ k = Bq) (.agg #[.slice pr S.length cr]) S 0 (k : Nat) u W1 rq ht hL.out.mem.ok.full.ok
          have ok' := hL.out.mem.ok.store0 u64 (k : Nat)
          have hid2 := Lib.hid (And.intro hNB (And.intro hNb (And.intro hL.out.mem.ok.full (And.intro ok' hL.out.till))))
          clear hw hNB hNb tw tq ll ht' ok' u64 hu hac nb
          generalize storeR S 0 (k : Nat) u = S2 at *
          go_upto_region 8 with (go_at_call 16; refine ps.mono ?_; rintro e w6 ⟨rfl, hm6, hE6⟩
                                 have x0 := cell_exc hE6 x0 hid2.out.2.1
                                 have b6' := blk_exc hE6 hL.out.box hid2.out.1
                                 have rq : mm.IsRm (fun k => Own lo hi k ∨ k = Bq) w6.drew _ _ := (hL.out.ramx.exc (hE6.mono fun k hk => Or.inl hk)).bel ((Bel.refl w6).drew)
                                 have rs := rs0 w6.drew rq (fun k hk => Nat.lt_of_lt_of_le (hid2.out.2.2.2.2 k hk) (Nat.le_trans hE6.size ((Bel.refl w6).drew).size))
                                 obtain ⟨⟨b0, b1, b2, b3, b4, b5, b6⟩, _⟩ := box7 b6'
                                 have hid3 := Lib.hid (And.intro hm6 (And.intro hE6 b6'))
                                 clear hm6 hE6 b6' rq)
          clear ps rs0
          go_region_law (first
            | (go_simp
               go_at_call 17; (with_reducible refine rs.mono ?_); rintro e w7 ⟨⟨q7, rfl, hq7⟩, hg7⟩
               obtain ⟨rv7, rfl, hr7⟩ := hq7
               obtain ⟨p7, cap7, rfl, bd7⟩ := hr7.slice
               have g7 : Bel w6 w7 := Bel.trans ((Bel.refl w6).drew) hg7
               have hz7 := heap_bel g7 hid3.out.2.2
               have dd := box7 hz7
               obtain ⟨⟨z0, z1, z2, z3, z4, z5, z6⟩, f0, f1, f2, f3, f4, f5, f6⟩ := dd
               obtain ⟨W8, hW8, hbx8, hE8⟩ := zero_store hz7 (.slice p7 S2.length cap7)
               have hid4 := Lib.hid (And.intro hr7 (And.intro g7 (And.intro hbx8 hE8)))
               clear hr7 g7 hg7 hbx8 hE8 hz7))
          all_goals go_wp2_with fail
          all_goals
            obtain ⟨hr7, g7, hbx8, hE8⟩ := hid4.out
            exact ⟨⟨k + 1, _, _, _, _, _, _, _, _, by omega, by go_num, Lib.hid (hL.out.poke hid3.out.2.1 hid3.out.1 hid2.out.2.2.2.1 g7 ⟨_, rfl, hr7⟩ hbx8 hE8)⟩, by simp only [intOf]; omega⟩
        · by_cases ckn : k < n
          · have kI : (k : Int) < (n : Int) := by omega
            have kf : decide ((k : Int) < 200) = false := decide_eq_false (by omega)
            have kf2 : decide (k < 200) = false := decide_eq_false (by omega)
            go_wp2_with fail
            go_meet
            exact ⟨_, _, _, _, _, _, _, _, hL⟩
          · have kI : decide ((k : Int) < (n : Int)) = false := decide_eq_false (by omega)
            have kI2 : decide (k < n) = false := decide_eq_false ckn
            go_wp2_with fail
            go_meet
            exact ⟨_, _, _, _, _, _, _, _, hL⟩
    case rest =>
      clear L0
      obtain ⟨S, x0, x1, x2, x3, x4, x5, x6, hL⟩ := hcut
      obtain ⟨pr, cr, bl, ol, cl, pf, cf, pm, cm, p, cap, rfl, rfl, rfl, rfl, rfl, rfl, rfl⟩ := hL.out.seven0
      have hw : Bel W wc := hL.out.below hidA.out.1 hidA.out.2
      obtain ⟨tw, tq, hNB, ll, ht'⟩ := hL.out.boxes
      obtain ⟨⟨b0, b1, b2, b3, b4, b5, b6⟩, _⟩ := box7 hL.out.box
      have kb : ∀ W1, Bel wc W1 → (W1.cell? ⟨Bq, 0, none⟩ = some (.slice pr S.length cr) ∧ W1.cell? ⟨Bq, 1, none⟩ = some (.int .i64 0) ∧ W1.cell? ⟨Bq, 2, none⟩ = some (.slice (some ⟨bl, ol, none⟩) P.S cl) ∧ W1.cell? ⟨Bq, 3, none⟩ = some (.slice pf P.T cf) ∧ W1.cell? ⟨Bq, 4, none⟩ = some (.slice pm P.T cm) ∧ W1.cell? ⟨Bq, 5, none⟩ = some (.int .i64 (P.W : Nat)) ∧ W1.cell? ⟨Bq, 6, none⟩ = some (.slice p P.n cap)) ∧ (W1.cell? ⟨w.heap.size + 1, 0, none⟩ = some (.int .u8 (A.wh : Nat)) ∧ W1.cell? ⟨w.heap.size + 1, 1, none⟩ = some (.int .i64 A.s) ∧ W1.cell? ⟨w.heap.size + 1, 2, none⟩ = some (.int .i64 A.i) ∧ W1.cell? ⟨w.heap.size + 1, 3, none⟩ = some (.int .i64 A.q) ∧ W1.cell? ⟨w.heap.size + 1, 4, none⟩ = some (.int .u64 (A.u : Nat)) ∧ W1.cell? ⟨w.heap.size + 1, 5, none⟩ = some (.int .i64 A.c) ∧ W1.cell? ⟨w.heap.size + 1, 6, none⟩ = some (.int .i64 A.r) ∧ W1.cell? ⟨w.heap.size + 1, 7, none⟩ = some (.int .i64 A.n)) := fun W1 g =>
        ⟨⟨cell_bel g b0, cell_bel g b1, cell_bel g b2, cell_bel g b3, cell_bel g b4, cell_bel g b5, cell_bel g b6⟩, (hid.out.2.2.2.1 W1 (hw.trans g)).2⟩
      have td := fun W1 (g : Bel wc W1) (k : Nat) (hk : k < 60) => (told_any (.agg #[.slice pr S.length cr, .int .i64 0, .slice (some ⟨bl, ol, none⟩) P.S cl, .slice pf P.T cf, .slice pm P.T cm, .int .i64 (P.W : Nat), .slice p P.n cap]) (k : Nat) ⟨by omega, by omega⟩ (hL.out.mem.bel g) (hL.out.doc.bel g)).mono fun e w' ⟨x, y⟩ => (⟨x, g.trans y⟩ : _ ∧ Bel wc w')
      have dz := fun W1 (g : Bel wc W1) => does_any (X := fun q => Own lo hi q ∨ q = Bq) (.agg #[.slice pr S.length cr, .int .i64 0, .slice (some ⟨bl, ol, none⟩) P.S cl, .slice pf P.T cf, .slice pm P.T cm, .int .i64 (P.W : Nat), .slice p P.n cap]) A hid.out.2.2.1 (hL.out.mem.bel g) (hL.out.doc.bel g) (fun q hq => Nat.lt_of_lt_of_le (hL.out.till q hq) g.size) (fun q hq => Or.inl hq)
      have hidB := Lib.hid (And.intro hw (And.intro kb hid.out.2.2.2.2.2.1))
      clear hw kb tw tq hNB ll ht'
      go_upto_block 2 with fail
      go_cut [11] from 52 to 68 (fun _ wx => Bel wc wx)
      case first =>
        go_wp2_with fail
        go_loopw [11] (fun i wr => ∃ (k : Nat), k ≤ P.S ∧ i = .int .i64 (k : Nat) ∧ Bel wc wr) (fun i _ => P.S - (intOf i).toNat)
        case atStart => exact ⟨0, Nat.zero_le _, rfl, Bel.refl _⟩
        case round =>
          obtain ⟨k, hk, rfl, hg⟩ := hrel
          obtain ⟨⟨b0, b1, b2, b3, b4, b5, b6⟩, _⟩ := hidB.out.2.1 _ hg
          by_cases ckk : k < P.S ∧ k < 60
          · have kI : (k : Int) < (P.S : Int) := by omega
            have kf : (k : Int) < 60 := by omega
            have tk := td _ hg k ckk.2
            clear dz td
            go_wp2_with (go_at_call 12; refine tk.mono ?_; rintro e w8 ⟨rfl, hg8⟩)
            go_roundw
            case rel => exact ⟨k + 1, by omega, by go_num, hg8⟩
            case measure => simp only [intOf]; omega
          · by_cases ckn : k < P.S
            · have kI : (k : Int) < (P.S : Int) := by omega
              have kf : decide ((k : Int) < 60) = false := decide_eq_false (by omega)
              have kf2 : decide (k < 60) = false := decide_eq_false (by omega)
              go_wp2_with fail
              go_meet
              exact hg
            · have kI : decide ((k : Int) < (P.S : Int)) = false := decide_eq_false (by omega)
              have kI2 : decide (k < P.S) = false := decide_eq_false ckn
              go_wp2_with fail
              go_meet
              exact hg
      case rest =>
        have hgc := hcut
        obtain ⟨⟨b0, b1, b2, b3, b4, b5, b6⟩, a0, a1, a2, a3, a4, a5, a6, a7⟩ := hidB.out.2.1 _ hgc
        have dd := dz _ hgc
        have hidC := Lib.hid hgc
        clear dz td hcut hgc
        go_upto_region 15 with (go_at_call 11; refine dd.mono ?_; rintro e w7 ⟨q7, rfl, ⟨S7, hq7, hD7⟩, hE7⟩
                                obtain ⟨pr7, cr7, bl7, ol7, cl7, pf7, cf7, pm7, cm7, p7, cap7, rfl, _, hR7⟩ := shape0 hq7
                                have al := (Bel.refl w7).alloc (.cells #[.slice pr7 S7.length cr7, .int .i64 0, .slice (some ⟨bl7, ol7, none⟩) P.S cl7, .slice pf7 P.T cf7, .slice pm7 P.T cm7, .int .i64 (P.W : Nat), .slice p7 P.n cap7] 36)
                                have im := (hL.out.bel hidC.out).after hE7 hD7
                                have bx := (box7 (heap_alloc_new w7 (.cells #[.slice pr7 S7.length cr7, .int .i64 0, .slice (some ⟨bl7, ol7, none⟩) P.S cl7, .slice pf7 P.T cf7, .slice pm7 P.T cm7, .int .i64 (P.W : Nat), .slice p7 P.n cap7] 36))).1.1
                                have AL := alls (hD7.bel al) ⟨mem_bel im.1 al im.2, Nat.le_trans im.2 al.size⟩ (hR7.bel al)
                                have hwz := Lib.hid ((hidB.out.2.2.trans (bel_exc (hidB.out.1.trans hidC.out) hE7 fun k hk => by
                                  have := hidA.out.2
                                  have := hk.1
                                  omega)).trans al)
                                clear hq7 hD7 hE7 hR7 al im dd)
        generalize w7.alloc (.cells #[.slice pr7 S7.length cr7, .int .i64 0, .slice (some ⟨bl7, ol7, none⟩) P.S cl7, .slice pf7 P.T cf7, .slice pm7 P.T cm7, .int .i64 (P.W : Nat), .slice p7 P.n cap7] 36) = w8 at *
        obtain ⟨oa, ora, aw8⟩ := AL
        have kq : ∀ W1, Bel w8 W1 → Bel w8 W1 ∧ W1.cell? ⟨w7.heap.size, 0, none⟩ = some (.slice pr7 S7.length cr7) := fun W1 g => ⟨g, cell_bel g bx⟩
        have g0 := Bel.refl w8
        go_region_held3 (fun W1 => Bel w8 W1 ∧ W1.cell? ⟨w7.heap.size, 0, none⟩ = some (.slice pr7 S7.length cr7))
          (first | with_reducible exact kq _ (by assumption) | with_reducible exact kq _ (Bel.drew (by assumption)))
          (first
            | (go_at_call 14; refine (oa _ (by first | assumption | exact Bel.drew (by assumption))).mono ?_; rintro e w9 ⟨⟨la, na, ka, rfl, hla⟩, hga, hgb⟩)
            | (go_at_call 15; refine (ora _ (by first | assumption | exact Bel.drew (by assumption))).mono ?_; rintro e w10 ⟨⟨lb, nb', kb, rfl, hlb⟩, hgc, hgd⟩)
            | (go_at_call 13; refine (wsame_yes (by first | assumption | exact mm.Ws.bel hla (by assumption)) (by first | assumption | exact mm.Ws.bel hlb (by assumption))).mono ?_; rintro e w11 ⟨rfl, hge⟩; have hgf : Bel w8 w11 := Bel.trans (by assumption) hge)
            | (go_at_call 10; refine (aw8 _ hgf).mono ?_; rintro e w12 ⟨rfl, hgz⟩))
        go_wp2
        go_ret
        exact ⟨rfl, hwz.out.trans hgz⟩
  · have mk := made_no _ c 0 W (hI.bel hb) (by by_cases x : c.great11; exact Or.inl x; exact Or.inr fun y => ok ⟨x, y⟩)
    rw [show ((0 : Nat) : Int) = 0 from rfl] at mk
    clear hI ok hA htb m0 m1 kk hl hlW
    go_enter Tryz.func4, Tryz.ntmps4
    go_upto_region 1 with fail
    (try rw [hW])
    clear hW
    go_wp2_with (first
      | (go_at_call 9; refine mk.mono ?_; rintro e w4 ⟨rfl, h4⟩; have aw4 := aw _ (h4.alloc (.cells #[.slice none 0 0, .int .i64 0, .slice none 0 0, .slice none 0 0, .slice none 0 0, .int .i64 0, .slice none 0 0] 36)))
      | (go_at_call 10; refine aw4.mono ?_; rintro e w5 ⟨rfl, h5⟩))
    go_ret
    exact ⟨rfl, h5⟩

/-! The row. -/
set_option maxRecDepth 100000 in
theorem lifted (os : Os) (started : os.Started) (H : Type) (enc : TypeId × Value → H) :
    ReturnsInHanded {} Tryz.checked os 4 .any (fun w args => (Rows.bodyReadsSpec.pre enc Tryz.prog Tryz.f4 [] false w args ∧ laidMetH Tryz.prog theLaid w) ∧ sizedMet enc Tryz.prog Tryz.f4 (OpenSpec.ofChange Rows.bodyReadsSpec) false w args)
      (Rows.bodyReadsSpec.post enc Tryz.prog Tryz.f4 false true false false) := by
  refine lift_laid (C := Tryz.checked) (X := Met) own started (by kernel_rfl) Tryz.func4 (fun _ _ h => Met.heap h) laid rowed full (by rw [Tryz.params4]; decide) rfl (by kernel_rfl) Tryz.underlying4
    (fun ds h => by rw [Tryz.params4] at h; match ds, h with | [_, _, _], _ => rfl)
    (ChangeSpec.witness_shaped (enc := enc) (C := Tryz.checked) (os := os) (X := fun w _ => Met w) false (World.doorLaid Tryz.prog 400 os) #[.agg #[.slice none 0 0, .int .i64 0, .slice none 0 0, .int .i64 0, .int .i64 0, .int .i64 0], .slice none 0 0, .agg #[.int .u8 0, .int .i64 0, .int .i64 0, .int .i64 0, .int .u64 0, .int .i64 0, .int .i64 0, .int .i64 0]] 8 rfl (World.shaped_of_RefB (by kernel_rfl) (by kernel_rfl)) (by kernel_rfl) (by kernel_rfl) (by kernel_rfl) (door_met os _)) ?_
  intro W base args ds p hval hAll hM
  have hT := hM.tab
  change ∀ (j : Nat) t v, Tryz.f4.params[j]? = some t → args[j]? = some v → Value.okWide Tryz.prog W .any base t v at hval
  change DataW.TrodAll enc Tryz.prog W 0 (fun _ => true) true Tryz.f4.params.toList args.toList ds p at hAll
  rw [Tryz.params4] at hAll hval
  obtain ⟨v0, vs0, d0, ds0, p0, q0, hargs, rfl, rfl, h0, r0⟩ := trodAll_cons hAll
  obtain ⟨v1, vs1, d1, ds1, p1, q1, hargs1, rfl, rfl, h1, r1⟩ := trodAll_cons r0
  obtain ⟨v2, vs2, d2, ds2, p2, q2, hargs2, rfl, rfl, h2, r2⟩ := trodAll_cons r1
  obtain ⟨rfl, rfl, rfl⟩ := trodAll_nil r2
  subst hargs2
  subst hargs1
  obtain rfl : args = #[v0, v1, v2] := by cases args; simp_all
  obtain ⟨c, hI, _⟩ := get_cf (hval 0 25 v0 rfl rfl) h0
  obtain ⟨l, hl, hlb⟩ := get_words (hval 1 49 v1 rfl rfl) h1
  obtain ⟨A, hA, rfl⟩ := get_act (hval 2 46 v2 rfl rfl) h2
  exact walk v0 c v1 l A W hI hl hlb hA hT

theorem over : Rows.bodyReadsRow.holds Tryz.pinned (OpenSpec.ofChange Rows.bodyReadsSpec) :=
  OpenClaim.holds_of_wide 4 Tryz.f4 rfl rfl rfl rfl rfl rfl rfl ⟨rfl, rfl, rfl, rfl, rfl⟩ rfl rfl rfl rfl rfl (by kernel_rfl) Tryz.func4 (by kernel_rfl)
    (of_decide_eq_true (by kernel_rfl)) (by unfold Func.isWrapper; first | (rw [if_pos (by decide +kernel)]; kernel_rfl) | (rw [if_neg (by decide +kernel)]; exact ⟨rfl, rfl⟩))
    (fun os started H enc _ => lifted os started H enc)

/-- The statement. -/
theorem proved : Rows.BodyReadsCardSaid :=
  Claim7.holds_tied_plain_at .later [] [.data] true (true, "4c33b7968f82caf130c1decf41a5dcf18a2cc1dc4bb0104c99295747923900d8") true
    over (fun _ h => by cases h) (by kernel_rfl) (fun _ h => by cases h) bodyReads_row_tie rfl ⟨rfl, rfl⟩ (by kernel_rfl) rfl
    (fun f fn hf hfn => by
      obtain rfl : f = 4 := Option.some.inj ((show Tryz.prog.funcNamed "commonage/commonagelaw11.BodyReads" = some 4 by kernel_rfl).symm.trans hf) |>.symm
      obtain rfl : fn = Tryz.f4 := (Option.some.inj (Tryz.func4.symm.trans hfn)).symm
      exact ⟨by kernel_rfl, fun j t ht => by
        rw [Tryz.params4] at ht
        have hm : t ∈ [25, 49, 46] := by simpa using Array.mem_of_getElem? ht
        have hall : ([25, 49, 46].all fun u => !Tryz.prog.wantsStandIn u) = true := by kernel_rfl
        exact (show Tryz.prog.wantsStandIn t = false by simpa using List.all_eq_true.1 hall t hm)⟩)
    (by kernel_rfl)
#print axioms proved
end Go.Proofs.YthokalcibjjihaaGreatDoor.bodyReads
