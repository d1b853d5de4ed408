/- What is done to a copy, and to words that were told, is not seen; a memory that is none answers so; for every input, no condition. -/
import Derived.Test.YteipadpifmjnmaaRowk
import Derived.Test.YteipadpifmjnmaaOpx
import Derived.Test.YteipadpifmjnmaaPac
import Derived.Deep.RegionHeld3
import Derived.Deep.RegionLaw
import Derived.Deep.Cut
import Derived.Deep.DeepCutAuto
namespace Go.Proofs.Yteipadpifmjnmaa.memOwn
open Go.ChangeShapes Go.WideShapes Go.ChangeAt Go.RowKit Go.Deep Go.Joins
set_option linter.unusedVariables false

theorem set_size (w : World) (a : Addr) (u : Value) : w.heap.size ≤ (w.setCell a u).heap.size := (Below.setCell (Below.refl 0 w) (Nat.zero_le _) _).size

set_option maxRecDepth 100000 in
set_option maxHeartbeats 4000000 in
theorem walk (v : Value) (c : Cf) (lv : Value) (n : Nat) (A : Nat → Ac) (lv2 : Value) (n2 : Nat) (A2 : Nat → Ac) (w : World) (h : IsCf w v c) (hA : Acts w lv n A) (hB : Acts w lv2 n2 A2) :
    Calls Try.prog 5 #[v, lv, lv2] w fun e w' => e = .returned (.bool true) ∧ Below w.heap.size w w' := by
  have hI := h
  obtain ⟨vc, vt, rfl, hN, hT⟩ := h
  obtain ⟨p1, c1, rfl, _⟩ := nums_slice hN
  obtain ⟨p2, c2, rfl, _⟩ := tens_slice hT
  obtain ⟨pl, cl, rfl, nb⟩ := hA.slice
  obtain ⟨pl2, cl2, rfl, nb2⟩ := hB.slice
  clear hN hT
  have hb := (Bel.refl w).alloc (.cells #[.slice p1 c.n c1, .int .i64 c.page, .slice p2 c.m c2, .int .i64 c.wk, .int .i64 c.gr, .int .i64 c.gn] 25)
  have g0 := Bel.refl (w.alloc (.cells #[.slice p1 c.n c1, .int .i64 c.page, .slice p2 c.m c2, .int .i64 c.wk, .int .i64 c.gr, .int .i64 c.gn] 25))
  generalize hwb : w.alloc (.cells #[.slice p1 c.n c1, .int .i64 c.page, .slice p2 c.m c2, .int .i64 c.wk, .int .i64 c.gr, .int .i64 c.gn] 25) = wb at *
  have hIb := hI.bel hb
  have gr := fun w1 (g : Bel wb w1) => (great_any _ c w1 (hIb.bel g)).mono fun e w' ⟨a, b⟩ => (⟨a, g.trans b⟩ : _ ∧ Bel wb w')
  have aw := fun w1 (g : Bel w w1) => (awake7_any w1).mono fun e w' ⟨a, b⟩ => (⟨a, g.trans b⟩ : _ ∧ Bel w w')
  have aw' := fun w1 (g : Bel wb w1) => (awake7_any w1).mono fun e w' ⟨a, b⟩ => (⟨a, g.trans b⟩ : _ ∧ Bel wb w')
  have ck := fun w1 (g : Bel wb w1) => (rck_any _ c w1 (hIb.bel g)).mono fun e w' ⟨a, b⟩ => (⟨a, g.trans b⟩ : _ ∧ Bel wb w')
  by_cases s : c.great7
  · simp only [decide_eq_true s] at gr
    clear hI hIb s ck aw hA hB
    subst hwb
    go_enter Try.func5, Try.ntmps5
    go_wp2_with (first
      | (go_at_call 7; refine (gr _ (by assumption)).mono ?_; rintro e w1 ⟨rfl, hg1⟩)
      | (go_at_call 8; refine (aw' _ (by assumption)).mono ?_; rintro e w2 ⟨rfl, hg2⟩))
    go_ret
    exact ⟨rfl, hb.trans hg2⟩
  · simp only [decide_eq_false s] at gr
    by_cases ok : c.ok
    · have hT : c.base c.m ≤ 4000 := by
        have : ¬ (4000 < c.totR) := fun x => s (Or.inr x)
        rw [Cf.totR_ok ok] at this
        omega
      simp only [Cf.checkC_ok ok] at ck
      have nw := fun w1 (g : Bel wb w1) => pm_new_ok _ c w1 (hIb.bel g) ok hT
      have rn := fun X w1 (g : Bel wb w1) (hX : Till X w1) => rnew_any X _ c w1 (hIb.bel g) ok hX
      have hz := Lib.hid (Cf.zeros_full ok hT)
      have hid := Lib.hid (And.intro hb (And.intro hA hB))
      clear hI hIb s hT ok hA hB aw'
      subst hwb
      go_enter Try.func5, Try.ntmps5
      go_wp2_with (first
        | (go_at_call 7; refine (gr _ (by assumption)).mono ?_; rintro e w1 ⟨rfl, hg1⟩; obtain ⟨k0, k1, k2, k3, k4, k5⟩ := cf_at hg1)
        | (go_at_call 10; refine (ck _ hg1).mono ?_; rintro e w2 ⟨rfl, hg2⟩
           obtain ⟨k0, k1, k2, k3, k4, k5⟩ := cf_at hg2)
        | (go_at_call 9; refine (nw _ hg2).mono ?_; rintro e w3 ⟨⟨pp, rfl, hM⟩, hg3⟩
           have hg3' := hg2.trans hg3
           obtain ⟨k0, k1, k2, k3, k4, k5⟩ := cf_at hg3')
        | (go_at_call 11; refine (rn (Own w2.heap.size w3.heap.size) _ hg3' (fun k hk => hk.2)).mono ?_; rintro e w4 ⟨⟨q', rfl, rv, rfl, hR⟩, hg4⟩
           obtain ⟨pq, cq, rfl, bq⟩ := hR.slice
           have L0 := Lp.start hM rfl (Bel.refl w3) hg4 hR
           have hg4' := hb.trans (hg3'.trans hg4)
           have lo1 := Nat.le_trans hb.size hg2.size
           have sz4 := Nat.le_trans hg3.size hg4.size
           clear hM hR hg3 hg4 k0 k1 k2 k3 k4 k5))
      obtain ⟨w5, hw5⟩ : ∃ w5, w4.alloc (.cells #[.slice pq c.zeros.length cq] 36) = w5 := ⟨_, rfl⟩
      rw [hw5] at L0
      try rw [hw5]
      have g5 : Bel w w5 := by rw [← hw5]; exact hg4'.alloc _
      have hidA := Lib.hid (And.intro hid.out.2.1 (And.intro g5 (And.intro lo1 (And.intro sz4 hid.out.2.2))))
      clear hg4' hw5 nw rn ck gr g0 hg1 hg2 hg3' g5
      generalize w2.heap.size = lo at *
      generalize w3.heap.size = hi at *
      generalize w4.heap.size = Bq at *
      go_loopw [10] (fun i wr => ∃ (k : Nat) (rv : Value), k ≤ n ∧ i = .int .i64 (k : Nat) ∧ RowKit.Hid (Lp w5 wr (.pointer (some pp)) lo hi Bq (playR A c.zeros k) rv)) (fun i _ => n - (intOf i).toNat)
      case atStart => exact ⟨0, _, Nat.zero_le _, rfl, Lib.hid L0⟩
      case round =>
        obtain ⟨k, rv, hk, rfl, hL⟩ := hrel
        have hw : Bel w wr := Below.trans hidA.out.2.1 (hL.out.exc.below (fun q hq => by
          have := hidA.out.2.2.1
          have := hidA.out.2.2.2.1
          rcases hq with hq | hq
          · exact Nat.le_trans hidA.out.2.2.1 hq.1
          · omega) hidA.out.2.1.size)
        obtain ⟨pr, cr, rfl, br⟩ := hL.out.rows.slice
        have cb := cell_of_row _ _ 0 _ _ (0, 0) hL.out.box
        by_cases ckk : k < n ∧ k < 20
        · obtain ⟨b, off, rfl, hbl, hac, hok⟩ := hidA.out.1.at ckk.1
          obtain ⟨a0, a1, a2, a3, a4⟩ := hac.bel hw
          have kI : (k : Int) < (n : Int) := by omega
          have kz : (0 : Int) ≤ (k : Int) := by omega
          have kf : (k : Int) < 20 := by omega
          have hXw : Till (fun q => Own lo hi q ∨ q = Bq) wr := fun q hq => by
            have := hL.out.top
            have := heap_lt hL.out.box
            rcases hq with hq | hq
            · have := hq.2; omega
            · omega
          have gd := Bel.drew (Bel.refl wr)
          have dzA := does_any (fun q => Own lo hi q ∨ q = Bq) (.pointer (some pp)) (.agg #[.slice pr (playR A c.zeros k).length cr]) lo hi (playR A c.zeros k) (A k).wh (A k).t (A k).a (A k).n (A k).u wr.drew (hL.out.mem.bel gd hL.out.top) hL.out.top (fun q hq => Or.inl hq) ⟨_, rfl, hL.out.rows.bel gd⟩ (hXw.bel gd) (hz.out.play A k) hok.1 hok.2.2.2.1
          have hNB : ¬ Own lo hi Bq := fun x => by have := x.2; have := hL.out.bq; omega
          have hNb : ¬ Own lo hi b := fun x => by have := x.1; have := hidA.out.2.2.1; omega
          have hNb2 : b ≠ Bq := by have := hidA.out.2.2.1; have := hidA.out.2.2.2.1; omega
          have kp : ∀ W, Exc (fun q => Own lo hi q ∨ q = Bq) wr W → Exc (fun q => Own lo hi q ∨ q = Bq) wr W ∧ W.cell? ⟨b, off + k * 5, none⟩ = some (.int .u8 ((A k).wh : Nat)) ∧ W.cell? ⟨b, off + k * 5 + 1, none⟩ = some (.int .i64 (A k).t) ∧ W.cell? ⟨b, off + k * 5 + 2, none⟩ = some (.int .i64 (A k).a) ∧ W.cell? ⟨b, off + k * 5 + 3, none⟩ = some (.int .i64 (A k).n) ∧ W.cell? ⟨b, off + k * 5 + 4, none⟩ = some (.int .u64 ((A k).u : Nat)) := fun W g =>
            have hx : ¬ (Own lo hi b ∨ b = Bq) := fun x => x.elim hNb hNb2
            ⟨g, cell_exc g a0 hx, cell_exc g a1 hx, cell_exc g a2 hx, cell_exc g a3 hx, cell_exc g a4 hx⟩
          have gw : Exc (fun q => Own lo hi q ∨ q = Bq) wr wr := (Bel.refl wr).exc
          have gwd : Exc (fun q => Own lo hi q ∨ q = Bq) wr wr.drew := gd.exc
          have cbd : wr.drew.cell? ⟨Bq, 0, none⟩ = some (.slice pr (playR A c.zeros k).length cr) := cb
          have hidk := Lib.hid (And.intro hok (And.intro hNB (And.intro hNb (And.intro hw hXw))))
          have es : playR A c.zeros (k + 1) = stepR (playR A c.zeros k) (A k).wh (A k).t (A k).a (A k).n (A k).u := rfl
          have hids := Lib.hid es
          clear hok hNB hNb hXw hw hac es gd
          generalize stepR (playR A c.zeros k) (A k).wh (A k).t (A k).a (A k).n (A k).u = S at *
          go_upto_region 10 with fail
          go_region_law (first
              | (go_simp
                 go_at_call 12
                 (with_reducible refine dzA.mono ?_)
                 rintro e w6 ⟨⟨q', rfl, rv', rfl, hR'⟩, hM6, hE6⟩
                 obtain ⟨p', cap', rfl, bd'⟩ := hR'.slice
                 have G6 : Exc (fun q => Own lo hi q ∨ q = Bq) wr w6 := Exc.trans gwd (hE6.mono fun q hq => Or.inl hq)
                 obtain ⟨fz, cx3, W7, hW7, hbx7, cx7, hE7⟩ := box_store (x := .slice p' S.length cap') ((hE6.block _ (heap_lt hL.out.box) hidk.out.2.1).trans hL.out.box)
                 have G7 : Exc (fun q => Own lo hi q ∨ q = Bq) wr W7 := Exc.trans G6 (hE7.mono fun q hq => Or.inr hq)
                 have hid7 := Lib.hid (And.intro hR' (And.intro hM6 (And.intro hbx7 (And.intro hE7 hE6))))
                 clear hR' hM6 hE6 hbx7 hE7))
          all_goals go_wp2
          all_goals go_roundw
          all_goals (first
            | (simp only [intOf]; omega)
            | (obtain ⟨hR', hM6, hbx7, hE7, hE6⟩ := hid7.out
               refine ⟨k + 1, .slice p' S.length cap', by omega, by go_num, Lib.hid ?_⟩
               rw [hids.out]
               exact hL.out.step hM6 hR' (Exc.trans (Bel.exc (Bel.drew (Bel.refl wr))) hE6) hbx7 hE7))
        · have hex : (decide ((k : Int) < (n : Int)) = false ∧ decide (k < n) = false) ∨ ((k : Int) < (n : Int) ∧ decide ((k : Int) < 20) = false) := by
            by_cases ckn : k < n
            · exact Or.inr ⟨by omega, decide_eq_false (by omega)⟩
            · exact Or.inl ⟨decide_eq_false (by omega), decide_eq_false ckn⟩
          obtain ⟨w6, rfl⟩ : ∃ w6, w6 = wr := ⟨wr, rfl⟩
          have cp := pm_copy (.pointer (some pp)) lo hi (playR A c.zeros k) w6 hL.out.mem
          have hRF := Lib.hid (hz.out.play A k)
          generalize playR A c.zeros k = R at *
          rcases hex with ⟨e1, e2⟩ | ⟨e1, e2⟩
          all_goals
            go_upto_region 13 with (go_at_call 19; refine cp.mono ?_; rintro e w7 ⟨⟨pp2, rfl, hM7⟩, hg7⟩
                                    have cb7 := cell_bel hg7 cb)
            have t7 := Nat.le_trans hL.out.top hg7.size
            have L7 := hL.out.bel hg7
            have P0 := Lp.start hM7 rfl (Bel.refl w7) (Bel.refl w7) ((hL.out.rows.old.bel hg7).less (Y := Own w6.heap.size w7.heap.size) fun q hq => Or.inr hq.1)
            have g8 : Bel w7 (w7.alloc (.cells #[.slice pr R.length cr] 36)) := (Bel.refl w7).alloc _
            obtain ⟨w8, hw8⟩ : ∃ w8, w7.alloc (.cells #[.slice pr R.length cr] 36) = w8 := ⟨_, rfl⟩
            rw [hw8] at P0 g8
            try rw [hw8]
            have L8 := L7.bel g8
            have h67 := hg7.size
            have hw8w := hw.trans (hg7.trans g8)
            have hidB := Lib.hid (And.intro hidA.out.2.2.2.2 (And.intro hw8w (And.intro hw.size h67)))
            have hC := Lib.hid (And.intro (hg7.trans g8) hw)
            obtain ⟨lo2, hlo2⟩ : ∃ x, w6.heap.size = x := ⟨_, rfl⟩
            obtain ⟨hi2, hhi2⟩ : ∃ x, w7.heap.size = x := ⟨_, rfl⟩
            obtain ⟨Bp, hBp⟩ : ∃ x, hi2 = x := ⟨_, rfl⟩
            have P0' : Lp w8 w8 (.pointer (some pp2)) lo2 hi2 Bp R (.slice pr R.length cr) := by rw [← hlo2, ← hBp, ← hhi2]; exact P0
            rw [hlo2, hhi2, hBp] at hidB
            have hhB := Lib.hid (And.intro hlo2 (And.intro hhi2 hBp))
            try rw [hhi2, hBp]
            clear P0 hM7 hg7 cb7 L7 t7 g8 hw8 L8 h67 hw cb hw8w hlo2 hhi2 hBp
            have P0 := P0'
            clear P0'
            go_wp2
            go_loopw [13] (fun i wr => ∃ (k : Nat) (rv : Value), k ≤ n2 ∧ i = .int .i64 (k : Nat) ∧ RowKit.Hid (Lp w8 wr (.pointer (some pp2)) lo2 hi2 Bp (playR A2 R k) rv)) (fun i _ => n2 - (intOf i).toNat)
            case atStart => exact ⟨0, _, Nat.zero_le _, rfl, Lib.hid P0⟩
            case round =>
              obtain ⟨k, rv, hk, rfl, hP⟩ := hrel
              have hw : Bel w wr := Below.trans hidB.out.2.1 (hP.out.exc.below (fun q hq => by
                have := hidB.out.2.2.1
                have := hidB.out.2.2.2
                rcases hq with hq | hq
                · exact Nat.le_trans hidB.out.2.2.1 hq.1
                · omega) hidB.out.2.1.size)
              obtain ⟨pr, cr, rfl, br⟩ := hP.out.rows.slice
              have cb := cell_of_row _ _ 0 _ _ (0, 0) hP.out.box
              by_cases ckk : k < n2 ∧ k < 20
              · obtain ⟨b, off, rfl, hbl, hac, hok⟩ := hidB.out.1.at ckk.1
                obtain ⟨a0, a1, a2, a3, a4⟩ := hac.bel hw
                have kI : (k : Int) < (n2 : Int) := by omega
                have kz : (0 : Int) ≤ (k : Int) := by omega
                have kf : (k : Int) < 20 := by omega
                have hXw : Till (fun q => Own lo2 hi2 q ∨ q = Bp) wr := fun q hq => by
                  have := hP.out.top
                  have := heap_lt hP.out.box
                  rcases hq with hq | hq
                  · have := hq.2; omega
                  · omega
                have gd := Bel.drew (Bel.refl wr)
                have ga := (Bel.refl wr).alloc (.cells #[.slice none 0 0] 36)
                have gad := Bel.drew ga
                have dz := fun W (g : Bel wr W) => does_any (fun q => Own lo2 hi2 q ∨ q = Bp) (.pointer (some pp2)) (.agg #[.slice pr (playR A2 R k).length cr]) lo2 hi2 (playR A2 R k) (A2 k).wh (A2 k).t (A2 k).a (A2 k).n (A2 k).u W (hP.out.mem.bel g hP.out.top) (Nat.le_trans hP.out.top g.size) (fun q hq => Or.inl hq) ⟨_, rfl, hP.out.rows.bel g⟩ (hXw.bel g) (hRF.out.play A2 k) hok.1 hok.2.2.2.1
                have hNB : ¬ Own lo2 hi2 Bp := fun x => by have := x.2; have := hP.out.bq; omega
                have hNb : ¬ Own lo2 hi2 b := fun x => by have := x.1; have := hidB.out.2.2.1; omega
                have hNw : ¬ Own lo2 hi2 wr.heap.size := fun x => by have := x.2; have := hP.out.top; omega
                have kp : ∀ W, Exc (Own lo2 hi2) wr W → Exc (Own lo2 hi2) wr W ∧ W.cell? ⟨Bp, 0, none⟩ = some (.slice pr (playR A2 R k).length cr) ∧ W.cell? ⟨b, off + k * 5, none⟩ = some (.int .u8 ((A2 k).wh : Nat)) ∧ W.cell? ⟨b, off + k * 5 + 1, none⟩ = some (.int .i64 (A2 k).t) ∧ W.cell? ⟨b, off + k * 5 + 2, none⟩ = some (.int .i64 (A2 k).a) ∧ W.cell? ⟨b, off + k * 5 + 3, none⟩ = some (.int .i64 (A2 k).n) ∧ W.cell? ⟨b, off + k * 5 + 4, none⟩ = some (.int .u64 ((A2 k).u : Nat)) := fun W g =>
                  ⟨g, cell_exc g cb hNB, cell_exc g a0 hNb, cell_exc g a1 hNb, cell_exc g a2 hNb, cell_exc g a3 hNb, cell_exc g a4 hNb⟩
                have gw : Exc (Own lo2 hi2) wr wr := (Bel.refl wr).exc
                have gwd : Exc (Own lo2 hi2) wr wr.drew := gd.exc
                have gwa : Exc (Own lo2 hi2) wr (wr.alloc (.cells #[.slice none 0 0] 36)) := ga.exc
                have gwad : Exc (Own lo2 hi2) wr (wr.alloc (.cells #[.slice none 0 0] 36)).drew := gad.exc
                have hbx0 : (wr.alloc (.cells #[.slice none 0 0] 36)).drew.heap[wr.heap.size]? = some (.cells #[.slice none 0 0] 36 (0, 0)) := heap_alloc_new wr _
                have hidk := Lib.hid (And.intro hok (And.intro hNB (And.intro hNb (And.intro hw (And.intro hXw (And.intro hNw hbx0))))))
                have es : playR A2 R (k + 1) = stepR (playR A2 R k) (A2 k).wh (A2 k).t (A2 k).a (A2 k).n (A2 k).u := rfl
                have hids := Lib.hid es
                have dzA := dz _ gd
                have dzB := does_any (fun q => (Own lo2 hi2 q ∨ q = Bp) ∨ q = wr.heap.size) (.pointer (some pp2)) (.agg #[.slice pr (playR A2 R k).length cr]) lo2 hi2 (playR A2 R k) (A2 k).wh (A2 k).t (A2 k).a (A2 k).n (A2 k).u _ (hP.out.mem.bel gad hP.out.top) (Nat.le_trans hP.out.top gad.size) (fun q hq => Or.inl (Or.inl hq)) ⟨_, rfl, (hP.out.rows.old.less fun q hq => by
                    rcases hq with hq | hq
                    · exact Or.inl hq
                    · exact Or.inr (by omega)).bel gad⟩ (fun q hq => by
                    have s1 := size_alloc1 wr (.cells #[.slice none 0 0] 36)
                    show q < (wr.alloc _).heap.size
                    rcases hq with hq | hq
                    · have := hXw q hq; omega
                    · omega) (hRF.out.play A2 k) hok.1 hok.2.2.2.1
                clear hok hNB hNb hXw hw hac es gd ga gad hbx0 hNw dz
                generalize stepR (playR A2 R k) (A2 k).wh (A2 k).t (A2 k).a (A2 k).n (A2 k).u = S at *
                go_upto_region 16 with fail
                go_cut [14, 15] (fun s9 s10 wx => ∃ g9, s9 = .pointer (some ⟨g9, 0, none⟩) ∧ s10 = .bool true ∧ RowKit.Hid (Mid wr wx (.pointer (some pp2)) lo2 hi2 Bp g9 S))
                case first =>
                  go_region_held3 (fun W => Exc (Own lo2 hi2) wr W ∧ W.cell? ⟨Bp, 0, none⟩ = some (.slice pr (playR A2 R k).length cr) ∧ W.cell? ⟨b, off + k * 5, none⟩ = some (.int .u8 ((A2 k).wh : Nat)) ∧ W.cell? ⟨b, off + k * 5 + 1, none⟩ = some (.int .i64 (A2 k).t) ∧ W.cell? ⟨b, off + k * 5 + 2, none⟩ = some (.int .i64 (A2 k).a) ∧ W.cell? ⟨b, off + k * 5 + 3, none⟩ = some (.int .i64 (A2 k).n) ∧ W.cell? ⟨b, off + k * 5 + 4, none⟩ = some (.int .u64 ((A2 k).u : Nat)))
                    (first | with_reducible exact kp _ (by assumption) | with_reducible exact kp _ (Exc.al (by assumption) _))
                    (first
                      | (go_at_call 12; (with_reducible refine dzA.mono ?_); rintro e w16 ⟨⟨q', rfl, rv', rfl, hR'⟩, hM6, hE6⟩
                         obtain ⟨p', cap', rfl, bd'⟩ := hR'.slice
                         have G6 : Exc (Own lo2 hi2) wr w16 := Exc.trans gwd hE6
                         have hid7 := Lib.hid (And.intro hR' hM6)
                         clear hR' hM6 hE6)
                      | (go_at_call 12; (with_reducible refine dzB.mono ?_); rintro e w16 ⟨⟨q', rfl, rv', rfl, hR'⟩, hM6, hE6⟩
                         obtain ⟨p', cap', rfl, bd'⟩ := hR'.slice
                         have G6 : Exc (Own lo2 hi2) wr w16 := Exc.trans gwad hE6
                         obtain ⟨fz, cx3, W17, hW7, hbx7, cx7, hE7⟩ := box_store (x := .slice p' S.length cap') ((hE6.block _ (heap_lt hidk.out.2.2.2.2.2.2) hidk.out.2.2.2.2.2.1).trans hidk.out.2.2.2.2.2.2)
                         have G7 : Exc (Own lo2 hi2) wr W17 := G6.tail hE7 (fun q hq => by omega)
                         have hid7 := Lib.hid (And.intro hR' (And.intro hM6 (And.intro hbx7 hE7)))
                         clear hR' hM6 hE6 hbx7 hE7))
                  all_goals go_wp2_with fail
                  all_goals go_meet
                  · exact ⟨_, rfl, rfl, Lib.hid (Mid.after hid7.out.2 (Nat.le_trans hP.out.top G6.size) hid7.out.1 G6)⟩
                  · exact ⟨_, rfl, rfl, Lib.hid (Mid.ahead hid7.out.2.1 (Nat.le_trans hP.out.top G6.size) hP.out.top hid7.out.1 G7 hid7.out.2.2.1 hid7.out.2.2.2)⟩
                case rest =>
                  obtain ⟨g9, rfl, rfl, hMid⟩ := hcut
                  obtain ⟨p', cap', hb9, hR9⟩ := hMid.out.box
                  have c9 := cell_of_row _ _ 0 _ _ (0, 0) hb9
                  have hbq := (hMid.out.exc.block _ (heap_lt hP.out.box) hidk.out.2.1).trans hP.out.box
                  obtain ⟨fz, cx3, W17, hW7, hbx7, cx7, hE7⟩ := box_store (x := .slice p' S.length cap') hbq
                  have hid7 := Lib.hid (And.intro hR9 (And.intro hbx7 hE7))
                  clear hb9 hR9 hbq hbx7 hE7
                  go_wp2
                  go_roundw
                  case rel =>
                    obtain ⟨hR9, hbx7, hE7⟩ := hid7.out
                    refine ⟨k + 1, .slice p' S.length cap', by omega, by go_num, Lib.hid ?_⟩
                    rw [hids.out]
                    exact hP.out.step hMid.out.mem hR9 hMid.out.exc hbx7 hE7
                  case measure => simp only [intOf]; omega
              · have hex2 : (decide ((k : Int) < (n2 : Int)) = false ∧ decide (k < n2) = false) ∨ ((k : Int) < (n2 : Int) ∧ decide ((k : Int) < 20) = false) := by
                  by_cases ckn : k < n2
                  · exact Or.inr ⟨by omega, decide_eq_false (by omega)⟩
                  · exact Or.inl ⟨decide_eq_false (by omega), decide_eq_false ckn⟩
                obtain ⟨wy, rfl⟩ : ∃ wy, wy = wr := ⟨wr, rfl⟩
                have gB : Bel w6 wy := Below.trans hC.out.1 (hP.out.exc.below (fun q hq => by
                  have h1 := hhB.out.1
                  have h2 := hidB.out.2.2.2
                  rcases hq with hq | hq
                  · have := hq.1; omega
                  · omega) hC.out.1.size)
                have Lm := Lib.hid (hL.out.bel gB)
                have hQF := Lib.hid (hRF.out.play A2 k)
                generalize playR A2 R k = Q at *
                have oa := fun W (g : Bel wy W) => pm_all (.pointer (some pp)) lo hi R W (Lm.out.mem.bel g Lm.out.top)
                have gy := Bel.refl wy
                have hwy := Lib.hid hw
                clear hw gB
                rcases hex2 with ⟨x1, x2⟩ | ⟨x1, x2⟩
                all_goals
                  go_upto_region 21 with (first
                    | (go_at_call 20; (with_reducible refine (oa _ gy).mono ?_); rintro e w10 ⟨⟨la, rfl, hla⟩, hg10⟩)
                    | (go_at_call 20; (with_reducible refine (oa _ hg10).mono ?_); rintro e w11 ⟨⟨lb, rfl, hlb⟩, hg11⟩))
                  obtain ⟨N, hN⟩ : ∃ N, R.flatten.length = N := ⟨_, rfl⟩
                  have hNm : N ≤ 9223372036854775807 := by
                    rcases hla.2 with ⟨_, h⟩ | ⟨_, _, _, _, _, _, h1, h2, _⟩
                    · omega
                    · unfold maxLen at h2; omega
                  have sha : ∃ p q, la = .slice p N q := by
                    rcases hla.2 with ⟨rfl, h⟩ | ⟨g, cap, cur, rfl, _⟩
                    · exact ⟨none, 0, by rw [← hN, h]⟩
                    · exact ⟨_, cap, by rw [hN]⟩
                  obtain ⟨pa, ca, rfl⟩ := sha
                  have hla' := hla
                  unfold Own64 at hla'
                  rw [hN] at hla'
                  have hI0 := Lib.hid (hla'.kept (row := none) ⟨hg11.os, hg11.tape, hg11.output, hg11.size, fun q hq _ => hg11.block q hq⟩ (by cases hv : (Value.slice pa N ca).ownBlock <;> simp))
                  have hlt10 := Lib.hid (fun q hq => hla'.lt q hq)
                  have hlB := Lib.hid (And.intro hlb (And.intro hg10 hg11))
                  have g11 : Exc (fun q => (Value.slice pa N ca).ownBlock = some q) w11 w11 := (Bel.refl w11).exc
                  clear hla hla' hlb hg10 hg11
                  go_wp2
                  go_loopw [18] (fun i wr => ∃ (j : Nat) (ys : List Value), j ≤ N ∧ i = .int .i64 (j : Nat) ∧ (∀ (q : Nat) (y : Value), ys[q]? = some y → ∃ z : Int, y = .int .u64 z) ∧ RowKit.Hid (wr.ownsRow wy.heap.size 40 1 (.slice pa N ca) N ys) ∧ Exc (fun q => (Value.slice pa N ca).ownBlock = some q) w11 wr) (fun i _ => N - (intOf i).toNat)
                  case atStart => exact ⟨0, uL R.flatten, Nat.zero_le _, rfl, fun q y h => by
                    unfold uL at h
                    rw [List.getElem?_map] at h
                    cases e : R.flatten[q]? with
                    | none => rw [e] at h; cases h
                    | some u => rw [e] at h; cases h; exact ⟨_, rfl⟩, hI0, g11⟩
                  case round =>
                    obtain ⟨j, ys, hj, rfl, hys, hI, hE⟩ := hrel
                    by_cases cj : j < N
                    · obtain ⟨g, cap, ev, hgB, hgl⟩ := hI.out.form (by omega)
                      injection ev with ev1 ev2 ev3
                      subst ev1; subst ev3
                      have yl : ys.length = N := by have := hI.out.1; omega
                      obtain ⟨y, hy⟩ : ∃ y, ys[j]? = some y := ⟨ys[j]'(by omega), List.getElem?_eq_getElem _⟩
                      obtain ⟨z, rfl⟩ := hys j y hy
                      have cg : wr.cell? ⟨g, j, none⟩ = some (.int .u64 z) := (World.ownsRow.cellAt hI.out j (by omega)).trans hy
                      have fg : wr.frozen? ⟨g, j, none⟩ = false := World.ownsRow.frozenAt hI.out j
                      have kI : (j : Int) < (N : Int) := by omega
                      have kz : (0 : Int) ≤ (j : Int) := by omega
                      have hidj := Lib.hid (And.intro hys yl)
                      clear hys hy yl ev2
                      go_wp2
                      go_roundw
                      case rel =>
                        refine ⟨j + 1, ys.set j _, by omega, by go_num, fun q y h => ?_, Lib.hid (World.ownsRow.stored hI.out j _).1, Exc.trans hE ⟨rfl, rfl, rfl, set_size _ _ _, fun q _ hq => set_heap (fun e => hq (by rw [e]; rfl)) _⟩⟩
                        rw [List.getElem?_set] at h
                        split at h
                        · split at h
                          · cases h; exact ⟨_, rfl⟩
                          · cases h
                        · exact hidj.out.1 q y h
                      case measure => simp only [intOf]; omega
                    · obtain rfl : j = N := by omega
                      obtain ⟨wz, rfl⟩ : ∃ wz, wz = wr := ⟨wr, rfl⟩
                      have gZ : Bel wy wz := by
                        have h1 := hlB.out.2.1.trans hlB.out.2.2
                        exact Below.trans h1 (hE.below (fun q hq => (hlt10.out q hq).1) h1.size)
                      have Lz := Lm.out.bel gZ
                      have Pz := hP.out.bel gZ
                      have lz : Ws (fun k => k < w10.heap.size) wz lb R.flatten := (hlB.out.1.ws (X := fun k => k < w10.heap.size) (fun q hq _ h => by omega)).exc (hE.mono fun q hq => (hlt10.out q hq).2)
                      have cq := cell_of_row _ _ 0 _ _ (0, 0) Lz.box
                      have cpp := cell_of_row _ _ 0 _ _ (0, 0) Pz.box
                      have sm1 := same7_any (fun q => Own lo hi q ∨ q = Bq) (.pointer (some pp)) _ lo hi R wz Lz.mem Lz.top ⟨_, rfl, Lz.rows⟩ hRF.out
                      have sm2 := fun W (g : Bel wz W) => same7_any (fun q => Own lo2 hi2 q ∨ q = Bp) (.pointer (some pp2)) _ lo2 hi2 Q W (Pz.mem.bel g Pz.top) (Nat.le_trans Pz.top g.size) ⟨_, rfl, Pz.rows.bel g⟩ hQF.out
                      have oz := fun W (g : Bel wz W) => pm_all (.pointer (some pp)) lo hi R W (Lz.mem.bel g Lz.top)
                      have hwz := Lib.hid (hwy.out.trans gZ)
                      have hlz := Lib.hid lz
                      clear gZ Lz Pz lz hE hI hys oa
                      go_upto_region 27 with (first
                        | (go_at_call 13; (with_reducible refine sm1.mono ?_); rintro e w13 ⟨rfl, hg13⟩
                           have cp13 := cell_bel hg13 cpp)
                        | (go_at_call 13; (with_reducible refine (sm2 _ hg13).mono ?_); rintro e w14 ⟨rfl, hg14⟩
                           have hg14' := hg13.trans hg14)
                        | (go_at_call 20; refine (oz _ hg14').mono ?_; rintro e w15 ⟨⟨la2, rfl, hla2⟩, hg15⟩
                           have wsa := wsame_refl (X := fun _ => False) la2 lb R.flatten w15 (hla2.ws fun _ _ _ h => h.elim) (hlz.out.bel (hg14'.trans hg15)))
                        | (go_at_call 18; refine wsa.mono ?_; rintro e w16 ⟨rfl, hg16⟩
                           have hg16' := hwz.out.trans (hg14'.trans (hg15.trans hg16))))
                      go_wp2_with (first
                        | (go_at_call 17; refine (pn_load _ _ _).mono ?_; rintro e w17 ⟨rfl, hg17⟩
                           have hz17 := (pz_made w16).bel hg17
                           have hg17' : Bel w w17 := (hg16'.alloc _).trans hg17)
                        | (go_at_call 14; refine (pz_words _ _ _ hz17).mono ?_; rintro e w18 ⟨⟨lw, rfl⟩, hg18⟩
                           have hz18 := hz17.bel hg18
                           have hg18' := hg17'.trans hg18)
                        | (go_at_call 16; refine (pn_store _ _ 1 _).mono ?_; rintro e w19 ⟨rfl, hg19⟩
                           have hz19 := hz18.bel hg19
                           have hg19' := hg18'.trans hg19)
                        | (go_at_call 15; refine (pz_zero _ _ _ _ _ hz19).mono ?_; rintro e w20 ⟨rfl, hg20⟩
                           have hz20 := hz19.bel hg20
                           have hg20' := hg19'.trans hg20)
                        | (go_at_call 20; (with_reducible refine (pn_all _).mono ?_); rintro e w21 ⟨⟨px, cx, rfl⟩, hg21⟩
                           have hz21 := hz20.bel hg21
                           have hg21' := hg20'.trans hg21)
                        | (go_at_call 20; (with_reducible refine (pz_all _ _ hz21).mono ?_); rintro e w22 ⟨⟨px2, cx2, rfl⟩, hg22⟩
                           have hz22 := hz21.bel hg22
                           have hg22' := hg21'.trans hg22)
                        | (go_at_call 19; (with_reducible refine (pn_copy _).mono ?_); rintro e w23 ⟨rfl, hg23⟩
                           have hz23 := hz22.bel hg23
                           have hg23' := hg22'.trans hg23)
                        | (go_at_call 19; (with_reducible refine (pz_copy _ _ hz23).mono ?_); rintro e w24 ⟨rfl, hg24⟩
                           have hg24' := hg23'.trans hg24)
                        | (go_at_call 8; refine (aw _ hg24').mono ?_; rintro e w25 ⟨rfl, hg25⟩))
                      go_ret
                      exact ⟨rfl, hg25⟩
    · simp only [Cf.checkC_no ok] at ck
      clear hI hIb s ok hA hB aw
      subst hwb
      go_enter Try.func5, Try.ntmps5
      go_wp2_with (first
        | (go_at_call 7; refine (gr _ (by assumption)).mono ?_; rintro e w1 ⟨rfl, hg1⟩; obtain ⟨k0, k1, k2, k3, k4, k5⟩ := cf_at hg1)
        | (go_at_call 10; refine (ck _ hg1).mono ?_; rintro e w3 ⟨rfl, hg3⟩)
        | (go_at_call 8; refine (aw' _ hg3).mono ?_; rintro e w4 ⟨rfl, hg4⟩))
      go_ret
      exact ⟨rfl, hb.trans hg4⟩

/-! The row. -/
set_option maxRecDepth 100000 in
theorem lifted (os : Os) (started : os.Started) (H : Type) (enc : TypeId × Value → H) :
    ReturnsInHanded {} Try.checked os 5 .any (Rows.memOwnSpec.pre6 enc Try.prog Try.f5 Rows.memOwnRow.domain false) (Rows.memOwnSpec.post enc Try.prog Try.f5 false true false false) := by
  refine lift_law (C := Try.checked) own started (by kernel_rfl) Try.func5 laid rowed full (by rw [Try.params5]; decide) rfl (by kernel_rfl) Try.underlying4
    (fun ds h => by rw [Try.params5] at h; match ds, h with | [_, _, _], _ => rfl)
    (ChangeSpec.witness6 (enc := enc) (C := Try.checked) false ⟨#[], #[.agg #[.slice none 0 0, .int .i64 0, .slice none 0 0, .int .i64 0, .int .i64 0, .int .i64 0], .slice none 0 0, .slice none 0 0], []⟩ 8 (by kernel_rfl) (by kernel_rfl) (by kernel_rfl) (by kernel_rfl)) ?_
  intro W base args ds p hval hA
  change ∀ (j : Nat) t v, Try.f5.params[j]? = some t → args[j]? = some v → Value.okWide Try.prog W .any base t v at hval
  change DataW.TrodAll enc Try.prog W 0 (fun _ => true) true Try.f5.params.toList args.toList ds p at hA
  rw [Try.params5] at hA hval
  obtain ⟨v0, vs0, d0, ds0, p0, q0, hargs, rfl, rfl, h0, r0⟩ := trodAll_cons hA
  obtain ⟨v1, vs1, d1, ds1, p1, q1, hargs1, rfl, rfl, h1, r1⟩ := trodAll_cons r0
  obtain ⟨v2, vs2, d2, ds2, p2, q2, hargs2, rfl, rfl, h2, r2⟩ := trodAll_cons r1
  obtain ⟨rfl, rfl, rfl⟩ := trodAll_nil r2
  subst hargs2
  subst hargs1
  obtain rfl : args = #[v0, v1, v2] := by cases args; simp_all
  obtain ⟨c, hI, _⟩ := get_cf (hval 0 25 v0 rfl rfl) h0
  obtain ⟨n1, A, hA1⟩ := get_acts (hval 1 26 v1 rfl rfl) h1
  obtain ⟨n2, B, hA2⟩ := get_acts (hval 2 26 v2 rfl rfl) h2
  exact walk v0 c v1 n1 A v2 n2 B W hI hA1 hA2

theorem over : Rows.memOwnRow.holds Try.pinned (OpenSpec.ofChange Rows.memOwnSpec) :=
  OpenClaim.holds_of_wide 5 Try.f5 rfl rfl rfl rfl rfl rfl rfl ⟨rfl, rfl, rfl, rfl, rfl⟩ rfl rfl rfl rfl rfl (by kernel_rfl) Try.func5 (by kernel_rfl)
    (of_decide_eq_true (by kernel_rfl)) (by unfold Func.isWrapper; first | (rw [if_pos (by decide +kernel)]; kernel_rfl) | (rw [if_neg (by decide +kernel)]; exact ⟨rfl, rfl⟩))
    (fun os started H enc _ => lifted os started H enc)

/-- The statement. -/
theorem proved : Rows.MemOwnSaid :=
  over
#print axioms proved
end Go.Proofs.Yteipadpifmjnmaa.memOwn
