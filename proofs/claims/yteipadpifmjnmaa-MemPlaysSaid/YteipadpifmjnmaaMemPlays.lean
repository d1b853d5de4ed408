/- A memory has the document's words, and answers as the document says, whatever is done; for every input, no condition. -/
import Derived.Test.YteipadpifmjnmaaRowk
import Derived.Test.YteipadpifmjnmaaOpx
import Derived.Test.YteipadpifmjnmaaPac
import Derived.Deep.RegionHeld3
import Derived.Deep.Cut
import Derived.Deep.DeepCutAuto
namespace Go.Proofs.Yteipadpifmjnmaa.memPlays
open Go.ChangeShapes Go.WideShapes Go.ChangeAt Go.RowKit Go.Deep Go.Joins
set_option linter.unusedVariables false

set_option maxRecDepth 100000 in
set_option maxHeartbeats 4000000 in
theorem walk (v : Value) (c : Cf) (lv : Value) (n : Nat) (A : Nat → Ac) (w : World) (h : IsCf w v c) (hA : Acts w lv n A) :
    Calls Try.prog 3 #[v, lv] w fun e w' => e = .returned (.bool true) ∧ Below w.heap.size w w' := by
  have hI := h
  obtain ⟨vc, vt, rfl, hN, hT⟩ := h
  obtain ⟨p1, c1, rfl, _⟩ := nums_slice hN
  obtain ⟨p2, c2, rfl, _⟩ := tens_slice hT
  obtain ⟨pl, cl, rfl, nb⟩ := hA.slice
  clear hN hT
  have hb := (Bel.refl w).alloc (.cells #[.slice p1 c.n c1, .int .i64 c.page, .slice p2 c.m c2, .int .i64 c.wk, .int .i64 c.gr, .int .i64 c.gn] 25)
  have g0 := Bel.refl (w.alloc (.cells #[.slice p1 c.n c1, .int .i64 c.page, .slice p2 c.m c2, .int .i64 c.wk, .int .i64 c.gr, .int .i64 c.gn] 25))
  generalize hwb : w.alloc (.cells #[.slice p1 c.n c1, .int .i64 c.page, .slice p2 c.m c2, .int .i64 c.wk, .int .i64 c.gr, .int .i64 c.gn] 25) = wb at *
  have hIb := hI.bel hb
  have gr := fun w1 (g : Bel wb w1) => (great_any _ c w1 (hIb.bel g)).mono fun e w' ⟨a, b⟩ => (⟨a, g.trans b⟩ : _ ∧ Bel wb w')
  have aw := fun w1 (g : Bel w w1) => (awake7_any w1).mono fun e w' ⟨a, b⟩ => (⟨a, g.trans b⟩ : _ ∧ Bel w w')
  have aw' := fun w1 (g : Bel wb w1) => (awake7_any w1).mono fun e w' ⟨a, b⟩ => (⟨a, g.trans b⟩ : _ ∧ Bel wb w')
  have ck := fun w1 (g : Bel wb w1) => rck_any _ c w1 (hIb.bel g)
  by_cases s : c.great7
  · simp only [decide_eq_true s] at gr
    clear hI hIb s ck aw hA
    subst hwb
    go_enter Try.func3, Try.ntmps3
    go_wp2_with (first
      | (go_at_call 7; refine (gr _ (by assumption)).mono ?_; rintro e w1 ⟨rfl, hg1⟩)
      | (go_at_call 8; refine (aw' _ (by assumption)).mono ?_; rintro e w2 ⟨rfl, hg2⟩))
    go_ret
    exact ⟨rfl, hb.trans hg2⟩
  · simp only [decide_eq_false s] at gr
    by_cases ok : c.ok
    · have hT : c.base c.m ≤ 4000 := by
        have : ¬ (4000 < c.totR) := fun x => s (Or.inr x)
        rw [Cf.totR_ok ok] at this
        omega
      simp only [Cf.checkC_ok ok] at ck
      have nw := fun w1 (g : Bel wb w1) => pm_new_ok _ c w1 (hIb.bel g) ok hT
      have rn := fun X w1 (g : Bel wb w1) (hX : Till X w1) => rnew_any X _ c w1 (hIb.bel g) ok hX
      have hz := Lib.hid (Cf.zeros_full ok hT)
      have hid := Lib.hid (And.intro hb hA)
      clear hI hIb s hT ok hA aw'
      subst hwb
      go_enter Try.func3, Try.ntmps3
      go_wp2_with (first
        | (go_at_call 7; refine (gr _ (by assumption)).mono ?_; rintro e w1 ⟨rfl, hg1⟩; obtain ⟨k0, k1, k2, k3, k4, k5⟩ := cf_at hg1)
        | (go_at_call 9; refine (nw _ hg1).mono ?_; rintro e w2 ⟨⟨pp, rfl, hM⟩, hg2⟩
           have hg2' := hg1.trans hg2
           obtain ⟨k0, k1, k2, k3, k4, k5⟩ := cf_at hg2')
        | (go_at_call 10; refine (ck _ hg2').mono ?_; rintro e w3 ⟨rfl, hg3⟩
           have hg3' := hg2'.trans hg3
           obtain ⟨k0, k1, k2, k3, k4, k5⟩ := cf_at hg3')
        | (go_at_call 11; refine (rn (Own w1.heap.size w2.heap.size) _ hg3' (fun k hk => Nat.lt_of_lt_of_le hk.2 hg3.size)).mono ?_; rintro e w4 ⟨⟨q', rfl, rv, rfl, hR⟩, hg4⟩
           obtain ⟨pq, cq, rfl, bq⟩ := hR.slice
           go_loud (have L0 := Lp.start hM rfl hg3 hg4 hR)
           go_loud (have hg4' := hb.trans (hg3'.trans hg4))
           have lo1 := Nat.le_trans hb.size hg1.size
           have sz4 := Nat.le_trans hg2.size (Nat.le_trans hg3.size hg4.size)
           clear hM hR hg2 hg3 hg4 k0 k1 k2 k3 k4 k5))
      obtain ⟨w5, hw5⟩ : ∃ w5, w4.alloc (.cells #[.slice pq c.zeros.length cq] 36) = w5 := ⟨_, rfl⟩
      rw [hw5] at L0
      try rw [hw5]
      have g5 : Bel w w5 := by rw [← hw5]; exact hg4'.alloc _
      have hidA := Lib.hid (And.intro hid.out.2 (And.intro g5 (And.intro lo1 sz4)))
      clear hg4' hw5 nw rn ck gr g0 hg1 hg2' hg3' g5
      generalize w1.heap.size = lo at *
      generalize w2.heap.size = hi at *
      generalize w4.heap.size = Bq at *
      go_loopw [8] (fun i wr => ∃ (k : Nat) (rv : Value), k ≤ n ∧ i = .int .i64 (k : Nat) ∧ RowKit.Hid (Lp w5 wr (.pointer (some pp)) lo hi Bq (playR A c.zeros k) rv)) (fun i _ => n - (intOf i).toNat)
      case atStart => exact ⟨0, _, Nat.zero_le _, rfl, Lib.hid L0⟩
      case round =>
        obtain ⟨k, rv, hk, rfl, hL⟩ := hrel
        have hw : Bel w wr := Below.trans hidA.out.2.1 (hL.out.exc.below (fun q hq => by
          have := hidA.out.2.2.1
          have := hidA.out.2.2.2
          rcases hq with hq | hq
          · exact Nat.le_trans hidA.out.2.2.1 hq.1
          · omega) hidA.out.2.1.size)
        obtain ⟨pr, cr, rfl, br⟩ := hL.out.rows.slice
        have cb := cell_of_row _ _ 0 _ _ (0, 0) hL.out.box
        by_cases ckk : k < n ∧ k < 40
        · obtain ⟨b, off, rfl, hbl, hac, hok⟩ := hidA.out.1.at ckk.1
          obtain ⟨a0, a1, a2, a3, a4⟩ := hac.bel hw
          have kI : (k : Int) < (n : Int) := by omega
          have kz : (0 : Int) ≤ (k : Int) := by omega
          have kf : (k : Int) < 40 := by omega
          have hXw : Till (fun q => Own lo hi q ∨ q = Bq) wr := fun q hq => by
            have := hL.out.top
            have := heap_lt hL.out.box
            rcases hq with hq | hq
            · have := hq.2; omega
            · omega
          have gd := Bel.drew (Bel.refl wr)
          have ga := (Bel.refl wr).alloc (.cells #[.slice none 0 0] 36)
          have gad := Bel.drew ga
          have dz := fun W (g : Bel wr W) => does_any (fun q => Own lo hi q ∨ q = Bq) (.pointer (some pp)) (.agg #[.slice pr (playR A c.zeros k).length cr]) lo hi (playR A c.zeros k) (A k).wh (A k).t (A k).a (A k).n (A k).u W (hL.out.mem.bel g hL.out.top) (Nat.le_trans hL.out.top g.size) (fun q hq => Or.inl hq) ⟨_, rfl, hL.out.rows.bel g⟩ (hXw.bel g) (hz.out.play A k) hok.1 hok.2.2.2.1
          have hNB : ¬ Own lo hi Bq := fun x => by have := x.2; have := hL.out.bq; omega
          have hNb : ¬ Own lo hi b := fun x => by have := x.1; have := hidA.out.2.2.1; omega
          have hNw : ¬ Own lo hi wr.heap.size := fun x => by have := x.2; have := hL.out.top; omega
          have kp : ∀ W, Exc (Own lo hi) wr W → Exc (Own lo hi) wr W ∧ W.cell? ⟨Bq, 0, none⟩ = some (.slice pr (playR A c.zeros k).length cr) ∧ W.cell? ⟨b, off + k * 5, none⟩ = some (.int .u8 ((A k).wh : Nat)) ∧ W.cell? ⟨b, off + k * 5 + 1, none⟩ = some (.int .i64 (A k).t) ∧ W.cell? ⟨b, off + k * 5 + 2, none⟩ = some (.int .i64 (A k).a) ∧ W.cell? ⟨b, off + k * 5 + 3, none⟩ = some (.int .i64 (A k).n) ∧ W.cell? ⟨b, off + k * 5 + 4, none⟩ = some (.int .u64 ((A k).u : Nat)) := fun W g =>
            ⟨g, cell_exc g cb hNB, cell_exc g a0 hNb, cell_exc g a1 hNb, cell_exc g a2 hNb, cell_exc g a3 hNb, cell_exc g a4 hNb⟩
          have gw : Exc (Own lo hi) wr wr := (Bel.refl wr).exc
          have gwd : Exc (Own lo hi) wr wr.drew := gd.exc
          have gwa : Exc (Own lo hi) wr (wr.alloc (.cells #[.slice none 0 0] 36)) := ga.exc
          have gwad : Exc (Own lo hi) wr (wr.alloc (.cells #[.slice none 0 0] 36)).drew := gad.exc
          have hbx0 : (wr.alloc (.cells #[.slice none 0 0] 36)).drew.heap[wr.heap.size]? = some (.cells #[.slice none 0 0] 36 (0, 0)) := heap_alloc_new wr _
          have hidk := Lib.hid (And.intro hok (And.intro hNB (And.intro hNb (And.intro hw (And.intro hXw (And.intro hNw hbx0))))))
          have es : playR A c.zeros (k + 1) = stepR (playR A c.zeros k) (A k).wh (A k).t (A k).a (A k).n (A k).u := rfl
          have hids := Lib.hid es
          have dzA := dz _ gd
          have dzB := does_any (fun q => (Own lo hi q ∨ q = Bq) ∨ q = wr.heap.size) (.pointer (some pp)) (.agg #[.slice pr (playR A c.zeros k).length cr]) lo hi (playR A c.zeros k) (A k).wh (A k).t (A k).a (A k).n (A k).u _ (hL.out.mem.bel gad hL.out.top) (Nat.le_trans hL.out.top gad.size) (fun q hq => Or.inl (Or.inl hq)) ⟨_, rfl, (hL.out.rows.old.less fun q hq => by
              rcases hq with hq | hq
              · exact Or.inl hq
              · exact Or.inr (by omega)).bel gad⟩ (fun q hq => by
              have s1 := size_alloc1 wr (.cells #[.slice none 0 0] 36)
              show q < (wr.alloc _).heap.size
              rcases hq with hq | hq
              · have := hXw q hq; omega
              · omega) (hz.out.play A k) hok.1 hok.2.2.2.1
          clear hok hNB hNb hXw hw hac es gd ga gad hbx0 hNw dz
          generalize stepR (playR A c.zeros k) (A k).wh (A k).t (A k).a (A k).n (A k).u = S at *
          go_upto_region 12 with fail
          go_cut [9, 10] (fun s9 s10 wx => ∃ g9, s9 = .pointer (some ⟨g9, 0, none⟩) ∧ s10 = .bool true ∧ RowKit.Hid (Mid wr wx (.pointer (some pp)) lo hi Bq g9 S))
          case first =>
            go_region_held3 (fun W => Exc (Own lo hi) wr W ∧ W.cell? ⟨Bq, 0, none⟩ = some (.slice pr (playR A c.zeros k).length cr) ∧ W.cell? ⟨b, off + k * 5, none⟩ = some (.int .u8 ((A k).wh : Nat)) ∧ W.cell? ⟨b, off + k * 5 + 1, none⟩ = some (.int .i64 (A k).t) ∧ W.cell? ⟨b, off + k * 5 + 2, none⟩ = some (.int .i64 (A k).a) ∧ W.cell? ⟨b, off + k * 5 + 3, none⟩ = some (.int .i64 (A k).n) ∧ W.cell? ⟨b, off + k * 5 + 4, none⟩ = some (.int .u64 ((A k).u : Nat)))
              (first | with_reducible exact kp _ (by assumption) | with_reducible exact kp _ (Exc.al (by assumption) _))
              (first
                | (go_at_call 12; (with_reducible refine dzA.mono ?_); rintro e w6 ⟨⟨q', rfl, rv', rfl, hR'⟩, hM6, hE6⟩
                   obtain ⟨p', cap', rfl, bd'⟩ := hR'.slice
                   have G6 : Exc (Own lo hi) wr w6 := Exc.trans gwd hE6
                   have hid7 := Lib.hid (And.intro hR' hM6)
                   clear hR' hM6 hE6)
                | (go_at_call 12; (with_reducible refine dzB.mono ?_); rintro e w6 ⟨⟨q', rfl, rv', rfl, hR'⟩, hM6, hE6⟩
                   obtain ⟨p', cap', rfl, bd'⟩ := hR'.slice
                   have G6 : Exc (Own lo hi) wr w6 := Exc.trans gwad hE6
                   obtain ⟨fz, cx3, W7, hW7, hbx7, cx7, hE7⟩ := box_store (x := .slice p' S.length cap') ((hE6.block _ (heap_lt hidk.out.2.2.2.2.2.2) hidk.out.2.2.2.2.2.1).trans hidk.out.2.2.2.2.2.2)
                   have G7 : Exc (Own lo hi) wr W7 := G6.tail hE7 (fun q hq => by omega)
                   have hid7 := Lib.hid (And.intro hR' (And.intro hM6 (And.intro hbx7 hE7)))
                   clear hR' hM6 hE6 hbx7 hE7))
            all_goals go_wp2_with fail
            all_goals go_meet
            · exact ⟨_, rfl, rfl, Lib.hid (Mid.after hid7.out.2 (Nat.le_trans hL.out.top G6.size) hid7.out.1 G6)⟩
            · exact ⟨_, rfl, rfl, Lib.hid (Mid.ahead hid7.out.2.1 (Nat.le_trans hL.out.top G6.size) hL.out.top hid7.out.1 G7 hid7.out.2.2.1 hid7.out.2.2.2)⟩
          case rest =>
            obtain ⟨g9, rfl, rfl, hMid⟩ := hcut
            obtain ⟨p', cap', hb9, hR9⟩ := hMid.out.box
            have c9 := cell_of_row _ _ 0 _ _ (0, 0) hb9
            have hbq := (hMid.out.exc.block _ (heap_lt hL.out.box) hidk.out.2.1).trans hL.out.box
            obtain ⟨fz, cx3, W7, hW7, hbx7, cx7, hE7⟩ := box_store (x := .slice p' S.length cap') hbq
            have hid7 := Lib.hid (And.intro hR9 (And.intro hbx7 hE7))
            clear hb9 hR9 hbq hbx7 hE7
            go_wp2
            go_roundw
            case rel =>
              obtain ⟨hR9, hbx7, hE7⟩ := hid7.out
              refine ⟨k + 1, .slice p' S.length cap', by omega, by go_num, Lib.hid ?_⟩
              rw [hids.out]
              exact hL.out.step hMid.out.mem hR9 hMid.out.exc hbx7 hE7
            case measure => simp only [intOf]; omega
        · by_cases ckn : k < n
          · have kI : (k : Int) < (n : Int) := by omega
            have kf : decide ((k : Int) < 40) = false := decide_eq_false (by omega)
            have sm := same7_any (fun q => Own lo hi q ∨ q = Bq) (.pointer (some pp)) (.agg #[.slice pr (playR A c.zeros k).length cr]) lo hi (playR A c.zeros k) wr hL.out.mem hL.out.top ⟨_, rfl, hL.out.rows⟩ (hz.out.play A k)
            have hidw := Lib.hid hw
            clear hw
            go_wp2_with (first
              | (go_at_call 13; refine sm.mono ?_; rintro e w6 ⟨rfl, hg6⟩; have hg7 := hidw.out.trans hg6)
              | (go_at_call 8; refine (aw _ hg7).mono ?_; rintro e w7 ⟨rfl, hg8⟩))
            go_ret
            exact ⟨rfl, hg8⟩
          · have kI : decide ((k : Int) < (n : Int)) = false := decide_eq_false (by omega)
            have kI2 : decide (k < n) = false := decide_eq_false ckn
            have sm := same7_any (fun q => Own lo hi q ∨ q = Bq) (.pointer (some pp)) (.agg #[.slice pr (playR A c.zeros k).length cr]) lo hi (playR A c.zeros k) wr hL.out.mem hL.out.top ⟨_, rfl, hL.out.rows⟩ (hz.out.play A k)
            have hidw := Lib.hid hw
            clear hw
            go_wp2_with (first
              | (go_at_call 13; refine sm.mono ?_; rintro e w6 ⟨rfl, hg6⟩; have hg7 := hidw.out.trans hg6)
              | (go_at_call 8; refine (aw _ hg7).mono ?_; rintro e w7 ⟨rfl, hg8⟩))
            go_ret
            exact ⟨rfl, hg8⟩
    · have nw := fun w1 (g : Bel wb w1) => (pm_new_no _ c w1 (hIb.bel g) ok).mono fun e w' ⟨a, b⟩ => (⟨a, g.trans b⟩ : _ ∧ Bel wb w')
      simp only [Cf.checkC_no ok] at ck
      clear hI hIb s ok hA aw
      subst hwb
      go_enter Try.func3, Try.ntmps3
      go_wp2_with (first
        | (go_at_call 7; refine (gr _ (by assumption)).mono ?_; rintro e w1 ⟨rfl, hg1⟩; obtain ⟨k0, k1, k2, k3, k4, k5⟩ := cf_at hg1)
        | (go_at_call 9; refine (nw _ hg1).mono ?_; rintro e w2 ⟨rfl, hg2⟩
           obtain ⟨k0, k1, k2, k3, k4, k5⟩ := cf_at hg2)
        | (go_at_call 10; refine (ck _ hg2).mono ?_; rintro e w3 ⟨rfl, hg3⟩
           have hg3' := hg2.trans hg3
           clear k0 k1 k2 k3 k4 k5)
        | (go_at_call 8; refine (aw' _ hg3').mono ?_; rintro e w4 ⟨rfl, hg4⟩))
      go_ret
      exact ⟨rfl, hb.trans hg4⟩

/-! The row. -/
set_option maxRecDepth 100000 in
theorem lifted (os : Os) (started : os.Started) (H : Type) (enc : TypeId × Value → H) :
    ReturnsInHanded {} Try.checked os 3 .any (Rows.memPlaysSpec.pre6 enc Try.prog Try.f3 Rows.memPlaysRow.domain false) (Rows.memPlaysSpec.post enc Try.prog Try.f3 false true false false) := by
  refine lift_law (C := Try.checked) own started (by kernel_rfl) Try.func3 laid rowed full (by rw [Try.params3]; decide) rfl (by kernel_rfl) Try.underlying4
    (fun ds h => by rw [Try.params3] at h; match ds, h with | [_, _], _ => rfl)
    (ChangeSpec.witness6 (enc := enc) (C := Try.checked) false ⟨#[], #[.agg #[.slice none 0 0, .int .i64 0, .slice none 0 0, .int .i64 0, .int .i64 0, .int .i64 0], .slice none 0 0], []⟩ 8 (by kernel_rfl) (by kernel_rfl) (by kernel_rfl) (by kernel_rfl)) ?_
  intro W base args ds p hval hA
  change ∀ (j : Nat) t v, Try.f3.params[j]? = some t → args[j]? = some v → Value.okWide Try.prog W .any base t v at hval
  change DataW.TrodAll enc Try.prog W 0 (fun _ => true) true Try.f3.params.toList args.toList ds p at hA
  rw [Try.params3] at hA hval
  obtain ⟨v0, vs0, d0, ds0, p0, q0, hargs, rfl, rfl, h0, r0⟩ := trodAll_cons hA
  obtain ⟨v1, vs1, d1, ds1, p1, q1, hargs1, rfl, rfl, h1, r1⟩ := trodAll_cons r0
  obtain ⟨rfl, rfl, rfl⟩ := trodAll_nil r1
  subst hargs1
  obtain rfl : args = #[v0, v1] := by cases args; simp_all
  obtain ⟨c, hI, _⟩ := get_cf (hval 0 25 v0 rfl rfl) h0
  obtain ⟨n1, A, hA1⟩ := get_acts (hval 1 26 v1 rfl rfl) h1
  exact walk v0 c v1 n1 A W hI hA1

theorem over : Rows.memPlaysRow.holds Try.pinned (OpenSpec.ofChange Rows.memPlaysSpec) :=
  OpenClaim.holds_of_wide 3 Try.f3 rfl rfl rfl rfl rfl rfl rfl ⟨rfl, rfl, rfl, rfl, rfl⟩ rfl rfl rfl rfl rfl (by kernel_rfl) Try.func3 (by kernel_rfl)
    (of_decide_eq_true (by kernel_rfl)) (by unfold Func.isWrapper; first | (rw [if_pos (by decide +kernel)]; kernel_rfl) | (rw [if_neg (by decide +kernel)]; exact ⟨rfl, rfl⟩))
    (fun os started H enc _ => lifted os started H enc)

/-- The statement. -/
theorem proved : Rows.MemPlaysSaid :=
  over
#print axioms proved
end Go.Proofs.Yteipadpifmjnmaa.memPlays
