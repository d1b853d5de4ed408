/- What one tenant does changes no word of another one's region; what is stored is loaded; what is refused changes nothing; for every input, no condition. -/
import Derived.Test.YteipadpifmjnmaaRowk
import Derived.Test.YteipadpifmjnmaaOpx
import Derived.Test.YteipadpifmjnmaaPac
import Derived.Deep.RegionHeld3
import Derived.Deep.Cut
import Derived.Deep.DeepCutAuto
namespace Go.Proofs.Yteipadpifmjnmaa.memApart
open Go.ChangeShapes Go.WideShapes Go.ChangeAt Go.RowKit Go.Deep Go.Joins
set_option linter.unusedVariables false

theorem St.words {w1 W : World} {m : Value} {lo hi : Nat} {R : List (List Nat)} (h : St w1 W m lo hi R) {t : Nat} {l : List Nat} (hl : R[t]? = some l) :
    Calls Try.prog 14 #[m, .int .i64 (t : Nat)] W fun r W' => (∃ p cap, r = .returned (.tuple #[.slice p l.length cap, .int .i64 0]) ∧ Ws (fun k => k < W.heap.size) W' (.slice p l.length cap) l) ∧ Bel W W' ∧ St w1 W' m lo hi R := by
  have := pm_words m lo hi R t W h.mem
  obtain ⟨e1, e2⟩ := wordsE_at hl
  rw [e1, e2] at this
  refine this.mono ?_
  rintro r W' ⟨⟨lv, rfl, hw⟩, g⟩
  obtain ⟨p, cap, rfl, _⟩ := hw.slice
  exact ⟨⟨p, cap, rfl, hw⟩, g, h.mem.bel g h.top, Nat.le_trans h.top g.size, Exc.trans h.exc g.exc⟩

theorem shape3 {Y : Nat → Prop} {B : Nat} {w : World} {v : Value} {R : List (List Nat)} (h : Orow Y B w v R) : ∃ p n cap, v = .slice p n cap := by
  obtain ⟨p, cap, e⟩ := h.shape
  exact ⟨p, _, cap, e⟩

theorem storeR_len (R : List (List Nat)) (t a : Int) (u : Nat) : (storeR R t a u).length = R.length := by
  unfold storeR; split
  · exact setR_len _ _ _ _
  · rfl
theorem zeroR_len (R : List (List Nat)) (t a n : Int) : (zeroR R t a n).length = R.length := by
  unfold zeroR; split
  · exact wipe_len _ _ _ _
  · rfl
theorem setR_other {R : List (List Nat)} {t a u i : Nat} (h : i ≠ t) : (setR R t a u)[i]? = R[i]? := by
  unfold setR; rw [List.getElem?_set, if_neg (fun e => h e.symm)]
theorem wipe_other {R : List (List Nat)} {t a i : Nat} (h : i ≠ t) : ∀ n, (wipe R t a n)[i]? = R[i]?
  | 0 => rfl
  | n + 1 => (setR_other h).trans (wipe_other h n)
theorem storeR_keep {R : List (List Nat)} {t : Nat} {a : Int} {u i : Nat} (h : i ≠ t ∨ inE R t a ≠ 0) : (storeR R t a u)[i]? = R[i]? := by
  unfold storeR; split
  · rename_i z
    refine setR_other (h.resolve_right fun x => x z) |>.trans rfl
  · rfl
theorem zeroR_keep {R : List (List Nat)} {t : Nat} {a n : Int} {i : Nat} (h : i ≠ t ∨ zeroE R t a n ≠ 0) : (zeroR R t a n)[i]? = R[i]? := by
  unfold zeroR; split
  · rename_i z
    exact wipe_other (h.resolve_right fun x => x z) _
  · rfl
/-- what was stored is loaded -/
theorem load_stored (R : List (List Nat)) (t : Nat) (a : Int) (u : Nat) : inE (storeR R t a u) t a = inE R t a ∧ (inE R t a = 0 → loadR (storeR R t a u) t a = u) := by
  have e : inE (storeR R t a u) t a = inE R t a := by
    unfold inE
    rw [storeR_len]
    have : ((storeR R t a u).getD t []).length = (R.getD t []).length := by
      unfold storeR; split
      · exact setR_row _ _ _ _ _
      · rfl
    simp only [Int.toNat_natCast, this]
  refine ⟨e, fun z => ?_⟩
  unfold loadR
  rw [if_pos (by rw [e, z])]
  obtain ⟨t', a', l, u0, e1, e2, h1, h2, h3, h4⟩ := inE_ok z
  have e1' : t = t' := by omega
  subst e1'
  subst e2
  have e3 : storeR R t a' u = setR R t a' u := by unfold storeR; rw [if_pos z, Int.toNat_natCast, Int.toNat_natCast]
  have e4 : (setR R t a' u).getD t [] = l.set a' u := by rw [List.getD_eq_getElem?_getD, setR_here h1]; rfl
  have := (List.getElem?_eq_some_iff.1 h2).1
  rw [e3, Int.toNat_natCast, Int.toNat_natCast, e4, List.getD_eq_getElem?_getD, List.getElem?_set, if_pos rfl, if_pos this]
  rfl

set_option maxRecDepth 100000 in
set_option maxHeartbeats 4000000 in
theorem walk (v : Value) (c : Cf) (tn : Nat) (htn : tn ≤ 255) (lv : Value) (n : Nat) (A : Nat → Ac) (w : World) (h : IsCf w v c) (hA : Acts w lv n A) :
    Calls Try.prog 4 #[v, .int .u8 (tn : Nat), lv] w fun e w' => e = .returned (.bool true) ∧ Below w.heap.size w w' := by
  have hI := h
  obtain ⟨vc, vt, rfl, hN, hT⟩ := h
  obtain ⟨p1, c1, rfl, _⟩ := nums_slice hN
  obtain ⟨p2, c2, rfl, _⟩ := tens_slice hT
  obtain ⟨pl, cl, rfl, nb⟩ := hA.slice
  clear hN hT
  have hb := (Bel.refl w).alloc (.cells #[.slice p1 c.n c1, .int .i64 c.page, .slice p2 c.m c2, .int .i64 c.wk, .int .i64 c.gr, .int .i64 c.gn] 25)
  have g0 := Bel.refl (w.alloc (.cells #[.slice p1 c.n c1, .int .i64 c.page, .slice p2 c.m c2, .int .i64 c.wk, .int .i64 c.gr, .int .i64 c.gn] 25))
  generalize hwb : w.alloc (.cells #[.slice p1 c.n c1, .int .i64 c.page, .slice p2 c.m c2, .int .i64 c.wk, .int .i64 c.gr, .int .i64 c.gn] 25) = wb at *
  have hIb := hI.bel hb
  have gr := fun w1 (g : Bel wb w1) => (great_any _ c w1 (hIb.bel g)).mono fun e w' ⟨a, b⟩ => (⟨a, g.trans b⟩ : _ ∧ Bel wb w')
  have aw := fun w1 (g : Bel w w1) => (awake7_any w1).mono fun e w' ⟨a, b⟩ => (⟨a, g.trans b⟩ : _ ∧ Bel w w')
  have aw' := fun w1 (g : Bel wb w1) => (awake7_any w1).mono fun e w' ⟨a, b⟩ => (⟨a, g.trans b⟩ : _ ∧ Bel wb w')
  have ck := fun w1 (g : Bel wb w1) => (rck_any _ c w1 (hIb.bel g)).mono fun e w' ⟨a, b⟩ => (⟨a, g.trans b⟩ : _ ∧ Bel wb w')
  by_cases s : c.great7
  · simp only [decide_eq_true s] at gr
    clear hI hIb s ck aw hA
    subst hwb
    go_enter Try.func4, Try.ntmps4
    go_wp2_with (first
      | (go_at_call 7; refine (gr _ (by assumption)).mono ?_; rintro e w1 ⟨rfl, hg1⟩)
      | (go_at_call 8; refine (aw' _ (by assumption)).mono ?_; rintro e w2 ⟨rfl, hg2⟩))
    go_ret
    exact ⟨rfl, hb.trans hg2⟩
  · simp only [decide_eq_false s] at gr
    by_cases ok : c.ok
    · have hT : c.base c.m ≤ 4000 := by
        have : ¬ (4000 < c.totR) := fun x => s (Or.inr x)
        rw [Cf.totR_ok ok] at this
        omega
      simp only [Cf.checkC_ok ok] at ck
      have nw := fun w1 (g : Bel wb w1) => pm_new_ok _ c w1 (hIb.bel g) ok hT
      have hz := Lib.hid (And.intro (Cf.zeros_full ok hT) c.zeros_len)
      have hid := Lib.hid (And.intro hb hA)
      have m8 := Cf.ok_m ok
      have tm : ∃ t : Nat, (tn : Int) % (c.m : Int) = (t : Int) ∧ t < c.m := ⟨tn % c.m, by omega, Nat.mod_lt _ (by omega)⟩
      obtain ⟨o, hto, ho⟩ := tm
      have m1 : (1 : Int) ≤ (c.m : Int) := by omega
      have mI : (c.m : Int) ≤ 8 := by omega
      have xI : (tn : Int) ≤ 255 := by omega
      have x0 : (0 : Int) ≤ (tn : Int) := by omega
      clear hI hIb s hT ok hA aw'
      subst hwb
      go_enter Try.func4, Try.ntmps4
      go_wp2_with (first
        | (go_at_call 7; refine (gr _ (by assumption)).mono ?_; rintro e w1 ⟨rfl, hg1⟩; obtain ⟨k0, k1, k2, k3, k4, k5⟩ := cf_at hg1)
        | (go_at_call 10; refine (ck _ hg1).mono ?_; rintro e w3 ⟨rfl, hg3⟩
           obtain ⟨k0, k1, k2, k3, k4, k5⟩ := cf_at hg3)
        | (go_at_call 9; refine (nw _ hg3).mono ?_; rintro e w4 ⟨⟨pp, rfl, hM⟩, hg4⟩
           have hg4' := hg3.trans hg4
           obtain ⟨k0, k1, k2, k3, k4, k5⟩ := cf_at hg4'
           have L0 : St w4 w4 (.pointer (some pp)) w3.heap.size w4.heap.size c.zeros := ⟨hM, Nat.le_refl _, (Bel.refl w4).exc⟩
           have lo1 := Nat.le_trans hb.size hg3.size
           have lo2 := hg3.size
           have g5 := hb.trans hg4'
           clear hM))
      simp only [hto]
      have hidA := Lib.hid (And.intro hid.out.2 (And.intro g5 (And.intro lo1 (And.intro lo2 hg4'))))
      have lh := hg4.size
      clear nw ck gr g0 hg1 hg3 hg4 hg4' g5 hto
      generalize w3.heap.size = lo at *
      generalize w4.heap.size = hi at *
      -- the boxed configuration, wherever
      have kc : ∀ W, Exc (Own lo hi) w4 W → W.cell? ⟨w.heap.size, 2, none⟩ = some (.slice p2 c.m c2) := fun W g => cell_exc g k2 (fun x => by
        have := x.1
        have := hidA.out.2.2.2.1
        rw [size_alloc1] at this
        dsimp at *
        omega)
      clear k0 k1 k2 k3 k4 k5
      go_loopw [10] (fun i wr => ∃ (k : Nat) (R : List (List Nat)), k ≤ n ∧ i = .int .i64 (k : Nat) ∧ RowKit.Hid (St w4 wr (.pointer (some pp)) lo hi R ∧ RmFull R ∧ R.length = c.m)) (fun i _ => n - (intOf i).toNat)
      case atStart => exact ⟨0, _, Nat.zero_le _, rfl, Lib.hid ⟨L0, hz.out.1, hz.out.2⟩⟩
      case round =>
        obtain ⟨k, R, hk, rfl, hL⟩ := hrel
        have hw : Bel w wr := Below.trans hidA.out.2.1 (hL.out.1.exc.below (fun q hq => Nat.le_trans hidA.out.2.2.1 hq.1) hidA.out.2.1.size)
        have kcw := kc _ hL.out.1.exc
        by_cases ckk : k < n ∧ k < 40
        · obtain ⟨b, off, rfl, hbl, hac, hok⟩ := hidA.out.1.at ckk.1
          obtain ⟨a0, a1, a2, a3, a4⟩ := hac.bel hw
          have kI : (k : Int) < (n : Int) := by omega
          have kz : (0 : Int) ≤ (k : Int) := by omega
          have kf : (k : Int) < 40 := by omega
          go_wp2
          obtain ⟨wu, rfl⟩ : ∃ wu, wu = wr := ⟨wr, rfl⟩
          have dB := Bel.refl (wu.alloc (.cells #[.int .u8 ((A k).wh : Nat), .int .i64 (A k).t, .int .i64 (A k).a, .int .i64 (A k).n, .int .u64 ((A k).u : Nat)] 42))
          have box := fun W1 (g : Bel (wu.alloc (.cells #[.int .u8 ((A k).wh : Nat), .int .i64 (A k).t, .int .i64 (A k).a, .int .i64 (A k).n, .int .u64 ((A k).u : Nat)] 42)) W1) => act_at (w := wu) rfl g
          have g1 := (Bel.refl wu).alloc (.cells #[.int .u8 ((A k).wh : Nat), .int .i64 (A k).t, .int .i64 (A k).a, .int .i64 (A k).n, .int .u64 ((A k).u : Nat)] 42)
          have sx := size_alloc1 wu (.cells #[.int .u8 ((A k).wh : Nat), .int .i64 (A k).t, .int .i64 (A k).a, .int .i64 (A k).n, .int .u64 ((A k).u : Nat)] 42)
          generalize wu.alloc (.cells #[.int .u8 ((A k).wh : Nat), .int .i64 (A k).t, .int .i64 (A k).a, .int .i64 (A k).n, .int .u64 ((A k).u : Nat)] 42) = wx at *
          have hidb := Lib.hid (And.intro hok hw)
          clear a0 a1 a2 a3 a4 hac hok hw
          go_loopw [13, 12] (fun i o2 wr => ∃ t : Nat, t ≤ c.m ∧ i = .int .i64 (t : Nat) ∧ RowKit.Hid (Orow (Own lo hi) wx.heap.size wr o2 (R.take t)) ∧ Bel wx wr) (fun i _ _ => c.m - (intOf i).toNat)
          case atStart => exact ⟨0, Nat.zero_le _, rfl, Lib.hid (Orow.nil _ _ _), dB⟩
          case round =>
            obtain ⟨t, ht, rfl, hO, hb2⟩ := hrel
            have s2 : St w4 wr (.pointer (some pp)) lo hi R := ⟨hL.out.1.mem.bel (g1.trans hb2) hL.out.1.top, Nat.le_trans hL.out.1.top (g1.trans hb2).size, Exc.trans hL.out.1.exc (g1.trans hb2).exc⟩
            have kc2 := kc _ s2.exc
            by_cases ct : t < c.m
            · obtain ⟨l, hl⟩ : ∃ l, R[t]? = some l := ⟨R[t]'(by rw [hL.out.2.2]; exact ct), List.getElem?_eq_getElem _⟩
              have wo := St.words s2 hl
              have tI : (t : Int) < (c.m : Int) := by omega
              have tz : (0 : Int) ≤ (t : Int) := by omega
              have hQ : (R.take t).length ≤ 1000 := by rw [List.length_take]; have := hL.out.2.1.1; omega
              obtain ⟨po, no, co, rfl⟩ := shape3 hO.out
              have hidO := Lib.hid (And.intro hQ (And.intro (take_more hl) s2.top))
              clear hQ hl
              go_wp2_with (first
                | (go_at_call 14; refine wo.mono ?_; rintro e w5 ⟨⟨pw, cw, rfl, hlw⟩, hg5, hS5⟩)
                | (at_builtin
                   refine wpList_push rfl (.tmp 74) (.tmp 76) rfl wx.heap.size _ _ _ l rfl (hO.out.bel hg5) rfl (hlw.less fun q hq => by
                     rcases hq with hq | hq
                     · have := hq.2; have := hidO.out.2.2; omega
                     · exact (hO.out.lt q hq).2) hidO.out.1 (Nat.le_trans hb2.size hg5.size) ?_
                   intro p' n' cap' w6 hO6 hB6
                   have hid6 := Lib.hid (And.intro hO6 hB6)
                   clear hO6 hB6))
              go_roundw
              case rel =>
                refine ⟨t + 1, by omega, by go_num, Lib.hid ?_, Below.trans hb2 (Below.trans (hg5.mono hb2.size) hid6.out.2)⟩
                rw [hidO.out.2.1]
                exact hid6.out.1
              case measure => simp only [intOf]; omega
            · obtain rfl : t = c.m := by omega
              obtain ⟨w2, rfl⟩ : ∃ w2, w2 = wr := ⟨wr, rfl⟩
              have hO := hO.out
              rw [List.take_of_length_le (by rw [hL.out.2.2]; omega)] at hO
              obtain ⟨po, no, co, rfl⟩ := shape3 hO
              obtain ⟨b0, b1, b2, b3, b4⟩ := box _ hb2
              have hw2 : Bel w w2 := hidb.out.2.trans (g1.trans hb2)
              have hP : ¬ Own lo hi wu.heap.size := fun x => by have := x.2; have := hL.out.1.top; omega
              have hwh := hidb.out.1.1
              by_cases w3 : (A k).wh % 4 = 3
              · have e3 : ((A k).wh : Int) % 4 = 3 := by omega
                have zc := pm_zero (.pointer (some pp)) lo hi R o (A k).a (A k).n w2 s2.mem s2.top hidb.out.1.2.2.2.1
                have hkeep : ∀ i, (i ≠ o ∨ zeroE R o (A k).a (A k).n ≠ 0) → (zeroR R o (A k).a (A k).n)[i]? = R[i]? := fun i h => zeroR_keep h
                have hfull := hL.out.2.1.zero o (A k).a (A k).n
                have hlen : (zeroR R o (A k).a (A k).n).length = c.m := (zeroR_len _ _ _ _).trans hL.out.2.2
                generalize zeroE R o (A k).a (A k).n = E at *
                generalize zeroR R o (A k).a (A k).n = R' at *
                have hO2 := Lib.hid hO
                have hw2' := Lib.hid hw2
                have s2' := Lib.hid s2
                clear hO hw2 s2 dB
                go_wp2_with (go_at_call 15; refine zc.mono ?_; rintro e w6 ⟨rfl, hM6, hE6⟩
                             have s6 : St w4 w6 (.pointer (some pp)) lo hi R' := ⟨hM6, Nat.le_trans s2'.out.top hE6.size, Exc.trans s2'.out.exc hE6⟩)
                have hO := hO2.out
                have hw2 := hw2'.out
                clear b0 b1 b2 b3 b4 box kc2 hM6 zc
                have hRs := Lib.hid ((hO.rs (X := Own lo hi) (fun q hq x => by have := x.2; have := hL.out.1.top; omega) (fun q hq => hq)).exc hE6)
                have hbz : Bel w w6 := Below.trans hw2 (hE6.below (fun q hq => Nat.le_trans hidA.out.2.2.1 hq.1) hw2.size)
                have kc6 := kc _ s6.exc
                have g6 := Bel.refl w6
                have hid6 := Lib.hid (And.intro s6 (And.intro hkeep (And.intro hfull (And.intro hlen hbz))))
                clear hO hE6 hbz hkeep hfull hlen hw2
                go_loopw [19] (fun i wr => ∃ t : Nat, t ≤ c.m ∧ i = .int .i64 (t : Nat) ∧ Bel w6 wr) (fun i _ => c.m - (intOf i).toNat)
                case atStart => exact ⟨0, Nat.zero_le _, rfl, g6⟩
                case round =>
                  obtain ⟨t, ht, rfl, hb7⟩ := hrel
                  have kc7 := cell_bel hb7 kc6
                  by_cases ct : t < c.m
                  · obtain ⟨l, hl⟩ : ∃ l, R'[t]? = some l := ⟨R'[t]'(by rw [hid6.out.2.2.2.1]; exact ct), List.getElem?_eq_getElem _⟩
                    have s7 : St w4 wr (.pointer (some pp)) lo hi R' := ⟨s6.mem.bel hb7 s6.top, Nat.le_trans s6.top hb7.size, Exc.trans s6.exc hb7.exc⟩
                    have wo := St.words s7 hl
                    have tI : (t : Int) < (c.m : Int) := by omega
                    have tz : (0 : Int) ≤ (t : Int) := by omega
                    by_cases q : t ≠ o ∨ E ≠ 0
                    · have hRl : R[t]? = some l := by rw [← hid6.out.2.1 t q]; exact hl
                      obtain ⟨b2, off2, cap2, lv2, ev, j1, j2, j3, j4, cc, hww⟩ := (hRs.out.bel hb7).at hRl
                      have sa := fun (a : Value) W1 (Y : Nat → Prop) (ha : Ws Y W1 a l) (g : Bel wr W1) => wsame_refl a lv2 l W1 ha (hww.bel g)
                      have RL : R.length = c.m := hL.out.2.2
                      injection ev with ev1 ev2 ev3
                      subst ev1; subst ev2; subst ev3
                      have tR : (t : Int) < (R.length : Int) := by omega
                      have hidl := Lib.hid RL
                      clear hl hRl hww RL s7
                      by_cases e : t = o
                      · have hE : (E != 0) = true := by rw [bne_iff_ne]; exact q.resolve_left (fun x => x e)
                        have hE2 : ¬ E = 0 := q.resolve_left (fun x => x e)
                        subst e
                        clear q
                        go_wp2_with (first
                          | (go_at_call 14; refine wo.mono ?_; rintro e w8 ⟨⟨pw, cw, rfl, hlw⟩, hg8, hS8⟩
                             have cc8 := cell_bel hg8 cc)
                          | (go_at_call 18; refine (sa _ _ _ hlw (by assumption)).mono ?_; rintro e w9 ⟨rfl, hg9⟩))
                        go_roundw
                        case rel => exact ⟨t + 1, by omega, by go_num, hb7.trans (hg8.trans hg9)⟩
                        case measure => simp only [intOf]; omega
                      · have hne : ((t : Int) != (o : Int)) = true := by rw [bne_iff_ne]; omega
                        have hne2 : ¬ ((t : Int) = (o : Int)) := by omega
                        clear q
                        go_wp2_with (first
                          | (go_at_call 14; refine wo.mono ?_; rintro e w8 ⟨⟨pw, cw, rfl, hlw⟩, hg8, hS8⟩
                             have cc8 := cell_bel hg8 cc)
                          | (go_at_call 18; refine (sa _ _ _ hlw (by assumption)).mono ?_; rintro e w9 ⟨rfl, hg9⟩))
                        go_roundw
                        case rel => exact ⟨t + 1, by omega, by go_num, hb7.trans (hg8.trans hg9)⟩
                        case measure => simp only [intOf]; omega
                    · obtain ⟨rfl, rfl⟩ : t = o ∧ E = 0 := by
                        refine ⟨Decidable.byContradiction fun x => q (Or.inl x), Decidable.byContradiction fun x => q (Or.inr x)⟩
                      clear q hl s7
                      go_wp2_with (go_at_call 14; refine wo.mono ?_; rintro e w8 ⟨⟨pw, cw, rfl, hlw⟩, hg8, hS8⟩)
                      go_roundw
                      case rel => exact ⟨t + 1, by omega, by go_num, hb7.trans hg8⟩
                      case measure => simp only [intOf]; omega
                  · obtain rfl : t = c.m := by omega
                    go_wp2
                    go_roundw
                    case rel =>
                      refine ⟨k + 1, R', by omega, by go_num, Lib.hid ⟨⟨s6.mem.bel hb7 s6.top, Nat.le_trans s6.top hb7.size, Exc.trans s6.exc hb7.exc⟩, hid6.out.2.2.1, hid6.out.2.2.2.1⟩⟩
                    case measure => simp only [intOf]; omega
              · have e3 : (((A k).wh : Int) % 4 == 3) = false := by rw [beq_eq_false_iff_ne]; omega
                have e3' : ¬ (((A k).wh : Int) % 4 = 3) := by omega
                have sc := pm_store (.pointer (some pp)) lo hi R o (A k).a (A k).u w2 s2.mem s2.top
                have hkeep : ∀ i, (i ≠ o ∨ inE R o (A k).a ≠ 0) → (storeR R o (A k).a (A k).u)[i]? = R[i]? := fun i h => storeR_keep h
                have hfull := hL.out.2.1.store o (A k).a (A k).u
                have hlen : (storeR R o (A k).a (A k).u).length = c.m := (storeR_len _ _ _ _).trans hL.out.2.2
                have ldd := load_stored R o (A k).a (A k).u
                have ld := fun W (h : IsMem W (.pointer (some pp)) lo hi (storeR R o (A k).a (A k).u)) => pm_load (.pointer (some pp)) lo hi (storeR R o (A k).a (A k).u) o (A k).a W h
                rw [ldd.1] at ld
                by_cases z : inE R o (A k).a = 0
                · rw [ldd.2 z] at ld
                  clear ldd
                  rw [z] at ld sc hkeep
                  clear z
                  obtain ⟨E, hE0⟩ : ∃ E : Int, E = 0 := ⟨0, rfl⟩
                  generalize storeR R o (A k).a (A k).u = R' at *
                  have hO2 := Lib.hid hO
                  have hw2' := Lib.hid hw2
                  have s2' := Lib.hid s2
                  have hk2 := Lib.hid hkeep
                  clear hO hw2 s2 dB hkeep
                  go_wp2_with (first
                    | (go_at_call 16; refine sc.mono ?_; rintro e w5 ⟨rfl, hM5, hE5⟩
                       have b1 := cell_exc hE5 b1 hP
                       have b2 := cell_exc hE5 b2 hP
                       have b4 := cell_exc hE5 b4 hP)
                    | (go_at_call 17; refine (ld _ hM5).mono ?_; rintro e w6 ⟨rfl, hg6⟩
                       have hE6 := Exc.trans hE5 hg6.exc
                       have t5 := Nat.le_trans s2'.out.top hE5.size
                       have s6 : St w4 w6 (.pointer (some pp)) lo hi R' := ⟨hM5.bel hg6 t5, Nat.le_trans t5 hg6.size, Exc.trans s2'.out.exc hE6⟩
                       have b4 := cell_bel hg6 b4))
                  have hO := hO2.out
                  have hw2 := hw2'.out
                  have hkeep := hk2.out
                  clear hM5 sc ld hE0
                  have hRs := Lib.hid ((hO.rs (X := Own lo hi) (fun q hq x => by have := x.2; have := hL.out.1.top; omega) (fun q hq => hq)).exc hE6)
                  have hbz : Bel w w6 := Below.trans hw2 (hE6.below (fun q hq => Nat.le_trans hidA.out.2.2.1 hq.1) hw2.size)
                  have kc6 := kc _ s6.exc
                  have g6 := Bel.refl w6
                  have hid6 := Lib.hid (And.intro s6 (And.intro hkeep (And.intro hfull (And.intro hlen hbz))))
                  clear hO hE6 hbz hkeep hfull hlen hw2
                  go_loopw [19] (fun i wr => ∃ t : Nat, t ≤ c.m ∧ i = .int .i64 (t : Nat) ∧ Bel w6 wr) (fun i _ => c.m - (intOf i).toNat)
                  case atStart => exact ⟨0, Nat.zero_le _, rfl, g6⟩
                  case round =>
                    obtain ⟨t, ht, rfl, hb7⟩ := hrel
                    have kc7 := cell_bel hb7 kc6
                    by_cases ct : t < c.m
                    · obtain ⟨l, hl⟩ : ∃ l, R'[t]? = some l := ⟨R'[t]'(by rw [hid6.out.2.2.2.1]; exact ct), List.getElem?_eq_getElem _⟩
                      have s7 : St w4 wr (.pointer (some pp)) lo hi R' := ⟨s6.mem.bel hb7 s6.top, Nat.le_trans s6.top hb7.size, Exc.trans s6.exc hb7.exc⟩
                      have wo := St.words s7 hl
                      have tI : (t : Int) < (c.m : Int) := by omega
                      have tz : (0 : Int) ≤ (t : Int) := by omega
                      by_cases q : t ≠ o
                      · have hRl : R[t]? = some l := by rw [← hid6.out.2.1 t (Or.inl q)]; exact hl
                        obtain ⟨b2, off2, cap2, lv2, ev, j1, j2, j3, j4, cc, hww⟩ := (hRs.out.bel hb7).at hRl
                        have sa := fun (a : Value) W1 (Y : Nat → Prop) (ha : Ws Y W1 a l) (g : Bel wr W1) => wsame_refl a lv2 l W1 ha (hww.bel g)
                        have RL : R.length = c.m := hL.out.2.2
                        injection ev with ev1 ev2 ev3
                        subst ev1; subst ev2; subst ev3
                        have tR : (t : Int) < (R.length : Int) := by omega
                        have hidl := Lib.hid RL
                        clear hl hRl hww RL s7
                        have hne : ((t : Int) != (o : Int)) = true := by rw [bne_iff_ne]; omega
                        have hne2 : ¬ ((t : Int) = (o : Int)) := by omega
                        clear q
                        go_wp2_with (first
                          | (go_at_call 14; refine wo.mono ?_; rintro e w8 ⟨⟨pw, cw, rfl, hlw⟩, hg8, hS8⟩
                             have cc8 := cell_bel hg8 cc)
                          | (go_at_call 18; refine (sa _ _ _ hlw (by assumption)).mono ?_; rintro e w9 ⟨rfl, hg9⟩))
                        go_roundw
                        case rel => exact ⟨t + 1, by omega, by go_num, hb7.trans (hg8.trans hg9)⟩
                        case measure => simp only [intOf]; omega
                      · obtain rfl : t = o := Decidable.byContradiction fun x => q x
                        clear q hl s7
                        go_wp2_with (go_at_call 14; refine wo.mono ?_; rintro e w8 ⟨⟨pw, cw, rfl, hlw⟩, hg8, hS8⟩)
                        go_roundw
                        case rel => exact ⟨t + 1, by omega, by go_num, hb7.trans hg8⟩
                        case measure => simp only [intOf]; omega
                    · obtain rfl : t = c.m := by omega
                      go_wp2
                      go_roundw
                      case rel =>
                        refine ⟨k + 1, R', by omega, by go_num, Lib.hid ⟨⟨s6.mem.bel hb7 s6.top, Nat.le_trans s6.top hb7.size, Exc.trans s6.exc hb7.exc⟩, hid6.out.2.2.1, hid6.out.2.2.2.1⟩⟩
                      case measure => simp only [intOf]; omega
                · have z2 : (inE R o (A k).a == 0) = false := by rw [beq_eq_false_iff_ne]; exact z
                  clear ldd
                  generalize loadR (storeR R o (A k).a (A k).u) o (A k).a = L at *
                  generalize inE R o (A k).a = E at *
                  generalize storeR R o (A k).a (A k).u = R' at *
                  have hO2 := Lib.hid hO
                  have hw2' := Lib.hid hw2
                  have s2' := Lib.hid s2
                  have hk2 := Lib.hid hkeep
                  clear hO hw2 s2 dB hkeep
                  go_wp2_with (first
                    | (go_at_call 16; refine sc.mono ?_; rintro e w5 ⟨rfl, hM5, hE5⟩
                       have b1 := cell_exc hE5 b1 hP
                       have b2 := cell_exc hE5 b2 hP
                       have b4 := cell_exc hE5 b4 hP)
                    | (go_at_call 17; refine (ld _ hM5).mono ?_; rintro e w6 ⟨rfl, hg6⟩
                       have hE6 := Exc.trans hE5 hg6.exc
                       have t5 := Nat.le_trans s2'.out.top hE5.size
                       have s6 : St w4 w6 (.pointer (some pp)) lo hi R' := ⟨hM5.bel hg6 t5, Nat.le_trans t5 hg6.size, Exc.trans s2'.out.exc hE6⟩
                       have b4 := cell_bel hg6 b4))
                  have hO := hO2.out
                  have hw2 := hw2'.out
                  have hkeep := hk2.out
                  clear hM5 sc ld
                  have hRs := Lib.hid ((hO.rs (X := Own lo hi) (fun q hq x => by have := x.2; have := hL.out.1.top; omega) (fun q hq => hq)).exc hE6)
                  have hbz : Bel w w6 := Below.trans hw2 (hE6.below (fun q hq => Nat.le_trans hidA.out.2.2.1 hq.1) hw2.size)
                  have kc6 := kc _ s6.exc
                  have g6 := Bel.refl w6
                  have hid6 := Lib.hid (And.intro s6 (And.intro hkeep (And.intro hfull (And.intro hlen hbz))))
                  clear hO hE6 hbz hkeep hfull hlen hw2
                  go_loopw [19] (fun i wr => ∃ t : Nat, t ≤ c.m ∧ i = .int .i64 (t : Nat) ∧ Bel w6 wr) (fun i _ => c.m - (intOf i).toNat)
                  case atStart => exact ⟨0, Nat.zero_le _, rfl, g6⟩
                  case round =>
                    obtain ⟨t, ht, rfl, hb7⟩ := hrel
                    have kc7 := cell_bel hb7 kc6
                    by_cases ct : t < c.m
                    · obtain ⟨l, hl⟩ : ∃ l, R'[t]? = some l := ⟨R'[t]'(by rw [hid6.out.2.2.2.1]; exact ct), List.getElem?_eq_getElem _⟩
                      have s7 : St w4 wr (.pointer (some pp)) lo hi R' := ⟨s6.mem.bel hb7 s6.top, Nat.le_trans s6.top hb7.size, Exc.trans s6.exc hb7.exc⟩
                      have wo := St.words s7 hl
                      have tI : (t : Int) < (c.m : Int) := by omega
                      have tz : (0 : Int) ≤ (t : Int) := by omega
                      by_cases q : t ≠ o ∨ E ≠ 0
                      · have hRl : R[t]? = some l := by rw [← hid6.out.2.1 t q]; exact hl
                        obtain ⟨b2, off2, cap2, lv2, ev, j1, j2, j3, j4, cc, hww⟩ := (hRs.out.bel hb7).at hRl
                        have sa := fun (a : Value) W1 (Y : Nat → Prop) (ha : Ws Y W1 a l) (g : Bel wr W1) => wsame_refl a lv2 l W1 ha (hww.bel g)
                        have RL : R.length = c.m := hL.out.2.2
                        injection ev with ev1 ev2 ev3
                        subst ev1; subst ev2; subst ev3
                        have tR : (t : Int) < (R.length : Int) := by omega
                        have hidl := Lib.hid RL
                        clear hl hRl hww RL s7
                        by_cases e : t = o
                        · have hE : (E != 0) = true := by rw [bne_iff_ne]; exact q.resolve_left (fun x => x e)
                          have hE2 : ¬ E = 0 := q.resolve_left (fun x => x e)
                          subst e
                          clear q
                          go_wp2_with (first
                            | (go_at_call 14; refine wo.mono ?_; rintro e w8 ⟨⟨pw, cw, rfl, hlw⟩, hg8, hS8⟩
                               have cc8 := cell_bel hg8 cc)
                            | (go_at_call 18; refine (sa _ _ _ hlw (by assumption)).mono ?_; rintro e w9 ⟨rfl, hg9⟩))
                          go_roundw
                          case rel => exact ⟨t + 1, by omega, by go_num, hb7.trans (hg8.trans hg9)⟩
                          case measure => simp only [intOf]; omega
                        · have hne : ((t : Int) != (o : Int)) = true := by rw [bne_iff_ne]; omega
                          have hne2 : ¬ ((t : Int) = (o : Int)) := by omega
                          clear q
                          go_wp2_with (first
                            | (go_at_call 14; refine wo.mono ?_; rintro e w8 ⟨⟨pw, cw, rfl, hlw⟩, hg8, hS8⟩
                               have cc8 := cell_bel hg8 cc)
                            | (go_at_call 18; refine (sa _ _ _ hlw (by assumption)).mono ?_; rintro e w9 ⟨rfl, hg9⟩))
                          go_roundw
                          case rel => exact ⟨t + 1, by omega, by go_num, hb7.trans (hg8.trans hg9)⟩
                          case measure => simp only [intOf]; omega
                      · exact absurd (Decidable.byContradiction fun x => q (Or.inr x)) z
                    · obtain rfl : t = c.m := by omega
                      go_wp2
                      go_roundw
                      case rel =>
                        refine ⟨k + 1, R', by omega, by go_num, Lib.hid ⟨⟨s6.mem.bel hb7 s6.top, Nat.le_trans s6.top hb7.size, Exc.trans s6.exc hb7.exc⟩, hid6.out.2.2.1, hid6.out.2.2.2.1⟩⟩
                      case measure => simp only [intOf]; omega
        · by_cases ckn : k < n
          · have kI : (k : Int) < (n : Int) := by omega
            have kf : decide ((k : Int) < 40) = false := decide_eq_false (by omega)
            have hidw := Lib.hid hw
            clear hw
            go_wp2_with (go_at_call 8; refine (aw _ hidw.out).mono ?_; rintro e w7 ⟨rfl, hg8⟩)
            go_ret
            exact ⟨rfl, hg8⟩
          · have kI : decide ((k : Int) < (n : Int)) = false := decide_eq_false (by omega)
            have kI2 : decide (k < n) = false := decide_eq_false ckn
            have hidw := Lib.hid hw
            clear hw
            go_wp2_with (go_at_call 8; refine (aw _ hidw.out).mono ?_; rintro e w7 ⟨rfl, hg8⟩)
            go_ret
            exact ⟨rfl, hg8⟩
    · simp only [Cf.checkC_no ok] at ck
      clear hI hIb s ok hA aw
      subst hwb
      go_enter Try.func4, Try.ntmps4
      go_wp2_with (first
        | (go_at_call 7; refine (gr _ (by assumption)).mono ?_; rintro e w1 ⟨rfl, hg1⟩; obtain ⟨k0, k1, k2, k3, k4, k5⟩ := cf_at hg1)
        | (go_at_call 10; refine (ck _ hg1).mono ?_; rintro e w3 ⟨rfl, hg3⟩)
        | (go_at_call 8; refine (aw' _ hg3).mono ?_; rintro e w4 ⟨rfl, hg4⟩))
      go_ret
      exact ⟨rfl, hb.trans hg4⟩

/-! The row. -/
set_option maxRecDepth 100000 in
theorem lifted (os : Os) (started : os.Started) (H : Type) (enc : TypeId × Value → H) :
    ReturnsInHanded {} Try.checked os 4 .any (Rows.memApartSpec.pre6 enc Try.prog Try.f4 Rows.memApartRow.domain false) (Rows.memApartSpec.post enc Try.prog Try.f4 false true false false) := by
  refine lift_law (C := Try.checked) own started (by kernel_rfl) Try.func4 laid rowed full (by rw [Try.params4]; decide) rfl (by kernel_rfl) Try.underlying4
    (fun ds h => by rw [Try.params4] at h; match ds, h with | [_, _, _], _ => rfl)
    (ChangeSpec.witness6 (enc := enc) (C := Try.checked) false ⟨#[], #[.agg #[.slice none 0 0, .int .i64 0, .slice none 0 0, .int .i64 0, .int .i64 0, .int .i64 0], .int .u8 0, .slice none 0 0], []⟩ 8 (by kernel_rfl) (by kernel_rfl) (by kernel_rfl) (by kernel_rfl)) ?_
  intro W base args ds p hval hA
  change ∀ (j : Nat) t v, Try.f4.params[j]? = some t → args[j]? = some v → Value.okWide Try.prog W .any base t v at hval
  change DataW.TrodAll enc Try.prog W 0 (fun _ => true) true Try.f4.params.toList args.toList ds p at hA
  rw [Try.params4] at hA hval
  obtain ⟨v0, vs0, d0, ds0, p0, q0, hargs, rfl, rfl, h0, r0⟩ := trodAll_cons hA
  obtain ⟨v1, vs1, d1, ds1, p1, q1, hargs1, rfl, rfl, h1, r1⟩ := trodAll_cons r0
  obtain ⟨v2, vs2, d2, ds2, p2, q2, hargs2, rfl, rfl, h2, r2⟩ := trodAll_cons r1
  obtain ⟨rfl, rfl, rfl⟩ := trodAll_nil r2
  subst hargs2
  subst hargs1
  obtain rfl : args = #[v0, v1, v2] := by cases args; simp_all
  obtain ⟨c, hI, _⟩ := get_cf (hval 0 25 v0 rfl rfl) h0
  obtain ⟨tn, rfl, htn⟩ := get_u8 Try.underlying5 (hval 1 5 v1 rfl rfl) h1
  obtain ⟨n2, A, hA2⟩ := get_acts (hval 2 26 v2 rfl rfl) h2
  exact walk v0 c tn htn v2 n2 A W hI hA2

theorem over : Rows.memApartRow.holds Try.pinned (OpenSpec.ofChange Rows.memApartSpec) :=
  OpenClaim.holds_of_wide 4 Try.f4 rfl rfl rfl rfl rfl rfl rfl ⟨rfl, rfl, rfl, rfl, rfl⟩ rfl rfl rfl rfl rfl (by kernel_rfl) Try.func4 (by kernel_rfl)
    (of_decide_eq_true (by kernel_rfl)) (by unfold Func.isWrapper; first | (rw [if_pos (by decide +kernel)]; kernel_rfl) | (rw [if_neg (by decide +kernel)]; exact ⟨rfl, rfl⟩))
    (fun os started H enc _ => lifted os started H enc)

/-- The statement. -/
theorem proved : Rows.MemApartSaid :=
  over
#print axioms proved
end Go.Proofs.Yteipadpifmjnmaa.memApart
