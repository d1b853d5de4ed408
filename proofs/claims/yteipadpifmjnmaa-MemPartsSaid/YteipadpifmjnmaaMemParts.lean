/- Words that are zeroed in two parts are as those that are zeroed at once; then they are 0, and no other word is changed; for every input, no condition. -/
import Derived.Test.YteipadpifmjnmaaRowk
import Derived.Test.YteipadpifmjnmaaOpx
import Derived.Test.YteipadpifmjnmaaPac
import Derived.Deep.RegionHeld3
import Derived.Deep.Cut
import Derived.Deep.DeepCutAuto
namespace Go.Proofs.Yteipadpifmjnmaa.memParts
open Go.ChangeShapes Go.WideShapes Go.ChangeAt Go.RowKit Go.Deep Go.Joins
set_option linter.unusedVariables false

/-- two memories -/
structure Two (w5 W : World) (a : Value) (lo1 hi1 : Nat) (R : List (List Nat)) (b : Value) (lo2 hi2 : Nat) (S : List (List Nat)) : Prop where
  ma : IsMem W a lo1 hi1 R
  ta : hi1 ≤ W.heap.size
  mb : IsMem W b lo2 hi2 S
  tb : hi2 ≤ W.heap.size
  ex : Exc (fun q => Own lo1 hi1 q ∨ Own lo2 hi2 q) w5 W
  dj : hi1 ≤ lo2
section
variable {w5 W : World} {a b : Value} {lo1 hi1 lo2 hi2 : Nat} {R S : List (List Nat)}
theorem Two.bel {W' : World} (h : Two w5 W a lo1 hi1 R b lo2 hi2 S) (g : Bel W W') : Two w5 W' a lo1 hi1 R b lo2 hi2 S :=
  ⟨h.ma.bel g h.ta, Nat.le_trans h.ta g.size, h.mb.bel g h.tb, Nat.le_trans h.tb g.size, Exc.trans h.ex g.exc, h.dj⟩
theorem Two.one {W' : World} {R' : List (List Nat)} (h : Two w5 W a lo1 hi1 R b lo2 hi2 S) (m : IsMem W' a lo1 hi1 R') (g : Exc (Own lo1 hi1) W W') : Two w5 W' a lo1 hi1 R' b lo2 hi2 S :=
  ⟨m, Nat.le_trans h.ta g.size, h.mb.exc g (fun q h1 h2 => by have := h1.1; have := h2.2; have := h.dj; omega) h.tb, Nat.le_trans h.tb g.size, Exc.trans h.ex (g.mono fun q hq => Or.inl hq), h.dj⟩
theorem Two.two {W' : World} {S' : List (List Nat)} (h : Two w5 W a lo1 hi1 R b lo2 hi2 S) (m : IsMem W' b lo2 hi2 S') (g : Exc (Own lo2 hi2) W W') : Two w5 W' a lo1 hi1 R b lo2 hi2 S' :=
  ⟨h.ma.exc g (fun q h1 h2 => by have := h1.2; have := h2.1; have := h.dj; omega) h.ta, Nat.le_trans h.ta g.size, m, Nat.le_trans h.tb g.size, Exc.trans h.ex (g.mono fun q hq => Or.inr hq), h.dj⟩
end

/-- stores alone -/
def stores (A : Nat → Ac) (R : List (List Nat)) : Nat → List (List Nat)
  | 0 => R
  | k + 1 => storeR (stores A R k) (A k).t (A k).a (A k).u
theorem full_stores {R : List (List Nat)} (h : RmFull R) (A : Nat → Ac) : ∀ k, RmFull (stores A R k)
  | 0 => h
  | k + 1 => (full_stores h A k).store _ _ _

theorem wipe_add (R : List (List Nat)) (t a c : Nat) : ∀ d, wipe (wipe R t a c) t (a + c) d = wipe R t a (c + d)
  | 0 => rfl
  | d + 1 => by
    show setR (wipe (wipe R t a c) t (a + c) d) t (a + c + d) 0 = setR (wipe R t a (c + d)) t (a + (c + d)) 0
    rw [wipe_add R t a c d, Nat.add_assoc]
/-- a row that is zeroed -/
theorem wipe_get {R : List (List Nat)} {t : Nat} {l : List Nat} (a : Nat) (h : R[t]? = some l) : ∀ n, ∃ k, (wipe R t a n)[t]? = some k ∧ k.length = l.length ∧ ∀ i, i < l.length → k[i]? = if a ≤ i ∧ i < a + n then some 0 else l[i]?
  | 0 => ⟨l, h, rfl, fun i _ => by rw [if_neg (by omega)]⟩
  | n + 1 => by
    obtain ⟨k, h1, h2, h3⟩ := wipe_get a h n
    refine ⟨k.set (a + n) 0, setR_here h1, by rw [List.length_set]; exact h2, fun i hi => ?_⟩
    rw [List.getElem?_set]
    by_cases e : a + n = i
    · subst e
      rw [if_pos rfl, if_pos (by omega), if_pos (by omega)]
    · rw [if_neg e, h3 i hi]
      by_cases c : a ≤ i ∧ i < a + n
      · rw [if_pos c, if_pos (by omega)]
      · rw [if_neg c, if_neg (by omega)]

theorem zeroE_of {R : List (List Nat)} {t a m : Nat} {l : List Nat} {ai mi : Int} (h : R[t]? = some l) (hb : a + m ≤ l.length) (ha : ai = (a : Nat)) (hm : mi = (m : Nat)) : zeroE R t ai mi = 0 ∧ zeroR R t ai mi = wipe R t a m := by
  have hlt := (List.getElem?_eq_some_iff.1 h).1
  have e : R.getD t [] = l := by rw [List.getD_eq_getElem?_getD, h]; rfl
  have z : zeroE R t ai mi = 0 := by
    unfold zeroE
    rw [if_neg (by omega), Int.toNat_natCast, e, if_neg (by omega)]
  refine ⟨z, ?_⟩
  unfold zeroR
  rw [if_pos z, ha, hm, Int.toNat_natCast, Int.toNat_natCast, Int.toNat_natCast]

set_option maxRecDepth 100000 in
set_option maxHeartbeats 4000000 in
theorem walk (v : Value) (c : Cf) (lv : Value) (n : Nat) (A : Nat → Ac) (x : Ac) (w : World) (h : IsCf w v c) (hA : Acts w lv n A) (hx : x.ok) :
    Calls Try.prog 6 #[v, lv, .agg #[.int .u8 (x.wh : Nat), .int .i64 x.t, .int .i64 x.a, .int .i64 x.n, .int .u64 (x.u : Nat)]] w fun e w' => e = .returned (.bool true) ∧ Below w.heap.size w w' := by
  have hI := h
  obtain ⟨vc, vt, rfl, hN, hT⟩ := h
  obtain ⟨p1, c1, rfl, _⟩ := nums_slice hN
  obtain ⟨p2, c2, rfl, _⟩ := tens_slice hT
  obtain ⟨pl, cl, rfl, nb⟩ := hA.slice
  clear hN hT
  have hb1 := (Bel.refl w).alloc (.cells #[.slice p1 c.n c1, .int .i64 c.page, .slice p2 c.m c2, .int .i64 c.wk, .int .i64 c.gr, .int .i64 c.gn] 25)
  have hb2 := (Bel.refl (w.alloc (.cells #[.slice p1 c.n c1, .int .i64 c.page, .slice p2 c.m c2, .int .i64 c.wk, .int .i64 c.gr, .int .i64 c.gn] 25))).alloc (.cells #[.int .u8 (x.wh : Nat), .int .i64 x.t, .int .i64 x.a, .int .i64 x.n, .int .u64 (x.u : Nat)] 42)
  have kc0 := fun W (g : Bel ((w.alloc (.cells #[.slice p1 c.n c1, .int .i64 c.page, .slice p2 c.m c2, .int .i64 c.wk, .int .i64 c.gr, .int .i64 c.gn] 25)).alloc (.cells #[.int .u8 (x.wh : Nat), .int .i64 x.t, .int .i64 x.a, .int .i64 x.n, .int .u64 (x.u : Nat)] 42)) W) => cf_at (hb2.trans g)
  have kx := fun W (g : Bel ((w.alloc (.cells #[.slice p1 c.n c1, .int .i64 c.page, .slice p2 c.m c2, .int .i64 c.wk, .int .i64 c.gr, .int .i64 c.gn] 25)).alloc (.cells #[.int .u8 (x.wh : Nat), .int .i64 x.t, .int .i64 x.a, .int .i64 x.n, .int .u64 (x.u : Nat)] 42)) W) => act_at (size_alloc1 w _) g
  have hb := hb1.trans hb2
  have g0 := Bel.refl ((w.alloc (.cells #[.slice p1 c.n c1, .int .i64 c.page, .slice p2 c.m c2, .int .i64 c.wk, .int .i64 c.gr, .int .i64 c.gn] 25)).alloc (.cells #[.int .u8 (x.wh : Nat), .int .i64 x.t, .int .i64 x.a, .int .i64 x.n, .int .u64 (x.u : Nat)] 42))
  obtain ⟨_, _, sz2⟩ := two_boxes w (.cells #[.slice p1 c.n c1, .int .i64 c.page, .slice p2 c.m c2, .int .i64 c.wk, .int .i64 c.gr, .int .i64 c.gn] 25) (.cells #[.int .u8 (x.wh : Nat), .int .i64 x.t, .int .i64 x.a, .int .i64 x.n, .int .u64 (x.u : Nat)] 42)
  generalize hwb : (w.alloc (.cells #[.slice p1 c.n c1, .int .i64 c.page, .slice p2 c.m c2, .int .i64 c.wk, .int .i64 c.gr, .int .i64 c.gn] 25)).alloc (.cells #[.int .u8 (x.wh : Nat), .int .i64 x.t, .int .i64 x.a, .int .i64 x.n, .int .u64 (x.u : Nat)] 42) = wb at *
  clear hb1 hb2
  have hIb := hI.bel hb
  have gr := fun w1 (g : Bel wb w1) => (great_any _ c w1 (hIb.bel g)).mono fun e w' ⟨a, b⟩ => (⟨a, g.trans b⟩ : _ ∧ Bel wb w')
  have aw := fun w1 (g : Bel w w1) => (awake7_any w1).mono fun e w' ⟨a, b⟩ => (⟨a, g.trans b⟩ : _ ∧ Bel w w')
  have aw' := fun w1 (g : Bel wb w1) => (awake7_any w1).mono fun e w' ⟨a, b⟩ => (⟨a, g.trans b⟩ : _ ∧ Bel wb w')
  have ck := fun w1 (g : Bel wb w1) => (rck_any _ c w1 (hIb.bel g)).mono fun e w' ⟨a, b⟩ => (⟨a, g.trans b⟩ : _ ∧ Bel wb w')
  by_cases s : c.great7
  · simp only [decide_eq_true s] at gr
    clear hI hIb s ck aw hA kx kc0 sz2
    subst hwb
    go_enter Try.func6, Try.ntmps6
    go_wp2_with (first
      | (go_at_call 7; refine (gr _ (by assumption)).mono ?_; rintro e w1 ⟨rfl, hg1⟩)
      | (go_at_call 8; refine (aw' _ (by assumption)).mono ?_; rintro e w2 ⟨rfl, hg2⟩))
    go_ret
    exact ⟨rfl, hb.trans hg2⟩
  · simp only [decide_eq_false s] at gr
    by_cases ok : c.ok
    · have hT : c.base c.m ≤ 4000 := by
        have : ¬ (4000 < c.totR) := fun x => s (Or.inr x)
        rw [Cf.totR_ok ok] at this
        omega
      simp only [Cf.checkC_ok ok] at ck
      have nw := fun w1 (g : Bel wb w1) => pm_new_ok _ c w1 (hIb.bel g) ok hT
      have hz := Lib.hid (Cf.zeros_full ok hT)
      have hid := Lib.hid (And.intro hb hA)
      clear hI hIb s hT ok hA aw'
      subst hwb
      go_enter Try.func6, Try.ntmps6
      go_upto_region 7 with (first
        | (go_at_call 7; refine (gr _ (by assumption)).mono ?_; rintro e w1 ⟨rfl, hg1⟩; obtain ⟨k0, k1, k2, k3, k4, k5⟩ := kc0 _ hg1)
        | (go_at_call 10; refine (ck _ hg1).mono ?_; rintro e w2 ⟨rfl, hg2⟩
           obtain ⟨k0, k1, k2, k3, k4, k5⟩ := kc0 _ hg2)
        | (go_at_call 9; (with_reducible refine (nw _ hg2).mono ?_); rintro e w3 ⟨⟨pp, rfl, hM⟩, hg3⟩
           have hg3' := hg2.trans hg3
           obtain ⟨k0, k1, k2, k3, k4, k5⟩ := kc0 _ hg3')
        | (go_at_call 9; (with_reducible refine (nw _ hg3').mono ?_); rintro e w4 ⟨⟨pp2, rfl, hM2⟩, hg4⟩
           have hg4' := hg3'.trans hg4
           have T0 : Two w4 w4 (.pointer (some pp)) w2.heap.size w3.heap.size c.zeros (.pointer (some pp2)) w3.heap.size w4.heap.size c.zeros := ⟨hM.bel hg4 (Nat.le_refl _), hg4.size, hM2, Nat.le_refl _, (Bel.refl w4).exc, Nat.le_refl _⟩))
      have lo1 : w.heap.size + 2 ≤ w2.heap.size := by have := hg2.size; omega
      have lo2 := Nat.le_trans hg3.size (Nat.le_refl w3.heap.size)
      have X0 := kx _ hg4'
      have hidA := Lib.hid (And.intro hid.out.2 (And.intro (hb.trans hg4') (And.intro lo1 (And.intro hg3.size hg4.size))))
      clear hM hM2 hg1 hg2 hg3 hg4 hg3' hg4' k0 k1 k2 k3 k4 k5 kc0 kx nw ck gr g0 lo2 lo1 sz2
      obtain ⟨la, hla⟩ : ∃ q, w2.heap.size = q := ⟨_, rfl⟩
      obtain ⟨ha, hha⟩ : ∃ q, w3.heap.size = q := ⟨_, rfl⟩
      obtain ⟨hb', hhb⟩ : ∃ q, w4.heap.size = q := ⟨_, rfl⟩
      rw [hla, hha, hhb] at T0
      rw [hla, hha, hhb] at hidA
      clear hla hha hhb
      go_wp2
      go_loopw [11] (fun i wr => ∃ k : Nat, k ≤ n ∧ i = .int .i64 (k : Nat) ∧ RowKit.Hid (Two w4 wr (.pointer (some pp)) la ha (stores A c.zeros k) (.pointer (some pp2)) ha hb' (stores A c.zeros k))) (fun i _ => n - (intOf i).toNat)
      case atStart => exact ⟨0, Nat.zero_le _, rfl, Lib.hid T0⟩
      case round =>
        obtain ⟨k, hk, rfl, hL⟩ := hrel
        have hw : Bel w wr := Below.trans hidA.out.2.1 (hL.out.ex.below (fun q hq => by
          have := hidA.out.2.2.1
          have := hidA.out.2.2.2.1
          rcases hq with hq | hq
          · have := hq.1; omega
          · have := hq.1; omega) hidA.out.2.1.size)
        by_cases ckk : k < n ∧ k < 40
        · obtain ⟨b, off, rfl, hbl, hac, hok⟩ := hidA.out.1.at ckk.1
          obtain ⟨a0, a1, a2, a3, a4⟩ := hac.bel hw
          have kI : (k : Int) < (n : Int) := by omega
          have kz : (0 : Int) ≤ (k : Int) := by omega
          have kf : (k : Int) < 40 := by omega
          have hNb : ¬ (Own la ha b ∨ Own ha hb' b) := fun x => by
            have := hidA.out.2.2.1
            have := hidA.out.2.2.2.1
            rcases x with x | x
            · have := x.1; omega
            · have := x.1; omega
          have kp : ∀ W, Exc (fun q => Own la ha q ∨ Own ha hb' q) wr W → Exc (fun q => Own la ha q ∨ Own ha hb' q) wr W ∧ W.cell? ⟨b, off + k * 5 + 1, none⟩ = some (.int .i64 (A k).t) ∧ W.cell? ⟨b, off + k * 5 + 2, none⟩ = some (.int .i64 (A k).a) ∧ W.cell? ⟨b, off + k * 5 + 4, none⟩ = some (.int .u64 ((A k).u : Nat)) := fun W g =>
            ⟨g, cell_exc g a1 hNb, cell_exc g a2 hNb, cell_exc g a4 hNb⟩
          have gd := Bel.drew (Bel.refl wr)
          have gw : Exc (fun q => Own la ha q ∨ Own ha hb' q) wr wr := (Bel.refl wr).exc
          have gwd : Exc (fun q => Own la ha q ∨ Own ha hb' q) wr wr.drew := gd.exc
          have Ld := hL.out.bel gd
          have pa := pm_store (.pointer (some pp)) la ha (stores A c.zeros k) (A k).t (A k).a (A k).u wr.drew Ld.ma Ld.ta
          have es : stores A c.zeros (k + 1) = storeR (stores A c.zeros k) (A k).t (A k).a (A k).u := rfl
          have hids := Lib.hid (And.intro es Ld)
          have pb := fun W (h : Two w4 W (.pointer (some pp)) la ha (storeR (stores A c.zeros k) (A k).t (A k).a (A k).u) (.pointer (some pp2)) ha hb' (stores A c.zeros k)) => pm_store (.pointer (some pp2)) ha hb' (stores A c.zeros k) (A k).t (A k).a (A k).u W h.mb h.tb
          clear es Ld hok hac hw gd
          generalize storeR (stores A c.zeros k) (A k).t (A k).a (A k).u = S at *
          generalize inE (stores A c.zeros k) (A k).t (A k).a = E at *
          go_upto_region 10 with fail
          go_region_held3 (fun W => Exc (fun q => Own la ha q ∨ Own ha hb' q) wr W ∧ W.cell? ⟨b, off + k * 5 + 1, none⟩ = some (.int .i64 (A k).t) ∧ W.cell? ⟨b, off + k * 5 + 2, none⟩ = some (.int .i64 (A k).a) ∧ W.cell? ⟨b, off + k * 5 + 4, none⟩ = some (.int .u64 ((A k).u : Nat)))
            (first | with_reducible exact kp _ (by assumption))
            (first | (go_at_call 16; refine pa.mono ?_; rintro e w6 ⟨rfl, hM6, hE6⟩
                      have T6 := hids.out.2.one hM6 hE6
                      have G6 : Exc (fun q => Own la ha q ∨ Own ha hb' q) wr w6 := Exc.trans gwd (hE6.mono fun q hq => Or.inl hq)))
          have G6d : Exc (fun q => Own la ha q ∨ Own ha hb' q) wr w6.drew := Exc.trans G6 (Bel.exc (Bel.drew (Bel.refl w6)))
          obtain ⟨_, b1, b2, b4⟩ := kp _ G6
          have T6d := T6.bel (Bel.drew (Bel.refl w6))
          have pb6 := pb _ T6d
          clear pa pb hM6 hE6 T6
          go_upto_region 11 with fail
          go_region_held3 (fun W => Exc (fun q => Own la ha q ∨ Own ha hb' q) wr W ∧ W.cell? ⟨b, off + k * 5 + 1, none⟩ = some (.int .i64 (A k).t) ∧ W.cell? ⟨b, off + k * 5 + 2, none⟩ = some (.int .i64 (A k).a) ∧ W.cell? ⟨b, off + k * 5 + 4, none⟩ = some (.int .u64 ((A k).u : Nat)))
            (first | with_reducible exact kp _ (by assumption))
            (first | (go_at_call 16; refine pb6.mono ?_; rintro e w7 ⟨rfl, hM7, hE7⟩
                      have T7 := T6d.two hM7 hE7
                      have G7 : Exc (fun q => Own la ha q ∨ Own ha hb' q) wr w7 := Exc.trans G6d (hE7.mono fun q hq => Or.inr hq)))
          go_wp2
          go_roundw
          case rel => exact ⟨k + 1, by omega, by go_num, Lib.hid (by rw [hids.out.1]; exact T7)⟩
          case measure => simp only [intOf]; omega
        · have hex : (decide ((k : Int) < (n : Int)) = false ∧ decide (k < n) = false) ∨ ((k : Int) < (n : Int) ∧ decide ((k : Int) < 40) = false) := by
            by_cases ckn : k < n
            · exact Or.inr ⟨by omega, decide_eq_false (by omega)⟩
            · exact Or.inl ⟨decide_eq_false (by omega), decide_eq_false ckn⟩
          obtain ⟨w6, rfl⟩ : ∃ w6, w6 = wr := ⟨wr, rfl⟩
          have hRF := Lib.hid (full_stores hz.out A k)
          generalize stores A c.zeros k = R at *
          have hBw : ∀ (W : World) (R1 S1 : List (List Nat)), Two w4 W (.pointer (some pp)) la ha R1 (.pointer (some pp2)) ha hb' S1 → Bel w W := fun W R1 S1 T => Below.trans hidA.out.2.1 (T.ex.below (fun q hq => by
            have := hidA.out.2.2.1
            have := hidA.out.2.2.2.1
            rcases hq with hq | hq
            · have := hq.1; omega
            · have := hq.1; omega) hidA.out.2.1.size)
          have hNx : ¬ (Own la ha (w.heap.size + 1) ∨ Own ha hb' (w.heap.size + 1)) := fun x => by
            have := hidA.out.2.2.1
            have := hidA.out.2.2.2.1
            rcases x with x | x
            · have := x.1; omega
            · have := x.1; omega
          have kx : ∀ W, Exc (fun q => Own la ha q ∨ Own ha hb' q) w4 W → W.cell? ⟨w.heap.size + 1, 0, none⟩ = some (.int .u8 (x.wh : Nat)) ∧ W.cell? ⟨w.heap.size + 1, 1, none⟩ = some (.int .i64 x.t) ∧ W.cell? ⟨w.heap.size + 1, 2, none⟩ = some (.int .i64 x.a) ∧ W.cell? ⟨w.heap.size + 1, 3, none⟩ = some (.int .i64 x.n) ∧ W.cell? ⟨w.heap.size + 1, 4, none⟩ = some (.int .u64 (x.u : Nat)) := fun W g =>
            ⟨cell_exc g X0.1 hNx, cell_exc g X0.2.1 hNx, cell_exc g X0.2.2.1 hNx, cell_exc g X0.2.2.2.1 hNx, cell_exc g X0.2.2.2.2 hNx⟩
          obtain ⟨y0, y1, y2, y3, y4⟩ := kx _ hL.out.ex
          have wa := fun W R1 S1 (T : Two w4 W (.pointer (some pp)) la ha R1 (.pointer (some pp2)) ha hb' S1) => pm_words (.pointer (some pp)) la ha R1 x.t W T.ma
          have za := fun W R1 S1 (T : Two w4 W (.pointer (some pp)) la ha R1 (.pointer (some pp2)) ha hb' S1) => pm_zero (.pointer (some pp)) la ha R1 x.t x.a x.n W T.ma T.ta hx.2.2.2.1
          have hL6 := hL.out
          clear hNx X0 hw
          by_cases tr : x.t < 0 ∨ (R.length : Int) ≤ x.t
          · have wa6 := wa _ _ _ hL6
            obtain ⟨q1, q2⟩ := wordsE_past tr
            rw [q1, q2] at wa6
            have q3 : zeroE R x.t x.a x.n = 2 := if_pos tr
            clear q1 q2 tr
            rcases hex with ⟨e1, e2⟩ | ⟨e1, e2⟩
            all_goals
              go_wp2_with (first
                | (go_at_call 14; refine wa6.mono ?_; rintro e w7 ⟨⟨lw, rfl, hlw⟩, hg7⟩
                   have T7 := hL6.bel hg7
                   obtain ⟨y0, y1, y2, y3, y4⟩ := kx _ T7.ex
                   have za7 := za _ _ _ T7
                   rw [q3] at za7)
                | (go_at_call 15; refine za7.mono ?_; rintro e w8 ⟨rfl, hM8, hE8⟩
                   have hw8 := hBw _ _ _ (T7.one hM8 hE8))
                | (go_at_call 8; refine (aw _ hw8).mono ?_; rintro e w9 ⟨rfl, hg9⟩))
              go_ret
              exact ⟨rfl, hg9⟩
          · obtain ⟨t', ht'⟩ : ∃ t' : Nat, x.t = t' := ⟨x.t.toNat, by omega⟩
            obtain ⟨l, hl⟩ : ∃ l, R[t']? = some l := ⟨R[t']'(by omega), List.getElem?_eq_getElem _⟩
            have wa6 := wa _ _ _ hL6
            obtain ⟨q1, q2⟩ := wordsE_at hl
            rw [ht', q1, q2] at wa6
            rw [← ht'] at wa6
            have hidt := Lib.hid ht'
            by_cases z : zeroE R x.t x.a x.n = 0
            · obtain ⟨t2, a', n', l2, hx1, hx2, hx3, hl2, _, hbd⟩ := zeroE_ok z
              obtain rfl : t2 = t' := by omega
              obtain rfl : l2 = l := Option.some.inj (hl2.symm.trans hl)
              have lb := (hRF.out.2 _ _ hl).2
              obtain ⟨l1, g1, g2, g3⟩ := wipe_get a' hl n'
              obtain ⟨z1, z2⟩ := zeroE_of (ai := x.a) (mi := x.n) hl hbd hx2 hx3
              have ub := hx.2.2.2.2
              have hL6b := hL6
              clear q1 q2 tr z hl2 wa hx
              generalize x.t = xt at *
              generalize x.a = xa at *
              generalize x.n = xn at *
              generalize x.u = xu at *
              subst hx1; subst hx2; subst hx3
              clear ht'
              obtain ⟨ct, hct⟩ : ∃ ct, xu % (n' + 1) = ct := ⟨_, rfl⟩
              have hctI : (xu : Int) % ((n' : Int) + 1) = (ct : Int) := by rw [← hct, Int.natCast_emod, Int.natCast_add]; rfl
              have ctn : ct ≤ n' := by have := Nat.mod_lt xu (show 0 < n' + 1 by omega); omega
              obtain ⟨zb1, zb2⟩ := zeroE_of (ai := (a' : Int)) (mi := (ct : Int)) hl (by omega) rfl rfl
              obtain ⟨l3, f1, f2, _⟩ := wipe_get a' hl ct
              obtain ⟨zc1, zc2⟩ := zeroE_of (a := a' + ct) (m := n' - ct) (ai := (a' : Int) + (ct : Int)) (mi := (n' : Int) - (ct : Int)) f1 (by omega) (by omega) (by omega)
              have zc3 : wipe (wipe R t2 a' ct) t2 (a' + ct) (n' - ct) = wipe R t2 a' n' := by rw [wipe_add, show ct + (n' - ct) = n' by omega]
              rw [zc3] at zc2
              have pb1 := fun W R1 (T : Two w4 W (.pointer (some pp)) la ha R1 (.pointer (some pp2)) ha hb' R) => pm_zero (.pointer (some pp2)) ha hb' R t2 a' ct W T.mb T.tb (by omega)
              have pb2 := fun W R1 (T : Two w4 W (.pointer (some pp)) la ha R1 (.pointer (some pp2)) ha hb' (wipe R t2 a' ct)) => pm_zero (.pointer (some pp2)) ha hb' (wipe R t2 a' ct) t2 ((a' : Int) + (ct : Int)) ((n' : Int) - (ct : Int)) W T.mb T.tb (by omega)
              rw [zb1, zb2] at pb1
              rw [zc1, zc2] at pb2
              have wb := fun W S1 (T : Two w4 W (.pointer (some pp)) la ha (wipe R t2 a' n') (.pointer (some pp2)) ha hb' S1) => pm_words (.pointer (some pp)) la ha (wipe R t2 a' n') t2 W T.ma
              rw [(wordsE_at g1).1, (wordsE_at g1).2] at wb
              have za6 := fun W S1 (T : Two w4 W (.pointer (some pp)) la ha R (.pointer (some pp2)) ha hb' S1) => za W R S1 T
              rw [z1, z2] at za6
              have hF := Lib.hid (And.intro hl (And.intro g2 (And.intro g3 (And.intro g1 (And.intro hct hRF.out)))))
              clear za zb1 zb2 zc1 zc2 zc3 z1 z2 f1 f2 hl g1 g2 g3 hct
              generalize wipe R t2 a' ct = R2 at *
              generalize wipe R t2 a' n' = R1 at *
              rcases hex with ⟨e1, e2⟩ | ⟨e1, e2⟩
              all_goals
                go_upto_region 20 with (first
                  | (go_at_call 14; refine wa6.mono ?_; rintro e w7 ⟨⟨lw, rfl, hlw⟩, hg7⟩
                     have T7 := hL6b.bel hg7
                     obtain ⟨y0, y1, y2, y3, y4⟩ := kx _ T7.ex
                     have za7 := za6 _ _ T7)
                  | (go_at_call 15; refine za7.mono ?_; rintro e w8 ⟨rfl, hM8, hE8⟩
                     have T8 := T7.one hM8 hE8
                     obtain ⟨y0, y1, y2, y3, y4⟩ := kx _ T8.ex
                     have hlw8 := (hlw.less (Y := fun q => Own la ha q ∨ Own ha hb' q) (fun q hq => by
             rcases hq with hq | hq
             · exact Nat.lt_of_lt_of_le hq.2 hL6.ta
             · exact Nat.lt_of_lt_of_le hq.2 hL6.tb)).exc (hE8.mono fun q hq => Or.inl hq)))
                have T8d := T8.bel (Bel.drew (Bel.refl w8))
                have pbA := pb1 _ _ T8d
                have kx8 : ∀ W, Exc (fun q => Own la ha q ∨ Own ha hb' q) w8 W → Exc (fun q => Own la ha q ∨ Own ha hb' q) w8 W ∧ W.cell? ⟨w.heap.size + 1, 1, none⟩ = some (.int .i64 (t2 : Nat)) ∧ W.cell? ⟨w.heap.size + 1, 2, none⟩ = some (.int .i64 (a' : Nat)) ∧ W.cell? ⟨w.heap.size + 1, 3, none⟩ = some (.int .i64 (n' : Nat)) := fun W g =>
                  have h := kx _ (Exc.trans T8.ex g)
                  ⟨g, h.2.1, h.2.2.1, h.2.2.2.1⟩
                have gw8 : Exc (fun q => Own la ha q ∨ Own ha hb' q) w8 w8 := (Bel.refl w8).exc
                have gw8d : Exc (fun q => Own la ha q ∨ Own ha hb' q) w8 w8.drew := (Bel.drew (Bel.refl w8)).exc
                have hcl := Lib.hid hlw8
                clear hlw8 hlw hg7 T7 za7 hM8 hE8 za6 wa6 pb1
                have wr1 : IntKind.i64.wrap ((a' : Int) + (ct : Int)) = (a' : Int) + (ct : Int) := by rw [IntKind.wrap_i64]; omega
                have wr2 : IntKind.i64.wrap ((n' : Int) - (ct : Int)) = (n' : Int) - (ct : Int) := by rw [IntKind.wrap_i64]; omega
                go_region_held3 (fun W => Exc (fun q => Own la ha q ∨ Own ha hb' q) w8 W ∧ W.cell? ⟨w.heap.size + 1, 1, none⟩ = some (.int .i64 (t2 : Nat)) ∧ W.cell? ⟨w.heap.size + 1, 2, none⟩ = some (.int .i64 (a' : Nat)) ∧ W.cell? ⟨w.heap.size + 1, 3, none⟩ = some (.int .i64 (n' : Nat)))
                  (first | with_reducible exact kx8 _ (by assumption))
                  (first
                    | (go_at_call 15; (with_reducible refine pbA.mono ?_); rintro e w9 ⟨rfl, hM9, hE9⟩
                       have T9 := T8d.two hM9 hE9
                       have G9 : Exc (fun q => Own la ha q ∨ Own ha hb' q) w8 w9 := Exc.trans gw8d (hE9.mono fun q hq => Or.inr hq))
                    | (go_at_call 15; (with_reducible refine (pb2 _ _ T9).mono ?_); rintro e w10 ⟨rfl, hM10, hE10⟩
                       have T10 := T9.two hM10 hE10
                       have G10 : Exc (fun q => Own la ha q ∨ Own ha hb' q) w8 w10 := Exc.trans G9 (hE10.mono fun q hq => Or.inr hq)))
                have hE10' := Exc.trans hE9 hE10
                have lw10 := (hcl.out.bel (Bel.drew (Bel.refl w8))).exc (hE10'.mono fun q hq => Or.inr hq)
                have wb10 := wb _ _ T10
                clear hM9 hM10 hE9 hE10 hE10' T9 pbA pb2 G9 kx8 gw8 gw8d T8d wb wr1 wr2
                go_upto_region 22 with (go_at_call 14; refine wb10.mono ?_; rintro e w11 ⟨⟨ln, rfl, hln⟩, hg11⟩)
                have T11 := T10.bel hg11
                have lw11 := lw10.bel hg11
                clear lw10 wb10 G10 T10
                obtain ⟨pn, cn, rfl, _⟩ := hln.slice
                obtain ⟨pw, cw, rfl, _⟩ := lw11.slice
                obtain ⟨N, hN⟩ : ∃ N, l2.length = N := ⟨_, rfl⟩
                have hN1 : l1.length = N := by rw [hF.out.2.1]; exact hN
                have g11 := Bel.refl w11
                have hWs := Lib.hid (And.intro hln lw11)
                have hNN := Lib.hid (And.intro hN hN1)
                rw [hN] at hbd lb
                try rw [hN, hN1]
                clear hln lw11 hcl hN hN1
                go_wp2
                go_loopw [22] (fun i wr => ∃ j : Nat, j ≤ N ∧ i = .int .i64 (j : Nat) ∧ Bel w11 wr) (fun i _ => N - (intOf i).toNat)
                case atStart => exact ⟨0, Nat.zero_le _, rfl, g11⟩
                case round =>
                  obtain ⟨j, hj, rfl, hbj⟩ := hrel
                  have Tj := T11.bel hbj
                  obtain ⟨y0, y1, y2, y3, y4⟩ := kx _ Tj.ex
                  by_cases cj : j < N
                  · obtain ⟨hln, lw11⟩ := hWs.out
                    obtain ⟨hl, g2, g3, g1, hct, hR⟩ := hF.out
                    obtain ⟨y, hy⟩ : ∃ y, l1[j]? = some y := ⟨l1[j]'(by rw [hNN.out.2]; exact cj), List.getElem?_eq_getElem _⟩
                    obtain ⟨u, hu⟩ : ∃ u, l2[j]? = some u := ⟨l2[j]'(by rw [hNN.out.1]; exact cj), List.getElem?_eq_getElem _⟩
                    have gj := g3 j (by rw [hNN.out.1]; exact cj)
                    rw [hy, hu] at gj
                    obtain ⟨bn, on, cn', ev, i1, i2, _, i4, cy⟩ := (hln.bel hbj).at hy
                    obtain ⟨bw, ow, cw', ev2, i5, i6, _, i8, cu⟩ := (lw11.bel hbj).at hu
                    injection ev with ev1 _ ev3
                    injection ev2 with ev4 _ ev6
                    subst ev1; subst ev3; subst ev4; subst ev6
                    have jI : (j : Int) < (N : Int) := by omega
                    have jz : (0 : Int) ≤ (j : Int) := by omega
                    clear hln lw11 hl g2 g3 g1 hct hR hy hu i1 i2 i4 i5 i6 i8 Tj
                    by_cases d1 : a' ≤ j
                    · by_cases d2 : j < a' + n'
                      · rw [if_pos ⟨d1, d2⟩] at gj
                        injection gj with gj
                        subst gj
                        have e3 : (a' : Int) ≤ (j : Int) := by omega
                        have e4 : (j : Int) < (a' : Int) + (n' : Int) := by omega
                        clear d1 d2
                        go_wp2
                        go_quiet (fail)
                        go_wp2
                        go_roundw
                        case rel => exact ⟨j + 1, by omega, by go_num, hbj.then_drewN _⟩
                        case measure => simp only [intOf]; omega
                      · rw [if_neg (fun x => d2 x.2)] at gj
                        injection gj with gj
                        subst gj
                        have e3 : (a' : Int) ≤ (j : Int) := by omega
                        have e4 : decide ((j : Int) < (a' : Int) + (n' : Int)) = false := decide_eq_false (by omega)
                        clear d1 d2
                        go_wp2
                        go_quiet (fail)
                        go_wp2
                        go_roundw
                        case rel => exact ⟨j + 1, by omega, by go_num, hbj.then_drewN _⟩
                        case measure => simp only [intOf]; omega
                    · rw [if_neg (fun x => d1 x.1)] at gj
                      injection gj with gj
                      subst gj
                      have e3 : decide ((a' : Int) ≤ (j : Int)) = false := decide_eq_false (by omega)
                      have e3' : decide (a' ≤ j) = false := decide_eq_false d1
                      clear d1
                      go_wp2
                      go_quiet (fail)
                      go_wp2
                      go_roundw
                      case rel => exact ⟨j + 1, by omega, by go_num, hbj.then_drewN _⟩
                      case measure => simp only [intOf]; omega
                  · obtain rfl : j = N := by omega
                    have jI : decide ((j : Int) < (j : Int)) = false := decide_eq_false (by omega)
                    obtain ⟨wz, rfl⟩ : ∃ wz, wz = wr := ⟨wr, rfl⟩
                    have pa1 := pm_all (.pointer (some pp)) la ha R1 wz Tj.ma
                    have pa2 := fun W (g : Bel wz W) => pm_all (.pointer (some pp2)) ha hb' R1 W (Tj.mb.bel g Tj.tb)
                    have hwz := Lib.hid (hBw _ _ _ Tj)
                    go_wp2_with (first
                      | (go_at_call 20; (with_reducible refine pa1.mono ?_); rintro e w20 ⟨⟨f1, rfl, hf1⟩, hg20⟩)
                      | (go_at_call 20; (with_reducible refine (pa2 _ hg20).mono ?_); rintro e w21 ⟨⟨f2, rfl, hf2⟩, hg21⟩
                         have ws21 := wsame_refl f1 f2 R1.flatten w21 ((hf1.ws (X := fun _ => False) fun _ _ _ h => h.elim).bel hg21) (hf2.ws (X := fun _ => False) fun _ _ _ h => h.elim))
                      | (go_at_call 18; refine ws21.mono ?_; rintro e w22 ⟨rfl, hg22⟩
                         have hw22 := hwz.out.trans (hg20.trans (hg21.trans hg22)))
                      | (go_at_call 8; refine (aw _ hw22).mono ?_; rintro e w23 ⟨rfl, hg23⟩))
                    go_ret
                    exact ⟨rfl, hg23⟩
            · have q3 : zeroE R x.t x.a x.n = 4 := by
                unfold zeroE at z ⊢
                rw [if_neg tr] at z ⊢
                split at z
                · rename_i hh; rw [if_pos hh]
                · exact absurd rfl z
              have q4 : zeroR R x.t x.a x.n = R := if_neg z
              have hl8 := Lib.hid hl
              clear q1 q2 tr z hl ht'
              rcases hex with ⟨e1, e2⟩ | ⟨e1, e2⟩
              all_goals
                go_wp2_with (first
                  | (go_at_call 14; (with_reducible refine wa6.mono ?_); rintro e w7 ⟨⟨lw, rfl, hlw⟩, hg7⟩
                     have T7 := hL6.bel hg7
                     obtain ⟨y0, y1, y2, y3, y4⟩ := kx _ T7.ex
                     have za7 := za _ _ _ T7
                     rw [q3, q4] at za7)
                  | (go_at_call 15; refine za7.mono ?_; rintro e w8 ⟨rfl, hM8, hE8⟩
                     have T8 := T7.one hM8 hE8
                     obtain ⟨y0, y1, y2, y3, y4⟩ := kx _ T8.ex
                     have hlw8 := (hlw.less (Y := Own la ha) (fun q hq => Nat.lt_of_lt_of_le hq.2 hL6.ta)).exc hE8
                     have wa8 := wa _ _ _ T8
                     rw [hidt.out, (wordsE_at hl8.out).1, (wordsE_at hl8.out).2] at wa8
                     rw [← hidt.out] at wa8)
                  | (go_at_call 14; (with_reducible refine wa8.mono ?_); rintro e w9 ⟨⟨lw9, rfl, hlw9⟩, hg9⟩
                     have hw9 := hBw _ _ _ (T8.bel hg9)
                     have sm9 := wsame_refl lw9 lw l w9 hlw9 (hlw8.bel hg9))
                  | (go_at_call 18; refine sm9.mono ?_; rintro e w10 ⟨rfl, hg10⟩
                     have hw10 := hw9.trans hg10)
                  | (go_at_call 8; refine (aw _ hw10).mono ?_; rintro e w11 ⟨rfl, hg11⟩))
                go_ret
                exact ⟨rfl, hg11⟩
    · simp only [Cf.checkC_no ok] at ck
      clear hI hIb s ok hA aw kx
      subst hwb
      go_enter Try.func6, Try.ntmps6
      go_wp2_with (first
        | (go_at_call 7; refine (gr _ (by assumption)).mono ?_; rintro e w1 ⟨rfl, hg1⟩; obtain ⟨k0, k1, k2, k3, k4, k5⟩ := kc0 _ hg1)
        | (go_at_call 10; refine (ck _ hg1).mono ?_; rintro e w3 ⟨rfl, hg3⟩)
        | (go_at_call 8; refine (aw' _ hg3).mono ?_; rintro e w4 ⟨rfl, hg4⟩))
      go_ret
      exact ⟨rfl, hb.trans hg4⟩

/-! The row. -/
set_option maxRecDepth 100000 in
theorem lifted (os : Os) (started : os.Started) (H : Type) (enc : TypeId × Value → H) :
    ReturnsInHanded {} Try.checked os 6 .any (Rows.memPartsSpec.pre6 enc Try.prog Try.f6 Rows.memPartsRow.domain false) (Rows.memPartsSpec.post enc Try.prog Try.f6 false true false false) := by
  refine lift_law (C := Try.checked) own started (by kernel_rfl) Try.func6 laid rowed full (by rw [Try.params6]; decide) rfl (by kernel_rfl) Try.underlying4
    (fun ds h => by rw [Try.params6] at h; match ds, h with | [_, _, _], _ => rfl)
    (ChangeSpec.witness6 (enc := enc) (C := Try.checked) false ⟨#[], #[.agg #[.slice none 0 0, .int .i64 0, .slice none 0 0, .int .i64 0, .int .i64 0, .int .i64 0], .slice none 0 0, .agg #[.int .u8 0, .int .i64 0, .int .i64 0, .int .i64 0, .int .u64 0]], []⟩ 8 (by kernel_rfl) (by kernel_rfl) (by kernel_rfl) (by kernel_rfl)) ?_
  intro W base args ds p hval hA
  change ∀ (j : Nat) t v, Try.f6.params[j]? = some t → args[j]? = some v → Value.okWide Try.prog W .any base t v at hval
  change DataW.TrodAll enc Try.prog W 0 (fun _ => true) true Try.f6.params.toList args.toList ds p at hA
  rw [Try.params6] at hA hval
  obtain ⟨v0, vs0, d0, ds0, p0, q0, hargs, rfl, rfl, h0, r0⟩ := trodAll_cons hA
  obtain ⟨v1, vs1, d1, ds1, p1, q1, hargs1, rfl, rfl, h1, r1⟩ := trodAll_cons r0
  obtain ⟨v2, vs2, d2, ds2, p2, q2, hargs2, rfl, rfl, h2, r2⟩ := trodAll_cons r1
  obtain ⟨rfl, rfl, rfl⟩ := trodAll_nil r2
  subst hargs2
  subst hargs1
  obtain rfl : args = #[v0, v1, v2] := by cases args; simp_all
  obtain ⟨c, hI, _⟩ := get_cf (hval 0 25 v0 rfl rfl) h0
  obtain ⟨n1, A, hA1⟩ := get_acts (hval 1 26 v1 rfl rfl) h1
  obtain ⟨x, rfl, hx⟩ := get_act (hval 2 42 v2 rfl rfl) h2
  exact walk v0 c v1 n1 A x W hI hA1 hx

theorem over : Rows.memPartsRow.holds Try.pinned (OpenSpec.ofChange Rows.memPartsSpec) :=
  OpenClaim.holds_of_wide 6 Try.f6 rfl rfl rfl rfl rfl rfl rfl ⟨rfl, rfl, rfl, rfl, rfl⟩ rfl rfl rfl rfl rfl (by kernel_rfl) Try.func6 (by kernel_rfl)
    (of_decide_eq_true (by kernel_rfl)) (by unfold Func.isWrapper; first | (rw [if_pos (by decide +kernel)]; kernel_rfl) | (rw [if_neg (by decide +kernel)]; exact ⟨rfl, rfl⟩))
    (fun os started H enc _ => lifted os started H enc)

/-- The statement. -/
theorem proved : Rows.MemPartsSaid :=
  over
#print axioms proved
end Go.Proofs.Yteipadpifmjnmaa.memParts
