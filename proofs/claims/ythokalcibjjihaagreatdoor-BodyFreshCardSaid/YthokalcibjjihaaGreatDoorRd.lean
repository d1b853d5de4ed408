/- THE DOCUMENT'S BODIES: what lies in memory; a slot's word. -/
import Derived.Test.YthokalcibjjihaaGreatDoorBq
import Derived.Test.YthokalcibjjihaaGreatDoorMRsm
import Derived.Test.YthokalcibjjihaaGreatDoorHf
import Derived.Test.YthokalcibjjihaaGreatDoorRgr
import Derived.Test.YthokalcibjjihaaGreatDoorPh
import Derived.Deep.RegionHeld3
import Derived.Test.YthokalcibjjihaaGreatDoorRqa
namespace Go.Proofs.YthokalcibjjihaaGreatDoor
open Go.ChangeShapes Go.WideShapes Go.ChangeAt Go.RowKit Go.Deep hd
set_option linter.unusedVariables false

/-- words that are words -/
def W64 (R : List (List Nat)) : Prop := ∀ t a, wdAt R t a < 18446744073709551616
theorem W64.set {R : List (List Nat)} (h : W64 R) {u : Nat} (hu : u < 18446744073709551616) (t a : Nat) : W64 (setR R t a u) := fun s b => by
  by_cases c : s = t
  · subst c
    by_cases d : s < R.length
    · have e : (R.set s ((R.getD s []).set a u)).getD s [] = (R.getD s []).set a u := by
        rw [List.getD_eq_getElem?_getD, List.getElem?_set_self d]; rfl
      have hb := h s b
      unfold wdAt at hb
      unfold wdAt setR
      rw [e, List.getD_eq_getElem?_getD, List.getElem?_set]
      rw [List.getD_eq_getElem?_getD] at hb
      by_cases x : a = b
      · subst x
        rw [if_pos rfl]
        by_cases y : a < (R.getD s []).length
        · rw [if_pos y]; exact hu
        · rw [if_neg y]; decide
      · rw [if_neg x]; exact hb
    · unfold setR
      rw [List.set_eq_of_length_le (by omega)]
      exact h s b
  · rw [wd_other c]; exact h s b
theorem W64.wipe {R : List (List Nat)} (h : W64 R) (t a : Nat) : ∀ n, W64 (wipe R t a n)
  | 0 => h
  | n + 1 => W64.set (W64.wipe h t a n) (by decide) t (a + n)

/-- a body that may be -/
structure Bok (P : Pl) (R : List (List Nat)) (t : Nat) : Prop where
  pl : PlOk P
  reg : P.Reg R t
  w64 : W64 R
  full : mm.RmFull R
theorem Bok.set {P : Pl} {R : List (List Nat)} {t : Nat} (h : Bok P R t) {u : Nat} (hu : u < 18446744073709551616) (a : Nat) : Bok P (setR R t a u) t :=
  ⟨h.pl, h.reg.set a u, h.w64.set hu t a, h.full.set t a u⟩
theorem Bok.wipe {P : Pl} {R : List (List Nat)} {t : Nat} (h : Bok P R t) (a n : Nat) : Bok P (wipe R t a n) t :=
  ⟨h.pl, h.reg.wipe a n, h.w64.wipe t a n, h.full.wipe t a n⟩

theorem load_wd (R : List (List Nat)) (t a : Nat) : loadR R (t : Int) (a : Int) = wdAt R t a := by
  unfold loadR wdAt
  rw [Int.toNat_natCast, Int.toNat_natCast]
  by_cases h : inE R t a = 0
  · rw [if_pos h]
  · rw [if_neg h]
    unfold inE at h
    rw [Int.toNat_natCast] at h
    by_cases c : (t : Int) < 0 ∨ (R.length : Int) ≤ (t : Int)
    · rw [List.getD_eq_getElem?_getD, List.getD_eq_getElem?_getD, List.getElem?_eq_none (l := R) (by omega)]
      rfl
    · rw [if_neg c] at h
      by_cases d : (a : Int) < 0 ∨ ((R.getD t []).length : Int) ≤ (a : Int)
      · rw [List.getD_eq_getElem?_getD (l := R.getD t []), List.getElem?_eq_none (by omega)]
        rfl
      · rw [if_neg d] at h; exact absurd rfl h

/-- a body of the document, by value: its memory, its tenant, its plan -/
def IsB (X : Nat → Prop) (w : World) (v : Value) (R : List (List Nat)) (t : Nat) (P : Pl) : Prop :=
  ∃ rv Lv Fv Mv p cap, v = .agg #[rv, .int .i64 (t : Nat), Lv, Fv, Mv, .int .i64 (P.W : Nat), .slice p P.n cap] ∧ mm.IsRm X w (.agg #[rv]) R ∧
    IsQ w (.agg #[Lv, Fv, Mv, .int .i64 (P.W : Nat), .slice p P.n cap]) P ∧ (Avoid X Lv ∧ Avoid X Fv ∧ Avoid X Mv)
variable {X : Nat → Prop}
theorem IsQ.exc {w w' : World} {v : Value} {P : Pl} (h : IsQ w v P) (a : AvoidQ X v) (g : Exc X w w') : IsQ w' v P := by
  obtain ⟨Lv, Fv, Mv, p, cap, e, ⟨b, off, cl, eL, hL⟩, h2, h3⟩ := h
  obtain ⟨a1, a2, a3⟩ := a _ _ _ _ _ e
  have aL := a1 _ _ _ _ _ eL
  exact ⟨Lv, Fv, Mv, p, cap, e, ⟨b, off, cl, eL, fun i hi => ⟨cell_exc g (hL i hi).1 aL, cell_exc g (hL i hi).2.1 aL, cell_exc g (hL i hi).2.2.1 aL, cell_exc g (hL i hi).2.2.2 aL⟩⟩, nums_exc h2 a2 g, nums_exc h3 a3 g⟩
theorem IsQ.avoid {w : World} {v : Value} {P : Pl} (h : IsQ w v P) (hS : 1 ≤ P.S) (hT : 1 ≤ P.T) (s : ∀ k, X k → w.heap.size ≤ k) : AvoidQ X v := fun L F M a b e => by
  obtain ⟨Lv, Fv, Mv, p, cap, e0, ⟨bl, off, cl, rfl, hL⟩, h2, h3⟩ := h
  rw [e] at e0
  injection e0 with e0
  injection e0 with e0
  simp only [List.cons.injEq, and_true] at e0
  obtain ⟨rfl, rfl, rfl, _, _⟩ := e0
  have hn : ∀ {v : Value} {F : Nat → Int}, Nums w v P.T F → Avoid X v := fun h b off sp n cap e x => by
    rcases h with ⟨h, _⟩ | ⟨b', off', cap', h1, h2, h3, h4, h5⟩
    · omega
    · rw [e] at h1
      injection h1 with h1 _ _
      injection h1 with h1
      injection h1 with h1
      have := (cell_block (h5 0 (by omega))).1
      have := s _ x
      simp only at *
      omega
  refine ⟨Avoid.at fun x => ?_, hn h2, hn h3⟩
  have := (cell_block (hL 0 (by omega)).1).1
  have := s _ x
  simp only at *
  omega
theorem IsB.bel {w w' : World} {v : Value} {R : List (List Nat)} {t : Nat} {P : Pl} (h : IsB X w v R t P) (g : Bel w w') : IsB X w' v R t P := by
  obtain ⟨rv, Lv, Fv, Mv, p, cap, e, h1, h2, h3⟩ := h
  exact ⟨rv, Lv, Fv, Mv, p, cap, e, h1.bel g, h2.bel g, h3⟩
theorem IsB.exc {w w' : World} {v : Value} {R : List (List Nat)} {t : Nat} {P : Pl} (h : IsB X w v R t P) (g : Exc X w w') : IsB X w' v R t P := by
  obtain ⟨rv, Lv, Fv, Mv, p, cap, e, h1, h2, h3⟩ := h
  refine ⟨rv, Lv, Fv, Mv, p, cap, e, h1.exc g, h2.exc (fun L F M a b e => ?_) g, h3⟩
  injection e with e
  injection e with e
  simp only [List.cons.injEq, and_true] at e
  obtain ⟨rfl, rfl, rfl, _, _⟩ := e
  exact h3
theorem IsB.less {Y : Nat → Prop} {w : World} {v : Value} {R : List (List Nat)} {t : Nat} {P : Pl} (h : IsB X w v R t P) (s : ∀ k, Y k → X k) : IsB Y w v R t P := by
  obtain ⟨rv, Lv, Fv, Mv, p, cap, e, h1, h2, ⟨a1, a2, a3⟩⟩ := h
  exact ⟨rv, Lv, Fv, Mv, p, cap, e, h1.less s, h2, a1.less s, a2.less s, a3.less s⟩
/-- its shape -/
theorem IsB.shape {w : World} {v : Value} {R : List (List Nat)} {t : Nat} {P : Pl} (h : IsB X w v R t P) : ∃ pr cr bl ol cl pf cf pm cm p cap,
    v = .agg #[.slice pr R.length cr, .int .i64 (t : Nat), .slice (some ⟨bl, ol, none⟩) P.S cl, .slice pf P.T cf, .slice pm P.T cm, .int .i64 (P.W : Nat), .slice p P.n cap] ∧
    (∀ i, i < P.S → Ten w bl (ol + i * 4) (P.cls i : Nat) (P.sz i : Nat) (P.ad i : Nat) (P.pg i : Nat)) ∧ mm.IsRm X w (.agg #[.slice pr R.length cr]) R ∧
    IsQ w (.agg #[.slice (some ⟨bl, ol, none⟩) P.S cl, .slice pf P.T cf, .slice pm P.T cm, .int .i64 (P.W : Nat), .slice p P.n cap]) P := by
  obtain ⟨rv, Lv, Fv, Mv, p, cap, rfl, hR, hQ, ha⟩ := h
  have hQ0 := hQ
  obtain ⟨_, _, _, _, _, e0, ⟨bl, ol, cl, rfl, hL⟩, hF, hM⟩ := hQ
  injection e0 with e0
  injection e0 with e0
  simp only [List.cons.injEq, and_true] at e0
  obtain ⟨rfl, rfl, rfl, _, _⟩ := e0
  obtain ⟨pf, cf, rfl, _⟩ := nums_slice hF
  obtain ⟨pm, cm, rfl, _⟩ := nums_slice hM
  have hR0 := hR
  obtain ⟨rv', e1, hRs⟩ := hR0
  injection e1 with e1
  injection e1 with e1
  simp only [List.cons.injEq, and_true] at e1
  subst e1
  obtain ⟨pr, cr, rfl, _⟩ := hRs.slice
  exact ⟨pr, cr, bl, ol, cl, pf, cf, pm, cm, p, cap, rfl, hL, hR, hQ0⟩
/-- the same tenant and plan, another memory -/
theorem IsB.with {w w' : World} {pr pr' : Option Addr} {rn rn' cr cr' : Nat} {Lv Fv Mv Wv Cv : Value} {R R' : List (List Nat)} {t : Nat} {P : Pl}
    (h : IsB X w (.agg #[.slice pr rn cr, .int .i64 (t : Nat), Lv, Fv, Mv, Wv, Cv]) R t P) (g : Bel w w') (hR : mm.IsRm X w' (.agg #[.slice pr' rn' cr']) R') :
    IsB X w' (.agg #[.slice pr' rn' cr', .int .i64 (t : Nat), Lv, Fv, Mv, Wv, Cv]) R' t P := by
  obtain ⟨rv, Lv', Fv', Mv', p, cap, e, h1, h2, h3⟩ := h.bel g
  injection e with e
  injection e with e
  simp only [List.cons.injEq, and_true] at e
  obtain ⟨rfl, _, rfl, rfl, rfl, rfl, rfl⟩ := e
  exact ⟨_, _, _, _, _, _, rfl, hR, h2, h3⟩

/-- the cells of a body, and of one slot -/
theorem keepB {w W : World} {a b c d e f g : Value} {o : Obj → Prop} {bl k : Nat} {x0 x1 x2 x3 : Int} (h : Bel (w.alloc (.cells #[a, b, c, d, e, f, g] 36)) W) (hL : Ten w bl k x0 x1 x2 x3) :
    Bel (w.alloc (.cells #[a, b, c, d, e, f, g] 36)) W ∧ (W.cell? ⟨w.heap.size, 0, none⟩ = some a ∧ W.cell? ⟨w.heap.size, 1, none⟩ = some b ∧ W.cell? ⟨w.heap.size, 2, none⟩ = some c ∧ W.cell? ⟨w.heap.size, 3, none⟩ = some d ∧ W.cell? ⟨w.heap.size, 4, none⟩ = some e ∧ W.cell? ⟨w.heap.size, 5, none⟩ = some f ∧ W.cell? ⟨w.heap.size, 6, none⟩ = some g) ∧
    (W.cell? ⟨bl, k, none⟩ = some (.int .i64 x0) ∧ W.cell? ⟨bl, k + 1, none⟩ = some (.int .i64 x1) ∧ W.cell? ⟨bl, k + 2, none⟩ = some (.int .i64 x2)) := by
  have hb := (Bel.refl w).alloc (.cells #[a, b, c, d, e, f, g] 36)
  have hL' := hL.bel (hb.trans h)
  exact ⟨h, ⟨agg_at h 0, agg_at h 1, agg_at h 2, agg_at h 3, agg_at h 4, agg_at h 5, agg_at h 6⟩, hL'.1, hL'.2.1, hL'.2.2.1⟩

set_option maxHeartbeats 2000000 in
/-- a slot's word -/
theorem rb_load (v : Value) (R : List (List Nat)) (t : Nat) (P : Pl) (s i : Nat) (w : World) (h : IsB X w v R t P) (ok : Bok P R t) (hs : s < P.S) (hi : i ≤ 64) :
    Calls Tryz.prog 85 #[v, .int .i64 (s : Nat), .int .i64 (i : Nat)] w fun e w' => e = .returned (.int .u64 (P.slW R t s i : Nat)) ∧ Bel w w' := by
  obtain ⟨pr, cr, bl, ol, cl, pf, cf, pm, cm, p, cap, rfl, hL, hR, _⟩ := h.shape
  have hb := (Bel.refl w).alloc (.cells #[.slice pr R.length cr, .int .i64 (t : Nat), .slice (some ⟨bl, ol, none⟩) P.S cl, .slice pf P.T cf, .slice pm P.T cm, .int .i64 (P.W : Nat), .slice p P.n cap] 36)
  have kp := fun W (g : Bel (w.alloc (.cells #[.slice pr R.length cr, .int .i64 (t : Nat), .slice (some ⟨bl, ol, none⟩) P.S cl, .slice pf P.T cf, .slice pm P.T cm, .int .i64 (P.W : Nat), .slice p P.n cap] 36)) W) => keepB (o := fun _ => True) g (hL s hs)
  have ww := Pl.ad_words ok.pl.1 hs
  have w2 := ok.pl.2.2.2.1
  have ld := fun W (g : Bel (w.alloc (.cells #[.slice pr R.length cr, .int .i64 (t : Nat), .slice (some ⟨bl, ol, none⟩) P.S cl, .slice pf P.T cf, .slice pm P.T cm, .int .i64 (P.W : Nat), .slice p P.n cap] 36)) W) => (mm.load_any X _ R (t : Nat) ((P.ad s + i : Nat) : Int) W (hR.bel (hb.trans g))).mono fun e w' ⟨x, y⟩ => (⟨x, g.trans y⟩ : _ ∧ Bel (w.alloc (.cells #[.slice pr R.length cr, .int .i64 (t : Nat), .slice (some ⟨bl, ol, none⟩) P.S cl, .slice pf P.T cf, .slice pm P.T cm, .int .i64 (P.W : Nat), .slice p P.n cap] 36)) w')
  simp only [load_wd] at ld
  unfold Pl.slW
  have sI : (s : Int) < (P.S : Int) := by omega
  have sz : (0 : Int) ≤ (s : Int) := by omega
  have a0 : P.ad s ≤ 2097152 := by omega
  generalize inE R (t : Int) ((P.ad s + i : Nat) : Int) = E at *
  obtain ⟨U, hU⟩ : ∃ U, wdAt R t (P.ad s + i) = U := ⟨_, rfl⟩
  rw [hU] at ld ⊢
  clear hL hR ok h hs ww w2 hU
  generalize P.ad s = A at *
  generalize P.cls s = C at *
  generalize P.sz s = Z at *
  generalize P.S = S at *
  generalize P.T = TT at *
  generalize P.n = n at *
  generalize R.length = rl at *
  generalize (P.W : Int) = V at *
  obtain ⟨B, hB⟩ : ∃ B, A + i = B := ⟨_, rfl⟩
  rw [hB] at ld
  have hw : IntKind.i64.wrap ((A : Int) + (i : Int)) = (B : Int) := by rw [IntWalk.i64_in _ (by omega)]; omega
  clear hB a0 hi
  go_enter Tryz.func85, Tryz.ntmps85
  go_upto_region 1 with fail
  obtain ⟨g0, ⟨k0, k1, k2, k3, k4, k5, k6⟩, l0, l1, l2⟩ := kp _ (Bel.refl _)
  go_region_held3 (fun W => Bel (w.alloc (.cells #[.slice pr rl cr, .int .i64 (t : Nat), .slice (some ⟨bl, ol, none⟩) S cl, .slice pf TT cf, .slice pm TT cm, .int .i64 V, .slice p n cap] 36)) W ∧ (W.cell? ⟨w.heap.size, 0, none⟩ = some (.slice pr rl cr) ∧ W.cell? ⟨w.heap.size, 1, none⟩ = some (.int .i64 (t : Nat)) ∧ W.cell? ⟨w.heap.size, 2, none⟩ = some (.slice (some ⟨bl, ol, none⟩) S cl) ∧ W.cell? ⟨w.heap.size, 3, none⟩ = some (.slice pf TT cf) ∧ W.cell? ⟨w.heap.size, 4, none⟩ = some (.slice pm TT cm) ∧ W.cell? ⟨w.heap.size, 5, none⟩ = some (.int .i64 V) ∧ W.cell? ⟨w.heap.size, 6, none⟩ = some (.slice p n cap)) ∧
      (W.cell? ⟨bl, ol + s * 4, none⟩ = some (.int .i64 (C : Nat)) ∧ W.cell? ⟨bl, ol + s * 4 + 1, none⟩ = some (.int .i64 (Z : Nat)) ∧ W.cell? ⟨bl, ol + s * 4 + 2, none⟩ = some (.int .i64 (A : Nat))))
    (first | with_reducible exact kp _ (by assumption) | with_reducible exact kp _ (Bel.drew (by assumption)))
    (first | (go_at_call 119; (with_reducible refine (ld _ (by first | assumption | exact Bel.drew (by assumption))).mono ?_); rintro e w' ⟨rfl, hg⟩))
  go_wp2
  go_ret
  exact ⟨rfl, hb.trans hg⟩

end Go.Proofs.YthokalcibjjihaaGreatDoor

/- THE DOCUMENT'S BODIES: may a head lie in a slot; the head of a slot's object. -/
namespace Go.Proofs.YthokalcibjjihaaGreatDoor
open Go.ChangeShapes Go.WideShapes Go.ChangeAt Go.RowKit Go.Deep hd
set_option linter.unusedVariables false
variable {X : Nat → Prop}

namespace Pl
variable {P : Pl} {R : List (List Nat)} {t : Nat}
theorem hd_no {s : Int} (h : P.isS s = false) : P.hdE R t s = 2 ∧ P.hdC R t s = 0 ∧ P.hdR R t s = 0 ∧ P.hdN R t s = 0 := by
  have e : P.hdE R t s = 2 := by unfold hdE; rw [h]; rfl
  unfold hdC hdR hdN
  rw [e]
  exact ⟨rfl, rfl, rfl, rfl⟩
theorem hd_bad {s : Nat} (h : s < P.S) (k : P.hasO R t s = false) : P.hdE R t s = 5 ∧ P.hdC R t s = 0 ∧ P.hdR R t s = 0 ∧ P.hdN R t s = 0 := by
  have e : P.hdE R t s = 5 := by unfold hdE; rw [isS_nat h, Int.toNat_natCast, k]; rfl
  unfold hdC hdR hdN
  rw [e]
  exact ⟨rfl, rfl, rfl, rfl⟩
theorem hd_yes {s : Nat} (h : s < P.S) (k : P.hasO R t s = true) : P.hdE R t s = 0 ∧ P.hdC R t s = cOf (P.slW R t s 0) ∧ P.hdR R t s = rOf (P.slW R t s 0) ∧ P.hdN R t s = nOf (P.slW R t s 0) := by
  have e : P.hdE R t s = 0 := by unfold hdE; rw [isS_nat h, Int.toNat_natCast, k]; rfl
  unfold hdC hdR hdN
  rw [e, Int.toNat_natCast]
  exact ⟨rfl, rfl, rfl, rfl⟩
theorem lies_no {s : Nat} {c r n : Int} (h : okH c r n = false) : P.liesB s c r n = false := by unfold liesB; rw [h]; rfl
theorem lies_cls {s : Nat} {c r n : Int} (h : c ≠ P.cls s) : P.liesB s c r n = false := by unfold liesB; rw [decide_eq_false h, Bool.and_false, Bool.false_and]
theorem lies_at {s : Nat} {c r n : Int} (h : okH c r n = true) (k : c = P.cls s) : P.liesB s c r n = decide (r + n + 1 ≤ P.sz s) := by unfold liesB; rw [h, decide_eq_true k]; rfl
end Pl

set_option maxHeartbeats 2000000 in
/-- may a head lie in a slot? -/
theorem rb_lies (v : Value) (R : List (List Nat)) (t : Nat) (P : Pl) (s : Nat) (c r n : Int) (w : World) (h : IsB X w v R t P) (hs : s < P.S) (hc : i64b c) (hr : i64b r) (hn : i64b n) :
    Calls Tryz.prog 87 #[v, .int .i64 (s : Nat), .agg #[.int .i64 c, .int .i64 r, .int .i64 n]] w fun e w' => e = .returned (.bool (P.liesB s c r n)) ∧ Bel w w' := by
  obtain ⟨pr, cr, bl, ol, cl, pf, cf, pm, cm, p, cap, rfl, hL, hR, _⟩ := h.shape
  have tb := two w (.cells #[.slice pr R.length cr, .int .i64 (t : Nat), .slice (some ⟨bl, ol, none⟩) P.S cl, .slice pf P.T cf, .slice pm P.T cm, .int .i64 (P.W : Nat), .slice p P.n cap] 36) (.cells #[.int .i64 c, .int .i64 r, .int .i64 n] 44)
  have bt := bel_two w (.cells #[.slice pr R.length cr, .int .i64 (t : Nat), .slice (some ⟨bl, ol, none⟩) P.S cl, .slice pf P.T cf, .slice pm P.T cm, .int .i64 (P.W : Nat), .slice p P.n cap] 36) (.cells #[.int .i64 c, .int .i64 r, .int .i64 n] 44)
  have ll := (hL s hs)
  have sI : (s : Int) < (P.S : Int) := by omega
  have sz : (0 : Int) ≤ (s : Int) := by omega
  have lno := @Pl.lies_no P s c r n
  have lcl := @Pl.lies_cls P s c r n
  have lat := @Pl.lies_at P s c r n
  clear hL hR h hs
  generalize P.liesB s c r n = B at *
  generalize P.cls s = C at *
  generalize P.sz s = Z at *
  generalize P.ad s = A at *
  generalize P.S = S at *
  generalize P.T = TT at *
  generalize P.n = nn at *
  generalize R.length = rl at *
  generalize (P.W : Int) = V at *
  generalize hW : (w.alloc (.cells #[.slice pr rl cr, .int .i64 (t : Nat), .slice (some ⟨bl, ol, none⟩) S cl, .slice pf TT cf, .slice pm TT cm, .int .i64 V, .slice p nn cap] 36)).alloc (.cells #[.int .i64 c, .int .i64 r, .int .i64 n] 44) = W at *
  have nd := rneed_h c r n W hc hr hn
  obtain ⟨u0, u1, u2, _, _, _⟩ := box3 tb.2
  have kk := fun W1 (g : Bel W W1) => And.intro (box7 (heap_bel g tb.1)).1 (And.intro (box3 (heap_bel g tb.2)) (ll.bel (bt.trans g)))
  have hid := Lib.hid (And.intro tb (And.intro bt kk))
  clear tb bt kk ll
  cases ok : okH c r n
  · rw [lno ok]
    rw [putE_no ok] at nd
    clear lno lcl lat hc hr hn ok
    generalize needR c r n = nr at *
    go_enter Tryz.func87, Tryz.ntmps87
    go_upto_region 1 with fail
    (try rw [hW])
    clear hW
    go_upto_region 2 with (go_at_call 120; refine nd.mono ?_; rintro e w1 ⟨rfl, h1⟩; obtain ⟨⟨k0, k1, k2, k3, k4, k5, k6⟩, ⟨z0, z1, z2, _, _, _⟩, x0, x1, x2, _⟩ := hid.out.2.2 _ h1)
    go_quiet (fail)
    go_wp2
    go_ret
    exact ⟨rfl, hid.out.2.1.trans (h1.trans (Bel.of_drew ⟨_, rfl⟩))⟩
  · rw [putE_ok ok] at nd
    have e1 : needR c r n = r + n + 1 := by unfold needR; rw [ok]; rfl
    rw [e1] at nd
    obtain ⟨C', R', N', rfl, rfl, rfl, h1, h2⟩ := okH_true ok
    by_cases a : C' = C
    · subst a
      rw [lat ok rfl]
      obtain ⟨q, hq⟩ : ∃ q : Nat, R' + N' + 1 = q := ⟨_, rfl⟩
      have hq2 : (R' : Int) + (N' : Int) + 1 = (q : Int) := by omega
      rw [hq2] at nd ⊢
      clear lno lcl lat hc hr hn ok e1 hq hq2 h1 h2
      by_cases b : q ≤ Z
      · have d : decide ((q : Int) ≤ (Z : Int)) = true := decide_eq_true (by omega)
        rw [d]
        go_enter Tryz.func87, Tryz.ntmps87
        go_upto_region 1 with fail
        (try rw [hW])
        clear hW
        go_upto_region 2 with (go_at_call 120; refine nd.mono ?_; rintro e w1 ⟨rfl, h1⟩; obtain ⟨⟨k0, k1, k2, k3, k4, k5, k6⟩, ⟨z0, z1, z2, _, _, _⟩, x0, x1, x2, _⟩ := hid.out.2.2 _ h1)
        go_quiet (fail)
        go_wp2
        go_ret
        exact ⟨rfl, hid.out.2.1.trans (h1.trans (Bel.of_drew ⟨_, rfl⟩))⟩
      · have d : decide ((q : Int) ≤ (Z : Int)) = false := decide_eq_false (by omega)
        have d2 : decide (q ≤ Z) = false := decide_eq_false b
        rw [d]
        go_enter Tryz.func87, Tryz.ntmps87
        go_upto_region 1 with fail
        (try rw [hW])
        clear hW
        go_upto_region 2 with (go_at_call 120; refine nd.mono ?_; rintro e w1 ⟨rfl, h1⟩; obtain ⟨⟨k0, k1, k2, k3, k4, k5, k6⟩, ⟨z0, z1, z2, _, _, _⟩, x0, x1, x2, _⟩ := hid.out.2.2 _ h1)
        go_quiet (fail)
        go_wp2
        go_ret
        exact ⟨rfl, hid.out.2.1.trans (h1.trans (Bel.of_drew ⟨_, rfl⟩))⟩
    · rw [lcl (by omega)]
      have d : decide ((C' : Int) = (C : Int)) = false := decide_eq_false (by omega)
      have d2 : decide (C' = C) = false := decide_eq_false a
      have d3 : ((C' : Int) == (C : Int)) = false := by simp; omega
      generalize (R' : Int) + (N' : Int) + 1 = nr at *
      clear lno lcl lat hc hr hn ok e1 h1 h2
      go_enter Tryz.func87, Tryz.ntmps87
      go_upto_region 1 with fail
      (try rw [hW])
      clear hW
      go_upto_region 2 with (go_at_call 120; refine nd.mono ?_; rintro e w1 ⟨rfl, h1⟩; obtain ⟨⟨k0, k1, k2, k3, k4, k5, k6⟩, ⟨z0, z1, z2, _, _, _⟩, x0, x1, x2, _⟩ := hid.out.2.2 _ h1)
      go_quiet (fail)
      go_wp2
      go_ret
      exact ⟨rfl, hid.out.2.1.trans (h1.trans (Bel.of_drew ⟨_, rfl⟩))⟩

set_option maxHeartbeats 2000000 in
/-- the head of a slot's object -/
theorem rb_head (v : Value) (R : List (List Nat)) (t : Nat) (P : Pl) (s : Int) (w : World) (h : IsB X w v R t P) (ok : Bok P R t) :
    Calls Tryz.prog 43 #[v, .int .i64 s] w fun e w' => e = .returned (.tuple #[.agg #[.int .i64 (P.hdC R t s : Nat), .int .i64 (P.hdR R t s : Nat), .int .i64 (P.hdN R t s : Nat)], .int .i64 (P.hdE R t s)]) ∧ Bel w w' := by
  have hI := h
  obtain ⟨pr, cr, bl, ol, cl, pf, cf, pm, cm, p, cap, rfl, _, _, hQ⟩ := h.shape
  have tb := two w (.cells #[.slice pr R.length cr, .int .i64 (t : Nat), .slice (some ⟨bl, ol, none⟩) P.S cl, .slice pf P.T cf, .slice pm P.T cm, .int .i64 (P.W : Nat), .slice p P.n cap] 36) (.cells #[.int .i64 0, .int .i64 0, .int .i64 0] 44)
  have bt := bel_two w (.cells #[.slice pr R.length cr, .int .i64 (t : Nat), .slice (some ⟨bl, ol, none⟩) P.S cl, .slice pf P.T cf, .slice pm P.T cm, .int .i64 (P.W : Nat), .slice p P.n cap] 36) (.cells #[.int .i64 0, .int .i64 0, .int .i64 0] 44)
  obtain ⟨W, hW⟩ : ∃ W, (w.alloc (.cells #[.slice pr R.length cr, .int .i64 (t : Nat), .slice (some ⟨bl, ol, none⟩) P.S cl, .slice pf P.T cf, .slice pm P.T cm, .int .i64 (P.W : Nat), .slice p P.n cap] 36)).alloc (.cells #[.int .i64 0, .int .i64 0, .int .i64 0] 44) = W := ⟨_, rfl⟩
  rw [hW] at tb bt
  have hs := has_any _ P s W (hQ.bel bt)
  change Calls _ _ _ _ fun e w' => e = .returned (.bool (P.isS s)) ∧ Bel W w' at hs
  have kk := fun W1 (g : Bel W W1) => And.intro (box7 (heap_bel g tb.1)).1 (box3 (heap_bel g tb.2))
  obtain ⟨⟨k0, k1, k2, k3, k4, k5, k6⟩, z0, z1, z2, f0, f1, f2⟩ := kk _ (Bel.refl _)
  cases a : P.isS s
  · obtain ⟨e1, e2, e3, e4⟩ := Pl.hd_no (R := R) (t := t) a
    rw [a] at hs
    rw [e1, e2, e3, e4]
    have hid := Lib.hid (And.intro tb (And.intro bt kk))
    clear tb bt kk h hI hQ ok e1 e2 e3 e4 a
    go_enter Tryz.func43, Tryz.ntmps43
    go_upto_region 1 with fail
    (try rw [hW])
    clear hW
    go_wp2_with (go_at_call 18; refine hs.mono ?_; rintro e w1 ⟨rfl, h1⟩; obtain ⟨⟨k0, k1, k2, k3, k4, k5, k6⟩, z0, z1, z2, f0, f1, f2⟩ := hid.out.2.2 _ h1)
    (try simp only [Exit.inBlock, Exit.then])
    refine bodyPost_ret (results_cell_row2 rfl _ _ _ 44 _ (0, 0) _ rfl (three_row (heap_bel h1 hid.out.1.2) _ _ _) Tryz.underlying44 rfl info_head) rfl ?_
    exact ⟨rfl, set_bel3 (hid.out.2.1.trans h1) (Nat.le_succ _) _ _ _⟩
  · obtain ⟨s', rfl, hs'⟩ := Pl.isS_of a
    rw [a] at hs
    have ld := fun W1 (g : Bel W W1) => (rb_load _ R t P s' 0 W1 (hI.bel (bt.trans g)) ok hs' (by omega)).mono fun e w' ⟨x, y⟩ => (⟨x, g.trans y⟩ : _ ∧ Bel W w')
    rw [show ((0 : Nat) : Int) = 0 from rfl] at ld
    have hu : P.slW R t s' 0 < 18446744073709551616 := ok.w64 _ _
    have hgt := fun W1 (g : Bel W W1) => (rget_h (P.slW R t s' 0) W1 hu).mono fun e w' ⟨x, y⟩ => (⟨x, g.trans y⟩ : _ ∧ Bel W w')
    have hb := Pl.hd_bad (R := R) (t := t) hs'
    have hy := Pl.hd_yes (R := R) (t := t) hs'
    have ho : P.hasO R t s' = (isW (P.slW R t s' 0) && P.liesB s' (cOf (P.slW R t s' 0)) (rOf (P.slW R t s' 0)) (nOf (P.slW R t s' 0))) := rfl
    have li := fun W1 (g : Bel W W1) => (rb_lies _ R t P s' (cOf (P.slW R t s' 0) : Nat) (rOf (P.slW R t s' 0) : Nat) (nOf (P.slW R t s' 0) : Nat) W1 (hI.bel (bt.trans g)) hs' (by have := parts_lt (P.slW R t s' 0); exact ⟨by omega, by omega⟩) (by have := parts_lt (P.slW R t s' 0); exact ⟨by omega, by omega⟩) (by have := parts_lt (P.slW R t s' 0); exact ⟨by omega, by omega⟩)).mono fun e w' ⟨x, y⟩ => (⟨x, g.trans y, y⟩ : _ ∧ Bel W w' ∧ Bel W1 w')
    have gn := @g_no (P.slW R t s' 0)
    have gy := @g_yes (P.slW R t s' 0)
    generalize P.hasO R t s' = O at *
    generalize P.hdE R t s' = E at *
    generalize P.hdC R t s' = HC at *
    generalize P.hdR R t s' = HR at *
    generalize P.hdN R t s' = HN at *
    generalize P.slW R t s' 0 = u at *
    have hid := Lib.hid (And.intro tb (And.intro bt kk))
    clear tb bt kk h hI hQ ok a hs' hu
    cases x : isW u
    · rw [x] at ho
      obtain ⟨rfl, rfl, rfl, rfl⟩ := hb ho
      obtain ⟨e1, e2, e3, e4⟩ := gn x
      rw [e1, e2, e3, e4] at hgt
      clear hb hy ho li gn gy x e1 e2 e3 e4
      go_enter Tryz.func43, Tryz.ntmps43
      go_upto_region 1 with fail
      (try rw [hW])
      clear hW
      go_wp2_with (first
        | (go_at_call 18; refine hs.mono ?_; rintro e w1 ⟨rfl, h1⟩; obtain ⟨⟨k0, k1, k2, k3, k4, k5, k6⟩, z0, z1, z2, f0, f1, f2⟩ := hid.out.2.2 _ h1)
        | (go_at_call 85; refine (ld _ h1).mono ?_; rintro e w2 ⟨rfl, h2⟩)
        | (go_at_call 89; refine (hgt _ h2).mono ?_; rintro e w3 ⟨rfl, h3⟩; have h4 := h3.alloc (.cells #[.int .i64 0, .int .i64 0, .int .i64 0] 44); obtain ⟨⟨k0, k1, k2, k3, k4, k5, k6⟩, z0, z1, z2, f0, f1, f2⟩ := hid.out.2.2 _ h4))
      (try simp only [Exit.inBlock, Exit.then])
      refine bodyPost_ret (results_cell_row2 rfl _ _ _ 44 _ (0, 0) _ rfl (three_row (heap_bel h4 hid.out.1.2) _ _ _) Tryz.underlying44 rfl info_head) rfl ?_
      exact ⟨rfl, set_bel3 (hid.out.2.1.trans h4) (Nat.le_succ _) _ _ _⟩
    · rw [x, Bool.true_and] at ho
      obtain ⟨e1, e2, e3, e4⟩ := gy x
      rw [e1, e2, e3, e4] at hgt
      rw [← ho] at li
      clear ho gn gy x e1 e2 e3 e4
      generalize cOf u = cu at *
      generalize rOf u = ru at *
      generalize nOf u = nu at *
      cases O
      · obtain ⟨rfl, rfl, rfl, rfl⟩ := hb rfl
        clear hb hy
        go_enter Tryz.func43, Tryz.ntmps43
        go_upto_region 1 with fail
        (try rw [hW])
        clear hW
        go_wp2_with (first
          | (go_at_call 18; refine hs.mono ?_; rintro e w1 ⟨rfl, h1⟩; obtain ⟨⟨k0, k1, k2, k3, k4, k5, k6⟩, z0, z1, z2, f0, f1, f2⟩ := hid.out.2.2 _ h1)
          | (go_at_call 85; refine (ld _ h1).mono ?_; rintro e w2 ⟨rfl, h2⟩)
          | (go_at_call 89; refine (hgt _ h2).mono ?_; rintro e w3 ⟨rfl, h3⟩; have h4 := h3.alloc (.cells #[.int .i64 (cu : Nat), .int .i64 (ru : Nat), .int .i64 (nu : Nat)] 44); obtain ⟨⟨k0, k1, k2, k3, k4, k5, k6⟩, z0, z1, z2, f0, f1, f2⟩ := hid.out.2.2 _ h4)
          | (go_at_call 87; refine (li _ h4).mono ?_; rintro e w5 ⟨rfl, h5, _⟩; obtain ⟨⟨k0, k1, k2, k3, k4, k5, k6⟩, z0, z1, z2, f0, f1, f2⟩ := hid.out.2.2 _ h5))
        (try simp only [Exit.inBlock, Exit.then])
        refine bodyPost_ret (results_cell_row2 rfl _ _ _ 44 _ (0, 0) _ rfl (three_row (heap_bel h5 hid.out.1.2) _ _ _) Tryz.underlying44 rfl info_head) rfl ?_
        exact ⟨rfl, set_bel3 (hid.out.2.1.trans h5) (Nat.le_succ _) _ _ _⟩
      · obtain ⟨rfl, rfl, rfl, rfl⟩ := hy rfl
        clear hb hy
        go_enter Tryz.func43, Tryz.ntmps43
        go_upto_region 1 with fail
        (try rw [hW])
        clear hW
        go_wp2_with (first
          | (go_at_call 18; refine hs.mono ?_; rintro e w1 ⟨rfl, h1⟩; obtain ⟨⟨k0, k1, k2, k3, k4, k5, k6⟩, z0, z1, z2, f0, f1, f2⟩ := hid.out.2.2 _ h1)
          | (go_at_call 85; refine (ld _ h1).mono ?_; rintro e w2 ⟨rfl, h2⟩)
          | (go_at_call 89; refine (hgt _ h2).mono ?_; rintro e w3 ⟨rfl, h3⟩; have h4 := h3.alloc (.cells #[.int .i64 (HC : Nat), .int .i64 (HR : Nat), .int .i64 (HN : Nat)] 44); obtain ⟨⟨k0, k1, k2, k3, k4, k5, k6⟩, z0, z1, z2, f0, f1, f2⟩ := hid.out.2.2 _ h4)
          | (go_at_call 87; refine (li _ h4).mono ?_; rintro e w5 ⟨rfl, h5, h6⟩; obtain ⟨⟨k0, k1, k2, k3, k4, k5, k6⟩, z0, z1, z2, f0, f1, f2⟩ := hid.out.2.2 _ h5; obtain ⟨y0, y1, y2, _, _, _⟩ := box3 (box_at h6)))
        (try simp only [Exit.inBlock, Exit.then])
        refine bodyPost_ret (results_cell_row2 rfl _ _ _ 44 _ (0, 0) _ rfl (three_row (heap_bel h5 hid.out.1.2) _ _ _) Tryz.underlying44 rfl info_head) rfl ?_
        exact ⟨rfl, set_bel3 (hid.out.2.1.trans h5) (Nat.le_succ _) _ _ _⟩

end Go.Proofs.YthokalcibjjihaaGreatDoor

/- THE DOCUMENT'S BODIES: a slot's word turned; Wipe; Make. -/
namespace Go.Proofs.YthokalcibjjihaaGreatDoor
open Go.ChangeShapes Go.WideShapes Go.ChangeAt Go.RowKit Go.Deep hd
set_option linter.unusedVariables false
variable {X : Nat → Prop}

theorem info_b : (Tryz.prog.info? 36).map (·.size) = some 7 := by kernel_rfl
theorem in_reg {P : Pl} {R : List (List Nat)} {t a : Nat} (h : P.Reg R t) (ha : a < P.W) : inE R (t : Nat) (a : Nat) = 0 := by
  have h1 := h.1
  have h2 := h.2
  unfold inE
  rw [if_neg (by omega), Int.toNat_natCast, h2, if_neg (by omega)]
theorem zero_reg {P : Pl} {R : List (List Nat)} {t a n : Nat} (h : P.Reg R t) (ha : a + n ≤ P.W) : zeroE R (t : Nat) (a : Nat) (n : Nat) = 0 := by
  have h1 := h.1
  have h2 := h.2
  unfold zeroE
  rw [if_neg (by omega), Int.toNat_natCast, h2, if_neg (by omega)]
theorem set_one {w w0 : World} {g : Nat} (h : Exc (fun k => k = g) w0 w) (j : Nat) (u : Value) : Exc (fun k => k = g) w0 (w.setCell ⟨g, j, none⟩ u) := by
  have k := (Below.refl 0 w).setCell (p := ⟨g, j, none⟩) (Nat.zero_le _) u
  exact ⟨k.os.trans h.os, k.tape.trans h.tape, k.output.trans h.output, Nat.le_trans h.size k.size, fun i hi hx => (set_heap hx u).trans (h.block i hi hx)⟩
theorem set7_exc (w : World) (g : Nat) (a b c d e f i : Value) : Exc (fun k => k = g) w (set7 w g a b c d e f i) :=
  set_one (set_one (set_one (set_one (set_one (set_one (set_one (Exc.refl _ w) 0 a) 1 b) 2 c) 3 d) 4 e) 5 f) 6 i
theorem rm_old {w : World} {v : Value} {R : List (List Nat)} (h : mm.IsRm X w v R) : mm.IsRm (fun k => X k ∨ w.heap.size ≤ k) w v R := by
  obtain ⟨rv, e, h⟩ := h
  exact ⟨rv, e, h.old⟩
theorem rm_shape {w : World} {v : Value} {R : List (List Nat)} (h : mm.IsRm X w v R) : ∃ p cap, v = .agg #[.slice p R.length cap] := by
  obtain ⟨rv, rfl, h⟩ := h
  obtain ⟨p, cap, rfl, _⟩ := h.slice
  exact ⟨p, cap, rfl⟩
/-- what a body is behind it -/
theorem IsB.fin {w w4 : World} {pr pr' : Option Addr} {rn rn' cr cr' D : Nat} {Lv Fv Mv Wv Cv : Value} {R R' : List (List Nat)} {t : Nat} {P : Pl}
    (h : IsB X w (.agg #[.slice pr rn cr, .int .i64 (t : Nat), Lv, Fv, Mv, Wv, Cv]) R t P) (hR : mm.IsRm (fun k => X k ∨ k = D) w4 (.agg #[.slice pr' rn' cr']) R') (g : Bel w w4) (hD : w.heap.size ≤ D) :
    IsB X (set7 w4 D (.slice pr' rn' cr') (.int .i64 (t : Nat)) Lv Fv Mv Wv Cv) (.agg #[.slice pr' rn' cr', .int .i64 (t : Nat), Lv, Fv, Mv, Wv, Cv]) R' t P ∧ Bel w (set7 w4 D (.slice pr' rn' cr') (.int .i64 (t : Nat)) Lv Fv Mv Wv Cv) := by
  have b := set7_below g hD (.slice pr' rn' cr') (.int .i64 (t : Nat)) Lv Fv Mv Wv Cv
  exact ⟨h.with b ((hR.exc ((set7_exc _ _ _ _ _ _ _ _ _).mono fun k hk => Or.inr hk)).less fun k hk => Or.inl hk), b⟩
theorem IsB.same {w w4 : World} {D : Nat} {a b c d e f i : Value} {R : List (List Nat)} {t : Nat} {P : Pl} (h : IsB X w (.agg #[a, b, c, d, e, f, i]) R t P) (g : Bel w w4) (hD : w.heap.size ≤ D) :
    IsB X (set7 w4 D a b c d e f i) (.agg #[a, b, c, d, e, f, i]) R t P ∧ Bel w (set7 w4 D a b c d e f i) := by
  have b' := set7_below g hD a b c d e f i
  exact ⟨h.bel b', b'⟩

set_option maxHeartbeats 4000000 in
set_option maxRecDepth 10000 in
/-- a slot's word turned -/
theorem rb_store (v : Value) (R : List (List Nat)) (t : Nat) (P : Pl) (s i u : Nat) (w : World) (h : IsB X w v R t P) (ok : Bok P R t) (hX : Till X w) (hs : s < P.S) (hi : i < P.sz s) :
    Calls Tryz.prog 84 #[v, .int .i64 (s : Nat), .int .i64 (i : Nat), .int .u64 (u : Nat)] w fun e w' => (∃ v', e = .returned v' ∧ IsB X w' v' (setR R t (P.ad s + i) u) t P) ∧ Bel w w' := by
  have hI := h
  obtain ⟨pr, cr, bl, ol, cl, pf, cf, pm, cm, p, cap, rfl, hL, hR, _⟩ := h.shape
  have tb := two w (.cells #[.slice pr R.length cr, .int .i64 (t : Nat), .slice (some ⟨bl, ol, none⟩) P.S cl, .slice pf P.T cf, .slice pm P.T cm, .int .i64 (P.W : Nat), .slice p P.n cap] 36) (.cells #[.slice none 0 0, .int .i64 0, .slice none 0 0, .slice none 0 0, .slice none 0 0, .int .i64 0, .slice none 0 0] 36)
  have bt := bel_two w (.cells #[.slice pr R.length cr, .int .i64 (t : Nat), .slice (some ⟨bl, ol, none⟩) P.S cl, .slice pf P.T cf, .slice pm P.T cm, .int .i64 (P.W : Nat), .slice p P.n cap] 36) (.cells #[.slice none 0 0, .int .i64 0, .slice none 0 0, .slice none 0 0, .slice none 0 0, .int .i64 0, .slice none 0 0] 36)
  have sW : ((w.alloc (.cells #[.slice pr R.length cr, .int .i64 (t : Nat), .slice (some ⟨bl, ol, none⟩) P.S cl, .slice pf P.T cf, .slice pm P.T cm, .int .i64 (P.W : Nat), .slice p P.n cap] 36)).alloc (.cells #[.slice none 0 0, .int .i64 0, .slice none 0 0, .slice none 0 0, .slice none 0 0, .int .i64 0, .slice none 0 0] 36)).heap.size = w.heap.size + 2 := by show ((w.heap.push _).push _).size = _; simp
  obtain ⟨W, hW⟩ : ∃ W, (w.alloc (.cells #[.slice pr R.length cr, .int .i64 (t : Nat), .slice (some ⟨bl, ol, none⟩) P.S cl, .slice pf P.T cf, .slice pm P.T cm, .int .i64 (P.W : Nat), .slice p P.n cap] 36)).alloc (.cells #[.slice none 0 0, .int .i64 0, .slice none 0 0, .slice none 0 0, .slice none 0 0, .int .i64 0, .slice none 0 0] 36) = W := ⟨_, rfl⟩
  rw [hW] at tb bt sW
  have ww := Pl.ad_words ok.pl.1 hs
  have w2 := ok.pl.2.2.2.1
  have eI := in_reg (a := P.ad s + i) ok.reg (by omega)
  have eS : storeR R (t : Nat) ((P.ad s + i : Nat) : Int) u = setR R t (P.ad s + i) u := by unfold storeR; rw [if_pos eI, Int.toNat_natCast, Int.toNat_natCast]
  have hRA : mm.IsRm (fun k => X k ∨ k = w.heap.size + 1) W (.agg #[.slice pr R.length cr]) R := ((rm_old hR).less (Y := fun k => X k ∨ k = w.heap.size + 1) fun k hk => hk.imp id fun e => by omega).bel bt
  have hRB : mm.IsRm (fun k => (X k ∨ k = w.heap.size + 1) ∨ k = W.heap.size) W (.agg #[.slice pr R.length cr]) R := (rm_old hRA).less fun k hk => hk.imp id fun e => by omega
  have gd := Bel.drew (Bel.refl W)
  have ga := (Bel.refl W).alloc (.cells #[.slice none 0 0] 31)
  have gad := Bel.drew ga
  have s1 : (W.alloc (.cells #[.slice none 0 0] 31)).heap.size = W.heap.size + 1 := by show (W.heap.push _).size = _; simp
  have stA := mm.rstore_any (fun k => X k ∨ k = w.heap.size + 1) _ R (t : Nat) ((P.ad s + i : Nat) : Int) u W.drew (hRA.bel gd) (fun k hk => by
    show k < W.heap.size
    rcases hk with hk | hk
    · have := hX k hk; omega
    · omega) ok.full.ok
  have stB := mm.rstore_any (fun k => (X k ∨ k = w.heap.size + 1) ∨ k = W.heap.size) _ R (t : Nat) ((P.ad s + i : Nat) : Int) u (W.alloc (.cells #[.slice none 0 0] 31)).drew (hRB.bel gad) (fun k hk => by
    show k < (W.alloc (.cells #[.slice none 0 0] 31)).heap.size
    rcases hk with (hk | hk) | hk
    · have := hX k hk; omega
    · omega
    · omega) ok.full.ok
  rw [eI, eS] at stA stB
  have kk := fun W1 (g : Bel W W1) => And.intro g (And.intro (box7 (heap_bel g tb.1)).1 (And.intro ((hL s hs).bel (bt.trans g)).1 (And.intro ((hL s hs).bel (bt.trans g)).2.1 ((hL s hs).bel (bt.trans g)).2.2.1)))
  have hbx0 : (W.alloc (.cells #[.slice none 0 0] 31)).drew.heap[W.heap.size]? = some (.cells #[.slice none 0 0] 31 (0, 0)) := heap_alloc_new W _
  have sI : (s : Int) < (P.S : Int) := by omega
  have sz : (0 : Int) ≤ (s : Int) := by omega
  have a0 : P.ad s ≤ 2097152 := by omega
  have i0 : i ≤ 2097152 := by omega
  have fin := fun (w4 : World) (p' : Option Addr) (n' c' : Nat) hR g => IsB.fin (w4 := w4) (pr' := p') (rn' := n') (cr' := c') (R' := setR R t (P.ad s + i) u) (D := w.heap.size + 1) hI hR g (Nat.le_succ _)
  have hid := Lib.hid (And.intro tb (And.intro bt (And.intro hbx0 (And.intro sW (And.intro s1 fin)))))
  clear hL hR ok h hI hs ww w2 eI eS hX hRA hRB tb bt sW hbx0 s1 hi fin
  generalize setR R t (P.ad s + i) u = S' at *
  generalize P.ad s = A at *
  generalize P.cls s = C at *
  generalize P.sz s = Z at *
  generalize P.S = S at *
  generalize P.T = TT at *
  generalize P.n = n at *
  generalize R.length = rl at *
  generalize (P.W : Int) = V at *
  obtain ⟨B, hB⟩ : ∃ B, A + i = B := ⟨_, rfl⟩
  rw [hB] at stA stB
  have hw : IntKind.i64.wrap ((A : Int) + (i : Int)) = (B : Int) := by rw [IntWalk.i64_in _ (by omega)]; omega
  clear hB a0 i0
  obtain ⟨g0, ⟨k0, k1, k2, k3, k4, k5, k6⟩, l0, l1, l2⟩ := kk _ (Bel.refl _)
  go_enter Tryz.func84, Tryz.ntmps84
  go_upto_region 1 with fail
  (try rw [hW])
  clear hW
  go_region_held3 (fun W1 => Bel W W1 ∧ (W1.cell? ⟨w.heap.size, 0, none⟩ = some (.slice pr rl cr) ∧ W1.cell? ⟨w.heap.size, 1, none⟩ = some (.int .i64 (t : Nat)) ∧ W1.cell? ⟨w.heap.size, 2, none⟩ = some (.slice (some ⟨bl, ol, none⟩) S cl) ∧ W1.cell? ⟨w.heap.size, 3, none⟩ = some (.slice pf TT cf) ∧ W1.cell? ⟨w.heap.size, 4, none⟩ = some (.slice pm TT cm) ∧ W1.cell? ⟨w.heap.size, 5, none⟩ = some (.int .i64 V) ∧ W1.cell? ⟨w.heap.size, 6, none⟩ = some (.slice p n cap)) ∧
      (W1.cell? ⟨bl, ol + s * 4, none⟩ = some (.int .i64 (C : Nat)) ∧ W1.cell? ⟨bl, ol + s * 4 + 1, none⟩ = some (.int .i64 (Z : Nat)) ∧ W1.cell? ⟨bl, ol + s * 4 + 2, none⟩ = some (.int .i64 (A : Nat))))
    (first | with_reducible exact kk _ (by assumption) | with_reducible exact kk _ (Bel.alloc (by assumption) _))
    (first
      | (go_at_call 17; (with_reducible refine stA.mono ?_); rintro e w3 ⟨⟨v', rfl, hR3⟩, h3⟩
         obtain ⟨p', c', rfl⟩ := rm_shape hR3
         have h4 := gd.trans h3
         have hid3 := Lib.hid (And.intro hR3 h4)
         clear hR3 h3)
      | (go_at_call 17; (with_reducible refine stB.mono ?_); rintro e w3 ⟨⟨v', rfl, hR3⟩, h3⟩
         obtain ⟨p', c', rfl⟩ := rm_shape hR3
         obtain ⟨fz, cx3, W5, hW5, hbx5, cx5, hE5⟩ := mm.box_store (x := .slice p' S'.length c') (heap_bel h3 hid.out.2.2.1)
         have h34 : Bel W w3 := gad.trans h3
         have h4 : Bel W W5 := Below.trans h34 (hE5.below (fun x hx => by omega) h34.size)
         have hid3 := Lib.hid (And.intro hR3 (And.intro h4 (And.intro hbx5 hE5)))
         clear hR3 h3 hbx5 hE5))
  · have h5 := hid3.out.2.alloc (.cells #[.slice p' S'.length c'] 31)
    obtain ⟨_, ⟨k0, k1, k2, k3, k4, k5, k6⟩, _⟩ := kk _ h5
    obtain ⟨⟨z0, z1, z2, z3, z4, z5, z6⟩, f0, f1, f2, f3, f4, f5, f6⟩ := box7 (heap_bel h5 hid.out.1.2)
    go_wp2
    (try simp only [Exit.inBlock, Exit.then])
    refine bodyPost_ret (results_cell_row rfl _ _ _ 36 _ (0, 0) _ rfl (seven_row (heap_bel h5 hid.out.1.2) _ _ _ _ _ _ _) Tryz.underlying36 rfl info_b) rfl ?_
    obtain ⟨f1, f2⟩ := hid.out.2.2.2.2.2 _ p' _ c' (hid3.out.1.bel ((Bel.refl w3).alloc (.cells #[.slice p' S'.length c'] 31))) (hid.out.2.1.trans h5)
    exact ⟨⟨_, rfl, f1⟩, f2⟩
  · obtain ⟨hR3, h5, hbx5, hE5⟩ := hid3.out
    obtain ⟨_, ⟨k0, k1, k2, k3, k4, k5, k6⟩, _⟩ := kk _ h5
    obtain ⟨⟨z0, z1, z2, z3, z4, z5, z6⟩, f0, f1, f2, f3, f4, f5, f6⟩ := box7 (heap_bel h5 hid.out.1.2)
    clear hR3 hbx5 hE5
    go_wp2
    (try simp only [Exit.inBlock, Exit.then])
    refine bodyPost_ret (results_cell_row rfl _ _ _ 36 _ (0, 0) _ rfl (seven_row (heap_bel h5 hid.out.1.2) _ _ _ _ _ _ _) Tryz.underlying36 rfl info_b) rfl ?_
    obtain ⟨hR3, _, hbx5, hE5⟩ := hid3.out
    obtain ⟨f1, f2⟩ := hid.out.2.2.2.2.2 _ p' _ c' ((hR3.exc (hE5.mono fun k hk => Or.inr hk)).less fun k hk => Or.inl hk) (hid.out.2.1.trans h5)
    exact ⟨⟨_, rfl, f1⟩, f2⟩

end Go.Proofs.YthokalcibjjihaaGreatDoor

/- THE DOCUMENT'S BODIES: Wipe; Make. -/
namespace Go.Proofs.YthokalcibjjihaaGreatDoor
open Go.ChangeShapes Go.WideShapes Go.ChangeAt Go.RowKit Go.Deep hd
set_option linter.unusedVariables false
variable {X : Nat → Prop}

theorem PlOk.one' {P : Pl} (h : PlOk P) : 1 ≤ P.S ∧ 1 ≤ P.T := by
  have h1 := h.1.one
  have a := h.1.s1 0 (by omega)
  have b := h.1.p1 0 (by omega)
  have c := Pl.fo_le (P := P) (show 1 ≤ P.n from h1)
  have d := Pl.po_le (P := P) (show 1 ≤ P.n from h1)
  have e : P.fo 1 = P.fo 0 + P.s 0 := rfl
  have f : P.po 1 = P.po 0 + P.p 0 := rfl
  exact ⟨by unfold Pl.S; omega, by unfold Pl.T; omega⟩
theorem avoid_or {X Y : Nat → Prop} {v : Value} (h : Avoid X v) (g : Avoid Y v) : Avoid (fun k => X k ∨ Y k) v := fun b off sp n cap e x => x.elim (h b off sp n cap e) (g b off sp n cap e)
/-- the blocks of a body that there is are none of those to come -/
theorem IsB.old {w : World} {v : Value} {R : List (List Nat)} {t : Nat} {P : Pl} (h : IsB X w v R t P) (ok : Bok P R t) : IsB (fun k => X k ∨ w.heap.size ≤ k) w v R t P := by
  obtain ⟨rv, Lv, Fv, Mv, p, cap, e, h1, h2, ⟨a1, a2, a3⟩⟩ := h
  obtain ⟨o1, o2⟩ := ok.pl.one'
  obtain ⟨b1, b2, b3⟩ := h2.avoid (X := fun k => w.heap.size ≤ k) o1 o2 (fun k hk => hk) _ _ _ _ _ rfl
  exact ⟨rv, Lv, Fv, Mv, p, cap, e, rm_old h1, h2, avoid_or a1 b1, avoid_or a2 b2, avoid_or a3 b3⟩
/-- behind seven stores into a block that it does not mind -/
theorem IsB.put {Y : Nat → Prop} {w4 : World} {D : Nat} {a b c d e f i v : Value} {R : List (List Nat)} {t : Nat} {P : Pl} (h : IsB Y w4 v R t P) (hD : Y D) (hY : ∀ k, X k → Y k) : IsB X (set7 w4 D a b c d e f i) v R t P :=
  (h.exc ((set7_exc _ _ _ _ _ _ _ _ _).mono fun k hk => by subst hk; exact hD)).less hY

set_option maxHeartbeats 4000000 in
set_option maxRecDepth 10000 in
/-- Wipe -/
theorem rb_wipe (v : Value) (R : List (List Nat)) (t : Nat) (P : Pl) (s : Int) (w : World) (h : IsB X w v R t P) (ok : Bok P R t) (hX : Till X w) :
    Calls Tryz.prog 41 #[v, .int .i64 s] w fun e w' => (∃ v', e = .returned (.tuple #[v', .int .i64 (P.wpE s)]) ∧ IsB X w' v' (P.wpM R t s) t P) ∧ Bel w w' := by
  have hI := h
  obtain ⟨pr, cr, bl, ol, cl, pf, cf, pm, cm, p, cap, rfl, hL, hR, hQ⟩ := h.shape
  have tb := two w (.cells #[.slice pr R.length cr, .int .i64 (t : Nat), .slice (some ⟨bl, ol, none⟩) P.S cl, .slice pf P.T cf, .slice pm P.T cm, .int .i64 (P.W : Nat), .slice p P.n cap] 36) (.cells #[.slice none 0 0, .int .i64 0, .slice none 0 0, .slice none 0 0, .slice none 0 0, .int .i64 0, .slice none 0 0] 36)
  have bt := bel_two w (.cells #[.slice pr R.length cr, .int .i64 (t : Nat), .slice (some ⟨bl, ol, none⟩) P.S cl, .slice pf P.T cf, .slice pm P.T cm, .int .i64 (P.W : Nat), .slice p P.n cap] 36) (.cells #[.slice none 0 0, .int .i64 0, .slice none 0 0, .slice none 0 0, .slice none 0 0, .int .i64 0, .slice none 0 0] 36)
  have sW : ((w.alloc (.cells #[.slice pr R.length cr, .int .i64 (t : Nat), .slice (some ⟨bl, ol, none⟩) P.S cl, .slice pf P.T cf, .slice pm P.T cm, .int .i64 (P.W : Nat), .slice p P.n cap] 36)).alloc (.cells #[.slice none 0 0, .int .i64 0, .slice none 0 0, .slice none 0 0, .slice none 0 0, .int .i64 0, .slice none 0 0] 36)).heap.size = w.heap.size + 2 := by show ((w.heap.push _).push _).size = _; simp
  obtain ⟨W0, hW⟩ : ∃ W, (w.alloc (.cells #[.slice pr R.length cr, .int .i64 (t : Nat), .slice (some ⟨bl, ol, none⟩) P.S cl, .slice pf P.T cf, .slice pm P.T cm, .int .i64 (P.W : Nat), .slice p P.n cap] 36)).alloc (.cells #[.slice none 0 0, .int .i64 0, .slice none 0 0, .slice none 0 0, .slice none 0 0, .int .i64 0, .slice none 0 0] 36) = W := ⟨_, rfl⟩
  rw [hW] at tb bt sW
  have hs := has_any _ P s W0 (hQ.bel bt)
  change Calls _ _ _ _ fun e w' => e = .returned (.bool (P.isS s)) ∧ Bel W0 w' at hs
  have kk0 := fun W1 (g : Bel W0 W1) => (box7 (heap_bel g tb.1)).1
  obtain ⟨k0, k1, k2, k3, k4, k5, k6⟩ := kk0 _ (Bel.refl _)
  cases a : P.isS s
  · have e1 : P.wpE s = 2 := by unfold Pl.wpE; rw [a]; rfl
    have e2 : P.wpM R t s = R := by unfold Pl.wpM; rw [a]; rfl
    rw [a] at hs
    rw [e1, e2]
    have hid := Lib.hid (And.intro tb (And.intro bt (And.intro kk0 hI)))
    clear tb bt kk0 h hI hQ ok e1 e2 a hL hR sW hX
    generalize P.S = S at *
    generalize P.T = TT at *
    generalize P.n = n at *
    generalize R.length = rl at *
    generalize (P.W : Int) = V at *
    go_enter Tryz.func41, Tryz.ntmps41
    go_upto_region 1 with fail
    (try rw [hW])
    clear hW
    go_wp2_with (go_at_call 18; refine hs.mono ?_; rintro e w1 ⟨rfl, h1⟩; obtain ⟨k0, k1, k2, k3, k4, k5, k6⟩ := hid.out.2.2.1 _ h1; obtain ⟨⟨z0, z1, z2, z3, z4, z5, z6⟩, f0, f1, f2, f3, f4, f5, f6⟩ := box7 (heap_bel h1 hid.out.1.2))
    (try simp only [Exit.inBlock, Exit.then])
    refine bodyPost_ret (results_cell_row2 rfl _ _ _ 36 _ (0, 0) _ rfl (seven_row (heap_bel h1 hid.out.1.2) _ _ _ _ _ _ _) Tryz.underlying36 rfl info_b) rfl ?_
    obtain ⟨f1, f2⟩ := IsB.same (D := w.heap.size + 1) hid.out.2.2.2 (hid.out.2.1.trans h1) (Nat.le_succ _)
    exact ⟨⟨_, rfl, f1⟩, f2⟩
  · obtain ⟨s', rfl, hs'⟩ := Pl.isS_of a
    have e1 : P.wpE s' = 0 := by unfold Pl.wpE; rw [a]; rfl
    have e2 : P.wpM R t s' = wipe R t (P.ad s') (P.sz s') := by unfold Pl.wpM; rw [a, Int.toNat_natCast]; rfl
    rw [a] at hs
    rw [e1, e2]
    have ww := Pl.ad_words ok.pl.1 hs'
    have w2 := ok.pl.2.2.2.1
    have eI := zero_reg (a := P.ad s') (n := P.sz s') ok.reg ww
    have eS : zeroR R (t : Nat) (P.ad s' : Nat) (P.sz s' : Nat) = wipe R t (P.ad s') (P.sz s') := by unfold zeroR; rw [if_pos eI, Int.toNat_natCast, Int.toNat_natCast, Int.toNat_natCast]
    have sI : (s' : Int) < (P.S : Int) := by omega
    have sz : (0 : Int) ≤ (s' : Int) := by omega
    have hfull := ok.full
    obtain ⟨S', hS'⟩ : ∃ S', wipe R t (P.ad s') (P.sz s') = S' := ⟨_, rfl⟩
    rw [hS'] at eS ⊢
    clear a e1 e2 ww w2 hS'
    go_enter Tryz.func41, Tryz.ntmps41
    go_upto_region 1 with fail
    (try rw [hW])
    clear hW
    go_upto_region 3 with (go_at_call 18; refine hs.mono ?_; rintro e W ⟨rfl, h1⟩)
    have hRA : mm.IsRm (fun k => X k ∨ k = w.heap.size + 1) W (.agg #[.slice pr R.length cr]) R := ((rm_old hR).less (Y := fun k => X k ∨ k = w.heap.size + 1) fun k hk => hk.imp id fun e => by omega).bel (bt.trans h1)
    have hRB : mm.IsRm (fun k => (X k ∨ k = w.heap.size + 1) ∨ k = W.heap.size) W (.agg #[.slice pr R.length cr]) R := (rm_old hRA).less fun k hk => hk.imp id fun e => by omega
    have gd := Bel.drew (Bel.refl W)
    have ga := (Bel.refl W).alloc (.cells #[.slice none 0 0] 31)
    have gad := Bel.drew ga
    have s1 : (W.alloc (.cells #[.slice none 0 0] 31)).heap.size = W.heap.size + 1 := by show (W.heap.push _).size = _; simp
    have sz1 := h1.size
    have stA := mm.rzero_any (fun k => X k ∨ k = w.heap.size + 1) _ R (t : Nat) (P.ad s' : Nat) (P.sz s' : Nat) W.drew (hRA.bel gd) (fun k hk => by
      show k < W.heap.size
      rcases hk with hk | hk
      · have := hX k hk; omega
      · omega) hfull.ok
    have stB := mm.rzero_any (fun k => (X k ∨ k = w.heap.size + 1) ∨ k = W.heap.size) _ R (t : Nat) (P.ad s' : Nat) (P.sz s' : Nat) (W.alloc (.cells #[.slice none 0 0] 31)).drew (hRB.bel gad) (fun k hk => by
      show k < (W.alloc (.cells #[.slice none 0 0] 31)).heap.size
      rcases hk with (hk | hk) | hk
      · have := hX k hk; omega
      · omega
      · omega) hfull.ok
    rw [eI, eS] at stA stB
    have hg := bt.trans h1
    have kk := fun W1 (g : Bel W W1) => And.intro g (And.intro (box7 (heap_bel (h1.trans g) tb.1)).1 (And.intro ((hL s' hs').bel (hg.trans g)).1 (And.intro ((hL s' hs').bel (hg.trans g)).2.1 ((hL s' hs').bel (hg.trans g)).2.2.1)))
    have hbx0 : (W.alloc (.cells #[.slice none 0 0] 31)).drew.heap[W.heap.size]? = some (.cells #[.slice none 0 0] 31 (0, 0)) := heap_alloc_new W _
    have fin := fun (w4 : World) (p' : Option Addr) (n' c' : Nat) hR g => IsB.fin (w4 := w4) (pr' := p') (rn' := n') (cr' := c') (R' := S') (D := w.heap.size + 1) hI hR g (Nat.le_succ _)
    have hz := heap_bel h1 tb.2
    have hid := Lib.hid (And.intro hz (And.intro hg (And.intro hbx0 (And.intro sW (And.intro s1 fin)))))
    clear hL hR ok h hI eI eS hX hRA hRB tb bt sW hbx0 s1 fin kk0 hQ hfull hs hs' hz hg k0 k1 k2 k3 k4 k5 k6 sz1
    generalize P.ad s' = A at *
    generalize P.cls s' = C at *
    generalize P.sz s' = Z at *
    generalize P.S = S at *
    generalize P.T = TT at *
    generalize P.n = n at *
    generalize R.length = rl at *
    generalize (P.W : Int) = V at *
    obtain ⟨g0, ⟨k0, k1, k2, k3, k4, k5, k6⟩, l0, l1, l2⟩ := kk _ (Bel.refl _)
    go_region_held3 (fun W1 => Bel W W1 ∧ (W1.cell? ⟨w.heap.size, 0, none⟩ = some (.slice pr rl cr) ∧ W1.cell? ⟨w.heap.size, 1, none⟩ = some (.int .i64 (t : Nat)) ∧ W1.cell? ⟨w.heap.size, 2, none⟩ = some (.slice (some ⟨bl, ol, none⟩) S cl) ∧ W1.cell? ⟨w.heap.size, 3, none⟩ = some (.slice pf TT cf) ∧ W1.cell? ⟨w.heap.size, 4, none⟩ = some (.slice pm TT cm) ∧ W1.cell? ⟨w.heap.size, 5, none⟩ = some (.int .i64 V) ∧ W1.cell? ⟨w.heap.size, 6, none⟩ = some (.slice p n cap)) ∧
        (W1.cell? ⟨bl, ol + s' * 4, none⟩ = some (.int .i64 (C : Nat)) ∧ W1.cell? ⟨bl, ol + s' * 4 + 1, none⟩ = some (.int .i64 (Z : Nat)) ∧ W1.cell? ⟨bl, ol + s' * 4 + 2, none⟩ = some (.int .i64 (A : Nat))))
      (first | with_reducible exact kk _ (by assumption) | with_reducible exact kk _ (Bel.alloc (by assumption) _))
      (first
        | (go_at_call 86; (with_reducible refine stA.mono ?_); rintro e w3 ⟨⟨v', rfl, hR3⟩, h3⟩
           obtain ⟨p', c', rfl⟩ := rm_shape hR3
           have h4 := gd.trans h3
           have hid3 := Lib.hid (And.intro hR3 h4)
           clear hR3 h3)
        | (go_at_call 86; (with_reducible refine stB.mono ?_); rintro e w3 ⟨⟨v', rfl, hR3⟩, h3⟩
           obtain ⟨p', c', rfl⟩ := rm_shape hR3
           obtain ⟨fz, cx3, W5, hW5, hbx5, cx5, hE5⟩ := mm.box_store (x := .slice p' S'.length c') (heap_bel h3 hid.out.2.2.1)
           have h34 : Bel W w3 := gad.trans h3
           have h4 : Bel W W5 := Below.trans h34 (hE5.below (fun x hx => by omega) h34.size)
           have hid3 := Lib.hid (And.intro hR3 (And.intro h4 (And.intro hbx5 hE5)))
           clear hR3 h3 hbx5 hE5))
    · have h5 := hid3.out.2.alloc (.cells #[.slice p' S'.length c'] 31)
      obtain ⟨_, ⟨k0, k1, k2, k3, k4, k5, k6⟩, _⟩ := kk _ h5
      obtain ⟨⟨z0, z1, z2, z3, z4, z5, z6⟩, f0, f1, f2, f3, f4, f5, f6⟩ := box7 (heap_bel h5 hid.out.1)
      go_wp2
      (try simp only [Exit.inBlock, Exit.then])
      refine bodyPost_ret (results_cell_row2 rfl _ _ _ 36 _ (0, 0) _ rfl (seven_row (heap_bel h5 hid.out.1) _ _ _ _ _ _ _) Tryz.underlying36 rfl info_b) rfl ?_
      obtain ⟨f1, f2⟩ := hid.out.2.2.2.2.2 _ p' _ c' (hid3.out.1.bel ((Bel.refl w3).alloc (.cells #[.slice p' S'.length c'] 31))) (hid.out.2.1.trans h5)
      exact ⟨⟨_, rfl, f1⟩, f2⟩
    · obtain ⟨hR3, h5, hbx5, hE5⟩ := hid3.out
      obtain ⟨_, ⟨k0, k1, k2, k3, k4, k5, k6⟩, _⟩ := kk _ h5
      obtain ⟨⟨z0, z1, z2, z3, z4, z5, z6⟩, f0, f1, f2, f3, f4, f5, f6⟩ := box7 (heap_bel h5 hid.out.1)
      clear hR3 hbx5 hE5
      go_wp2
      (try simp only [Exit.inBlock, Exit.then])
      refine bodyPost_ret (results_cell_row2 rfl _ _ _ 36 _ (0, 0) _ rfl (seven_row (heap_bel h5 hid.out.1) _ _ _ _ _ _ _) Tryz.underlying36 rfl info_b) rfl ?_
      obtain ⟨hR3, _, hbx5, hE5⟩ := hid3.out
      obtain ⟨f1, f2⟩ := hid.out.2.2.2.2.2 _ p' _ c' ((hR3.exc (hE5.mono fun k hk => Or.inr hk)).less fun k hk => Or.inl hk) (hid.out.2.1.trans h5)
      exact ⟨⟨_, rfl, f1⟩, f2⟩

end Go.Proofs.YthokalcibjjihaaGreatDoor
