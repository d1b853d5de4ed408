/- What is told of any tenant's slots, pages, classes and addresses is the document's, or refused; for every input, no condition. -/
import Derived.Test.YtnnbeecjjbnpbaaRowk
import Derived.Test.YtnnbeecjjbnpbaaOpa
import Derived.Test.YtnnbeecjjbnpbaaSop
import Derived.Deep.RegionHeld3
import Derived.Deep.Cut
import Derived.Deep.DeepCutAuto
namespace Go.Proofs.Ytnnbeecjjbnpbaa.slotTells
open Go.ChangeShapes Go.WideShapes Go.ChangeAt Go.RowKit Go.Deep Go.Joins
set_option linter.unusedVariables false

/-! The walk. -/
theorem four_at {w W : World} {a b c d : Value} {t : TypeId} (h : Bel (w.alloc (.cells #[a, b, c, d] t)) W) :
    W.cell? ⟨w.heap.size, 0, none⟩ = some a ∧ W.cell? ⟨w.heap.size, 1, none⟩ = some b ∧ W.cell? ⟨w.heap.size, 2, none⟩ = some c ∧ W.cell? ⟨w.heap.size, 3, none⟩ = some d :=
  ⟨agg_at h 0, agg_at h 1, agg_at h 2, agg_at h 3⟩

set_option maxRecDepth 100000 in
set_option maxHeartbeats 2000000 in
theorem no (p1 p2 : Option Addr) (c1 c2 : Nat) (c : Cf) (tn xs xk xq xa : Int) (w : World) (hI : IsCf w (.agg #[.slice p1 c.n c1, .int .i64 c.page, .slice p2 c.m c2, .int .i64 c.wk, .int .i64 c.gr, .int .i64 c.gn]) c) (hno : c.great9 ∨ ¬ c.has tn 0) (ht : i64b' tn) :
    Calls Try.prog 3 #[.agg #[.slice p1 c.n c1, .int .i64 c.page, .slice p2 c.m c2, .int .i64 c.wk, .int .i64 c.gr, .int .i64 c.gn], .int .i64 tn, .agg #[.int .i64 xs, .int .i64 xk, .int .i64 xq, .int .i64 xa]] w fun e w' => e = .returned (.bool true) ∧ Bel w w' := by
  have hI0 := hI
  have hb := ((Bel.refl w).alloc (.cells #[.slice p1 c.n c1, .int .i64 c.page, .slice p2 c.m c2, .int .i64 c.wk, .int .i64 c.gr, .int .i64 c.gn] 25)).trans ((Bel.refl (w.alloc (.cells #[.slice p1 c.n c1, .int .i64 c.page, .slice p2 c.m c2, .int .i64 c.wk, .int .i64 c.gr, .int .i64 c.gn] 25))).alloc (.cells #[.int .i64 xs, .int .i64 xk, .int .i64 xq, .int .i64 xa] 27))
  have g0 := Bel.refl ((w.alloc (.cells #[.slice p1 c.n c1, .int .i64 c.page, .slice p2 c.m c2, .int .i64 c.wk, .int .i64 c.gr, .int .i64 c.gn] 25)).alloc (.cells #[.int .i64 xs, .int .i64 xk, .int .i64 xq, .int .i64 xa] 27))
  have sz := size_alloc1 w (.cells #[.slice p1 c.n c1, .int .i64 c.page, .slice p2 c.m c2, .int .i64 c.wk, .int .i64 c.gr, .int .i64 c.gn] 25)
  have kc := fun W (g : Bel ((w.alloc (.cells #[.slice p1 c.n c1, .int .i64 c.page, .slice p2 c.m c2, .int .i64 c.wk, .int .i64 c.gr, .int .i64 c.gn] 25)).alloc (.cells #[.int .i64 xs, .int .i64 xk, .int .i64 xq, .int .i64 xa] 27)) W) => cf_at (((Bel.refl (w.alloc (.cells #[.slice p1 c.n c1, .int .i64 c.page, .slice p2 c.m c2, .int .i64 c.wk, .int .i64 c.gr, .int .i64 c.gn] 25))).alloc (.cells #[.int .i64 xs, .int .i64 xk, .int .i64 xq, .int .i64 xa] 27)).trans g)
  have kx := fun W (g : Bel ((w.alloc (.cells #[.slice p1 c.n c1, .int .i64 c.page, .slice p2 c.m c2, .int .i64 c.wk, .int .i64 c.gr, .int .i64 c.gn] 25)).alloc (.cells #[.int .i64 xs, .int .i64 xk, .int .i64 xq, .int .i64 xa] 27)) W) => four_at g
  rw [sz] at kx
  clear sz
  generalize hwb : ((w.alloc (.cells #[.slice p1 c.n c1, .int .i64 c.page, .slice p2 c.m c2, .int .i64 c.wk, .int .i64 c.gr, .int .i64 c.gn] 25)).alloc (.cells #[.int .i64 xs, .int .i64 xk, .int .i64 xq, .int .i64 xa] 27)) = wb at hb g0 kc kx
  have gr := fun w1 (g : Bel wb w1) => (great_any _ c w1 (hI0.bel (hb.trans g))).mono fun e w' ⟨a, b⟩ => (⟨a, g.trans b⟩ : _ ∧ Bel wb w')
  have aw := fun w1 (g : Bel wb w1) => (awake_any w1).mono fun e w' ⟨a, b⟩ => (⟨a, g.trans b⟩ : _ ∧ Bel wb w')
  by_cases s : c.great9
  · simp only [decide_eq_true s] at gr
    clear hI hI0 hno s kc kx
    subst hwb
    go_enter Try.func3, Try.ntmps3
    go_wp2_with (first
      | (go_at_call 7; refine (gr _ (by assumption)).mono ?_; rintro e w1 ⟨rfl, hg1⟩)
      | (go_at_call 8; refine (aw _ (by assumption)).mono ?_; rintro e w2 ⟨rfl, hg2⟩))
    go_ret
    exact ⟨rfl, hb.trans hg2⟩
  · have hh := hno.resolve_left s
    simp only [decide_eq_false s] at gr
    have n1 := fun w1 (g : Bel wb w1) => (pnew_no _ c tn w1 (hI0.bel (hb.trans g)) hh ht).mono fun e w' ⟨a, b⟩ => (⟨a, g.trans b⟩ : _ ∧ Bel wb w')
    have n2 := fun w1 (g : Bel wb w1) => (rnewp_no _ c tn w1 (hI0.bel (hb.trans g)) hh).mono fun e w' ⟨a, b⟩ => (⟨a, g.trans b⟩ : _ ∧ Bel wb w')
    clear hI hI0 hno s hh kx
    subst hwb
    go_enter Try.func3, Try.ntmps3
    go_wp2_with (first
      | (go_at_call 7; refine (gr _ (by assumption)).mono ?_; rintro e w1 ⟨rfl, hg1⟩; obtain ⟨k0, k1, k2, k3, k4, k5⟩ := kc _ hg1)
      | (go_at_call 9; refine (n1 _ hg1).mono ?_; rintro e w3 ⟨rfl, hg3⟩; obtain ⟨k0, k1, k2, k3, k4, k5⟩ := kc _ hg3)
      | (go_at_call 10; refine (n2 _ hg3).mono ?_; rintro e w4 ⟨rfl, hg4⟩; have hg5 := hg4.alloc (.cells #[.slice none 0 0, .slice none 0 0, .slice none 0 0, .int .i64 0, .slice none 0 0] 36))
      | (go_at_call 8; refine (aw _ hg5).mono ?_; rintro e w2 ⟨rfl, hg2⟩))
    go_ret
    exact ⟨rfl, hb.trans hg2⟩

set_option maxRecDepth 100000 in
set_option maxHeartbeats 8000000 in
theorem yes (p1 p2 : Option Addr) (c1 c2 : Nat) (c : Cf) (t : Nat) (xs xk xq xa : Int) (w : World) (hI : IsCf w (.agg #[.slice p1 c.n c1, .int .i64 c.page, .slice p2 c.m c2, .int .i64 c.wk, .int .i64 c.gr, .int .i64 c.gn]) c) (s : ¬ c.great9) (ok : c.ok) (ht : t < c.m)
    (b1 : i64b' xs) (b2 : i64b' xk) (b3 : i64b' xq) (b4 : i64b' xa) :
    Calls Try.prog 3 #[.agg #[.slice p1 c.n c1, .int .i64 c.page, .slice p2 c.m c2, .int .i64 c.wk, .int .i64 c.gr, .int .i64 c.gn], .int .i64 (t : Nat), .agg #[.int .i64 xs, .int .i64 xk, .int .i64 xq, .int .i64 xa]] w fun e w' => e = .returned (.bool true) ∧ Bel w w' := by
  have hI0 := hI
  have hb := ((Bel.refl w).alloc (.cells #[.slice p1 c.n c1, .int .i64 c.page, .slice p2 c.m c2, .int .i64 c.wk, .int .i64 c.gr, .int .i64 c.gn] 25)).trans ((Bel.refl (w.alloc (.cells #[.slice p1 c.n c1, .int .i64 c.page, .slice p2 c.m c2, .int .i64 c.wk, .int .i64 c.gr, .int .i64 c.gn] 25))).alloc (.cells #[.int .i64 xs, .int .i64 xk, .int .i64 xq, .int .i64 xa] 27))
  have g0 := Bel.refl ((w.alloc (.cells #[.slice p1 c.n c1, .int .i64 c.page, .slice p2 c.m c2, .int .i64 c.wk, .int .i64 c.gr, .int .i64 c.gn] 25)).alloc (.cells #[.int .i64 xs, .int .i64 xk, .int .i64 xq, .int .i64 xa] 27))
  have sz := size_alloc1 w (.cells #[.slice p1 c.n c1, .int .i64 c.page, .slice p2 c.m c2, .int .i64 c.wk, .int .i64 c.gr, .int .i64 c.gn] 25)
  have kc := fun W (g : Bel ((w.alloc (.cells #[.slice p1 c.n c1, .int .i64 c.page, .slice p2 c.m c2, .int .i64 c.wk, .int .i64 c.gr, .int .i64 c.gn] 25)).alloc (.cells #[.int .i64 xs, .int .i64 xk, .int .i64 xq, .int .i64 xa] 27)) W) => cf_at (((Bel.refl (w.alloc (.cells #[.slice p1 c.n c1, .int .i64 c.page, .slice p2 c.m c2, .int .i64 c.wk, .int .i64 c.gr, .int .i64 c.gn] 25))).alloc (.cells #[.int .i64 xs, .int .i64 xk, .int .i64 xq, .int .i64 xa] 27)).trans g)
  have kx := fun W (g : Bel ((w.alloc (.cells #[.slice p1 c.n c1, .int .i64 c.page, .slice p2 c.m c2, .int .i64 c.wk, .int .i64 c.gr, .int .i64 c.gn] 25)).alloc (.cells #[.int .i64 xs, .int .i64 xk, .int .i64 xq, .int .i64 xa] 27)) W) => four_at g
  rw [sz] at kx
  clear sz
  generalize hwb : ((w.alloc (.cells #[.slice p1 c.n c1, .int .i64 c.page, .slice p2 c.m c2, .int .i64 c.wk, .int .i64 c.gr, .int .i64 c.gn] 25)).alloc (.cells #[.int .i64 xs, .int .i64 xk, .int .i64 xq, .int .i64 xa] 27)) = wb at hb g0 kc kx
  have gr := fun w1 (g : Bel wb w1) => (great_any _ c w1 (hI0.bel (hb.trans g))).mono fun e w' ⟨a, b⟩ => (⟨a, g.trans b⟩ : _ ∧ Bel wb w')
  have aw := fun w1 (g : Bel wb w1) => (awake_any w1).mono fun e w' ⟨a, b⟩ => (⟨a, g.trans b⟩ : _ ∧ Bel wb w')
  simp only [decide_eq_false s] at gr
  have n1 := fun w1 (g : Bel wb w1) => pnew_yes _ c t w1 (hI0.bel (hb.trans g)) ok ht
  have n2 := fun w1 (g : Bel wb w1) => rnewp_yes _ c t w1 (hI0.bel (hb.trans g)) ok ht
  have hPl := Cf.pl_ok ok ht
  obtain ⟨P, hP⟩ : ∃ P, c.pl t = P := ⟨_, rfl⟩
  rw [hP] at n1 n2 hPl
  obtain ⟨ar, ae, hA⟩ := at_dec P xa
  have hid := Lib.hid (And.intro hPl (And.intro hA (And.intro hb (And.intro b1 (And.intro b2 (And.intro b3 b4))))))
  clear hI hI0 s ok ht hPl hA b1 b2 b3 b4 hP
  subst hwb
  go_enter Try.func3, Try.ntmps3
  go_upto_region 9 with (first
    | (go_at_call 7; refine (gr _ (by assumption)).mono ?_; rintro e w1 ⟨rfl, hg1⟩; obtain ⟨k0, k1, k2, k3, k4, k5⟩ := kc _ hg1)
    | (go_at_call 9; refine (n1 _ hg1).mono ?_; rintro e w3 ⟨⟨p, rfl, hP3⟩, hg3⟩; have hg3 := hg1.trans hg3; obtain ⟨k0, k1, k2, k3, k4, k5⟩ := kc _ hg3)
    | (go_at_call 10; refine (n2 _ hg3).mono ?_; rintro e w4 ⟨⟨q, rfl, hQ4⟩, hg4⟩
       obtain ⟨Lv, Fv, Mv, pp, cap, rfl, hL4, hF4, hM4⟩ := hQ4
       obtain ⟨pl, off, cl, rfl, hL5⟩ := hL4
       obtain ⟨pf, cf, rfl, _⟩ := nums_slice hF4
       obtain ⟨pm, cm, rfl, _⟩ := nums_slice hM4))
  have hQ4 : IsQ w4 (.agg #[.slice (some ⟨pl, off, none⟩) P.S cl, .slice pf P.T cf, .slice pm P.T cm, .int .i64 (P.W : Nat), .slice pp P.n cap]) P := ⟨_, _, _, _, _, rfl, ⟨_, _, _, rfl, hL5⟩, hF4, hM4⟩
  have gq := (Bel.refl w4).alloc (.cells #[.slice (some ⟨pl, off, none⟩) P.S cl, .slice pf P.T cf, .slice pm P.T cm, .int .i64 (P.W : Nat), .slice pp P.n cap] 36)
  have hg5 := (hg3.trans hg4).trans gq
  have hz := heap_alloc_new w4 (.cells #[.slice (some ⟨pl, off, none⟩) P.S cl, .slice pf P.T cf, .slice pm P.T cm, .int .i64 (P.W : Nat), .slice pp P.n cap] 36)
  have kq := fun W (g : Bel (w4.alloc (.cells #[.slice (some ⟨pl, off, none⟩) P.S cl, .slice pf P.T cf, .slice pm P.T cm, .int .i64 (P.W : Nat), .slice pp P.n cap] 36)) W) => (box5 (heap_bel g hz)).1
  have Pp := fun W (g : Bel (w4.alloc (.cells #[.slice (some ⟨pl, off, none⟩) P.S cl, .slice pf P.T cf, .slice pm P.T cm, .int .i64 (P.W : Nat), .slice pp P.n cap] 36)) W) => hP3.bel (hg4.trans (gq.trans g))
  have Pq := fun W (g : Bel (w4.alloc (.cells #[.slice (some ⟨pl, off, none⟩) P.S cl, .slice pf P.T cf, .slice pm P.T cm, .int .i64 (P.W : Nat), .slice pp P.n cap] 36)) W) => hQ4.bel (gq.trans g)
  obtain ⟨hPl, hA, hb, b1, b2, b3, b4⟩ := hid.out
  have g0' := Bel.refl (w4.alloc (.cells #[.slice (some ⟨pl, off, none⟩) P.S cl, .slice pf P.T cf, .slice pm P.T cm, .int .i64 (P.W : Nat), .slice pp P.n cap] 36))
  have kx2 := fun W (g : Bel (w4.alloc (.cells #[.slice (some ⟨pl, off, none⟩) P.S cl, .slice pf P.T cf, .slice pm P.T cm, .int .i64 (P.W : Nat), .slice pp P.n cap] 36)) W) => kx W (hg5.trans g)
  have aw2 := fun W (g : Bel (w4.alloc (.cells #[.slice (some ⟨pl, off, none⟩) P.S cl, .slice pf P.T cf, .slice pm P.T cm, .int .i64 (P.W : Nat), .slice pp P.n cap] 36)) W) => aw W (hg5.trans g)
  obtain ⟨wq, hwq⟩ : ∃ wq, w4.alloc (.cells #[.slice (some ⟨pl, off, none⟩) P.S cl, .slice pf P.T cf, .slice pm P.T cm, .int .i64 (P.W : Nat), .slice pp P.n cap] 36) = wq := ⟨_, rfl⟩
  obtain ⟨bq, hbq⟩ : ∃ bq, w4.heap.size = bq := ⟨_, rfl⟩
  rw [hwq] at kq Pp Pq g0' kx2 aw2 hg5
  rw [hbq] at kq
  have o1 := fun W (g : Bel wq W) => (pat _ P W (Pp W g) hPl xa ar ae b4 hA).mono fun e w' ⟨a, b⟩ => (⟨a, g.trans b⟩ : _ ∧ Bel wq w')
  have o2 := fun W (g : Bel wq W) => (rat_any _ P hPl.2.1 xa W (Pq W g) ar ae hA hPl.1).mono fun e w' ⟨a, b⟩ => (⟨a, g.trans b⟩ : _ ∧ Bel wq w')
  have o3 := fun W (g : Bel wq W) => (pof _ P W (Pp W g) hPl xk b2).mono fun e w' ⟨a, b⟩ => (⟨a, g.trans b⟩ : _ ∧ Bel wq w')
  have o4 := fun W (g : Bel wq W) => (rof_any _ P hPl.2.1 xk W (Pq W g) hPl.1).mono fun e w' ⟨a, b⟩ => (⟨a, g.trans b⟩ : _ ∧ Bel wq w')
  have o5 := fun W (g : Bel wq W) => (pslots _ P W (Pp W g) hPl).mono fun e w' ⟨a, b⟩ => (⟨a, g.trans b⟩ : _ ∧ Bel wq w')
  have o6 := fun W (g : Bel wq W) => (ppages _ P W (Pp W g) hPl).mono fun e w' ⟨a, b⟩ => (⟨a, g.trans b⟩ : _ ∧ Bel wq w')
  have o7 := fun W (g : Bel wq W) => (pwords _ P W (Pp W g) hPl).mono fun e w' ⟨a, b⟩ => (⟨a, g.trans b⟩ : _ ∧ Bel wq w')
  have o8 := fun W (g : Bel wq W) => (one_any _ _ P xs W (Pp W g) (Pq W g) hPl b1).mono fun e w' ⟨a, b⟩ => (⟨a, g.trans b⟩ : _ ∧ Bel wq w')
  have o9 := fun W (g : Bel wq W) => (page_any _ _ P xq W (Pp W g) (Pq W g) hPl b3).mono fun e w' ⟨a, b⟩ => (⟨a, g.trans b⟩ : _ ∧ Bel wq w')
  generalize P.ofF xk = F1 at *
  generalize P.ofM xk = F2 at *
  generalize P.ofE xk = F3 at *
  clear hP3 hQ4 hL5 hF4 hM4 hz gq hg4 hg3 hg1 n1 n2 gr kc kx k0 k1 k2 k3 k4 k5 Pp Pq hA hPl b1 b2 b3 b4 aw g0
  rw [hwq, hbq]
  clear hwq hbq
  generalize P.S = S at *
  generalize P.T = T at *
  generalize (P.W : Int) = V at *
  generalize P.n = nn at *
  obtain ⟨k0, k1, k2, k3, k4⟩ := kq _ g0'
  obtain ⟨x0, x1, x2, x3⟩ := kx2 _ g0'
  have keep : ∀ {W : World}, Bel wq W → Bel wq W ∧ W.cell? ⟨bq, 0, none⟩ = some (.slice (some ⟨pl, off, none⟩) S cl) ∧ W.cell? ⟨bq, 1, none⟩ = some (.slice pf T cf) ∧ W.cell? ⟨bq, 3, none⟩ = some (.int .i64 V) := fun {W} g => ⟨g, (kq W g).1, (kq W g).2.1, (kq W g).2.2.2.1⟩
  go_wp2_with (first
    | (go_at_call 11; ((with_reducible refine (o1 _ g0').mono ?_); rintro e w5 ⟨rfl, h5⟩; obtain ⟨k0, k1, k2, k3, k4⟩ := kq _ h5; obtain ⟨x0, x1, x2, x3⟩ := kx2 _ h5))
    | (go_at_call 12; ((with_reducible refine (o2 _ h5).mono ?_); rintro e w6 ⟨rfl, h6⟩; obtain ⟨k0, k1, k2, k3, k4⟩ := kq _ h6; obtain ⟨x0, x1, x2, x3⟩ := kx2 _ h6))
    | (go_at_call 13; ((with_reducible refine (o3 _ h6).mono ?_); rintro e w7 ⟨rfl, h7⟩; obtain ⟨k0, k1, k2, k3, k4⟩ := kq _ h7; obtain ⟨x0, x1, x2, x3⟩ := kx2 _ h7))
    | (go_at_call 14; ((with_reducible refine (o4 _ h7).mono ?_); rintro e w8 ⟨rfl, h8⟩)))
  clear k0 k1 k2 k3 k4 x0 x1 x2 x3
  go_region_held3 (fun w' => Bel wq w' ∧ w'.cell? ⟨bq, 0, none⟩ = some (.slice (some ⟨pl, off, none⟩) S cl) ∧ w'.cell? ⟨bq, 1, none⟩ = some (.slice pf T cf) ∧ w'.cell? ⟨bq, 3, none⟩ = some (.int .i64 V))
    (first | with_reducible exact keep (by assumption) | with_reducible exact keep (Bel.drew (by assumption)))
    (first
      | (go_at_call 15; ((with_reducible refine (o5 _ (by first | assumption | exact Bel.drew (by assumption))).mono ?_); rintro e w9 ⟨rfl, h9⟩))
      | (go_at_call 16; ((with_reducible refine (o6 _ (by first | assumption | exact Bel.drew (by assumption))).mono ?_); rintro e wA ⟨rfl, hA⟩))
      | (go_at_call 17; ((with_reducible refine (o7 _ (by first | assumption | exact Bel.drew (by assumption))).mono ?_); rintro e wB ⟨rfl, hB⟩)))
  obtain ⟨k0, k1, k2, k3, k4⟩ := kq _ hB
  obtain ⟨x0, x1, x2, x3⟩ := kx2 _ hB
  clear keep
  go_wp2_with (first
    | (go_at_call 18; ((with_reducible refine (o8 _ hB).mono ?_); rintro e wC ⟨rfl, hC⟩; obtain ⟨k0, k1, k2, k3, k4⟩ := kq _ hC; obtain ⟨x0, x1, x2, x3⟩ := kx2 _ hC))
    | (go_at_call 19; ((with_reducible refine (o9 _ hC).mono ?_); rintro e wD ⟨rfl, hD⟩))
    | (go_at_call 8; refine (aw2 _ hD).mono ?_; rintro e wE ⟨rfl, hE⟩))
  go_ret
  exact ⟨rfl, hb.trans hE⟩

theorem walk (v : Value) (c : Cf) (tn xs xk xq xa : Int) (w : World) (hI : IsCf w v c) (h0 : i64b' tn) (h1 : i64b' xs) (h2 : i64b' xk) (h3 : i64b' xq) (h4 : i64b' xa) :
    Calls Try.prog 3 #[v, .int .i64 tn, .agg #[.int .i64 xs, .int .i64 xk, .int .i64 xq, .int .i64 xa]] w fun e w' => e = .returned (.bool true) ∧ Bel w w' := by
  have hI0 := hI
  obtain ⟨vc, vt, rfl, hN, hT⟩ := hI
  obtain ⟨p1, c1, rfl, _⟩ := nums_slice hN
  obtain ⟨p2, c2, rfl, _⟩ := tens_slice hT
  by_cases s : c.great9
  · exact no p1 p2 c1 c2 c tn xs xk xq xa w hI0 (Or.inl s) h0
  · by_cases hh : c.has tn 0
    · have hh' := hh
      obtain ⟨ok, ⟨t0, t1⟩, _⟩ := hh'
      obtain ⟨t, rfl⟩ : ∃ t : Nat, tn = t := ⟨tn.toNat, by omega⟩
      exact yes p1 p2 c1 c2 c t xs xk xq xa w hI0 s ok (by omega) h1 h2 h3 h4
    · exact no p1 p2 c1 c2 c tn xs xk xq xa w hI0 (Or.inr hh) h0

/-! The row. -/
set_option maxRecDepth 100000 in
theorem lifted (os : Os) (started : os.Started) (H : Type) (enc : TypeId × Value → H) :
    ReturnsInHanded {} Try.checked os 3 .any (Rows.slotTellsSpec.pre6 enc Try.prog Try.f3 Rows.slotTellsRow.domain false) (Rows.slotTellsSpec.post enc Try.prog Try.f3 false true false false) := by
  refine lift_law (C := Try.checked) own started (by kernel_rfl) Try.func3 laid rowed full (by rw [Try.params3]; decide) rfl (by kernel_rfl) Try.underlying4
    (fun ds h => by rw [Try.params3] at h; match ds, h with | [_, _, _], _ => rfl)
    (ChangeSpec.witness6 (enc := enc) (C := Try.checked) false ⟨#[], #[.agg #[.slice none 0 0, .int .i64 0, .slice none 0 0, .int .i64 0, .int .i64 0, .int .i64 0], .int .i64 0, .agg #[.int .i64 0, .int .i64 0, .int .i64 0, .int .i64 0]], []⟩ 8 (by kernel_rfl) (by kernel_rfl) (by kernel_rfl) (by kernel_rfl)) ?_
  intro W base args ds p hval hA
  change ∀ (j : Nat) t v, Try.f3.params[j]? = some t → args[j]? = some v → Value.okWide Try.prog W .any base t v at hval
  change DataW.TrodAll enc Try.prog W 0 (fun _ => true) true Try.f3.params.toList args.toList ds p at hA
  rw [Try.params3] at hA hval
  obtain ⟨v0, vs0, d0, ds0, p0, q0, hargs, rfl, rfl, h0, r0⟩ := trodAll_cons hA
  obtain ⟨v1, vs1, d1, ds1, p1, q1, hargs1, rfl, rfl, h1, r1⟩ := trodAll_cons r0
  obtain ⟨v2, vs2, d2, ds2, p2, q2, hargs2, rfl, rfl, h2, r2⟩ := trodAll_cons r1
  obtain ⟨rfl, rfl, rfl⟩ := trodAll_nil r2
  subst hargs2
  subst hargs1
  obtain rfl : args = #[v0, v1, v2] := by cases args; simp_all
  obtain ⟨c, hI, _⟩ := get_cf (hval 0 25 v0 rfl rfl) h0
  obtain ⟨tn, rfl, htn0, htn1⟩ := get_i64 Try.underlying3 (hval 1 3 v1 rfl rfl) h1
  obtain ⟨xs, xk, xq, xa, rfl, hx0, hx1, hx2, hx3⟩ := get_asked (hval 2 27 v2 rfl rfl) h2
  exact walk v0 c tn xs xk xq xa W hI ⟨htn0, htn1⟩ hx0 hx1 hx2 hx3

theorem over : Rows.slotTellsRow.holds Try.pinned (OpenSpec.ofChange Rows.slotTellsSpec) :=
  OpenClaim.holds_of_wide 3 Try.f3 rfl rfl rfl rfl rfl rfl rfl ⟨rfl, rfl, rfl, rfl, rfl⟩ rfl rfl rfl rfl rfl (by kernel_rfl) Try.func3 (by kernel_rfl)
    (of_decide_eq_true (by kernel_rfl)) (by unfold Func.isWrapper; first | (rw [if_pos (by decide +kernel)]; kernel_rfl) | (rw [if_neg (by decide +kernel)]; exact ⟨rfl, rfl⟩))
    (fun os started H enc _ => lifted os started H enc)

/-- The statement. -/
theorem proved : Rows.SlotTellsSaid :=
  over
#print axioms proved
end Go.Proofs.Ytnnbeecjjbnpbaa.slotTells
