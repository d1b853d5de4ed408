/- THE PROGRAM'S BODIES as they lie; exists, addr, load, store, fits. -/
import Derived.Test.YthokalcibjjihaaGreatDoorRh
import Derived.Test.YthokalcibjjihaaGreatDoorPq
import Derived.Test.YthokalcibjjihaaGreatDoorMPm
namespace Go.Proofs.YthokalcibjjihaaGreatDoor
open Go.ChangeShapes Go.WideShapes Go.ChangeAt Go.RowKit Go.Deep hd
set_option linter.unusedVariables false

/-- a body of the program: its memory in the blocks from lo on below hi, itself and its plan in others, all of them below top -/
def IsD (w : World) (v : Value) (lo hi top : Nat) (R : List (List Nat)) (t : Nat) (P : Pl) : Prop :=
  ∃ b mp pb pg off cap, v = .pointer (some ⟨b, 0, none⟩) ∧ w.heap[b]? = some (.cells #[.pointer (some mp), .int .i64 (t : Nat), .pointer (some ⟨pb, 0, none⟩)] 78 (0, 0)) ∧
    (b < top ∧ pb < top ∧ pg < top ∧ hi ≤ top ∧ top ≤ w.heap.size) ∧ (¬ Own lo hi b ∧ ¬ Own lo hi pb ∧ ¬ Own lo hi pg) ∧ 0 < lo ∧ PlanAt w pb pg off cap P ∧ mm.IsMem w (.pointer (some mp)) lo hi R ∧ TabW w ∧ Bok P R t
variable {w w' : World} {v : Value} {lo hi top : Nat} {R : List (List Nat)} {t : Nat} {P : Pl}

theorem PlanAt.heap {pb pg off cap : Nat} (h : PlanAt w pb pg off cap P) (s : w.heap.size ≤ w'.heap.size) (a : w'.heap[pb]? = w.heap[pb]?) (b : w'.heap[pg]? = w.heap[pg]?) : PlanAt w' pb pg off cap P := by
  obtain ⟨p1, p2, p3, p4, p5, p6, p7⟩ := h
  have cb : ∀ j, w'.cell? ⟨pb, j, none⟩ = w.cell? ⟨pb, j, none⟩ := fun j => World.cell?_of_block a
  have cg : ∀ j, w'.cell? ⟨pg, j, none⟩ = w.cell? ⟨pg, j, none⟩ := fun j => World.cell?_of_block b
  refine ⟨by omega, by omega, (cb 0).trans p3, (cb 1).trans p4, p5, p6, fun j hj => ?_⟩
  obtain ⟨q0, q1, q2, q3, q4, q5, q6⟩ := p7 j hj
  exact ⟨(cg _).trans q0, (cg _).trans q1, (cg _).trans q2, (cg _).trans q3, (cg _).trans q4, (cg _).trans q5, (cg _).trans q6⟩
theorem mem_pos {mv : Value} (h : mm.IsMem w mv lo hi R) : lo < hi := by
  obtain ⟨p, g1, k1, g2, k2, _, a, _⟩ := h
  omega
theorem IsD.exc {X : Nat → Prop} (h : IsD w v lo hi top R t P) (g : Exc X w w') (hx : ∀ k, X k → top ≤ k) : IsD w' v lo hi top R t P := by
  obtain ⟨b, mp, pb, pg, off, cap, e, hb, ⟨b1, b2, b3, b4, b5⟩, n, l0, hp, hm, hT, ok⟩ := h
  have k : ∀ x, x < top → w'.heap[x]? = w.heap[x]? := fun x hx' => g.block x (by omega) fun y => by have := hx x y; omega
  have ml := mem_pos hm
  refine ⟨b, mp, pb, pg, off, cap, e, (k b b1).trans hb, ⟨b1, b2, b3, b4, Nat.le_trans b5 g.size⟩, n, l0, hp.heap g.size (k pb b2) (k pg b3), hm.keep fun x _ hx => k x (by omega), fun j hj => (World.cell?_of_block (k 0 (by omega))).trans (hT j hj), ok⟩
theorem IsD.bel (h : IsD w v lo hi top R t P) (g : Bel w w') : IsD w' v lo hi top R t P := h.exc (X := fun _ => False) g.exc fun _ x => x.elim
theorem IsD.tab (h : IsD w v lo hi top R t P) : TabW w := by
  obtain ⟨_, _, _, _, _, _, _, _, _, _, _, _, _, hT, _⟩ := h
  exact hT
theorem IsD.ok (h : IsD w v lo hi top R t P) : Bok P R t := by
  obtain ⟨_, _, _, _, _, _, _, _, _, _, _, _, _, _, ok⟩ := h
  exact ok
theorem IsD.ptr (h : IsD w v lo hi top R t P) : ∃ p, v = .pointer (some p) := by
  obtain ⟨_, _, _, _, _, _, e, _⟩ := h
  exact ⟨_, e⟩
theorem IsD.lims (h : IsD w v lo hi top R t P) : hi ≤ top ∧ top ≤ w.heap.size ∧ 0 < lo ∧ lo < hi := by
  obtain ⟨_, _, _, _, _, _, _, _, ⟨_, _, _, a, b⟩, _, l0, _, hm, _⟩ := h
  exact ⟨a, b, l0, mem_pos hm⟩
/-- what its owner writes into its memory -/
theorem IsD.wrote {b pb pg off cap : Nat} {mp : Addr} {R' : List (List Nat)} (hb : w.heap[b]? = some (.cells #[.pointer (some mp), .int .i64 (t : Nat), .pointer (some ⟨pb, 0, none⟩)] 78 (0, 0)))
    (hs : b < top ∧ pb < top ∧ pg < top ∧ hi ≤ top ∧ top ≤ w.heap.size) (n : ¬ Own lo hi b ∧ ¬ Own lo hi pb ∧ ¬ Own lo hi pg) (l0 : 0 < lo) (hp : PlanAt w pb pg off cap P) (hT : TabW w)
    (g : Exc (Own lo hi) w w') (hm : mm.IsMem w' (.pointer (some mp)) lo hi R') (ok : Bok P R' t) : IsD w' (.pointer (some ⟨b, 0, none⟩)) lo hi top R' t P := by
  have k : ∀ x, x < top → ¬ Own lo hi x → w'.heap[x]? = w.heap[x]? := fun x hx' hn => g.block x (by omega) hn
  have ml := mem_pos hm
  exact ⟨b, mp, pb, pg, off, cap, rfl, (k b hs.1 n.1).trans hb, ⟨hs.1, hs.2.1, hs.2.2.1, hs.2.2.2.1, Nat.le_trans hs.2.2.2.2 g.size⟩, n, l0, hp.heap g.size (k pb hs.2.1 n.2.1) (k pg hs.2.2.1 n.2.2), hm,
    fun j hj => (World.cell?_of_block (k 0 (by omega) (fun x => by have := x.1; omega))).trans (hT j hj), ok⟩

namespace Pl
theorem hasS_is {s : Int} : P.hasS s ↔ P.isS s = true := by unfold hasS isS; exact decide_eq_true_iff.symm
theorem addr_no {s : Int} (h : P.isS s = false) : P.slR P.ad s = 0 ∧ P.slE s = 2 := by
  have n : ¬ P.hasS s := fun x => absurd (hasS_is.1 x) (by rw [h]; decide)
  exact ⟨slR_no n, slE_no n⟩
end Pl

/-- exists -/
theorem pb_exists (h : IsD w v lo hi top R t P) : Calls Tryz.prog 91 #[v] w fun e w' => e = .returned (.bool true) ∧ Bel w w' := by
  obtain ⟨b, mp, pb, pg, off, cap, rfl, hb, _⟩ := h
  obtain ⟨c0, _⟩ := box3 hb
  clear hb
  go_enter Tryz.func91, Tryz.ntmps91
  go_wp2
  go_ret
  exact ⟨rfl, Bel.refl _⟩

/-- addr -/
theorem pb_addr (s : Int) (hs : i64b' s) (h : IsD w v lo hi top R t P) :
    Calls Tryz.prog 53 #[v, .int .i64 s] w fun e w' => e = .returned (.tuple #[.int .i64 (P.slR P.ad s), .int .i64 (P.slE s)]) ∧ Bel w w' := by
  have ex := pb_exists h
  obtain ⟨b, mp, pb, pg, off, cap, rfl, hb, _, _, _, hp, _, _, ok⟩ := h
  have ad := fun W (g : Bel w W) => paddr (.pointer (some ⟨pb, 0, none⟩)) P W ⟨pb, pg, off, cap, rfl, hp.bel g⟩ ok.pl s hs
  have kk := fun W (g : Bel w W) => (box3 (heap_bel g hb))
  clear hb hp ok hs
  generalize P.slR P.ad s = A at *
  generalize P.slE s = E at *
  go_enter Tryz.func53, Tryz.ntmps53
  go_wp2_with (first
    | (go_at_call 91; refine ex.mono ?_; rintro e w1 ⟨rfl, h1⟩; obtain ⟨c0, c1, c2, _, _, _⟩ := kk _ h1)
    | (go_at_call 92; refine (ad _ h1).mono ?_; rintro e w2 ⟨rfl, h2⟩))
  go_ret2
  exact ⟨rfl, h1.trans h2⟩

theorem mem_bel {mv : Value} (h : mm.IsMem w mv lo hi R) (g : Bel w w') (hh : hi ≤ w.heap.size) : mm.IsMem w' mv lo hi R := h.keep fun k _ hk => g.block k (by omega)

set_option maxHeartbeats 1000000 in
/-- load -/
theorem pb_load (a : Nat) (h : IsD w v lo hi top R t P) :
    Calls Tryz.prog 67 #[v, .int .i64 (a : Nat)] w fun e w' => e = .returned (.tuple #[.int .u64 (wdAt R t a : Nat), .int .i64 (inE R t a)]) ∧ Bel w w' := by
  obtain ⟨b, mp, pb, pg, off, cap, rfl, hb, hs, _, _, _, hm, _, _⟩ := h
  have ld := fun W (g : Bel w W) => (mm.pm_load (.pointer (some mp)) lo hi R (t : Nat) (a : Nat) W (mem_bel hm g (by omega))).mono fun e w' ⟨x, y⟩ => (⟨x, g.trans y⟩ : _ ∧ Bel w w')
  simp only [load_wd] at ld
  have kk := fun W (g : Bel w W) => And.intro g (And.intro (box3 (heap_bel g hb)).1 (And.intro (box3 (heap_bel g hb)).2.1 (box3 (heap_bel g hb)).2.2.1))
  obtain ⟨g0, c0, c1, c2⟩ := kk _ (Bel.refl _)
  clear hb hs hm
  generalize wdAt R t a = U at *
  generalize inE R (t : Nat) (a : Nat) = E at *
  go_enter Tryz.func67, Tryz.ntmps67
  go_upto_region 1 with fail
  go_region_held3 (fun W => Bel w W ∧ W.cell? ⟨b, 0, none⟩ = some (.pointer (some mp)) ∧ W.cell? ⟨b, 1, none⟩ = some (.int .i64 (t : Nat)) ∧ W.cell? ⟨b, 2, none⟩ = some (.pointer (some ⟨pb, 0, none⟩)))
    (first | with_reducible exact kk _ (by assumption) | with_reducible exact kk _ (Bel.drew (by assumption)))
    (first | (go_at_call 103; (with_reducible refine (ld _ (by first | assumption | exact Bel.drew (by assumption))).mono ?_); rintro e w' ⟨rfl, hg⟩))
  go_wp2
  go_ret2
  exact ⟨rfl, hg⟩

set_option maxHeartbeats 1000000 in
/-- store -/
theorem pb_store (a u : Nat) (h : IsD w v lo hi top R t P) (ha : a < P.W) (hu : u < 18446744073709551616) :
    Calls Tryz.prog 58 #[v, .int .i64 (a : Nat), .int .u64 (u : Nat)] w fun e w' => e = .returned (.int .i64 0) ∧ IsD w' v lo hi top (setR R t a u) t P ∧ Exc (Own lo hi) w w' := by
  obtain ⟨b, mp, pb, pg, off, cap, rfl, hb, hs, n, l0, hp, hm, hT, ok⟩ := h
  have eI := in_reg ok.reg ha
  have eS : storeR R (t : Nat) (a : Nat) u = setR R t a u := by unfold storeR; rw [if_pos eI, Int.toNat_natCast, Int.toNat_natCast]
  have st := fun W (g : Bel w W) => (mm.pm_store (.pointer (some mp)) lo hi R (t : Nat) (a : Nat) u W (mem_bel hm g (by omega)) (by have := g.size; omega)).mono fun e w' ⟨x, y, z⟩ => (⟨x, y, Exc.trans g.exc z⟩ : _ ∧ mm.IsMem w' (.pointer (some mp)) lo hi (storeR R (t : Nat) (a : Nat) u) ∧ Exc (Own lo hi) w w')
  rw [eI, eS] at st
  have kk := fun W (g : Exc (Own lo hi) w W) => And.intro g (And.intro (cell_exc g (box3 hb).1 n.1) (And.intro (cell_exc g (box3 hb).2.1 n.1) (cell_exc g (box3 hb).2.2.1 n.1)))
  have fin := fun w' (g : Exc (Own lo hi) w w') (m : mm.IsMem w' (.pointer (some mp)) lo hi (setR R t a u)) => IsD.wrote hb hs n l0 hp hT g m (ok.set hu a)
  have hid := Lib.hid fin
  have g0 : Exc (Own lo hi) w w := Exc.refl _ _
  have gb := Bel.refl w
  obtain ⟨_, c0, c1, c2⟩ := kk _ g0
  clear hb hs hm n l0 hp hT ok eI eS fin ha hu
  generalize setR R t a u = S' at *
  go_enter Tryz.func58, Tryz.ntmps58
  go_upto_region 1 with fail
  go_region_held3 (fun W => Exc (Own lo hi) w W ∧ W.cell? ⟨b, 0, none⟩ = some (.pointer (some mp)) ∧ W.cell? ⟨b, 1, none⟩ = some (.int .i64 (t : Nat)) ∧ W.cell? ⟨b, 2, none⟩ = some (.pointer (some ⟨pb, 0, none⟩)))
    (first | with_reducible exact kk _ (by assumption) | with_reducible exact kk _ (Bel.exc (Bel.drew (by assumption))))
    (first | (go_at_call 16; (with_reducible refine (st _ (by first | assumption | exact Bel.drew (by assumption))).mono ?_); rintro e w' ⟨rfl, hm', hg⟩; have hidm := Lib.hid hm'; clear hm'))
  go_wp2
  go_ret
  exact ⟨rfl, hid.out _ hg hidm.out, hg⟩

set_option maxHeartbeats 1000000 in
/-- fits -/
theorem pb_fits (s : Nat) (c r n : Int) (h : IsD w v lo hi top R t P) (hs : s < P.S) (hc : i64b c) (hr : i64b r) (hn : i64b n) :
    Calls Tryz.prog 56 #[v, .int .i64 (s : Nat), .agg #[.int .i64 c, .int .i64 r, .int .i64 n]] w fun e w' => e = .returned (.bool (P.liesB s c r n)) ∧ Bel w w' := by
  obtain ⟨b, mp, pb, pg, off, cap, rfl, hb, _, _, _, hp, _, _, ok⟩ := h
  have hS := ok.pl.2.1
  have h0 := (Bel.refl w).alloc (.cells #[.int .i64 c, .int .i64 r, .int .i64 n] 44)
  have hx := heap_alloc_new w (.cells #[.int .i64 c, .int .i64 r, .int .i64 n] 44)
  obtain ⟨W0, hW0⟩ : ∃ W0, w.alloc (.cells #[.int .i64 c, .int .i64 r, .int .i64 n] 44) = W0 := ⟨_, rfl⟩
  rw [hW0] at h0 hx
  have cl := fun W (g : Bel W0 W) => (pclass (.pointer (some ⟨pb, 0, none⟩)) P W ⟨pb, pg, off, cap, rfl, hp.bel (h0.trans g)⟩ ok.pl (s : Nat) ⟨by omega, by omega⟩).mono fun e w' ⟨x, y⟩ => (⟨x, g.trans y⟩ : _ ∧ Bel W0 w')
  have sz := fun W (g : Bel W0 W) => (psize (.pointer (some ⟨pb, 0, none⟩)) P W ⟨pb, pg, off, cap, rfl, hp.bel (h0.trans g)⟩ ok.pl (s : Nat) ⟨by omega, by omega⟩).mono fun e w' ⟨x, y⟩ => (⟨x, g.trans y⟩ : _ ∧ Bel W0 w')
  have nd := fun W (g : Bel W0 W) => (need_h c r n W hc hr hn).mono fun e w' ⟨x, y⟩ => (⟨x, g.trans y⟩ : _ ∧ Bel W0 w')
  simp only [Pl.slR_ok hs, Pl.slE_ok hs] at cl sz
  have kk := fun W (g : Bel W0 W) => And.intro (box3 (heap_bel (h0.trans g) hb)) (box3 (heap_bel g hx))
  obtain ⟨⟨c0, c1, c2, _, _, _⟩, _⟩ := kk _ (Bel.refl _)
  have lno := @Pl.lies_no P s c r n
  have lcl := @Pl.lies_cls P s c r n
  have lat := @Pl.lies_at P s c r n
  clear hb hp ok hS hs hx
  generalize P.liesB s c r n = B at *
  generalize P.cls s = C at *
  generalize P.sz s = Z at *
  cases okh : okH c r n
  · rw [lno okh]
    rw [putE_no okh] at nd
    clear lno lcl lat hc hr hn okh
    generalize needR c r n = nr at *
    go_enter Tryz.func56, Tryz.ntmps56
    go_upto_region 1 with fail
    (try rw [hW0])
    clear hW0
    go_wp2_with (first
      | (go_at_call 95; refine (cl _ (Bel.refl _)).mono ?_; rintro e w1 ⟨rfl, h1⟩; obtain ⟨⟨c0, c1, c2, _, _, _⟩, u0, u1, u2, _, _, _⟩ := kk _ h1)
      | (go_at_call 54; refine (sz _ h1).mono ?_; rintro e w2 ⟨rfl, h2⟩; obtain ⟨⟨c0, c1, c2, _, _, _⟩, u0, u1, u2, _, _, _⟩ := kk _ h2)
      | (go_at_call 96; refine (nd _ h2).mono ?_; rintro e w3 ⟨rfl, h3⟩; obtain ⟨⟨c0, c1, c2, _, _, _⟩, u0, u1, u2, _, _, _⟩ := kk _ h3))
    go_ret
    exact ⟨rfl, h0.trans h3⟩
  · rw [putE_ok okh] at nd
    have e1 : needR c r n = r + n + 1 := by unfold needR; rw [okh]; rfl
    rw [e1] at nd
    obtain ⟨C', R', N', rfl, rfl, rfl, l1, l2⟩ := okH_true okh
    by_cases a : C' = C
    · subst a
      rw [lat okh rfl]
      obtain ⟨q, hq⟩ : ∃ q : Nat, R' + N' + 1 = q := ⟨_, rfl⟩
      have hq2 : (R' : Int) + (N' : Int) + 1 = (q : Int) := by omega
      rw [hq2] at nd ⊢
      clear lno lcl lat hc hr hn okh e1 hq hq2 l1 l2
      by_cases b' : q ≤ Z
      · have d : decide ((q : Int) ≤ (Z : Int)) = true := decide_eq_true (by omega)
        rw [d]
        go_enter Tryz.func56, Tryz.ntmps56
        go_upto_region 1 with fail
        (try rw [hW0])
        clear hW0
        go_wp2_with (first
          | (go_at_call 95; refine (cl _ (Bel.refl _)).mono ?_; rintro e w1 ⟨rfl, h1⟩; obtain ⟨⟨c0, c1, c2, _, _, _⟩, u0, u1, u2, _, _, _⟩ := kk _ h1)
          | (go_at_call 54; refine (sz _ h1).mono ?_; rintro e w2 ⟨rfl, h2⟩; obtain ⟨⟨c0, c1, c2, _, _, _⟩, u0, u1, u2, _, _, _⟩ := kk _ h2)
          | (go_at_call 96; refine (nd _ h2).mono ?_; rintro e w3 ⟨rfl, h3⟩; obtain ⟨⟨c0, c1, c2, _, _, _⟩, u0, u1, u2, _, _, _⟩ := kk _ h3))
        go_ret
        exact ⟨rfl, h0.trans h3⟩
      · have d : decide ((q : Int) ≤ (Z : Int)) = false := decide_eq_false (by omega)
        have d2 : decide (q ≤ Z) = false := decide_eq_false b'
        rw [d]
        go_enter Tryz.func56, Tryz.ntmps56
        go_upto_region 1 with fail
        (try rw [hW0])
        clear hW0
        go_wp2_with (first
          | (go_at_call 95; refine (cl _ (Bel.refl _)).mono ?_; rintro e w1 ⟨rfl, h1⟩; obtain ⟨⟨c0, c1, c2, _, _, _⟩, u0, u1, u2, _, _, _⟩ := kk _ h1)
          | (go_at_call 54; refine (sz _ h1).mono ?_; rintro e w2 ⟨rfl, h2⟩; obtain ⟨⟨c0, c1, c2, _, _, _⟩, u0, u1, u2, _, _, _⟩ := kk _ h2)
          | (go_at_call 96; refine (nd _ h2).mono ?_; rintro e w3 ⟨rfl, h3⟩; obtain ⟨⟨c0, c1, c2, _, _, _⟩, u0, u1, u2, _, _, _⟩ := kk _ h3))
        go_ret
        exact ⟨rfl, h0.trans h3⟩
    · rw [lcl (by omega)]
      have d : decide ((C' : Int) = (C : Int)) = false := decide_eq_false (by omega)
      have d2 : decide (C' = C) = false := decide_eq_false a
      have d3 : ((C' : Int) == (C : Int)) = false := by simp; omega
      generalize (R' : Int) + (N' : Int) + 1 = nr at *
      clear lno lcl lat hc hr hn okh e1 l1 l2
      go_enter Tryz.func56, Tryz.ntmps56
      go_upto_region 1 with fail
      (try rw [hW0])
      clear hW0
      go_wp2_with (first
        | (go_at_call 95; refine (cl _ (Bel.refl _)).mono ?_; rintro e w1 ⟨rfl, h1⟩; obtain ⟨⟨c0, c1, c2, _, _, _⟩, u0, u1, u2, _, _, _⟩ := kk _ h1)
        | (go_at_call 54; refine (sz _ h1).mono ?_; rintro e w2 ⟨rfl, h2⟩; obtain ⟨⟨c0, c1, c2, _, _, _⟩, u0, u1, u2, _, _, _⟩ := kk _ h2)
        | (go_at_call 96; refine (nd _ h2).mono ?_; rintro e w3 ⟨rfl, h3⟩; obtain ⟨⟨c0, c1, c2, _, _, _⟩, u0, u1, u2, _, _, _⟩ := kk _ h3))
      go_ret
      exact ⟨rfl, h0.trans h3⟩

end Go.Proofs.YthokalcibjjihaaGreatDoor

/- THE PROGRAM'S BODIES: Head, Wipe, Make. -/
namespace Go.Proofs.YthokalcibjjihaaGreatDoor
open Go.ChangeShapes Go.WideShapes Go.ChangeAt Go.RowKit Go.Deep hd
set_option linter.unusedVariables false
variable {w w' : World} {v : Value} {lo hi top : Nat} {R : List (List Nat)} {t : Nat} {P : Pl}

set_option maxHeartbeats 2000000 in
/-- Head -/
theorem pb_head (s : Int) (hs : i64b' s) (h : IsD w v lo hi top R t P) :
    Calls Tryz.prog 29 #[v, .int .i64 s] w fun e w' => e = .returned (.tuple #[.agg #[.int .i64 (P.hdC R t s : Nat), .int .i64 (P.hdR R t s : Nat), .int .i64 (P.hdN R t s : Nat)], .int .i64 (P.hdE R t s)]) ∧ Bel w w' := by
  have h0 := (Bel.refl w).alloc (.cells #[.int .i64 0, .int .i64 0, .int .i64 0] 44)
  have hx := heap_alloc_new w (.cells #[.int .i64 0, .int .i64 0, .int .i64 0] 44)
  obtain ⟨W, hW⟩ : ∃ W0, w.alloc (.cells #[.int .i64 0, .int .i64 0, .int .i64 0] 44) = W0 := ⟨_, rfl⟩
  rw [hW] at h0 hx
  obtain ⟨vp, rfl⟩ := h.ptr
  have ad := pb_addr s hs (h.bel h0)
  have kk := fun W1 (g : Bel W W1) => box3 (heap_bel g hx)
  obtain ⟨z0, z1, z2, f0, f1, f2⟩ := kk _ (Bel.refl _)
  cases a : P.isS s
  · obtain ⟨e1, e2, e3, e4⟩ := Pl.hd_no (R := R) (t := t) a
    obtain ⟨e5, e6⟩ := Pl.addr_no a
    rw [e5, e6] at ad
    rw [e1, e2, e3, e4]
    have hid := Lib.hid (And.intro hx (And.intro h0 kk))
    clear hx h0 kk h e1 e2 e3 e4 e5 e6 a
    go_enter Tryz.func29, Tryz.ntmps29
    go_upto_region 1 with fail
    (try rw [hW])
    clear hW
    go_wp2_with (go_at_call 53; refine ad.mono ?_; rintro e w1 ⟨rfl, h1⟩; obtain ⟨z0, z1, z2, f0, f1, f2⟩ := hid.out.2.2 _ h1)
    (try simp only [Exit.inBlock, Exit.then])
    refine bodyPost_ret (results_cell_row2 rfl _ _ _ 44 _ (0, 0) _ rfl (three_row (heap_bel h1 hid.out.1) _ _ _) Tryz.underlying44 rfl info_head) rfl ?_
    exact ⟨rfl, set_bel3 (hid.out.2.1.trans h1) (Nat.le_refl _) _ _ _⟩
  · obtain ⟨s', rfl, hs'⟩ := Pl.isS_of a
    have ok := h.ok
    rw [Pl.slR_ok hs', Pl.slE_ok hs'] at ad
    have ld := fun W1 (g : Bel W W1) => (pb_load (P.ad s') (h.bel (h0.trans g))).mono fun e w' ⟨x, y⟩ => (⟨x, g.trans y⟩ : _ ∧ Bel W w')
    have eU : wdAt R t (P.ad s') = P.slW R t s' 0 := rfl
    rw [eU] at ld
    have hu : P.slW R t s' 0 < 18446744073709551616 := ok.w64 _ _
    have hgt := fun W1 (g : Bel W W1) => (get_h (P.slW R t s' 0) W1 (h.tab.bel (h0.trans g)) hu).mono fun e w' ⟨x, y⟩ => (⟨x, g.trans y⟩ : _ ∧ Bel W w')
    have hb := Pl.hd_bad (R := R) (t := t) hs'
    have hy := Pl.hd_yes (R := R) (t := t) hs'
    have ho : P.hasO R t s' = (isW (P.slW R t s' 0) && P.liesB s' (cOf (P.slW R t s' 0)) (rOf (P.slW R t s' 0)) (nOf (P.slW R t s' 0))) := rfl
    have li := fun W1 (g : Bel W W1) => (pb_fits s' (cOf (P.slW R t s' 0) : Nat) (rOf (P.slW R t s' 0) : Nat) (nOf (P.slW R t s' 0) : Nat) (h.bel (h0.trans g)) hs' (by have := parts_lt (P.slW R t s' 0); exact ⟨by omega, by omega⟩) (by have := parts_lt (P.slW R t s' 0); exact ⟨by omega, by omega⟩) (by have := parts_lt (P.slW R t s' 0); exact ⟨by omega, by omega⟩)).mono fun e w' ⟨x, y⟩ => (⟨x, g.trans y, y⟩ : _ ∧ Bel W w' ∧ Bel W1 w')
    have gn := @g_no (P.slW R t s' 0)
    have gy := @g_yes (P.slW R t s' 0)
    generalize inE R (t : Nat) (P.ad s' : Nat) = LE at *
    generalize P.hasO R t s' = O at *
    generalize P.hdE R t s' = E at *
    generalize P.hdC R t s' = HC at *
    generalize P.hdR R t s' = HR at *
    generalize P.hdN R t s' = HN at *
    generalize P.slW R t s' 0 = u at *
    generalize P.ad s' = A at *
    have hid := Lib.hid (And.intro hx (And.intro h0 kk))
    clear hx h0 kk h ok a hs' hu hs eU
    cases x : isW u
    · rw [x] at ho
      obtain ⟨rfl, rfl, rfl, rfl⟩ := hb ho
      obtain ⟨e1, e2, e3, e4⟩ := gn x
      rw [e1, e2, e3, e4] at hgt
      clear hb hy ho li gn gy x e1 e2 e3 e4
      go_enter Tryz.func29, Tryz.ntmps29
      go_upto_region 1 with fail
      (try rw [hW])
      clear hW
      go_wp2_with (first
        | (go_at_call 53; refine ad.mono ?_; rintro e w1 ⟨rfl, h1⟩)
        | (go_at_call 67; refine (ld _ h1).mono ?_; rintro e w2 ⟨rfl, h2⟩)
        | (go_at_call 75; refine (hgt _ h2).mono ?_; rintro e w3 ⟨rfl, h3⟩; have h4 := h3.alloc (.cells #[.int .i64 0, .int .i64 0, .int .i64 0] 44); obtain ⟨z0, z1, z2, f0, f1, f2⟩ := hid.out.2.2 _ h4))
      (try simp only [Exit.inBlock, Exit.then])
      refine bodyPost_ret (results_cell_row2 rfl _ _ _ 44 _ (0, 0) _ rfl (three_row (heap_bel h4 hid.out.1) _ _ _) Tryz.underlying44 rfl info_head) rfl ?_
      exact ⟨rfl, set_bel3 (hid.out.2.1.trans h4) (Nat.le_refl _) _ _ _⟩
    · rw [x, Bool.true_and] at ho
      obtain ⟨e1, e2, e3, e4⟩ := gy x
      rw [e1, e2, e3, e4] at hgt
      rw [← ho] at li
      clear ho gn gy x e1 e2 e3 e4
      generalize cOf u = cu at *
      generalize rOf u = ru at *
      generalize nOf u = nu at *
      cases O
      · obtain ⟨rfl, rfl, rfl, rfl⟩ := hb rfl
        clear hb hy
        go_enter Tryz.func29, Tryz.ntmps29
        go_upto_region 1 with fail
        (try rw [hW])
        clear hW
        go_wp2_with (first
          | (go_at_call 53; refine ad.mono ?_; rintro e w1 ⟨rfl, h1⟩)
          | (go_at_call 67; refine (ld _ h1).mono ?_; rintro e w2 ⟨rfl, h2⟩)
          | (go_at_call 75; refine (hgt _ h2).mono ?_; rintro e w3 ⟨rfl, h3⟩; have h4 := h3.alloc (.cells #[.int .i64 (cu : Nat), .int .i64 (ru : Nat), .int .i64 (nu : Nat)] 44))
          | (go_at_call 56; refine (li _ h4).mono ?_; rintro e w5 ⟨rfl, h5, _⟩; obtain ⟨z0, z1, z2, f0, f1, f2⟩ := hid.out.2.2 _ h5))
        (try simp only [Exit.inBlock, Exit.then])
        refine bodyPost_ret (results_cell_row2 rfl _ _ _ 44 _ (0, 0) _ rfl (three_row (heap_bel h5 hid.out.1) _ _ _) Tryz.underlying44 rfl info_head) rfl ?_
        exact ⟨rfl, set_bel3 (hid.out.2.1.trans h5) (Nat.le_refl _) _ _ _⟩
      · obtain ⟨rfl, rfl, rfl, rfl⟩ := hy rfl
        clear hb hy
        go_enter Tryz.func29, Tryz.ntmps29
        go_upto_region 1 with fail
        (try rw [hW])
        clear hW
        go_wp2_with (first
          | (go_at_call 53; refine ad.mono ?_; rintro e w1 ⟨rfl, h1⟩)
          | (go_at_call 67; refine (ld _ h1).mono ?_; rintro e w2 ⟨rfl, h2⟩)
          | (go_at_call 75; refine (hgt _ h2).mono ?_; rintro e w3 ⟨rfl, h3⟩; have h4 := h3.alloc (.cells #[.int .i64 (HC : Nat), .int .i64 (HR : Nat), .int .i64 (HN : Nat)] 44))
          | (go_at_call 56; refine (li _ h4).mono ?_; rintro e w5 ⟨rfl, h5, h6⟩; obtain ⟨z0, z1, z2, f0, f1, f2⟩ := hid.out.2.2 _ h5; obtain ⟨y0, y1, y2, _, _, _⟩ := box3 (box_at h6)))
        (try simp only [Exit.inBlock, Exit.then])
        refine bodyPost_ret (results_cell_row2 rfl _ _ _ 44 _ (0, 0) _ rfl (three_row (heap_bel h5 hid.out.1) _ _ _) Tryz.underlying44 rfl info_head) rfl ?_
        exact ⟨rfl, set_bel3 (hid.out.2.1.trans h5) (Nat.le_refl _) _ _ _⟩

set_option maxHeartbeats 2000000 in
/-- Wipe -/
theorem pb_wipe (s : Int) (hs : i64b' s) (h : IsD w v lo hi top R t P) :
    Calls Tryz.prog 19 #[v, .int .i64 s] w fun e w' => e = .returned (.int .i64 (P.wpE s)) ∧ IsD w' v lo hi top (P.wpM R t s) t P ∧ Exc (Own lo hi) w w' := by
  have ad := pb_addr s hs h
  cases a : P.isS s
  · have e1 : P.wpE s = 2 := by unfold Pl.wpE; rw [a]; rfl
    have e2 : P.wpM R t s = R := by unfold Pl.wpM; rw [a]; rfl
    obtain ⟨e5, e6⟩ := Pl.addr_no a
    rw [e5, e6] at ad
    rw [e1, e2]
    have hid := Lib.hid h
    obtain ⟨vp, rfl⟩ := h.ptr
    clear h e1 e2 e5 e6 a
    go_enter Tryz.func19, Tryz.ntmps19
    go_wp2_with (go_at_call 53; refine ad.mono ?_; rintro e w1 ⟨rfl, h1⟩)
    go_ret
    exact ⟨rfl, hid.out.bel h1, h1.exc⟩
  · obtain ⟨s', rfl, hs'⟩ := Pl.isS_of a
    have e1 : P.wpE s' = 0 := by unfold Pl.wpE; rw [a]; rfl
    have e2 : P.wpM R t s' = wipe R t (P.ad s') (P.sz s') := by unfold Pl.wpM; rw [a, Int.toNat_natCast]; rfl
    rw [Pl.slR_ok hs', Pl.slE_ok hs'] at ad
    rw [e1, e2]
    obtain ⟨b, mp, pb, pg, off, cap, rfl, hb, hs2, n, l0, hp, hm, hT, ok⟩ := h
    have ww := Pl.ad_words ok.pl.1 hs'
    have w2 := ok.pl.2.2.2.1
    have hS := ok.pl.2.1
    have s64 := (Pl.sz_le ok.pl hs').1
    have eI := zero_reg (a := P.ad s') (n := P.sz s') ok.reg ww
    have eS : zeroR R (t : Nat) (P.ad s' : Nat) (P.sz s' : Nat) = wipe R t (P.ad s') (P.sz s') := by unfold zeroR; rw [if_pos eI, Int.toNat_natCast, Int.toNat_natCast, Int.toNat_natCast]
    have zr := fun W (g : Bel w W) => (mm.pm_zero (.pointer (some mp)) lo hi R (t : Nat) (P.ad s' : Nat) (P.sz s' : Nat) W (mem_bel hm g (by omega)) (by have := g.size; omega) ⟨by omega, by omega⟩).mono fun e w' ⟨x, y, z⟩ => (⟨x, y, Exc.trans g.exc z⟩ : _ ∧ mm.IsMem w' (.pointer (some mp)) lo hi (zeroR R (t : Nat) (P.ad s' : Nat) (P.sz s' : Nat)) ∧ Exc (Own lo hi) w w')
    rw [eI, eS] at zr
    have sz := fun W (g : Bel w W) => (psize (.pointer (some ⟨pb, 0, none⟩)) P W ⟨pb, pg, off, cap, rfl, hp.bel g⟩ ok.pl (s' : Nat) ⟨by omega, by omega⟩).mono fun e w' ⟨x, y⟩ => (⟨x, g.trans y⟩ : _ ∧ Bel w w')
    simp only [Pl.slR_ok hs', Pl.slE_ok hs'] at sz
    have kk := fun W (g : Exc (Own lo hi) w W) => And.intro g (And.intro (cell_exc g (box3 hb).1 n.1) (And.intro (cell_exc g (box3 hb).2.1 n.1) (cell_exc g (box3 hb).2.2.1 n.1)))
    have fin := fun w' (g : Exc (Own lo hi) w w') (m : mm.IsMem w' (.pointer (some mp)) lo hi (wipe R t (P.ad s') (P.sz s'))) => IsD.wrote hb hs2 n l0 hp hT g m (ok.wipe (P.ad s') (P.sz s'))
    have hid := Lib.hid fin
    clear hb hs2 hm n l0 hp hT ok eI eS fin ww w2 hS a hs' hs e1 e2
    generalize wipe R t (P.ad s') (P.sz s') = S' at *
    generalize P.ad s' = A at *
    generalize P.sz s' = Z at *
    go_enter Tryz.func19, Tryz.ntmps19
    go_upto_region 5 with (first
      | (go_at_call 53; refine ad.mono ?_; rintro e w1 ⟨rfl, h1⟩; obtain ⟨_, c0, c1, c2⟩ := kk _ h1.exc)
      | (go_at_call 54; refine (sz _ h1).mono ?_; rintro e w2 ⟨rfl, h2⟩))
    have g0 : Exc (Own lo hi) w w2 := h2.exc
    obtain ⟨_, c0, c1, c2⟩ := kk _ g0
    have kd := kk _ (Bel.exc h2.drew)
    have z2 := zr _ h2.drew
    go_region_held3 (fun W => Exc (Own lo hi) w W ∧ W.cell? ⟨b, 0, none⟩ = some (.pointer (some mp)) ∧ W.cell? ⟨b, 1, none⟩ = some (.int .i64 (t : Nat)) ∧ W.cell? ⟨b, 2, none⟩ = some (.pointer (some ⟨pb, 0, none⟩)))
      (first | with_reducible exact kd | with_reducible exact kk _ (by assumption))
      (first | (go_at_call 55; (with_reducible refine z2.mono ?_); rintro e w' ⟨rfl, hm', hg⟩; have hidm := Lib.hid hm'; clear hm'))
    go_wp2
    go_ret
    exact ⟨rfl, hid.out _ hg hidm.out, hg⟩

set_option maxHeartbeats 4000000 in
/-- Make -/
theorem pb_make (s c r n : Int) (hs : i64b' s) (hc : i64b c) (hr : i64b r) (hn : i64b n) (h : IsD w v lo hi top R t P) :
    Calls Tryz.prog 20 #[v, .int .i64 s, .agg #[.int .i64 c, .int .i64 r, .int .i64 n]] w fun e w' => e = .returned (.int .i64 (P.mkE R t s c r n)) ∧ IsD w' v lo hi top (P.mkM R t s c r n) t P ∧ Exc (Own lo hi) w w' := by
  have h0 := (Bel.refl w).alloc (.cells #[.int .i64 c, .int .i64 r, .int .i64 n] 44)
  have hx := heap_alloc_new w (.cells #[.int .i64 c, .int .i64 r, .int .i64 n] 44)
  obtain ⟨W, hW⟩ : ∃ W0, w.alloc (.cells #[.int .i64 c, .int .i64 r, .int .i64 n] 44) = W0 := ⟨_, rfl⟩
  rw [hW] at h0 hx
  obtain ⟨vp, rfl⟩ := h.ptr
  have hd := pb_head s hs (h.bel h0)
  have kk := fun W1 (g : Bel W W1) => box3 (heap_bel g hx)
  obtain ⟨u0, u1, u2, _, _, _⟩ := kk _ (Bel.refl _)
  rcases Pl.mk_cases (P := P) (R := R) (t := t) s c r n with ⟨a, e1, e2⟩ | ⟨s', rfl, hs', hm⟩
  · obtain ⟨e3, e4, e5, e6⟩ := Pl.hd_no (R := R) (t := t) a
    rw [e3, e4, e5, e6] at hd
    rw [e1, e2]
    have hid := Lib.hid (And.intro h0 (And.intro kk h))
    clear h0 kk h e1 e2 e3 e4 e5 e6 a hc hr hn hs hx
    go_enter Tryz.func20, Tryz.ntmps20
    go_upto_region 1 with fail
    (try rw [hW])
    clear hW
    go_wp2_with (go_at_call 29; refine hd.mono ?_; rintro e w1 ⟨rfl, h1⟩; have h2 := h1.alloc (.cells #[.int .i64 0, .int .i64 0, .int .i64 0] 44))
    go_ret
    exact ⟨rfl, hid.out.2.2.bel (hid.out.1.trans h2), (hid.out.1.trans h2).exc⟩
  · have nz : P.hdE R t s' ≠ 1 ∧ P.hdE R t s' ≠ 2 := by
      have := Pl.isS_nat hs'
      unfold Pl.hdE
      rw [this, if_pos rfl]
      by_cases x : P.hasO R t (s' : Int).toNat = true
      · rw [if_pos x]; exact ⟨by decide, by decide⟩
      · rw [if_neg x]; exact ⟨by decide, by decide⟩
    have n1 : decide (P.hdE R t s' = 1) = false := decide_eq_false nz.1
    have n2 : decide (P.hdE R t s' = 2) = false := decide_eq_false nz.2
    have n3 : (P.hdE R t s' == 1) = false := by rw [beq_eq_false_iff_ne]; exact nz.1
    have n4 : (P.hdE R t s' == 2) = false := by rw [beq_eq_false_iff_ne]; exact nz.2
    have li := fun W1 (g : Bel W W1) => (pb_fits s' c r n (h.bel (h0.trans g)) hs' hc hr hn).mono fun e w' ⟨x, y⟩ => (⟨x, g.trans y⟩ : _ ∧ Bel W w')
    clear nz
    rcases hm with ⟨a, e1, e2⟩ | ⟨a, z, e1, e2⟩ | ⟨a, z, e1, e2⟩
    · rw [a] at li
      rw [e1, e2]
      have hid := Lib.hid (And.intro h0 (And.intro kk h))
      clear h0 kk h e1 e2 a hc hr hn hs hx hs'
      generalize P.hdE R t s' = HE at *
      generalize P.hdC R t s' = HC at *
      generalize P.hdR R t s' = HR at *
      generalize P.hdN R t s' = HN at *
      go_enter Tryz.func20, Tryz.ntmps20
      go_upto_region 1 with fail
      (try rw [hW])
      clear hW
      go_wp2_with (first
        | (go_at_call 29; refine hd.mono ?_; rintro e w1 ⟨rfl, h1⟩; have h2 := h1.alloc (.cells #[.int .i64 (HC : Nat), .int .i64 (HR : Nat), .int .i64 (HN : Nat)] 44); obtain ⟨u0, u1, u2, _, _, _⟩ := hid.out.2.1 _ h2)
        | (go_at_call 56; refine (li _ h2).mono ?_; rintro e w3 ⟨rfl, h3⟩))
      go_ret
      exact ⟨rfl, hid.out.2.2.bel (hid.out.1.trans h3), (hid.out.1.trans h3).exc⟩
    · rw [a] at li
      rw [z] at hd
      rw [e1, e2]
      have hid := Lib.hid (And.intro h0 (And.intro kk h))
      clear h0 kk h e1 e2 a hc hr hn hs hx hs' n1 n2 n3 n4 z
      generalize P.hdC R t s' = HC at *
      generalize P.hdR R t s' = HR at *
      generalize P.hdN R t s' = HN at *
      go_enter Tryz.func20, Tryz.ntmps20
      go_upto_region 1 with fail
      (try rw [hW])
      clear hW
      go_wp2_with (first
        | (go_at_call 29; refine hd.mono ?_; rintro e w1 ⟨rfl, h1⟩; have h2 := h1.alloc (.cells #[.int .i64 (HC : Nat), .int .i64 (HR : Nat), .int .i64 (HN : Nat)] 44); obtain ⟨u0, u1, u2, _, _, _⟩ := hid.out.2.1 _ h2)
        | (go_at_call 56; refine (li _ h2).mono ?_; rintro e w3 ⟨rfl, h3⟩))
      go_ret
      exact ⟨rfl, hid.out.2.2.bel (hid.out.1.trans h3), (hid.out.1.trans h3).exc⟩
    · rw [a] at li
      rw [e1, e2]
      have n5 : decide (P.hdE R t s' = 0) = false := decide_eq_false z
      have n6 : (P.hdE R t s' == 0) = false := by rw [beq_eq_false_iff_ne]; exact z
      have wi := fun W1 (g : Bel W W1) => (pb_wipe (s' : Int) hs (h.bel (h0.trans g))).mono fun e w' ⟨x, y, z⟩ => (⟨x, y, Exc.trans (h0.trans g).exc z, Exc.trans g.exc z⟩ : _ ∧ IsD w' (.pointer (some vp)) lo hi top (P.wpM R t s') t P ∧ Exc (Own lo hi) w w' ∧ Exc (Own lo hi) W w')
      have e0 : P.wpE s' = 0 := by unfold Pl.wpE; rw [if_pos (Pl.isS_nat hs')]
      have ew : P.wpM R t s' = wipe R t (P.ad s') (P.sz s') := by unfold Pl.wpM; rw [if_pos (Pl.isS_nat hs'), Int.toNat_natCast]
      rw [e0] at wi
      rw [← ew]
      have ww := Pl.ad_words h.ok.pl.1 hs'
      have zz := (Pl.ad_bd h.ok.pl.1 hs').2.2
      have hnw : ¬ Own lo hi w.heap.size := fun x => by
        have := h.lims
        have := x.2
        omega
      have hlt : w.heap.size < W.heap.size := heap_lt hx
      have pt := fun W1 (g : TabW W1) => (put_h c r n W1 g hc hr hn).mono fun e w' ⟨x, y⟩ => (⟨x, y⟩ : _ ∧ Bel W1 w')
      have hpl := putR_lt c r n
      have ad := fun W1 (hD : IsD W1 (.pointer (some vp)) lo hi top (P.wpM R t s') t P) => pb_addr (s' : Int) hs hD
      simp only [Pl.slR_ok hs', Pl.slE_ok hs'] at ad
      have st := fun W1 (hD : IsD W1 (.pointer (some vp)) lo hi top (P.wpM R t s') t P) => pb_store (P.ad s') (putR c r n) hD (by omega) hpl
      have kx := fun W1 (g : Exc (Own lo hi) W W1) => box3 ((g.block w.heap.size hlt hnw).trans hx)
      rw [Nat.add_zero]
      have hid := Lib.hid (And.intro h0 (And.intro kk (And.intro kx (And.intro pt (And.intro ad st)))))
      clear h0 kk h e1 e2 a hc hr hn hs hx hs' e0 ew ww zz hnw pt hpl z ad st kx hlt
      generalize P.wpM R t s' = RW at *
      generalize setR RW t (P.ad s') (putR c r n) = RS at *
      generalize P.hdE R t s' = HE at *
      generalize P.hdC R t s' = HC at *
      generalize P.hdR R t s' = HR at *
      generalize P.hdN R t s' = HN at *
      generalize P.ad s' = A at *
      generalize putR c r n = PR at *
      generalize putE c r n = PE at *
      go_enter Tryz.func20, Tryz.ntmps20
      go_upto_region 1 with fail
      (try rw [hW])
      clear hW
      go_wp2_with (first
        | (go_at_call 29; refine hd.mono ?_; rintro e w1 ⟨rfl, h1⟩; have h2 := h1.alloc (.cells #[.int .i64 (HC : Nat), .int .i64 (HR : Nat), .int .i64 (HN : Nat)] 44); obtain ⟨u0, u1, u2, _, _, _⟩ := hid.out.2.1 _ h2)
        | (go_at_call 56; refine (li _ h2).mono ?_; rintro e w3 ⟨rfl, h3⟩)
        | (go_at_call 19; refine (wi _ h3).mono ?_; rintro e w4 ⟨rfl, hD4, h4, h4'⟩
           obtain ⟨u0, u1, u2, _, _, _⟩ := hid.out.2.2.1 _ h4'
           have hid4 := Lib.hid (And.intro hD4 h4); clear hD4 h4)
        | (go_at_call 57; refine (hid.out.2.2.2.1 _ hid4.out.1.tab).mono ?_; rintro e w5 ⟨rfl, h5⟩
           have hid5 := Lib.hid (hid4.out.1.bel h5))
        | (go_at_call 53; refine (hid.out.2.2.2.2.1 _ hid5.out).mono ?_; rintro e w6 ⟨rfl, h6⟩
           have hid6 := Lib.hid (hid5.out.bel h6))
        | (go_at_call 58; refine (hid.out.2.2.2.2.2 _ hid6.out).mono ?_; rintro e w7 ⟨rfl, hD7, h7⟩
           have hid7 := Lib.hid hD7; clear hD7))
      go_ret
      exact ⟨rfl, hid7.out, Exc.trans hid4.out.2 (Exc.trans (h5.trans h6).exc h7)⟩

end Go.Proofs.YthokalcibjjihaaGreatDoor

/- THE PROGRAM'S BODIES: one field, through its closure; Ref, Word, SetRef, SetWord. -/
namespace Go.Proofs.YthokalcibjjihaaGreatDoor
open Go.ChangeShapes Go.WideShapes Go.ChangeAt Go.RowKit Go.Deep hd
set_option linter.unusedVariables false
variable {w w' : World} {v : Value} {lo hi top : Nat} {R : List (List Nat)} {t : Nat} {P : Pl}

/-- one result in a box, and one beside it -/
theorem results_two {Q : Program} {fn : Func} {p u : Tmp} {ty : TypeId} (h : fn.results = #[.cell p ty, .tmp u]) (tmps : Array Value) (w : World) (g : Nat) (v : Value)
    (hp : tmps.getD p undef = .pointer (some ⟨g, 0, none⟩)) (hl : (loadVar ty ⟨g, 0, none⟩).run Q w = .ok v w) : (results fn tmps).run Q w = .ok (.tuple #[v, tmps.getD u undef]) w := by
  rw [results_cell_tmp h, hp]
  simp [asAddr, hl, Result.andThen]
theorem load_int {W : World} {g : Nat} {v : Value} (h : W.cell? ⟨g, 0, none⟩ = some v) : (loadVar 3 ⟨g, 0, none⟩).run Tryz.prog W = .ok v W := by simp [loadVar, go_sem, h]
theorem load_word {W : World} {g : Nat} {v : Value} (h : W.cell? ⟨g, 0, none⟩ = some v) : (loadVar 42 ⟨g, 0, none⟩).run Tryz.prog W = .ok v W := by simp [loadVar, go_sem, h]
/-- a box of one cell, and a store into it -/
theorem one_store {w : World} {g : Nat} {x : Value} {t : TypeId} (h : w.heap[g]? = some (.cells #[x] t (0, 0))) (y : Value) :
    w.frozen? ⟨g, 0, none⟩ = false ∧ w.cell? ⟨g, 0, none⟩ = some x ∧ ∃ W, w.setCell ⟨g, 0, none⟩ y = W ∧ W.heap[g]? = some (.cells #[y] t (0, 0)) ∧ Exc (fun k => k = g) w W :=
  ⟨frozen_of_row _ _ 0 _ _ h, cell_of_row _ _ 0 _ _ (0, 0) h, _, rfl, heap_setCell_same w g 0 _ t y h, set_one (Exc.refl _ w) 0 y⟩
theorem cell1 {w : World} {g : Nat} {x : Value} {t : TypeId} (h : w.heap[g]? = some (.cells #[x] t (0, 0))) : w.cell? ⟨g, 0, none⟩ = some x := cell_of_row _ _ 0 _ _ (0, 0) h
theorem bel_exc {Z : Nat → Prop} {w1 w2 : World} (h : Bel w w1) (g : Exc Z w1 w2) (hz : ∀ k, Z k → w.heap.size ≤ k) : Bel w w2 := Below.trans h (g.below hz h.size)

/-- the reference at an address -/
theorem pb_loadref (a : Nat) (h : IsD w v lo hi top R t P) :
    Calls Tryz.prog 65 #[v, .int .i64 (a : Nat)] w fun e w' => e = .returned (.tuple #[.int .i64 (if P.S < wdAt R t a then 0 else (wdAt R t a : Int) - 1), .int .i64 (if P.S < wdAt R t a then 5 else 0)]) ∧ Bel w w' := by
  have ld := pb_load a h
  have hu : wdAt R t a < 18446744073709551616 := h.ok.w64 _ _
  have hS := h.ok.pl.2.1
  obtain ⟨b, mp, pb, pg, off, cap, rfl, hb, _, _, _, hp, _, _, ok⟩ := h
  have sl := fun W (g : Bel w W) => (pslots (.pointer (some ⟨pb, 0, none⟩)) P W ⟨pb, pg, off, cap, rfl, hp.bel g⟩ ok.pl).mono fun e w' ⟨x, y⟩ => (⟨x, g.trans y⟩ : _ ∧ Bel w w')
  have kk := fun W (g : Bel w W) => (box3 (heap_bel g hb))
  clear hb hp ok
  generalize wdAt R t a = u at *
  generalize inE R (t : Nat) (a : Nat) = LE at *
  generalize P.S = S at *
  by_cases c : S < u
  · rw [if_pos c, if_pos c]
    have d1 : decide ((S : Int) < (u : Int)) = true := decide_eq_true (by omega)
    have d2 : decide (S < u) = true := decide_eq_true c
    go_enter Tryz.func65, Tryz.ntmps65
    go_wp2_with (first
      | (go_at_call 67; refine ld.mono ?_; rintro e w1 ⟨rfl, h1⟩; obtain ⟨c0, c1, c2, _, _, _⟩ := kk _ h1)
      | (go_at_call 73; refine (sl _ h1).mono ?_; rintro e w2 ⟨rfl, h2⟩))
    go_ret2
    exact ⟨rfl, h2⟩
  · rw [if_neg c, if_neg c]
    have d1 : decide ((S : Int) < (u : Int)) = false := decide_eq_false (by omega)
    have d2 : decide (S < u) = false := decide_eq_false c
    have u3 : u ≤ 32768 := by omega
    go_enter Tryz.func65, Tryz.ntmps65
    go_wp2_with (first
      | (go_at_call 67; refine ld.mono ?_; rintro e w1 ⟨rfl, h1⟩; obtain ⟨c0, c1, c2, _, _, _⟩ := kk _ h1)
      | (go_at_call 73; refine (sl _ h1).mono ?_; rintro e w2 ⟨rfl, h2⟩))
    go_ret2
    exact ⟨rfl, h2⟩

set_option maxHeartbeats 1000000 in
/-- the word of a reference -/
theorem pb_wordof (q : Int) (hq : i64b' q) (h : IsD w v lo hi top R t P) :
    Calls Tryz.prog 61 #[v, .int .i64 q] w fun e w' => e = .returned (.tuple #[.int .u64 (if -1 ≤ q ∧ q < P.S then q + 1 else 0), .int .i64 (if -1 ≤ q ∧ q < P.S then 0 else 2)]) ∧ Bel w w' := by
  have ex := pb_exists h
  have hS := h.ok.pl.2.1
  obtain ⟨b, mp, pb, pg, off, cap, rfl, hb, _, _, _, hp, _, _, ok⟩ := h
  have sl := fun W (g : Bel w W) => (pslots (.pointer (some ⟨pb, 0, none⟩)) P W ⟨pb, pg, off, cap, rfl, hp.bel g⟩ ok.pl).mono fun e w' ⟨x, y⟩ => (⟨x, g.trans y⟩ : _ ∧ Bel w w')
  have kk := fun W (g : Bel w W) => (box3 (heap_bel g hb))
  clear hb hp ok
  generalize P.S = S at *
  by_cases a : q < -1
  · rw [if_neg (by omega), if_neg (by omega)]
    have d1 : decide (q < -1) = true := decide_eq_true a
    go_enter Tryz.func61, Tryz.ntmps61
    go_wp2_with (go_at_call 91; refine ex.mono ?_; rintro e w1 ⟨rfl, h1⟩; obtain ⟨c0, c1, c2, _, _, _⟩ := kk _ h1)
    go_ret2
    exact ⟨rfl, h1⟩
  · have d1 : decide (q < -1) = false := decide_eq_false a
    by_cases c : (S : Int) ≤ q
    · rw [if_neg (by omega), if_neg (by omega)]
      have d2 : decide ((S : Int) ≤ q) = true := decide_eq_true c
      go_enter Tryz.func61, Tryz.ntmps61
      go_wp2_with (first
        | (go_at_call 91; refine ex.mono ?_; rintro e w1 ⟨rfl, h1⟩; obtain ⟨c0, c1, c2, _, _, _⟩ := kk _ h1)
        | (go_at_call 73; refine (sl _ h1).mono ?_; rintro e w2 ⟨rfl, h2⟩))
      go_ret2
      exact ⟨rfl, h2⟩
    · rw [if_pos ⟨by omega, by omega⟩, if_pos ⟨by omega, by omega⟩]
      have d2 : decide ((S : Int) ≤ q) = false := decide_eq_false c
      have q1 : -1 ≤ q := by omega
      have q2 : q ≤ 32768 := by omega
      go_enter Tryz.func61, Tryz.ntmps61
      go_wp2_with (first
        | (go_at_call 91; refine ex.mono ?_; rintro e w1 ⟨rfl, h1⟩; obtain ⟨c0, c1, c2, _, _, _⟩ := kk _ h1)
        | (go_at_call 73; refine (sl _ h1).mono ?_; rintro e w2 ⟨rfl, h2⟩))
      go_ret2
      exact ⟨rfl, h2⟩

set_option maxHeartbeats 2000000 in
/-- a field that is not there: the closure is not called -/
theorem pb_field_no (s i : Int) (ref : Bool) (dv : Value) (hs : i64b' s) (h : IsD w v lo hi top R t P) (hz : P.fdE R t s i ref ≠ 0) :
    Calls Tryz.prog 63 #[v, .int .i64 s, .int .i64 i, .bool ref, dv] w fun e w' => e = .returned (.int .i64 (P.fdE R t s i ref)) ∧ Bel w w' := by
  have hd := pb_head s hs h
  have ff := fun z => Pl.fd_field (P := P) (R := R) (t := t) (s := s) (i := i) z ref
  have fn := fun z => Pl.fd_none (P := P) (R := R) (t := t) (s := s) (i := i) (ref := ref) z
  obtain ⟨l1, l2, l3⟩ := hd_lt (P := P) (R := R) (t := t) s
  have fl := fun W => field_h (P.hdC R t s : Nat) (P.hdR R t s : Nat) (P.hdN R t s : Nat) i W l1 l2 l3
  obtain ⟨vp, rfl⟩ := h.ptr
  clear h l1 l2 l3 hs
  generalize P.fdE R t s i ref = F at *
  generalize P.hdE R t s = HE at *
  generalize fieldR (P.hdC R t s : Nat) (P.hdR R t s : Nat) (P.hdN R t s : Nat) i = FR at *
  generalize fieldE (P.hdC R t s : Nat) (P.hdR R t s : Nat) (P.hdN R t s : Nat) i = FE at *
  generalize P.hdC R t s = HC at *
  generalize P.hdR R t s = HR at *
  generalize P.hdN R t s = HN at *
  by_cases z : HE = 0
  · subst z
    have ff := ff rfl
    clear fn
    rcases ff with ⟨b, rfl, rfl, rfl⟩ | ⟨rfl, rfl, rfl⟩ | ⟨rfl, rfl, rfl⟩
    · go_enter Tryz.func63, Tryz.ntmps63
      go_wp2_with (first
        | (go_at_call 29; refine hd.mono ?_; rintro e w1 ⟨rfl, h1⟩; have h2 : Bel w _ := h1.alloc (.cells #[.int .i64 (HC : Nat), .int .i64 (HR : Nat), .int .i64 (HN : Nat)] 44))
        | (go_at_call 100; refine (fl _).mono ?_; rintro e w3 ⟨rfl, h3⟩))
      go_ret
      exact ⟨rfl, h2.trans h3⟩
    · exact absurd rfl hz
    · cases ref
      · go_enter Tryz.func63, Tryz.ntmps63
        go_wp2_with (first
          | (go_at_call 29; refine hd.mono ?_; rintro e w1 ⟨rfl, h1⟩; have h2 : Bel w _ := h1.alloc (.cells #[.int .i64 (HC : Nat), .int .i64 (HR : Nat), .int .i64 (HN : Nat)] 44))
          | (go_at_call 100; refine (fl _).mono ?_; rintro e w3 ⟨rfl, h3⟩))
        go_ret
        exact ⟨rfl, h2.trans h3⟩
      · go_enter Tryz.func63, Tryz.ntmps63
        go_wp2_with (first
          | (go_at_call 29; refine hd.mono ?_; rintro e w1 ⟨rfl, h1⟩; have h2 : Bel w _ := h1.alloc (.cells #[.int .i64 (HC : Nat), .int .i64 (HR : Nat), .int .i64 (HN : Nat)] 44))
          | (go_at_call 100; refine (fl _).mono ?_; rintro e w3 ⟨rfl, h3⟩))
        go_ret
        exact ⟨rfl, h2.trans h3⟩
  · obtain rfl := fn z
    clear ff fn fl
    have nz : decide (F = 0) = false := decide_eq_false z
    have nz2 : (F == 0) = false := by rw [beq_eq_false_iff_ne]; exact z
    have nz3 : (F != 0) = true := by rw [bne_iff_ne]; exact z
    go_enter Tryz.func63, Tryz.ntmps63
    go_wp2_with (go_at_call 29; refine hd.mono ?_; rintro e w1 ⟨rfl, h1⟩; have h2 : Bel w _ := h1.alloc (.cells #[.int .i64 (HC : Nat), .int .i64 (HR : Nat), .int .i64 (HN : Nat)] 44))
    go_ret
    exact ⟨rfl, h2⟩

set_option maxHeartbeats 2000000 in
/-- a field that is there: Ref -/
theorem pb_field_ref (s I : Nat) (ref : Bool) (p1 p2 : Addr) (Q : Ending → World → Prop) (hs : i64b' (s : Int)) (h : IsD w v lo hi top R t P) (hz : P.fdE R t s I ref = 0) (hS : s < P.S) (hI : I ≤ 64)
    (hcl : ∀ W, Bel w W → Calls Tryz.prog 101 #[.int .i64 ((P.ad s + 1 + I : Nat) : Int), .pointer (some p1), .pointer (some p2)] W Q) (hQ : ∀ e w', Q e w' → ∃ x, e = .returned (.int .i64 x)) :
    Calls Tryz.prog 63 #[v, .int .i64 (s : Nat), .int .i64 (I : Nat), .bool ref, .func (.func 101) #[] #[.pointer (some p1), .pointer (some p2)]] w Q := by
  have hd := pb_head (s : Int) hs h
  have z := (Pl.fd_ok hz).choose_spec.choose_spec.2.2.2.1
  obtain ⟨e1, e2⟩ : fieldR (P.hdC R t s : Nat) (P.hdR R t s : Nat) (P.hdN R t s : Nat) I = ref ∧ fieldE (P.hdC R t s : Nat) (P.hdR R t s : Nat) (P.hdN R t s : Nat) I = 0 := by
    rcases Pl.fd_field (P := P) (R := R) (t := t) (s := s) (i := (I : Int)) z ref with ⟨b, a1, a2, a3⟩ | ⟨a1, a2, a3⟩ | ⟨a1, a2, a3⟩
    · rw [hz] at a3; cases a3
    · exact ⟨a1, a2⟩
    · rw [hz] at a3; cases a3
  obtain ⟨l1, l2, l3⟩ := hd_lt (P := P) (R := R) (t := t) (s : Int)
  have fl := fun W => field_h (P.hdC R t s : Nat) (P.hdR R t s : Nat) (P.hdN R t s : Nat) (I : Int) W l1 l2 l3
  rw [e1, e2] at fl
  rw [z] at hd
  have ad := fun W (g : Bel w W) => (pb_addr (s : Int) hs (h.bel g)).mono fun e w' ⟨x, y⟩ => (⟨x, g.trans y⟩ : _ ∧ Bel w w')
  simp only [Pl.slR_ok hS, Pl.slE_ok hS] at ad
  have ww := Pl.ad_words h.ok.pl.1 hS
  have w2 := h.ok.pl.2.2.2.1
  have cA : ((P.ad s + 1 + I : Nat) : Int) = (P.ad s : Int) + 1 + (I : Int) := by omega
  rw [cA] at hcl
  have a0 : P.ad s ≤ 2097152 := by omega
  obtain ⟨vp, rfl⟩ := h.ptr
  have hid := Lib.hid hQ
  clear h l1 l2 l3 hs e1 e2 z hz cA ww w2 hS hQ
  generalize P.ad s = A at *
  generalize P.hdC R t s = HC at *
  generalize P.hdR R t s = HR at *
  generalize P.hdN R t s = HN at *
  go_enter Tryz.func63, Tryz.ntmps63
  go_wp2_with (first
    | (go_at_call 29; refine hd.mono ?_; rintro e w1 ⟨rfl, h1⟩; have h2 : Bel w _ := h1.alloc (.cells #[.int .i64 (HC : Nat), .int .i64 (HR : Nat), .int .i64 (HN : Nat)] 44))
    | (go_at_call 100; refine (fl _).mono ?_; rintro e w3 ⟨rfl, h3⟩; have h4 := h2.trans h3)
    | (go_at_call 53; refine (ad _ h4).mono ?_; rintro e w5 ⟨rfl, h5⟩)
    | (go_at_call 101; refine (hcl _ h5).mono ?_; intro e w6 hq; obtain ⟨x, rfl⟩ := hid.out _ _ hq; have hidq := Lib.hid hq; clear hq))
  exact hidq.out

set_option maxHeartbeats 2000000 in
/-- a field that is there: Word -/
theorem pb_field_word (s I : Nat) (ref : Bool) (p1 p2 : Addr) (Q : Ending → World → Prop) (hs : i64b' (s : Int)) (h : IsD w v lo hi top R t P) (hz : P.fdE R t s I ref = 0) (hS : s < P.S) (hI : I ≤ 64)
    (hcl : ∀ W, Bel w W → Calls Tryz.prog 102 #[.int .i64 ((P.ad s + 1 + I : Nat) : Int), .pointer (some p1), .pointer (some p2)] W Q) (hQ : ∀ e w', Q e w' → ∃ x, e = .returned (.int .i64 x)) :
    Calls Tryz.prog 63 #[v, .int .i64 (s : Nat), .int .i64 (I : Nat), .bool ref, .func (.func 102) #[] #[.pointer (some p1), .pointer (some p2)]] w Q := by
  have hd := pb_head (s : Int) hs h
  have z := (Pl.fd_ok hz).choose_spec.choose_spec.2.2.2.1
  obtain ⟨e1, e2⟩ : fieldR (P.hdC R t s : Nat) (P.hdR R t s : Nat) (P.hdN R t s : Nat) I = ref ∧ fieldE (P.hdC R t s : Nat) (P.hdR R t s : Nat) (P.hdN R t s : Nat) I = 0 := by
    rcases Pl.fd_field (P := P) (R := R) (t := t) (s := s) (i := (I : Int)) z ref with ⟨b, a1, a2, a3⟩ | ⟨a1, a2, a3⟩ | ⟨a1, a2, a3⟩
    · rw [hz] at a3; cases a3
    · exact ⟨a1, a2⟩
    · rw [hz] at a3; cases a3
  obtain ⟨l1, l2, l3⟩ := hd_lt (P := P) (R := R) (t := t) (s : Int)
  have fl := fun W => field_h (P.hdC R t s : Nat) (P.hdR R t s : Nat) (P.hdN R t s : Nat) (I : Int) W l1 l2 l3
  rw [e1, e2] at fl
  rw [z] at hd
  have ad := fun W (g : Bel w W) => (pb_addr (s : Int) hs (h.bel g)).mono fun e w' ⟨x, y⟩ => (⟨x, g.trans y⟩ : _ ∧ Bel w w')
  simp only [Pl.slR_ok hS, Pl.slE_ok hS] at ad
  have ww := Pl.ad_words h.ok.pl.1 hS
  have w2 := h.ok.pl.2.2.2.1
  have cA : ((P.ad s + 1 + I : Nat) : Int) = (P.ad s : Int) + 1 + (I : Int) := by omega
  rw [cA] at hcl
  have a0 : P.ad s ≤ 2097152 := by omega
  obtain ⟨vp, rfl⟩ := h.ptr
  have hid := Lib.hid hQ
  clear h l1 l2 l3 hs e1 e2 z hz cA ww w2 hS hQ
  generalize P.ad s = A at *
  generalize P.hdC R t s = HC at *
  generalize P.hdR R t s = HR at *
  generalize P.hdN R t s = HN at *
  go_enter Tryz.func63, Tryz.ntmps63
  go_wp2_with (first
    | (go_at_call 29; refine hd.mono ?_; rintro e w1 ⟨rfl, h1⟩; have h2 : Bel w _ := h1.alloc (.cells #[.int .i64 (HC : Nat), .int .i64 (HR : Nat), .int .i64 (HN : Nat)] 44))
    | (go_at_call 100; refine (fl _).mono ?_; rintro e w3 ⟨rfl, h3⟩; have h4 := h2.trans h3)
    | (go_at_call 53; refine (ad _ h4).mono ?_; rintro e w5 ⟨rfl, h5⟩)
    | (go_at_call 102; refine (hcl _ h5).mono ?_; intro e w6 hq; obtain ⟨x, rfl⟩ := hid.out _ _ hq; have hidq := Lib.hid hq; clear hq))
  exact hidq.out

set_option maxHeartbeats 2000000 in
/-- a field that is there: SetRef, SetWord -/
theorem pb_field_set (s I : Nat) (ref : Bool) (p1 p2 : Addr) (Q : Ending → World → Prop) (hs : i64b' (s : Int)) (h : IsD w v lo hi top R t P) (hz : P.fdE R t s I ref = 0) (hS : s < P.S) (hI : I ≤ 64)
    (hcl : ∀ W, Bel w W → Calls Tryz.prog 99 #[.int .i64 ((P.ad s + 1 + I : Nat) : Int), .pointer (some p1), .pointer (some p2)] W Q) (hQ : ∀ e w', Q e w' → ∃ x, e = .returned (.int .i64 x)) :
    Calls Tryz.prog 63 #[v, .int .i64 (s : Nat), .int .i64 (I : Nat), .bool ref, .func (.func 99) #[] #[.pointer (some p1), .pointer (some p2)]] w Q := by
  have hd := pb_head (s : Int) hs h
  have z := (Pl.fd_ok hz).choose_spec.choose_spec.2.2.2.1
  obtain ⟨e1, e2⟩ : fieldR (P.hdC R t s : Nat) (P.hdR R t s : Nat) (P.hdN R t s : Nat) I = ref ∧ fieldE (P.hdC R t s : Nat) (P.hdR R t s : Nat) (P.hdN R t s : Nat) I = 0 := by
    rcases Pl.fd_field (P := P) (R := R) (t := t) (s := s) (i := (I : Int)) z ref with ⟨b, a1, a2, a3⟩ | ⟨a1, a2, a3⟩ | ⟨a1, a2, a3⟩
    · rw [hz] at a3; cases a3
    · exact ⟨a1, a2⟩
    · rw [hz] at a3; cases a3
  obtain ⟨l1, l2, l3⟩ := hd_lt (P := P) (R := R) (t := t) (s : Int)
  have fl := fun W => field_h (P.hdC R t s : Nat) (P.hdR R t s : Nat) (P.hdN R t s : Nat) (I : Int) W l1 l2 l3
  rw [e1, e2] at fl
  rw [z] at hd
  have ad := fun W (g : Bel w W) => (pb_addr (s : Int) hs (h.bel g)).mono fun e w' ⟨x, y⟩ => (⟨x, g.trans y⟩ : _ ∧ Bel w w')
  simp only [Pl.slR_ok hS, Pl.slE_ok hS] at ad
  have ww := Pl.ad_words h.ok.pl.1 hS
  have w2 := h.ok.pl.2.2.2.1
  have cA : ((P.ad s + 1 + I : Nat) : Int) = (P.ad s : Int) + 1 + (I : Int) := by omega
  rw [cA] at hcl
  have a0 : P.ad s ≤ 2097152 := by omega
  obtain ⟨vp, rfl⟩ := h.ptr
  have hid := Lib.hid hQ
  clear h l1 l2 l3 hs e1 e2 z hz cA ww w2 hS hQ
  generalize P.ad s = A at *
  generalize P.hdC R t s = HC at *
  generalize P.hdR R t s = HR at *
  generalize P.hdN R t s = HN at *
  go_enter Tryz.func63, Tryz.ntmps63
  go_wp2_with (first
    | (go_at_call 29; refine hd.mono ?_; rintro e w1 ⟨rfl, h1⟩; have h2 : Bel w _ := h1.alloc (.cells #[.int .i64 (HC : Nat), .int .i64 (HR : Nat), .int .i64 (HN : Nat)] 44))
    | (go_at_call 100; refine (fl _).mono ?_; rintro e w3 ⟨rfl, h3⟩; have h4 := h2.trans h3)
    | (go_at_call 53; refine (ad _ h4).mono ?_; rintro e w5 ⟨rfl, h5⟩)
    | (go_at_call 99; refine (hcl _ h5).mono ?_; intro e w6 hq; obtain ⟨x, rfl⟩ := hid.out _ _ hq; have hidq := Lib.hid hq; clear hq))
  exact hidq.out

/-- Ref: the closure -/
theorem pb_clos_ref (a g9 g10 : Nat) (x : Value) (t9 : TypeId) (h : IsD w v lo hi top R t P) (h9 : w.heap[g9]? = some (.cells #[.func (.func 65) #[v] #[]] t9 (0, 0))) (h10 : w.heap[g10]? = some (.cells #[x] 3 (0, 0))) :
    Calls Tryz.prog 101 #[.int .i64 (a : Nat), .pointer (some ⟨g9, 0, none⟩), .pointer (some ⟨g10, 0, none⟩)] w fun e w' => e = .returned (.int .i64 (if P.S < wdAt R t a then 5 else 0)) ∧ w'.heap[g10]? = some (.cells #[.int .i64 (if P.S < wdAt R t a then 0 else (wdAt R t a : Int) - 1)] 3 (0, 0)) ∧ Exc (fun k => k = g10) w w' := by
  have ld := pb_loadref a h
  have c9 := cell1 h9
  have k10 := fun W (g : Bel w W) => heap_bel g h10
  obtain ⟨vp, rfl⟩ := h.ptr
  have hid := Lib.hid k10
  clear h h9 h10 k10
  generalize (if P.S < wdAt R t a then (0 : Int) else (wdAt R t a : Int) - 1) = V at *
  generalize (if P.S < wdAt R t a then (5 : Int) else 0) = E at *
  go_enter Tryz.func101, Tryz.ntmps101
  go_wp2_with (go_at_call 65; refine ld.mono ?_; rintro e w1 ⟨rfl, h1⟩
               obtain ⟨f0, c10, W2, hW2, hb2, hE2⟩ := one_store (hid.out _ h1) (.int .i64 V)
               have hid2 := Lib.hid (And.intro hb2 hE2)
               clear hb2 hE2)
  go_ret
  exact ⟨rfl, hid2.out.1, Exc.trans h1.exc hid2.out.2⟩

/-- Word: the closure -/
theorem pb_clos_word (a g9 g10 : Nat) (x : Value) (t9 : TypeId) (h : IsD w v lo hi top R t P) (h9 : w.heap[g9]? = some (.cells #[.func (.func 67) #[v] #[]] t9 (0, 0))) (h10 : w.heap[g10]? = some (.cells #[x] 42 (0, 0))) :
    Calls Tryz.prog 102 #[.int .i64 (a : Nat), .pointer (some ⟨g9, 0, none⟩), .pointer (some ⟨g10, 0, none⟩)] w fun e w' => e = .returned (.int .i64 (inE R (t : Nat) (a : Nat))) ∧ w'.heap[g10]? = some (.cells #[.int .u64 (wdAt R t a : Nat)] 42 (0, 0)) ∧ Exc (fun k => k = g10) w w' := by
  have ld := pb_load a h
  have c9 := cell1 h9
  have k10 := fun W (g : Bel w W) => heap_bel g h10
  obtain ⟨vp, rfl⟩ := h.ptr
  have hid := Lib.hid k10
  clear h h9 h10 k10
  generalize wdAt R t a = V at *
  generalize inE R (t : Nat) (a : Nat) = E at *
  go_enter Tryz.func102, Tryz.ntmps102
  go_wp2_with (go_at_call 67; refine ld.mono ?_; rintro e w1 ⟨rfl, h1⟩
               obtain ⟨f0, c10, W2, hW2, hb2, hE2⟩ := one_store (hid.out _ h1) (.int .u64 (V : Nat))
               have hid2 := Lib.hid (And.intro hb2 hE2)
               clear hb2 hE2)
  go_ret
  exact ⟨rfl, hid2.out.1, Exc.trans h1.exc hid2.out.2⟩

set_option maxHeartbeats 1000000 in
/-- Ref: the function that hands the closure on -/
theorem pb_get_ref (s i : Int) (hs : i64b' s) (h : IsD w v lo hi top R t P) :
    Calls Tryz.prog 64 #[.func (.func 63) #[v] #[], .int .i64 s, .int .i64 i, .bool true, .func (.func 65) #[v] #[]] w fun e w' => e = .returned (.tuple #[.int .i64 (P.rfR R t s i), .int .i64 (P.rfE R t s i)]) ∧ Bel w w' := by
  obtain ⟨m0, m1⟩ := two w (.cells #[.func (.func 65) #[v] #[]] 116) (.cells #[.int .i64 0] 3)
  have bt : Bel w _ := bel_two w (.cells #[.func (.func 65) #[v] #[]] 116) (.cells #[.int .i64 0] 3)
  obtain ⟨W, hW⟩ : ∃ W, (w.alloc (.cells #[.func (.func 65) #[v] #[]] 116)).alloc (.cells #[.int .i64 0] 3) = W := ⟨_, rfl⟩
  rw [hW] at m0 m1 bt
  have hD := h.bel bt
  obtain ⟨vp, rfl⟩ := h.ptr
  by_cases z : P.fdE R t s i true = 0
  · obtain ⟨S', I, rfl, rfl, hS, hsz, h64, cI, bI⟩ := Pl.fd_at h.ok.pl z
    have e1 : P.rfE R t S' I = if P.S < P.slW R t S' (1 + I) then 5 else 0 := by unfold Pl.rfE; rw [if_pos z, Int.toNat_natCast, Int.toNat_natCast]
    have e2 : P.rfR R t S' I = if P.S < P.slW R t S' (1 + I) then 0 else (P.slW R t S' (1 + I) : Int) - 1 := by
      unfold Pl.rfR
      rw [e1, Int.toNat_natCast, Int.toNat_natCast]
      by_cases c : P.S < P.slW R t S' (1 + I)
      · rw [if_pos c, if_pos c]; rfl
      · rw [if_neg c, if_neg c]; rfl
    rw [e1, e2]
    clear e1 e2
    have fd := pb_field_ref S' I true ⟨w.heap.size, 0, none⟩ ⟨w.heap.size + 1, 0, none⟩ _ hs hD z hS (by omega)
      (fun W1 g => (pb_clos_ref (P.ad S' + 1 + I) w.heap.size (w.heap.size + 1) (.int .i64 0) 116 (hD.bel g) (heap_bel g m0) (heap_bel g m1)).mono fun e w' ⟨x, y, u⟩ => (⟨x, y, Exc.trans g.exc u⟩ : _ ∧ _ ∧ Exc (fun k => k = w.heap.size + 1) W w'))
      (fun e w' ⟨x, _⟩ => ⟨_, x⟩)
    rw [Nat.add_assoc] at fd
    have eU : wdAt R t (P.ad S' + (1 + I)) = P.slW R t S' (1 + I) := rfl
    rw [eU] at fd
    have hid := Lib.hid (And.intro bt hD)
    have hidm := Lib.hid m1
    have c10 := cell1 m1
    generalize (if P.S < P.slW R t S' (1 + I) then (0 : Int) else (P.slW R t S' (1 + I) : Int) - 1) = V at *
    generalize (if P.S < P.slW R t S' (1 + I) then (5 : Int) else 0) = E at *
    clear hD bt m0 m1 h z hS hsz h64 cI bI hs
    go_enter Tryz.func64, Tryz.ntmps64
    go_upto_region 1 with fail
    (try rw [hW])
    clear hW
    go_wp2_with (go_at_call 63; refine fd.mono ?_; rintro e w1 ⟨rfl, hb1, hE1⟩
                 obtain ⟨f0, c10, W2, hW2, hb2, hE2⟩ := one_store hb1 (.int .i64 V)
                 have hid2 := Lib.hid (And.intro hb2 (Exc.trans hE1 hE2))
                 clear hb1 hE1 hb2 hE2)
    (try simp only [Exit.inBlock, Exit.then])
    refine bodyPost_ret (results_two rfl _ _ (w.heap.size + 1) _ rfl (load_int (cell1 hid2.out.1))) rfl ?_
    exact ⟨by first | rfl | simp, bel_exc hid.out.1 hid2.out.2 fun k hk => by omega⟩
  · have fd := fun dv => pb_field_no s i true dv hs hD z
    have e1 : P.rfE R t s i = P.fdE R t s i true := by unfold Pl.rfE; rw [if_neg z]
    have e2 : P.rfR R t s i = 0 := by unfold Pl.rfR; rw [e1, if_neg z]
    rw [e1, e2]
    clear e1 e2
    have c10 := fun W1 (g : Bel W W1) => heap_bel g m1
    have hid := Lib.hid (And.intro bt c10)
    clear hD bt m0 m1 h hs c10
    generalize P.fdE R t s i true = E at *
    go_enter Tryz.func64, Tryz.ntmps64
    go_upto_region 1 with fail
    (try rw [hW])
    clear hW
    go_wp2_with (go_at_call 63; refine (fd _).mono ?_; rintro e w1 ⟨rfl, hb1⟩
                 obtain ⟨f0, c10, W2, hW2, hb2, hE2⟩ := one_store (hid.out.2 _ hb1) (.int .i64 0)
                 have hid2 := Lib.hid (And.intro hb2 hE2)
                 clear hb2 hE2)
    (try simp only [Exit.inBlock, Exit.then])
    refine bodyPost_ret (results_two rfl _ _ (w.heap.size + 1) _ rfl (load_int (cell1 hid2.out.1))) rfl ?_
    exact ⟨by first | rfl | simp, bel_exc (hid.out.1.trans hb1) hid2.out.2 fun k hk => by omega⟩

/-- Ref -/
theorem pb_ref (s i : Int) (hs : i64b' s) (h : IsD w v lo hi top R t P) :
    Calls Tryz.prog 25 #[v, .int .i64 s, .int .i64 i] w fun e w' => e = .returned (.tuple #[.int .i64 (P.rfR R t s i), .int .i64 (P.rfE R t s i)]) ∧ Bel w w' := by
  have gt := pb_get_ref s i hs h
  obtain ⟨vp, rfl⟩ := h.ptr
  clear h
  go_enter Tryz.func25, Tryz.ntmps25
  go_wp2_with (go_at_call 64; refine gt.mono ?_; rintro e w1 ⟨rfl, h1⟩)
  go_ret2
  exact ⟨rfl, h1⟩

set_option maxHeartbeats 1000000 in
/-- Word: the function that hands the closure on -/
theorem pb_get_word (s i : Int) (hs : i64b' s) (h : IsD w v lo hi top R t P) :
    Calls Tryz.prog 66 #[.func (.func 63) #[v] #[], .int .i64 s, .int .i64 i, .bool false, .func (.func 67) #[v] #[]] w fun e w' => e = .returned (.tuple #[.int .u64 (P.wdR R t s i : Nat), .int .i64 (P.wdE R t s i)]) ∧ Bel w w' := by
  obtain ⟨m0, m1⟩ := two w (.cells #[.func (.func 67) #[v] #[]] 122) (.cells #[.int .u64 0] 42)
  have bt : Bel w _ := bel_two w (.cells #[.func (.func 67) #[v] #[]] 122) (.cells #[.int .u64 0] 42)
  obtain ⟨W, hW⟩ : ∃ W, (w.alloc (.cells #[.func (.func 67) #[v] #[]] 122)).alloc (.cells #[.int .u64 0] 42) = W := ⟨_, rfl⟩
  rw [hW] at m0 m1 bt
  have hD := h.bel bt
  obtain ⟨vp, rfl⟩ := h.ptr
  by_cases z : P.fdE R t s i false = 0
  · obtain ⟨S', I, rfl, rfl, hS, hsz, h64, cI, bI⟩ := Pl.fd_at h.ok.pl z
    have e1 : P.wdE R t S' I = 0 := z
    have e2 : P.wdR R t S' I = P.slW R t S' (1 + I) := by unfold Pl.wdR; rw [if_pos e1, Int.toNat_natCast, Int.toNat_natCast]
    have ww := Pl.ad_words h.ok.pl.1 hS
    have e3 := in_reg (a := P.ad S' + (1 + I)) h.ok.reg (by omega)
    rw [e1, e2]
    clear e1 e2 ww
    have fd := pb_field_word S' I false ⟨w.heap.size, 0, none⟩ ⟨w.heap.size + 1, 0, none⟩ _ hs hD z hS (by omega)
      (fun W1 g => (pb_clos_word (P.ad S' + 1 + I) w.heap.size (w.heap.size + 1) (.int .u64 0) 122 (hD.bel g) (heap_bel g m0) (heap_bel g m1)).mono fun e w' ⟨x, y, u⟩ => (⟨x, y, Exc.trans g.exc u⟩ : _ ∧ _ ∧ Exc (fun k => k = w.heap.size + 1) W w'))
      (fun e w' ⟨x, _⟩ => ⟨_, x⟩)
    rw [Nat.add_assoc] at fd
    have eU : wdAt R t (P.ad S' + (1 + I)) = P.slW R t S' (1 + I) := rfl
    rw [eU] at fd
    have hid := Lib.hid (And.intro bt hD)
    have hidm := Lib.hid m1
    have c10 := cell1 m1
    rw [e3] at fd
    clear e3
    generalize P.slW R t S' (1 + I) = V at *
    clear hD bt m0 m1 h z hS hsz h64 cI bI hs
    go_enter Tryz.func66, Tryz.ntmps66
    go_upto_region 1 with fail
    (try rw [hW])
    clear hW
    go_wp2_with (go_at_call 63; refine fd.mono ?_; rintro e w1 ⟨rfl, hb1, hE1⟩
                 obtain ⟨f0, c10, W2, hW2, hb2, hE2⟩ := one_store hb1 (.int .u64 (V : Nat))
                 have hid2 := Lib.hid (And.intro hb2 (Exc.trans hE1 hE2))
                 clear hb1 hE1 hb2 hE2)
    (try simp only [Exit.inBlock, Exit.then])
    refine bodyPost_ret (results_two rfl _ _ (w.heap.size + 1) _ rfl (load_word (cell1 hid2.out.1))) rfl ?_
    exact ⟨by first | rfl | simp, bel_exc hid.out.1 hid2.out.2 fun k hk => by omega⟩
  · have fd := fun dv => pb_field_no s i false dv hs hD z
    have e1 : P.wdE R t s i = P.fdE R t s i false := rfl
    have e2 : P.wdR R t s i = 0 := by unfold Pl.wdR; rw [e1, if_neg z]
    rw [e1, e2]
    clear e1 e2
    have c10 := fun W1 (g : Bel W W1) => heap_bel g m1
    have hid := Lib.hid (And.intro bt c10)
    clear hD bt m0 m1 h hs c10
    generalize P.fdE R t s i false = E at *
    go_enter Tryz.func66, Tryz.ntmps66
    go_upto_region 1 with fail
    (try rw [hW])
    clear hW
    go_wp2_with (go_at_call 63; refine (fd _).mono ?_; rintro e w1 ⟨rfl, hb1⟩
                 obtain ⟨f0, c10, W2, hW2, hb2, hE2⟩ := one_store (hid.out.2 _ hb1) (.int .u64 0)
                 have hid2 := Lib.hid (And.intro hb2 hE2)
                 clear hb2 hE2)
    (try simp only [Exit.inBlock, Exit.then])
    refine bodyPost_ret (results_two rfl _ _ (w.heap.size + 1) _ rfl (load_word (cell1 hid2.out.1))) rfl ?_
    exact ⟨by first | rfl | simp, bel_exc (hid.out.1.trans hb1) hid2.out.2 fun k hk => by omega⟩

/-- Word -/
theorem pb_word (s i : Int) (hs : i64b' s) (h : IsD w v lo hi top R t P) :
    Calls Tryz.prog 26 #[v, .int .i64 s, .int .i64 i] w fun e w' => e = .returned (.tuple #[.int .u64 (P.wdR R t s i : Nat), .int .i64 (P.wdE R t s i)]) ∧ Bel w w' := by
  have gt := pb_get_word s i hs h
  obtain ⟨vp, rfl⟩ := h.ptr
  clear h
  go_enter Tryz.func26, Tryz.ntmps26
  go_wp2_with (go_at_call 66; refine gt.mono ?_; rintro e w1 ⟨rfl, h1⟩)
  go_ret2
  exact ⟨rfl, h1⟩

/-- SetRef, SetWord: the closure -/
theorem pb_clos_set (a u g9 g10 : Nat) (t9 t10 : TypeId) (h : IsD w v lo hi top R t P) (ha : a < P.W) (hu : u < 18446744073709551616) (h9 : w.heap[g9]? = some (.cells #[.func (.func 58) #[v] #[]] t9 (0, 0))) (h10 : w.heap[g10]? = some (.cells #[.int .u64 (u : Nat)] t10 (0, 0))) :
    Calls Tryz.prog 99 #[.int .i64 (a : Nat), .pointer (some ⟨g9, 0, none⟩), .pointer (some ⟨g10, 0, none⟩)] w fun e w' => e = .returned (.int .i64 0) ∧ IsD w' v lo hi top (setR R t a u) t P ∧ Exc (Own lo hi) w w' := by
  have st := pb_store a u h ha hu
  have c9 := cell1 h9
  have c10 := cell1 h10
  obtain ⟨vp, rfl⟩ := h.ptr
  clear h h9 h10
  go_enter Tryz.func99, Tryz.ntmps99
  go_wp2_with (go_at_call 58; refine st.mono ?_; rintro e w1 ⟨rfl, hD, h1⟩; have hid := Lib.hid hD; clear hD)
  go_ret
  exact ⟨rfl, hid.out, h1⟩

/-- what a field's word turned leaves -/
def _root_.Go.Proofs.YthokalcibjjihaaGreatDoor.Pl.setM (P : Pl) (R : List (List Nat)) (t : Nat) (s i : Int) (ref : Bool) (u : Nat) : List (List Nat) := if P.fdE R t s i ref = 0 then setR R t (P.ad s.toNat + 1 + i.toNat) u else R

set_option maxHeartbeats 1000000 in
/-- SetRef, SetWord: the function that hands the closure on -/
theorem pb_set (s i : Int) (ref : Bool) (u : Nat) (hs : i64b' s) (h : IsD w v lo hi top R t P) (hu : u < 18446744073709551616) :
    Calls Tryz.prog 62 #[.func (.func 63) #[v] #[], .int .i64 s, .int .i64 i, .bool ref, .int .u64 (u : Nat), .func (.func 58) #[v] #[]] w fun e w' => e = .returned (.int .i64 (P.fdE R t s i ref)) ∧ IsD w' v lo hi top (P.setM R t s i ref u) t P ∧ Exc (Own lo hi) w w' := by
  obtain ⟨m0, m1⟩ := two w (.cells #[.int .u64 (u : Nat)] 42) (.cells #[.func (.func 58) #[v] #[]] 119)
  have bt : Bel w _ := bel_two w (.cells #[.int .u64 (u : Nat)] 42) (.cells #[.func (.func 58) #[v] #[]] 119)
  obtain ⟨W, hW⟩ : ∃ W, (w.alloc (.cells #[.int .u64 (u : Nat)] 42)).alloc (.cells #[.func (.func 58) #[v] #[]] 119) = W := ⟨_, rfl⟩
  rw [hW] at m0 m1 bt
  have hD := h.bel bt
  obtain ⟨vp, rfl⟩ := h.ptr
  by_cases z : P.fdE R t s i ref = 0
  · obtain ⟨S', I, rfl, rfl, hS, hsz, h64, cI, bI⟩ := Pl.fd_at h.ok.pl z
    have ww := Pl.ad_words h.ok.pl.1 hS
    have eM : P.setM R t S' I ref u = setR R t (P.ad S' + 1 + I) u := by unfold Pl.setM; rw [if_pos z, Int.toNat_natCast, Int.toNat_natCast]
    have fd := pb_field_set S' I ref ⟨w.heap.size + 1, 0, none⟩ ⟨w.heap.size, 0, none⟩ _ hs hD z hS (by omega)
      (fun W1 g => (pb_clos_set (P.ad S' + 1 + I) u (w.heap.size + 1) w.heap.size _ _ (hD.bel g) (by omega) hu (heap_bel g m1) (heap_bel g m0)).mono fun e w' ⟨x, y, u⟩ => (⟨x, y, Exc.trans (bt.trans g).exc u⟩ : _ ∧ _ ∧ Exc (Own lo hi) w w'))
      (fun e w' ⟨x, _⟩ => ⟨_, x⟩)
    rw [eM, z]
    clear hD bt m0 m1 h hS hsz h64 cI bI hs ww eM z
    generalize setR R t (P.ad S' + 1 + I) u = S2 at *
    go_enter Tryz.func62, Tryz.ntmps62
    go_upto_region 1 with fail
    (try rw [hW])
    clear hW
    go_wp2_with (go_at_call 63; refine fd.mono ?_; rintro e w1 ⟨rfl, hD1, h1⟩; have hid := Lib.hid hD1; clear hD1)
    go_ret
    exact ⟨rfl, hid.out, h1⟩
  · have fd := fun dv => pb_field_no s i ref dv hs hD z
    have eM : P.setM R t s i ref u = R := if_neg z
    rw [eM]
    have hid := Lib.hid (And.intro bt hD)
    clear hD bt m0 m1 h hs eM
    generalize P.fdE R t s i ref = E at *
    go_enter Tryz.func62, Tryz.ntmps62
    go_upto_region 1 with fail
    (try rw [hW])
    clear hW
    go_wp2_with (go_at_call 63; refine (fd _).mono ?_; rintro e w1 ⟨rfl, h1⟩)
    go_ret
    exact ⟨rfl, hid.out.2.bel h1, (hid.out.1.trans h1).exc⟩

/-- SetWord -/
theorem pb_setword (s i : Int) (u : Nat) (hs : i64b' s) (h : IsD w v lo hi top R t P) (hu : u < 18446744073709551616) :
    Calls Tryz.prog 24 #[v, .int .i64 s, .int .i64 i, .int .u64 (u : Nat)] w fun e w' => e = .returned (.int .i64 (P.wdE R t s i)) ∧ IsD w' v lo hi top (P.swM R t s i u) t P ∧ Exc (Own lo hi) w w' := by
  have st := pb_set s i false u hs h hu
  change Calls _ _ _ _ fun e w' => e = .returned (.int .i64 (P.wdE R t s i)) ∧ IsD w' v lo hi top (P.swM R t s i u) t P ∧ Exc (Own lo hi) w w' at st
  obtain ⟨vp, rfl⟩ := h.ptr
  clear h
  generalize P.swM R t s i u = R' at *
  generalize P.wdE R t s i = E at *
  go_enter Tryz.func24, Tryz.ntmps24
  go_wp2_with (go_at_call 62; refine st.mono ?_; rintro e w1 ⟨rfl, hD1, h1⟩; have hid := Lib.hid hD1; clear hD1)
  go_ret
  exact ⟨rfl, hid.out, h1⟩

set_option maxHeartbeats 1000000 in
/-- SetRef -/
theorem pb_setref (s i q : Int) (hs : i64b' s) (hq : i64b' q) (h : IsD w v lo hi top R t P) :
    Calls Tryz.prog 23 #[v, .int .i64 s, .int .i64 i, .int .i64 q] w fun e w' => e = .returned (.int .i64 (P.srE R t s i q)) ∧ IsD w' v lo hi top (P.srM R t s i q) t P ∧ Exc (Own lo hi) w w' := by
  have wo := pb_wordof q hq h
  have hS := h.ok.pl.2.1
  by_cases c : -1 ≤ q ∧ q < P.S
  · rw [if_pos c, if_pos c] at wo
    obtain ⟨T, hT⟩ : ∃ T : Nat, q + 1 = T := ⟨(q + 1).toNat, by omega⟩
    rw [hT] at wo
    have e1 : P.srE R t s i q = P.fdE R t s i true := by
      unfold Pl.srE
      by_cases x : P.isS s = true
      · rw [if_pos ⟨x, c⟩]
      · rw [if_neg fun y => x y.1]
        have x' : P.isS s = false := by simpa using x
        have y := (Pl.hd_no (R := R) (t := t) x').1
        rw [Pl.fd_none (by rw [y]; decide), y]
    have e2 : P.srM R t s i q = P.setM R t s i true T := by unfold Pl.srM Pl.setM; rw [e1, show (q + 1).toNat = T by omega]
    have st := fun W1 (g : Bel w W1) => (pb_set s i true T hs (h.bel g) (by omega)).mono fun e w' ⟨x, y, z⟩ => (⟨x, y, Exc.trans g.exc z⟩ : _ ∧ _ ∧ Exc (Own lo hi) w w')
    rw [e1, e2]
    obtain ⟨vp, rfl⟩ := h.ptr
    clear h e1 e2 hT c hs hq hS
    generalize P.setM R t s i true T = R' at *
    generalize P.fdE R t s i true = E at *
    go_enter Tryz.func23, Tryz.ntmps23
    go_wp2_with (first
      | (go_at_call 61; refine wo.mono ?_; rintro e w1 ⟨rfl, h1⟩)
      | (go_at_call 62; refine (st _ h1).mono ?_; rintro e w2 ⟨rfl, hD2, h2⟩; have hid := Lib.hid hD2; clear hD2))
    go_ret
    exact ⟨rfl, hid.out, h2⟩
  · rw [if_neg c, if_neg c] at wo
    have e1 : P.srE R t s i q = 2 := by unfold Pl.srE; rw [if_neg fun y => c y.2]
    have e2 : P.srM R t s i q = R := by unfold Pl.srM; rw [e1]; rfl
    rw [e1, e2]
    have hid := Lib.hid h
    obtain ⟨vp, rfl⟩ := h.ptr
    clear h e1 e2 c hs hq hS
    go_enter Tryz.func23, Tryz.ntmps23
    go_wp2_with (go_at_call 61; refine wo.mono ?_; rintro e w1 ⟨rfl, h1⟩)
    go_ret
    exact ⟨rfl, hid.out.bel h1, h1.exc⟩

end Go.Proofs.YthokalcibjjihaaGreatDoor

/- THE PROGRAM'S BODIES: Refs, Words. -/
namespace Go.Proofs.YthokalcibjjihaaGreatDoor
open Go.ChangeShapes Go.WideShapes Go.ChangeAt Go.RowKit Go.Deep hd
set_option linter.unusedVariables false
variable {w w' : World} {v : Value} {lo hi top : Nat} {R : List (List Nat)} {t : Nat} {P : Pl}

set_option maxHeartbeats 2000000 in
set_option maxRecDepth 10000 in
/-- all references of an object -/
theorem pb_list_ref (s : Int) (hs : i64b' s) (h : IsD w v lo hi top R t P) (hz : P.hdE R t s = 0) :
    Calls Tryz.prog 59 #[.func (.func 25) #[v] #[], .int .i64 s, .int .i64 0, .int .i64 (P.hdR R t s : Nat)] w fun e w' => (∃ lv, e = .returned (.tuple #[lv, .int .i64 (P.refsE R t s)]) ∧ OwnI w.heap.size w' lv (P.refsL R t s)) ∧ Bel w w' := by
  have rf := fun (i : Nat) W (g : Bel w W) => pb_ref s i hs (h.bel g)
  have ra := fun i => Pl.rf_at (P := P) (R := R) (t := t) (s := s) (i := i) hz
  have rs := fun i => Pl.refsTo_succ (P := P) (R := R) (t := t) s i
  have rl := fun i => Pl.refsTo_len (P := P) (R := R) (t := t) s i
  have eok := Pl.refsE_ok (P := P) (R := R) (t := t) (s := s) hz
  have ebad := fun j => Pl.refsE_bad (P := P) (R := R) (t := t) (s := s) (j := j) hz
  have r63 := (Pl.hd_small (P := P) (R := R) (t := t) (s := s)).1
  have eL : P.refsL R t s = if P.refsE R t s = 0 then P.refsTo R t s (P.hdR R t s) else [] := rfl
  have hid := Lib.hid (And.intro ra (And.intro rs (And.intro rl (And.intro eok (And.intro ebad eL)))))
  obtain ⟨vp, rfl⟩ := h.ptr
  clear h ra rs rl eok ebad eL hs hz
  generalize P.refsL R t s = RL at *
  generalize P.refsE R t s = RE at *
  generalize P.refsTo R t s = RT at *
  generalize P.rfR R t s = rfr at *
  generalize P.rfE R t s = rfe at *
  generalize P.okR R t s = okr at *
  generalize P.hdR R t s = HR at *
  have gw := Bel.refl w
  go_enter Tryz.func59, Tryz.ntmps59
  go_wp2
  go_loopw [10, 15] (fun o i wr => ∃ (k : Nat) (op : Option Addr) (on oc : Nat), k ≤ HR ∧ i = .int .i64 (k : Nat) ∧ o = .slice op on oc ∧ Bel w wr ∧ RowKit.Hid (OwnI w.heap.size wr o (RT k) ∧ ∀ j, j < k → okr j)) (fun _ i _ => HR - (intOf i).toNat)
  case atStart => exact ⟨0, _, _, _, Nat.zero_le _, rfl, rfl, gw, Lib.hid ⟨by have e : RT 0 = [] := List.length_eq_zero_iff.1 (hid.out.2.2.1 0); rw [e]; exact OwnI.nil _ _, fun j hj => by omega⟩⟩
  case round =>
    obtain ⟨k, op, on, oc, hk, rfl, rfl, hbr, hinv⟩ := hrel
    have rf1 := rf k wr hbr
    by_cases ck : k < HR
    · have kI : (k : Int) < (HR : Int) := by omega
      have hk63 : k ≤ 63 := by omega
      have hlen := hid.out.2.2.1 k
      obtain ⟨nr, hrfr⟩ : ∃ x, rfr (k : Int) = x := ⟨_, rfl⟩
      rw [hrfr] at rf1
      have hidn := Lib.hid hrfr
      clear hrfr
      rcases hid.out.1 k ck with ⟨o1, o2⟩ | ⟨o1, o2⟩
      · rw [o2] at rf1
        have hido := Lib.hid o1
        clear o1 o2
        go_wp2_with (first
          | (go_at_call 25; refine rf1.mono ?_; rintro e w3 ⟨rfl, h3⟩
             have hO3 := hinv.out.1.bel h3
             have sz3 := (hbr.trans h3).size
             have hid3 := Lib.hid (And.intro hO3 (And.intro h3 sz3))
             clear hO3 h3 sz3)
          | (at_builtin
             refine wpList_oneI rfl (.tmp 30) (.tmp 32) rfl w.heap.size _ (RT k) nr rfl hid3.out.1 rfl (by omega) hid3.out.2.2 ?_
             intro g n1 cap2 w4 hn1 hO4 hB4
             rw [hlen] at hn1
             subst hn1
             have hid4 := Lib.hid (And.intro hO4 hB4)
             clear hO4 hB4))
        go_roundw
        case rel =>
          obtain ⟨hO4, hB4⟩ := hid4.out
          refine ⟨k + 1, _, _, _, by omega, by go_num, rfl, Below.trans hbr (Below.trans (hid3.out.2.1.mono hbr.size) hB4), Lib.hid ⟨?_, fun j hj => ?_⟩⟩
          · rw [hid.out.2.1 k, hidn.out]
            exact hO4
          · by_cases c : j = k
            · rw [c]; exact hido.out
            · exact hinv.out.2 j (by omega)
        case measure => simp only [intOf]; omega
      · have hR : RE = 5 ∧ RL = [] := by
          have r0 := hid.out.2.2.2.2.1 k ck o1
          exact ⟨r0, by rw [hid.out.2.2.2.2.2, if_neg (by omega)]⟩
        obtain ⟨rfl, rfl⟩ := hR
        rw [o2] at rf1
        clear o1 o2
        go_wp2_with (go_at_call 25; refine rf1.mono ?_; rintro e w3 ⟨rfl, h3⟩)
        go_ret2
        exact ⟨⟨_, rfl, OwnI.nil _ _⟩, hbr.trans h3⟩
    · have kI : decide ((k : Int) < (HR : Int)) = false := decide_eq_false (by omega)
      have kI2 : decide (k < HR) = false := decide_eq_false ck
      obtain rfl : k = HR := by omega
      have hR : RE = 0 ∧ RL = RT k := by
        have r0 := hid.out.2.2.2.1 hinv.out.2
        exact ⟨r0, by rw [hid.out.2.2.2.2.2, if_pos r0]⟩
      obtain ⟨rfl, hRL⟩ := hR
      have hidf := Lib.hid hRL
      clear hRL
      go_wp2
      go_ret2
      rw [hidf.out]
      exact ⟨⟨_, rfl, hinv.out.1⟩, hbr⟩

set_option maxHeartbeats 2000000 in
set_option maxRecDepth 10000 in
/-- all words of an object -/
theorem pb_list_word (s : Int) (hs : i64b' s) (h : IsD w v lo hi top R t P) (hz : P.hdE R t s = 0) :
    Calls Tryz.prog 60 #[.func (.func 26) #[v] #[], .int .i64 s, .int .i64 (P.hdR R t s : Nat), .int .i64 (P.hdN R t s : Nat)] w fun e w' => (∃ lv, e = .returned (.tuple #[lv, .int .i64 0]) ∧ mm.Own64 w.heap.size w' lv (P.wordsL R t s)) ∧ Bel w w' := by
  have rf := fun (i : Nat) W (g : Bel w W) => pb_word s ((P.hdR R t s + i : Nat) : Int) hs (h.bel g)
  have rs := fun i => Pl.wordsTo_succ (P := P) (R := R) (t := t) s i
  have rl := fun i => Pl.wordsTo_len (P := P) (R := R) (t := t) s i
  have we := fun i (hi : i < P.hdN R t s) => (Pl.word_each (P := P) (R := R) (t := t) (s := s) (i := i) hz hi)
  have wv : ∀ i, i < P.hdN R t s → P.wdR R t s ((P.hdR R t s + i : Nat) : Int) = P.slW R t s.toNat (1 + P.hdR R t s + i) := fun i hi => by
    unfold Pl.wdR
    rw [if_pos (we i hi).1, Int.toNat_natCast, ← Nat.add_assoc]
  have w0 := fun i (hi : i < P.hdN R t s) => (we i hi).1
  have bd := Pl.hd_okH hz
  have b63 : P.hdR R t s + P.hdN R t s ≤ 63 := by
    obtain ⟨C', R', N', e1, e2, e3, h1, h2⟩ := okH_true bd
    omega
  have eL : P.wordsL R t s = P.wordsTo R t s (P.hdN R t s) := rfl
  rw [eL]
  have hid := Lib.hid (And.intro rs (And.intro rl (And.intro wv w0)))
  obtain ⟨vp, rfl⟩ := h.ptr
  clear h rs rl we wv w0 eL hs hz bd
  generalize P.wordsTo R t s = RT at *
  generalize P.wdR R t s = wr' at *
  generalize P.wdE R t s = we' at *
  generalize P.slW R t s.toNat = sl at *
  generalize P.hdR R t s = HR at *
  generalize P.hdN R t s = HN at *
  have gw := Bel.refl w
  go_enter Tryz.func60, Tryz.ntmps60
  go_wp2
  go_loopw [10, 15] (fun o i wr => ∃ (k : Nat) (op : Option Addr) (on oc : Nat), k ≤ HN ∧ i = .int .i64 (k : Nat) ∧ o = .slice op on oc ∧ Bel w wr ∧ RowKit.Hid (mm.Own64 w.heap.size wr o (RT k))) (fun _ i _ => HN - (intOf i).toNat)
  case atStart => exact ⟨0, _, _, _, Nat.zero_le _, rfl, rfl, gw, Lib.hid (by have e : RT 0 = [] := List.length_eq_zero_iff.1 (hid.out.2.1 0); rw [e]; exact World.ownsRow_nil _ _ _ _)⟩
  case round =>
    obtain ⟨k, op, on, oc, hk, rfl, rfl, hbr, hinv⟩ := hrel
    by_cases ck : k < HN
    · have rf1 := rf k wr hbr
      rw [hid.out.2.2.2 k ck] at rf1
      obtain ⟨u, hu⟩ : ∃ x, wr' ((HR + k : Nat) : Int) = x := ⟨_, rfl⟩
      have hu2 := hid.out.2.2.1 k ck
      rw [hu] at rf1 hu2
      have cI : ((HR + k : Nat) : Int) = (HR : Int) + (k : Int) := by omega
      rw [cI] at rf1
      have kI : (k : Int) < (HN : Int) := by omega
      have hk63 : k ≤ 63 := by omega
      have hR63 : HR ≤ 63 := by omega
      have hlen := hid.out.2.1 k
      have hidn := Lib.hid hu2
      clear hu hu2 cI
      go_wp2_with (first
        | (go_at_call 26; refine rf1.mono ?_; rintro e w3 ⟨rfl, h3⟩
           have hO3 := mm.Own64.bel hinv.out h3
           have sz3 := (hbr.trans h3).size
           have hid3 := Lib.hid (And.intro hO3 (And.intro h3 sz3))
           clear hO3 h3 sz3)
        | (at_builtin
           refine wpList_oneW rfl (.tmp 30) (.tmp 32) rfl w.heap.size _ (RT k) u rfl hid3.out.1 rfl (by omega) hid3.out.2.2 ?_
           intro g n1 cap2 w4 hn1 hO4 hB4
           rw [hlen] at hn1
           subst hn1
           have hid4 := Lib.hid (And.intro hO4 hB4)
           clear hO4 hB4))
      go_roundw
      case rel =>
        obtain ⟨hO4, hB4⟩ := hid4.out
        refine ⟨k + 1, _, _, _, by omega, by go_num, rfl, Below.trans hbr (Below.trans (hid3.out.2.1.mono hbr.size) hB4), Lib.hid ?_⟩
        rw [hid.out.1 k, ← hidn.out]
        exact hO4
      case measure => simp only [intOf]; omega
    · have kI : decide ((k : Int) < (HN : Int)) = false := decide_eq_false (by omega)
      have kI2 : decide (k < HN) = false := decide_eq_false ck
      obtain rfl : k = HN := by omega
      go_wp2
      go_ret2
      exact ⟨⟨_, rfl, hinv.out⟩, hbr⟩

set_option maxHeartbeats 1000000 in
/-- Refs -/
theorem pb_refs (s : Int) (hs : i64b' s) (h : IsD w v lo hi top R t P) :
    Calls Tryz.prog 21 #[v, .int .i64 s] w fun e w' => (∃ lv, e = .returned (.tuple #[lv, .int .i64 (P.refsE R t s)]) ∧ OwnI w.heap.size w' lv (P.refsL R t s)) ∧ Bel w w' := by
  have hd := pb_head s hs h
  by_cases z : P.hdE R t s = 0
  · have li : ∀ W, Bel w W → Calls Tryz.prog 59 #[.func (.func 25) #[v] #[], .int .i64 s, .int .i64 0, .int .i64 (P.hdR R t s : Nat)] W fun e w' => (∃ lv, e = .returned (.tuple #[lv, .int .i64 (P.refsE R t s)]) ∧ OwnI w.heap.size w' lv (P.refsL R t s)) ∧ Bel w w' :=
      fun W g => (pb_list_ref s hs (h.bel g) z).mono fun e w' ⟨⟨lv, x, y⟩, u⟩ => ⟨⟨lv, x, own_low y g.size⟩, g.trans u⟩
    rw [z] at hd
    obtain ⟨vp, rfl⟩ := h.ptr
    clear h hs z
    generalize P.refsL R t s = RL at *
    generalize P.refsE R t s = RE at *
    generalize P.hdC R t s = HC at *
    generalize P.hdR R t s = HR at *
    generalize P.hdN R t s = HN at *
    go_enter Tryz.func21, Tryz.ntmps21
    go_wp2_with (first
      | (go_at_call 29; refine hd.mono ?_; rintro e w1 ⟨rfl, h1⟩; have h2 := h1.alloc (.cells #[.int .i64 (HC : Nat), .int .i64 (HR : Nat), .int .i64 (HN : Nat)] 44))
      | (go_at_call 59; refine (li _ h2).mono ?_; rintro e w3 ⟨⟨lv, rfl, hO⟩, h3⟩
         obtain ⟨p3, c3, rfl⟩ := hO.shape
         have hidO := Lib.hid hO; clear hO))
    go_ret2
    exact ⟨⟨_, rfl, hidO.out⟩, h3⟩
  · have e1 := Pl.refsE_none (P := P) (R := R) (t := t) (s := s) z
    have e2 : P.refsL R t s = [] := by unfold Pl.refsL; rw [if_neg (by rw [e1]; exact z)]
    rw [e1, e2]
    have nz : decide (P.hdE R t s = 0) = false := decide_eq_false z
    have nz2 : (P.hdE R t s == 0) = false := by rw [beq_eq_false_iff_ne]; exact z
    have nz3 : (P.hdE R t s != 0) = true := by rw [bne_iff_ne]; exact z
    obtain ⟨vp, rfl⟩ := h.ptr
    clear h hs e1 e2
    generalize P.hdE R t s = E at *
    generalize P.hdC R t s = HC at *
    generalize P.hdR R t s = HR at *
    generalize P.hdN R t s = HN at *
    go_enter Tryz.func21, Tryz.ntmps21
    go_wp2_with (go_at_call 29; refine hd.mono ?_; rintro e w1 ⟨rfl, h1⟩; have h2 := h1.alloc (.cells #[.int .i64 (HC : Nat), .int .i64 (HR : Nat), .int .i64 (HN : Nat)] 44))
    go_ret2
    exact ⟨⟨_, rfl, OwnI.nil _ _⟩, h2⟩

set_option maxHeartbeats 1000000 in
/-- Words -/
theorem pb_words (s : Int) (hs : i64b' s) (h : IsD w v lo hi top R t P) :
    Calls Tryz.prog 22 #[v, .int .i64 s] w fun e w' => (∃ lv, e = .returned (.tuple #[lv, .int .i64 (P.hdE R t s)]) ∧ mm.Own64 w.heap.size w' lv (P.wordsL R t s)) ∧ Bel w w' := by
  have hd := pb_head s hs h
  by_cases z : P.hdE R t s = 0
  · have li : ∀ W, Bel w W → Calls Tryz.prog 60 #[.func (.func 26) #[v] #[], .int .i64 s, .int .i64 (P.hdR R t s : Nat), .int .i64 (P.hdN R t s : Nat)] W fun e w' => (∃ lv, e = .returned (.tuple #[lv, .int .i64 0]) ∧ mm.Own64 w.heap.size w' lv (P.wordsL R t s)) ∧ Bel w w' :=
      fun W g => (pb_list_word s hs (h.bel g) z).mono fun e w' ⟨⟨lv, x, y⟩, u⟩ => ⟨⟨lv, x, own_low y g.size⟩, g.trans u⟩
    rw [z] at hd ⊢
    obtain ⟨vp, rfl⟩ := h.ptr
    clear h hs z
    generalize P.wordsL R t s = RL at *
    generalize P.hdC R t s = HC at *
    generalize P.hdR R t s = HR at *
    generalize P.hdN R t s = HN at *
    go_enter Tryz.func22, Tryz.ntmps22
    go_wp2_with (first
      | (go_at_call 29; refine hd.mono ?_; rintro e w1 ⟨rfl, h1⟩; have h2 := h1.alloc (.cells #[.int .i64 (HC : Nat), .int .i64 (HR : Nat), .int .i64 (HN : Nat)] 44))
      | (go_at_call 60; refine (li _ h2).mono ?_; rintro e w3 ⟨⟨lv, rfl, hO⟩, h3⟩
         obtain ⟨p3, c3, rfl⟩ := own64_shape hO
         have hidO := Lib.hid hO; clear hO))
    go_ret2
    exact ⟨⟨_, rfl, hidO.out⟩, h3⟩
  · have e2 := (Pl.none_told (P := P) (R := R) (t := t) z).2.1
    rw [e2]
    have nz : decide (P.hdE R t s = 0) = false := decide_eq_false z
    have nz2 : (P.hdE R t s == 0) = false := by rw [beq_eq_false_iff_ne]; exact z
    have nz3 : (P.hdE R t s != 0) = true := by rw [bne_iff_ne]; exact z
    obtain ⟨vp, rfl⟩ := h.ptr
    clear h hs e2
    generalize P.hdE R t s = E at *
    generalize P.hdC R t s = HC at *
    generalize P.hdR R t s = HR at *
    generalize P.hdN R t s = HN at *
    go_enter Tryz.func22, Tryz.ntmps22
    go_wp2_with (go_at_call 29; refine hd.mono ?_; rintro e w1 ⟨rfl, h1⟩; have h2 := h1.alloc (.cells #[.int .i64 (HC : Nat), .int .i64 (HR : Nat), .int .i64 (HN : Nat)] 44))
    go_ret2
    exact ⟨⟨_, rfl, World.ownsRow_nil _ _ _ _⟩, h2⟩

end Go.Proofs.YthokalcibjjihaaGreatDoor

/- THE PROGRAM'S BODIES: New; bodies that are none. -/
namespace Go.Proofs.YthokalcibjjihaaGreatDoor
open Go.ChangeShapes Go.WideShapes Go.ChangeAt Go.RowKit Go.Deep hd
set_option linter.unusedVariables false
variable {w w' : World} {v : Value} {lo hi top : Nat} {R : List (List Nat)} {t : Nat} {P : Pl}

set_option maxHeartbeats 1000000 in
/-- New -/
theorem pb_new {mv : Value} {pb pg off cap : Nat} (hm : mm.IsMem w mv lo hi R) (hh : hi ≤ w.heap.size) (hp : PlanAt w pb pg off cap P) (n1 : ¬ Own lo hi pb) (n2 : ¬ Own lo hi pg) (l0 : 0 < lo) (hT : TabW w) (ok : Bok P R t) :
    Calls Tryz.prog 28 #[mv, .int .i64 (t : Nat), .pointer (some ⟨pb, 0, none⟩)] w fun e w' => (∃ p, e = .returned (.tuple #[.pointer (some p), .int .i64 0]) ∧ ∀ (X : Nat → Prop) (w2 : World), Exc X w' w2 → (∀ k, X k → k < w.heap.size ∧ k ≠ 0 ∧ ¬ Own lo hi k ∧ k ≠ pb ∧ k ≠ pg) → IsD w2 (.pointer (some p)) lo hi w'.heap.size R t P ∧ w2.cell? p = some mv) ∧ Bel w w' := by
  have wd := mm.pm_words mv lo hi R (t : Nat) w hm
  have sl := fun W (g : Bel w W) => (pslots (.pointer (some ⟨pb, 0, none⟩)) P W ⟨pb, pg, off, cap, rfl, hp.bel g⟩ ok.pl).mono fun e w' ⟨x, y⟩ => (⟨x, g.trans y⟩ : _ ∧ Bel w w')
  have wo := fun W (g : Bel w W) => (pwords (.pointer (some ⟨pb, 0, none⟩)) P W ⟨pb, pg, off, cap, rfl, hp.bel g⟩ ok.pl).mono fun e w' ⟨x, y⟩ => (⟨x, g.trans y⟩ : _ ∧ Bel w w')
  have e1 : mm.wordsE R (t : Nat) = 0 := by unfold mm.wordsE; have := ok.reg.1; rw [if_neg (by omega)]
  have e2 : mm.wordsR R (t : Nat) = R.getD t [] := by unfold mm.wordsR; rw [e1, if_pos rfl, Int.toNat_natCast]
  rw [e1, e2] at wd
  have e3 := ok.reg.2
  have o1 := ok.pl.one'.1
  have hmv : ∃ p, mv = .pointer (some p) := by
    obtain ⟨p, g1, k1, g2, k2, rfl, _⟩ := hm
    exact ⟨_, rfl⟩
  obtain ⟨mp, rfl⟩ := hmv
  have fin : ∀ W, Bel w W → ∀ (X : Nat → Prop) (w2 : World), Exc X (W.alloc (.cells #[.pointer (some mp), .int .i64 (t : Nat), .pointer (some ⟨pb, 0, none⟩)] 78)) w2 → (∀ k, X k → k < w.heap.size ∧ k ≠ 0 ∧ ¬ Own lo hi k ∧ k ≠ pb ∧ k ≠ pg) →
      IsD w2 (.pointer (some ⟨W.heap.size, 0, none⟩)) lo hi (W.alloc (.cells #[.pointer (some mp), .int .i64 (t : Nat), .pointer (some ⟨pb, 0, none⟩)] 78)).heap.size R t P ∧ w2.cell? ⟨W.heap.size, 0, none⟩ = some (.pointer (some mp)) := fun W g X w2 gx hx => by
    have g2 := g.alloc (.cells #[.pointer (some mp), .int .i64 (t : Nat), .pointer (some ⟨pb, 0, none⟩)] 78)
    have s := mm.size_alloc1 W (.cells #[.pointer (some mp), .int .i64 (t : Nat), .pointer (some ⟨pb, 0, none⟩)] 78)
    have sz := g.size
    have p1 := hp.1
    have p2 := hp.2.1
    have nb : ¬ X W.heap.size := fun x => by have := (hx _ x).1; omega
    have npb : ¬ X pb := fun x => (hx _ x).2.2.2.1 rfl
    have npg : ¬ X pg := fun x => (hx _ x).2.2.2.2 rfl
    have n0 : ¬ X 0 := fun x => (hx _ x).2.1 rfl
    have hB := blk_of_exc gx (heap_alloc_new W _) nb
    have hp2 := hp.bel g2
    have hm2 := mem_bel hm g2 hh
    have hT2 := hT.bel g2
    refine ⟨?_, (box3 hB).1⟩
    refine ⟨W.heap.size, mp, pb, pg, off, cap, rfl, hB, ⟨by omega, by omega, by omega, by omega, gx.size⟩, ⟨fun x => by have := x.2; omega, n1, n2⟩, l0, hp2.heap gx.size (gx.block pb hp2.1 npb) (gx.block pg hp2.2.1 npg), hm2.keep fun x h1 h2 => gx.block x (by omega) fun y => (hx _ y).2.2.1 ⟨h1, h2⟩, fun j hj => (World.cell?_of_block (gx.block 0 (by omega) n0)).trans (hT2 j hj), ok⟩
  have hid := Lib.hid fin
  clear hm hh hp n1 n2 l0 hT ok e1 e2 fin
  generalize R.getD t [] = row at *
  generalize P.W = V at *
  generalize P.S = S at *
  have d1 : decide ((S : Int) < 1) = false := decide_eq_false (by omega)
  have d2 : decide (S < 1) = false := decide_eq_false (by omega)
  go_enter Tryz.func28, Tryz.ntmps28
  go_wp2_with (first
    | (go_at_call 72; refine wd.mono ?_; rintro e w1 ⟨⟨lv, rfl, hW⟩, h1⟩
       obtain ⟨p1, c1, rfl, _⟩ := hW.slice
       rw [e3]
       clear hW)
    | (go_at_call 73; refine (sl _ h1).mono ?_; rintro e w2 ⟨rfl, h2⟩)
    | (go_at_call 74; refine (wo _ h2).mono ?_; rintro e w3 ⟨rfl, h3⟩))
  go_ret2
  exact ⟨⟨_, rfl, hid.out _ h3⟩, h3.alloc _⟩

/-! Where there is none. -/
theorem mnil_words (q : Int) (w : World) : Calls Tryz.prog 72 #[.pointer none, .int .i64 q] w fun e w' => (∃ p n c, e = .returned (.tuple #[.slice p n c, .int .i64 1])) ∧ Bel w w' := by
  refine (mm.pw_no _ q 1 w fun W g => mm.preg_none _ q W (Or.inl rfl)).mono ?_
  rintro e w' ⟨rfl, g⟩
  exact ⟨⟨_, _, _, rfl⟩, g⟩
/-- of no memory -/
theorem pb_new_nomem (pv : Value) (q : Int) (w : World) : Calls Tryz.prog 28 #[.pointer none, .int .i64 q, pv] w fun e w' => e = .returned (.tuple #[.pointer none, .int .i64 1]) ∧ Bel w w' := by
  have wd := mnil_words q w
  go_enter Tryz.func28, Tryz.ntmps28
  go_wp2_with (go_at_call 72; refine wd.mono ?_; rintro e w1 ⟨⟨p, n, c, rfl⟩, h1⟩)
  go_ret2
  exact ⟨rfl, h1⟩
/-- of no plan -/
theorem pb_new_noplan {mv : Value} (q : Int) (hm : mm.IsMem w mv lo hi R) (h2 : mm.wordsE R q = 0) : Calls Tryz.prog 28 #[mv, .int .i64 q, .pointer none] w fun e w' => e = .returned (.tuple #[.pointer none, .int .i64 1]) ∧ Bel w w' := by
  have wd := mm.pm_words mv lo hi R q w hm
  rw [h2] at wd
  have sl := fun W => pnil_slots W
  obtain ⟨p, g1, k1, g2, k2, rfl, _⟩ := hm
  clear h2
  generalize mm.wordsR R q = L at *
  go_enter Tryz.func28, Tryz.ntmps28
  go_wp2_with (first
    | (go_at_call 72; refine wd.mono ?_; rintro e w1 ⟨⟨lv, rfl, hW⟩, h1⟩
       obtain ⟨p1, c1, rfl, _⟩ := hW.slice
       clear hW)
    | (go_at_call 73; refine (sl _).mono ?_; rintro e w2 ⟨rfl, h2⟩))
  go_ret2
  exact ⟨rfl, h1.trans h2⟩
/-- of a tenant that does not exist -/
theorem pb_new_noten {mv : Value} {pv : Value} (q : Int) (hm : mm.IsMem w mv lo hi R) (h2 : mm.wordsE R q = 2) (hp : IsPlan w pv P) (ok : PlOk P) : Calls Tryz.prog 28 #[mv, .int .i64 q, pv] w fun e w' => e = .returned (.tuple #[.pointer none, .int .i64 2]) ∧ Bel w w' := by
  have wd := mm.pm_words mv lo hi R q w hm
  rw [h2] at wd
  have sl := fun W (g : Bel w W) => (pslots pv P W (hp.bel g) ok).mono fun e w' ⟨x, y⟩ => (⟨x, g.trans y⟩ : _ ∧ Bel w w')
  obtain ⟨p, g1, k1, g2, k2, rfl, _⟩ := hm
  have o1 := ok.one'.1
  obtain ⟨pp, rfl⟩ := hp.ptr
  clear h2 hp ok
  generalize mm.wordsR R q = L at *
  generalize P.S = S at *
  have d1 : decide ((S : Int) < 1) = false := decide_eq_false (by omega)
  have d2 : decide (S < 1) = false := decide_eq_false (by omega)
  go_enter Tryz.func28, Tryz.ntmps28
  go_wp2_with (first
    | (go_at_call 72; refine wd.mono ?_; rintro e w1 ⟨⟨lv, rfl, hW⟩, h1⟩
       obtain ⟨p1, c1, rfl, _⟩ := hW.slice
       clear hW)
    | (go_at_call 73; refine (sl _ h1).mono ?_; rintro e w2 ⟨rfl, h2⟩))
  go_ret2
  exact ⟨rfl, h2⟩

/-- a body that is none: nil, or a body of zeros -/
def NoB (w : World) (v : Value) : Prop := v = .pointer none ∨ ∃ b, v = .pointer (some ⟨b, 0, none⟩) ∧ w.heap[b]? = some (.cells #[.pointer none, .int .i64 0, .pointer none] 78 (0, 0))
theorem NoB.bel (h : NoB w v) (g : Bel w w') : NoB w' v := h.imp id fun ⟨b, e, h⟩ => ⟨b, e, heap_bel g h⟩
theorem nb_exists (h : NoB w v) : Calls Tryz.prog 91 #[v] w fun e w' => e = .returned (.bool false) ∧ Bel w w' := by
  rcases h with rfl | ⟨b, rfl, hb⟩
  · go_enter Tryz.func91, Tryz.ntmps91
    go_wp2
    go_ret
    exact ⟨rfl, Bel.refl _⟩
  · obtain ⟨c0, _⟩ := box3 hb
    clear hb
    go_enter Tryz.func91, Tryz.ntmps91
    go_wp2
    go_ret
    exact ⟨rfl, Bel.refl _⟩
theorem NoB.val (h : NoB w v) : ∃ p, v = .pointer p := by
  rcases h with rfl | ⟨b, rfl, _⟩
  · exact ⟨_, rfl⟩
  · exact ⟨_, rfl⟩
theorem nb_addr (s : Int) (h : NoB w v) : Calls Tryz.prog 53 #[v, .int .i64 s] w fun e w' => e = .returned (.tuple #[.int .i64 0, .int .i64 1]) ∧ Bel w w' := by
  have ex := nb_exists h
  obtain ⟨p, rfl⟩ := h.val
  clear h
  go_enter Tryz.func53, Tryz.ntmps53
  go_wp2_with (go_at_call 91; refine ex.mono ?_; rintro e w1 ⟨rfl, h1⟩)
  go_ret2
  exact ⟨rfl, h1⟩
theorem nb_head (s : Int) (h : NoB w v) : Calls Tryz.prog 29 #[v, .int .i64 s] w fun e w' => e = .returned (.tuple #[.agg #[.int .i64 0, .int .i64 0, .int .i64 0], .int .i64 1]) ∧ Bel w w' := by
  have h0 := (Bel.refl w).alloc (.cells #[.int .i64 0, .int .i64 0, .int .i64 0] 44)
  have hx := heap_alloc_new w (.cells #[.int .i64 0, .int .i64 0, .int .i64 0] 44)
  obtain ⟨W, hW⟩ : ∃ W0, w.alloc (.cells #[.int .i64 0, .int .i64 0, .int .i64 0] 44) = W0 := ⟨_, rfl⟩
  rw [hW] at h0 hx
  have ad := nb_addr s (h.bel h0)
  obtain ⟨p, rfl⟩ := h.val
  have hid := Lib.hid (And.intro hx h0)
  clear h hx h0
  go_enter Tryz.func29, Tryz.ntmps29
  go_upto_region 1 with fail
  (try rw [hW])
  clear hW
  go_wp2_with (go_at_call 53; refine ad.mono ?_; rintro e w1 ⟨rfl, h1⟩; obtain ⟨z0, z1, z2, f0, f1, f2⟩ := box3 (heap_bel h1 hid.out.1))
  (try simp only [Exit.inBlock, Exit.then])
  refine bodyPost_ret (results_cell_row2 rfl _ _ _ 44 _ (0, 0) _ rfl (three_row (heap_bel h1 hid.out.1) _ _ _) Tryz.underlying44 rfl info_head) rfl ?_
  exact ⟨rfl, set_bel3 (hid.out.2.trans h1) (Nat.le_refl _) _ _ _⟩
theorem nb_wipe (s : Int) (h : NoB w v) : Calls Tryz.prog 19 #[v, .int .i64 s] w fun e w' => e = .returned (.int .i64 1) ∧ Bel w w' := by
  have ad := nb_addr s h
  obtain ⟨p, rfl⟩ := h.val
  clear h
  go_enter Tryz.func19, Tryz.ntmps19
  go_wp2_with (go_at_call 53; refine ad.mono ?_; rintro e w1 ⟨rfl, h1⟩)
  go_ret
  exact ⟨rfl, h1⟩
theorem nb_make (s c r n : Int) (h : NoB w v) : Calls Tryz.prog 20 #[v, .int .i64 s, .agg #[.int .i64 c, .int .i64 r, .int .i64 n]] w fun e w' => e = .returned (.int .i64 1) ∧ Bel w w' := by
  have h0 := (Bel.refl w).alloc (.cells #[.int .i64 c, .int .i64 r, .int .i64 n] 44)
  have hd := nb_head s (h.bel h0)
  obtain ⟨p, rfl⟩ := h.val
  clear h
  go_enter Tryz.func20, Tryz.ntmps20
  go_wp2_with (go_at_call 29; refine hd.mono ?_; rintro e w1 ⟨rfl, h1⟩; have h2 := (h0.trans h1).alloc (.cells #[.int .i64 0, .int .i64 0, .int .i64 0] 44))
  go_ret
  exact ⟨rfl, h2⟩
theorem nb_words (s : Int) (h : NoB w v) : Calls Tryz.prog 22 #[v, .int .i64 s] w fun e w' => e = .returned (.tuple #[.slice none 0 0, .int .i64 1]) ∧ Bel w w' := by
  have hd := nb_head s h
  obtain ⟨p, rfl⟩ := h.val
  clear h
  go_enter Tryz.func22, Tryz.ntmps22
  go_wp2_with (go_at_call 29; refine hd.mono ?_; rintro e w1 ⟨rfl, h1⟩; have h2 := h1.alloc (.cells #[.int .i64 0, .int .i64 0, .int .i64 0] 44))
  go_ret2
  exact ⟨rfl, h2⟩
theorem nb_refs (s : Int) (h : NoB w v) : Calls Tryz.prog 21 #[v, .int .i64 s] w fun e w' => e = .returned (.tuple #[.slice none 0 0, .int .i64 1]) ∧ Bel w w' := by
  have hd := nb_head s h
  obtain ⟨p, rfl⟩ := h.val
  clear h
  go_enter Tryz.func21, Tryz.ntmps21
  go_wp2_with (go_at_call 29; refine hd.mono ?_; rintro e w1 ⟨rfl, h1⟩; have h2 := h1.alloc (.cells #[.int .i64 0, .int .i64 0, .int .i64 0] 44))
  go_ret2
  exact ⟨rfl, h2⟩
theorem nb_field (s i : Int) (ref : Bool) (dv : Value) (h : NoB w v) : Calls Tryz.prog 63 #[v, .int .i64 s, .int .i64 i, .bool ref, dv] w fun e w' => e = .returned (.int .i64 1) ∧ Bel w w' := by
  have hd := nb_head s h
  obtain ⟨p, rfl⟩ := h.val
  clear h
  go_enter Tryz.func63, Tryz.ntmps63
  go_wp2_with (go_at_call 29; refine hd.mono ?_; rintro e w1 ⟨rfl, h1⟩; have h2 := h1.alloc (.cells #[.int .i64 0, .int .i64 0, .int .i64 0] 44))
  go_ret
  exact ⟨rfl, h2⟩
theorem nb_ref (s i : Int) (h : NoB w v) : Calls Tryz.prog 25 #[v, .int .i64 s, .int .i64 i] w fun e w' => e = .returned (.tuple #[.int .i64 0, .int .i64 1]) ∧ Bel w w' := by
  have gt : Calls Tryz.prog 64 #[.func (.func 63) #[v] #[], .int .i64 s, .int .i64 i, .bool true, .func (.func 65) #[v] #[]] w fun e w' => e = .returned (.tuple #[.int .i64 0, .int .i64 1]) ∧ Bel w w' := by
    obtain ⟨m0, m1⟩ := two w (.cells #[.func (.func 65) #[v] #[]] 116) (.cells #[.int .i64 0] 3)
    have bt : Bel w _ := bel_two w (.cells #[.func (.func 65) #[v] #[]] 116) (.cells #[.int .i64 0] 3)
    obtain ⟨W, hW⟩ : ∃ W, (w.alloc (.cells #[.func (.func 65) #[v] #[]] 116)).alloc (.cells #[.int .i64 0] 3) = W := ⟨_, rfl⟩
    rw [hW] at m0 m1 bt
    have fd := fun dv => nb_field s i true dv (h.bel bt)
    obtain ⟨p, rfl⟩ := h.val
    have hid := Lib.hid (And.intro bt fun W1 (g : Bel W W1) => heap_bel g m1)
    clear bt m0 m1 h
    go_enter Tryz.func64, Tryz.ntmps64
    go_upto_region 1 with fail
    (try rw [hW])
    clear hW
    go_wp2_with (go_at_call 63; refine (fd _).mono ?_; rintro e w1 ⟨rfl, hb1⟩
                 obtain ⟨f0, c10, W2, hW2, hb2, hE2⟩ := one_store (hid.out.2 _ hb1) (.int .i64 0)
                 have hid2 := Lib.hid (And.intro hb2 hE2)
                 clear hb2 hE2)
    (try simp only [Exit.inBlock, Exit.then])
    refine bodyPost_ret (results_two rfl _ _ (w.heap.size + 1) _ rfl (load_int (cell1 hid2.out.1))) rfl ?_
    exact ⟨by first | rfl | simp, bel_exc (hid.out.1.trans hb1) hid2.out.2 fun k hk => by omega⟩
  obtain ⟨p, rfl⟩ := h.val
  clear h
  go_enter Tryz.func25, Tryz.ntmps25
  go_wp2_with (go_at_call 64; refine gt.mono ?_; rintro e w1 ⟨rfl, h1⟩)
  go_ret2
  exact ⟨rfl, h1⟩
theorem nb_setref (s i q : Int) (h : NoB w v) : Calls Tryz.prog 23 #[v, .int .i64 s, .int .i64 i, .int .i64 q] w fun e w' => e = .returned (.int .i64 1) ∧ Bel w w' := by
  have wo : Calls Tryz.prog 61 #[v, .int .i64 q] w fun e w' => e = .returned (.tuple #[.int .u64 0, .int .i64 1]) ∧ Bel w w' := by
    have ex := nb_exists h
    obtain ⟨p, rfl⟩ := h.val
    clear h
    go_enter Tryz.func61, Tryz.ntmps61
    go_wp2_with (go_at_call 91; refine ex.mono ?_; rintro e w1 ⟨rfl, h1⟩)
    go_ret2
    exact ⟨rfl, h1⟩
  obtain ⟨p, rfl⟩ := h.val
  clear h
  go_enter Tryz.func23, Tryz.ntmps23
  go_wp2_with (go_at_call 61; refine wo.mono ?_; rintro e w1 ⟨rfl, h1⟩)
  go_ret
  exact ⟨rfl, h1⟩
theorem nb_setword (s i : Int) (u : Nat) (h : NoB w v) : Calls Tryz.prog 24 #[v, .int .i64 s, .int .i64 i, .int .u64 (u : Nat)] w fun e w' => e = .returned (.int .i64 1) ∧ Bel w w' := by
  have st : Calls Tryz.prog 62 #[.func (.func 63) #[v] #[], .int .i64 s, .int .i64 i, .bool false, .int .u64 (u : Nat), .func (.func 58) #[v] #[]] w fun e w' => e = .returned (.int .i64 1) ∧ Bel w w' := by
    have bt : Bel w _ := bel_two w (.cells #[.int .u64 (u : Nat)] 42) (.cells #[.func (.func 58) #[v] #[]] 119)
    obtain ⟨W, hW⟩ : ∃ W, (w.alloc (.cells #[.int .u64 (u : Nat)] 42)).alloc (.cells #[.func (.func 58) #[v] #[]] 119) = W := ⟨_, rfl⟩
    rw [hW] at bt
    have fd := fun dv => nb_field s i false dv (h.bel bt)
    obtain ⟨p, rfl⟩ := h.val
    clear h
    go_enter Tryz.func62, Tryz.ntmps62
    go_upto_region 1 with fail
    (try rw [hW])
    clear hW
    go_wp2_with (go_at_call 63; refine (fd _).mono ?_; rintro e w1 ⟨rfl, h1⟩)
    go_ret
    exact ⟨rfl, bt.trans h1⟩
  obtain ⟨p, rfl⟩ := h.val
  clear h
  go_enter Tryz.func24, Tryz.ntmps24
  go_wp2_with (go_at_call 62; refine st.mono ?_; rintro e w1 ⟨rfl, h1⟩)
  go_ret
  exact ⟨rfl, h1⟩

end Go.Proofs.YthokalcibjjihaaGreatDoor
