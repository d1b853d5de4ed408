/- made: an arena of a tenant, and the document's. -/
import Derived.Test.YtjgjomojcocegaaDoorQf
import Derived.Test.YtjgjomojcocegaaDoorQs
import Derived.Test.YtjgjomojcocegaaDoorEx
import Derived.Deep.RegionHeld3
import Derived.Deep.Cut
import Derived.Deep.DeepCutAuto
namespace Go.Proofs.YtjgjomojcocegaaDoor
open Go.ChangeShapes Go.WideShapes Go.ChangeAt Go.RowKit Go.Deep
set_option linter.unusedVariables false

theorem results_tmp_row {P : Program} {fn : Func} {p u : Tmp} {ty : TypeId} (h : fn.results = #[.tmp u, .cell p ty]) (tmps : Array Value) (w : World) (g : Nat) (t : TypeId) (cs : Array Value) (fr : Nat × Nat) (d : TypeDesc)
    (hp : tmps.getD p undef = .pointer (some ⟨g, 0, none⟩)) (hg : w.heap[g]? = some (.cells cs t fr))
    (hu : P.underlying ty = some d) (hd : (match d with | .struct _ | .array _ _ => true | _ => false) = true) (hi : (P.info? ty).map (·.size) = some cs.size) :
    (results fn tmps).run P w = .ok (.tuple #[tmps.getD u undef, .agg cs]) w := by
  have hp' : tmps[p]?.getD undef = .pointer (some ⟨g, 0, none⟩) := by simpa using hp
  simp [results, h, hp', asAddr, run_loadVar_row w g t ty cs fr d hg hu hd hi]

/-- the arena that is none -/
abbrev noArena : Value := .agg #[.slice none 0 0, .slice none 0 0, .slice none 0 0, .int .i64 0, .slice none 0 0, .slice none 0 0]

set_option maxRecDepth 100000 in
set_option maxHeartbeats 4000000 in
theorem made_no (v : Value) (c : Cf) (tn : Nat) (w : World) (h : IsCf w v c) (hno : c.great10 ∨ ¬ c.ok) :
    Calls Tryd.prog 8 #[v, .int .u8 (tn : Nat)] w fun e w' => e = .returned (.tuple #[.pointer none, .agg #[.slice none 0 0, .slice none 0 0, .slice none 0 0, .int .i64 0, .slice none 0 0, .slice none 0 0]]) ∧ Bel w w' := by
  have hI := h
  obtain ⟨vc, vt, rfl, hN, hT⟩ := h
  obtain ⟨p1, c1, rfl, _⟩ := nums_slice hN
  obtain ⟨p2, c2, rfl, _⟩ := tens_slice hT
  clear hN hT
  obtain ⟨s2, hb, m0, m1⟩ := two_at (w := w) (a := .cells #[.slice p1 c.n c1, .int .i64 c.page, .slice p2 c.m c2, .int .i64 c.wk, .int .i64 c.gr, .int .i64 c.gn] 25) (c := .cells #[.slice none 0 0, .slice none 0 0, .slice none 0 0, .int .i64 0, .slice none 0 0, .slice none 0 0] 33) rfl
  obtain ⟨W0, hW0⟩ : ∃ W, (w.alloc (.cells #[.slice p1 c.n c1, .int .i64 c.page, .slice p2 c.m c2, .int .i64 c.wk, .int .i64 c.gr, .int .i64 c.gn] 25)).alloc (.cells #[.slice none 0 0, .slice none 0 0, .slice none 0 0, .int .i64 0, .slice none 0 0, .slice none 0 0] 33) = W := ⟨_, rfl⟩
  rw [hW0] at s2 hb m0 m1
  have gr := great10_any _ c W0 (hI.bel hb)
  have ck := fun W (g : Bel W0 W) => rck_any _ c W (hI.bel (hb.trans g))
  have cc := box6 m0
  obtain ⟨⟨k0, k1, k2, k3, k4, k5⟩, _⟩ := cc
  by_cases s : c.great10
  · rw [decide_eq_true s] at gr
    clear hI s hno ck
    go_enter Tryd.func8, Tryd.ntmps8
    go_upto_region 1 with fail
    (try rw [hW0])
    clear hW0
    go_wp2_with (go_at_call 28; refine gr.mono ?_; rintro e w1 ⟨rfl, hg1⟩; have hx := heap_bel hg1 m1; obtain ⟨⟨z0, z1, z2, z3, z4, z5⟩, f0, f1, f2, f3, f4, f5⟩ := box6 hx)
    (try simp only [Exit.inBlock, Exit.then])
    refine bodyPost_ret (results_tmp_row rfl _ _ _ 33 _ (0, 0) _ rfl (six_row hx _ _ _ _ _ _) Tryd.underlying33 rfl info_ar) rfl ?_
    exact ⟨by simp [Act.put], set_bel6 (hb.trans hg1) (Nat.le_succ _) _ _ _ _ _ _⟩
  · rw [decide_eq_false s] at gr
    have hno := hno.resolve_left s
    rw [Cf.checkC_no hno] at ck
    clear hI s hno
    go_enter Tryd.func8, Tryd.ntmps8
    go_upto_region 1 with fail
    (try rw [hW0])
    clear hW0
    go_wp2_with (first
      | (go_at_call 28; refine gr.mono ?_; rintro e w1 ⟨rfl, hg1⟩; have cc := box6 (heap_bel hg1 m0); obtain ⟨⟨k0, k1, k2, k3, k4, k5⟩, _⟩ := cc; have ck1 := ck _ hg1)
      | (go_at_call 29; refine ck1.mono ?_; rintro e w2 ⟨rfl, hg2⟩; have hx := heap_bel (hg1.trans hg2) m1; obtain ⟨⟨z0, z1, z2, z3, z4, z5⟩, f0, f1, f2, f3, f4, f5⟩ := box6 hx))
    (try simp only [Exit.inBlock, Exit.then])
    refine bodyPost_ret (results_tmp_row rfl _ _ _ 33 _ (0, 0) _ rfl (six_row hx _ _ _ _ _ _) Tryd.underlying33 rfl info_ar) rfl ?_
    exact ⟨by simp [Act.put], set_bel6 (hb.trans (hg1.trans hg2)) (Nat.le_succ _) _ _ _ _ _ _⟩

theorem AvoidQ.or {X Y : Nat → Prop} {v : Value} (h : AvoidQ X v) (g : AvoidQ Y v) : AvoidQ (fun k => X k ∨ Y k) v := fun L F M a b e =>
  have x := h L F M a b e
  have y := g L F M a b e
  ⟨x.1.or y.1, x.2.1.or y.2.1, x.2.2.or y.2.2⟩
theorem AvoidQ.less {X Y : Nat → Prop} {v : Value} (h : AvoidQ X v) (s : ∀ k, Y k → X k) : AvoidQ Y v := fun L F M a b e =>
  have x := h L F M a b e
  ⟨x.1.less s, x.2.1.less s, x.2.2.less s⟩

set_option maxRecDepth 100000 in
set_option maxHeartbeats 4000000 in
theorem made_yes (v : Value) (c : Cf) (tn : Nat) (w : World) (h : IsCf w v c) (hg : ¬ c.great10) (ok : c.ok) (h8 : tn ≤ 255) (ht : Tb w) :
    Calls Tryd.prog 8 #[v, .int .u8 (tn : Nat)] w fun e w' => (∃ pa q lo hi, e = .returned (.tuple #[.pointer (some pa), q]) ∧ IsA w' (.pointer (some pa)) lo lo hi (c.pl (tn % c.m)) (fun _ => false) ∧ IsAr (Own lo hi) w' q (c.pl (tn % c.m)) (fun _ => false) ∧ hi ≤ w'.heap.size ∧ w.heap.size ≤ lo) ∧ Bel w w' := by
  have hI := h
  have m1' := Cf.ok_m ok
  obtain ⟨t, htd⟩ : ∃ t, tn % c.m = t := ⟨_, rfl⟩
  have htm : t < c.m := by rw [← htd]; exact Nat.mod_lt _ (by omega)
  rw [htd]
  have pl := Cf.pl_ok ok htm
  have hST := pl.T1
  obtain ⟨vc, vt, rfl, hN, hT⟩ := h
  obtain ⟨p1, c1, rfl, _⟩ := nums_slice hN
  obtain ⟨p2, c2, rfl, _⟩ := tens_slice hT
  clear hN hT
  obtain ⟨s2, hb, m0, m1⟩ := two_at (w := w) (a := .cells #[.slice p1 c.n c1, .int .i64 c.page, .slice p2 c.m c2, .int .i64 c.wk, .int .i64 c.gr, .int .i64 c.gn] 25) (c := .cells #[.slice none 0 0, .slice none 0 0, .slice none 0 0, .int .i64 0, .slice none 0 0, .slice none 0 0] 33) rfl
  obtain ⟨W0, hW0⟩ : ∃ W, (w.alloc (.cells #[.slice p1 c.n c1, .int .i64 c.page, .slice p2 c.m c2, .int .i64 c.wk, .int .i64 c.gr, .int .i64 c.gn] 25)).alloc (.cells #[.slice none 0 0, .slice none 0 0, .slice none 0 0, .int .i64 0, .slice none 0 0, .slice none 0 0] 33) = W := ⟨_, rfl⟩
  rw [hW0] at s2 hb m0 m1
  have gr := great10_any _ c W0 (hI.bel hb)
  have ck := fun W (g : Bel W0 W) => rck_any _ c W (hI.bel (hb.trans g))
  have nw := fun W (g : Bel W0 W) => pnew_yes _ c t W (hI.bel (hb.trans g)) ok htm
  have rn := fun W (g : Bel W0 W) => rnewp_new _ c t W (hI.bel (hb.trans g)) ok htm
  rw [decide_eq_false hg] at gr
  simp only [Cf.checkC_ok ok] at ck
  have cc := box6 m0
  obtain ⟨⟨k0, k1, k2, k3, k4, k5⟩, _⟩ := cc
  have q1 : IntKind.i64.wrap (tn : Int) = (tn : Int) := by rw [IntKind.wrap_i64]; omega
  have q2 : (tn : Int) % (c.m : Int) = (t : Int) := by rw [← htd]; exact (Int.natCast_emod tn c.m).symm
  have q3 : (tn : Int).tmod (c.m : Int) = (t : Int) := by rw [← q2]; exact Int.tmod_eq_emod_of_nonneg (by omega)
  have q4 : ¬ c.m = 0 := by omega
  have q5 : (c.m : Int) ≠ 0 := by omega
  have q6 : (0 : Int) ≤ (tn : Int) := by omega
  have htb := ht.bel hb
  generalize c.pl t = P at *
  have hid := Lib.hid (And.intro m0 (And.intro m1 (And.intro hb (And.intro pl (And.intro hST htb)))))
  clear hI hg ok m0 m1 hb pl hST htb ht htd htm
  go_enter Tryd.func8, Tryd.ntmps8
  go_upto_region 1 with fail
  (try rw [hW0])
  clear hW0
  go_wp2_with (first
    | (go_at_call 28; refine gr.mono ?_; rintro e w1 ⟨rfl, hg1⟩; have cc := box6 (heap_bel hg1 hid.out.1); obtain ⟨⟨k0, k1, k2, k3, k4, k5⟩, _⟩ := cc; have ck1 := ck _ hg1)
    | (go_at_call 29; refine ck1.mono ?_; rintro e w2 ⟨rfl, hg2⟩; have G2 := hg1.trans hg2; have cc := box6 (heap_bel G2 hid.out.1); obtain ⟨⟨k0, k1, k2, k3, k4, k5⟩, _⟩ := cc; have nw2 := nw _ G2)
    | (go_at_call 30; refine nw2.mono ?_; rintro e w3 ⟨⟨pp, rfl, hP⟩, hg3⟩; have G3 := G2.trans hg3; have cc := box6 (heap_bel G3 hid.out.1); obtain ⟨⟨k0, k1, k2, k3, k4, k5⟩, _⟩ := cc; have rn3 := rn _ G3)
    | (go_at_call 31; refine rn3.mono ?_; rintro e w4 ⟨⟨q4', rfl, hQ, hV⟩, hg4⟩
       have hQ0 := hQ
       obtain ⟨_, _, _, p, cap, rfl, ⟨bl, ol, cl, rfl, hL⟩, hF, hM⟩ := hQ
       obtain ⟨pf, cf, rfl, _⟩ := nums_slice hF
       obtain ⟨pm, cm, rfl, _⟩ := nums_slice hM
       clear hL hF hM
       have al := (Bel.refl w4).alloc (.cells #[.slice (some ⟨bl, ol, none⟩) P.S cl, .slice pf P.T cf, .slice pm P.T cm, .int .i64 (P.W : Nat), .slice p P.n cap] 30)
       have b9 := heap_alloc_new w4 (.cells #[.slice (some ⟨bl, ol, none⟩) P.S cl, .slice pf P.T cf, .slice pm P.T cm, .int .i64 (P.W : Nat), .slice p P.n cap] 30)
       have G5 := (G3.trans hg4).trans al
       have qn := qa_new _ P _ (hP.bel (hg4.trans al)) hid.out.2.2.2.1 (hid.out.2.2.2.2.2.bel G5))
    | (go_at_call 23; refine qn.mono ?_; rintro e w6 ⟨⟨pa, rfl, hA⟩, hg6⟩
       have cc := box5 (heap_bel hg6 b9)
       obtain ⟨⟨x0, x1, x2, x3, x4⟩, _⟩ := cc
       have G6 := G5.trans hg6
       have sz6 := G6.size
       have sz3 := G3.size
       have sz5 := G5.size
       have sz56 := hg6.size
       have rn6 := rnew10 _ P w6 (X := fun k => Own (w4.alloc (.cells #[.slice (some ⟨bl, ol, none⟩) P.S cl, .slice pf P.T cf, .slice pm P.T cm, .int .i64 (P.W : Nat), .slice p P.n cap] 30)).heap.size w6.heap.size k ∨ k = w.heap.size + 1) (fun k hk => by
         rcases hk with hk | hk
         · exact hk.2
         · omega) (((hQ0.bel al).avoid hid.out.2.2.2.2.1.1 hid.out.2.2.2.2.1.2 (fun k hk => hk.1)).or (hV.less fun k hk => by omega)) (hQ0.bel (al.trans hg6)) hid.out.2.2.2.1.2.1
       have l6 := hA.lt)
    | (go_at_call 32; refine rn6.mono ?_; rintro e w7 ⟨⟨q7, rfl, hq7⟩, hg7⟩
       obtain ⟨bl4, ol4, cl4, pf4, cf4, pm4, cm4, p4, cap4, b4, off4, cb4, rfl, _, _⟩ := hq7.shape
       have hx := heap_bel (G6.trans hg7) hid.out.2.1
       have dd := box6 hx
       obtain ⟨⟨z0, z1, z2, z3, z4, z5⟩, f0, f1, f2, f3, f4, f5⟩ := dd
       have hid7 := Lib.hid (And.intro hA (And.intro hq7 (And.intro hg7 G6)))
       clear hA hq7 hg7 G6 rn6))
  (try simp only [Exit.inBlock, Exit.then])
  refine bodyPost_ret (results_tmp_row rfl _ _ _ 33 _ (0, 0) _ rfl (six_row hx _ _ _ _ _ _) Tryd.underlying33 rfl info_ar) rfl ?_
  obtain ⟨hA, hq7, hg7, G6⟩ := hid7.out
  have se := set6_exc w7 (w.heap.size + 1) (.slice (some ⟨bl4, ol4, none⟩) P.S cl4) (.slice pf4 P.T cf4) (.slice pm4 P.T cm4) (.int .i64 (P.W : Nat)) (.slice p4 P.n cap4) (.slice (some ⟨b4, off4, none⟩) P.S cb4)
  have lo := sz5
  refine ⟨⟨pa, _, _, _, by simp [Act.put], (hA.bel hg7).apart hx (fun y => by have := y.1; omega) se, (hq7.exc (se.mono fun k hk => Or.inr hk)).less fun k hk => Or.inl hk, Nat.le_trans hg7.size se.size, ?_⟩, set_bel6 (hid.out.2.2.1.trans (G6.trans hg7)) (Nat.le_succ _) _ _ _ _ _ _⟩
  omega

end Go.Proofs.YtjgjomojcocegaaDoor

/- The example, as a call; the calls whose answers the document fixes (awake). -/
namespace Go.Proofs.YtjgjomojcocegaaDoor
open Go.ChangeShapes Go.WideShapes Go.ChangeAt Go.RowKit Go.Deep
set_option linter.unusedVariables false

def tr0 : Nat → Bool := fun _ => false
def tr1 : Nat → Bool := upd tr0 0 true
def tr2 : Nat → Bool := upd tr1 1 true
def tr3 : Nat → Bool := upd tr2 10 true
def tr4 : Nat → Bool := upd tr3 0 false
def tr5 : Nat → Bool := upd tr4 0 true
theorem exS : exP.S = 15 := by decide
theorem ex_take1 : TakeR exP tr0 0 0 0 tr1 := Or.inr (Or.inl ⟨0, by decide, by decide, rfl, fun j hj => by omega, rfl, rfl, rfl⟩)
theorem ex_take2 : TakeR exP tr1 0 1 0 tr2 := Or.inr (Or.inl ⟨1, by decide, by decide, rfl, fun j hj _ => by
  obtain rfl : j = 0 := by omega
  rfl, rfl, rfl, rfl⟩)
theorem ex_take3 : TakeR exP tr2 1 10 0 tr3 := by
  refine Or.inr (Or.inl ⟨10, by decide, by decide, rfl, fun j hj hc => ?_, rfl, rfl, rfl⟩)
  have h : ∀ j : Fin 10, (exP.cls j : Int) ≠ 1 := by decide
  exact absurd hc (h ⟨j, hj⟩)
theorem ex_give1 : GiveR exP tr3 0 0 tr4 := Or.inr (Or.inr ⟨0, rfl, by decide, rfl, rfl, rfl⟩)
theorem ex_give2 : GiveR exP tr4 0 9 tr4 := Or.inr (Or.inl ⟨0, rfl, by decide, rfl, rfl, rfl⟩)
theorem ex_take4 : TakeR exP tr4 0 0 0 tr5 := Or.inr (Or.inl ⟨0, by decide, by decide, rfl, fun j hj => by omega, rfl, rfl, rfl⟩)
theorem ex_take5 : TakeR exP tr5 2 0 2 tr5 := Or.inl ⟨by decide, rfl, rfl, rfl⟩
theorem ex_give3 : GiveR exP tr5 15 2 tr5 := Or.inl ⟨by decide, rfl, rfl⟩
theorem ex_used : exP.used tr3 exP.S = 8 := by decide
theorem ex_cnt : Pl.cnt tr3 exP.S = 3 := by decide

set_option maxRecDepth 100000 in
set_option maxHeartbeats 2000000 in
theorem ex10_any (w : World) : Calls Tryd.prog 33 #[] w fun e w' => (∃ b1 b2, e = .returned (.agg #[.slice (some ⟨b1, 0, none⟩) 2 2, .int .i64 8, .slice (some ⟨b2, 0, none⟩) 2 2, .int .i64 1, .int .i64 2, .int .i64 3]) ∧ IsCf w' (.agg #[.slice (some ⟨b1, 0, none⟩) 2 2, .int .i64 8, .slice (some ⟨b2, 0, none⟩) 2 2, .int .i64 1, .int .i64 2, .int .i64 3]) (exC 8)) ∧ Bel w w' := by
  go_enter Tryd.func33, Tryd.ntmps33
  go_wp2
  obtain ⟨h1, h2, h3, _, _⟩ := three_at (w := w) (a := (.cells #[.slice (some ⟨w.heap.size + 1, 0, none⟩) 2 2, .int .i64 8, .slice (some ⟨w.heap.size + 1 + 1, 0, none⟩) 2 2, .int .i64 1, .int .i64 2, .int .i64 3] 25)) (c := .cells #[.int .i64 2, .int .i64 4] 3) (d := .cells #[.int .i64 20, .int .i64 8, .int .i64 4, .int .i64 1, .int .i64 4, .int .i64 1, .int .i64 1, .int .i64 0] 44) rfl
  have hm := ex_made (w.alloc (.cells #[.slice (some ⟨w.heap.size + 1, 0, none⟩) 2 2, .int .i64 8, .slice (some ⟨w.heap.size + 1 + 1, 0, none⟩) 2 2, .int .i64 1, .int .i64 2, .int .i64 3] 25)) 8 (Bel.refl _)
  rw [size_alloc1] at hm
  (try simp only [Exit.inBlock, Exit.then])
  refine bodyPost_ret (results_cell_row rfl _ _ w.heap.size 25 _ (0, 0) _ rfl h3 Tryd.underlying25 rfl (by kernel_rfl)) rfl ?_
  exact ⟨⟨_, _, rfl, hm⟩, h2⟩

set_option maxRecDepth 100000 in
set_option maxHeartbeats 4000000 in
theorem awake10_any (w : World) (ht : Tb w) : Calls Tryd.prog 9 #[] w fun e w' => e = .returned (.bool true) ∧ Bel w w' := by
  have exa := ex10_any w
  have tb := ht.pos
  have nw := fun v W (h : IsCf W v (exC 8)) => pnew_yes v (exC 8) 0 W h ex_ok (by decide)
  go_enter Tryd.func9, Tryd.ntmps9
  go_wp2_with (first
    | (go_at_call 33; refine exa.mono ?_; rintro e w1 ⟨⟨b1, b2, rfl, hc1⟩, g1⟩; have nw1 := nw _ w1 hc1)
    | (go_at_call 30; refine nw1.mono ?_; rintro e w2 ⟨⟨p, rfl, hP⟩, g2⟩; have qn := qa_new _ exP w2 hP ex_pl (ht.bel (g1.trans g2)))
    | (go_at_call 23; refine qn.mono ?_; rintro e w3 ⟨⟨pa, rfl, hA3⟩, g3⟩
       have k3 := g1.trans (g2.trans g3)
       have lo3 := (g1.trans g2).size
       have e3 : Exc (Own w2.heap.size w3.heap.size) w w3 := k3.exc
       have t3 := ht.bel k3
       have z3 : ¬ Own w2.heap.size w3.heap.size 0 := fun y => by have := y.1; omega
       have E3 := Exc.refl (Own w2.heap.size w3.heap.size) w3
       have q3 := qa_take _ _ _ _ _ _ w3 hA3 E3.size (t3.exc E3 z3) 0 ⟨by decide, by decide⟩)
    | (go_at_call 14; ((with_reducible refine q3.mono ?_); rintro e w4 ⟨⟨r4, c4, T4, rfl, hT4, hA4⟩, hE4⟩; obtain ⟨rfl, rfl, rfl⟩ := TakeR.det ex_take1 hT4)
       have E4 := Exc.trans E3 hE4
       have q4 := qa_take _ _ _ _ _ _ w4 hA4 E4.size (t3.exc E4 z3) 0 ⟨by decide, by decide⟩
       clear q3)
    | (go_at_call 14; ((with_reducible refine q4.mono ?_); rintro e w5 ⟨⟨r5, c5, T5, rfl, hT5, hA5⟩, hE5⟩; obtain ⟨rfl, rfl, rfl⟩ := TakeR.det ex_take2 hT5)
       have E5 := Exc.trans E4 hE5
       have q5 := qa_take _ _ _ _ _ _ w5 hA5 E5.size (t3.exc E5 z3) 1 ⟨by decide, by decide⟩
       clear q4)
    | (go_at_call 14; ((with_reducible refine q5.mono ?_); rintro e w6 ⟨⟨r6, c6, T6, rfl, hT6, hA6⟩, hE6⟩; obtain ⟨rfl, rfl, rfl⟩ := TakeR.det ex_take3 hT6)
       have E6 := Exc.trans E5 hE6
       have q6 := qa_used _ _ _ _ _ _ w6 hA6 E6.size (t3.exc E6 z3)
       rw [ex_used] at q6
       clear q5)
    | (go_at_call 12; ((with_reducible refine q6.mono ?_); rintro e w7 ⟨rfl, hE7⟩; have hA7 := hA6.bel hE7; have hE7 : Exc (Own w2.heap.size w3.heap.size) w6 w7 := hE7.exc)
       have E7 := Exc.trans E6 hE7
       have q7 := qa_count _ _ _ _ _ _ w7 hA7 E7.size (t3.exc E7 z3)
       rw [ex_cnt] at q7
       clear q6)
    | (go_at_call 25; ((with_reducible refine q7.mono ?_); rintro e w8 ⟨rfl, hE8⟩; have hA8 := hA7.bel hE8; have hE8 : Exc (Own w2.heap.size w3.heap.size) w7 w8 := hE8.exc)
       have E8 := Exc.trans E7 hE8
       have q8 := qa_give _ _ _ _ _ _ w8 hA8 E8.size (t3.exc E8 z3) 0 ⟨by decide, by decide⟩
       clear q7)
    | (go_at_call 24; ((with_reducible refine q8.mono ?_); rintro e w9 ⟨⟨c9, T9, rfl, hT9, hA9⟩, hE9⟩; obtain ⟨rfl, rfl⟩ := GiveR.det ex_give1 hT9)
       have E9 := Exc.trans E8 hE9
       have q9 := qa_give _ _ _ _ _ _ w9 hA9 E9.size (t3.exc E9 z3) 0 ⟨by decide, by decide⟩
       clear q8)
    | (go_at_call 24; ((with_reducible refine q9.mono ?_); rintro e wa ⟨⟨ca, Ta, rfl, hTa, hAa⟩, hEa⟩; obtain ⟨rfl, rfl⟩ := GiveR.det ex_give2 hTa)
       have Ea := Exc.trans E9 hEa
       have qa := qa_take _ _ _ _ _ _ wa hAa Ea.size (t3.exc Ea z3) 0 ⟨by decide, by decide⟩
       clear q9)
    | (go_at_call 14; ((with_reducible refine qa.mono ?_); rintro e wb ⟨⟨rb, cb, Tb, rfl, hTb, hAb⟩, hEb⟩; obtain ⟨rfl, rfl, rfl⟩ := TakeR.det ex_take4 hTb)
       have Eb := Exc.trans Ea hEb
       have qb := qa_take _ _ _ _ _ _ wb hAb Eb.size (t3.exc Eb z3) 2 ⟨by decide, by decide⟩
       clear qa)
    | (go_at_call 14; ((with_reducible refine qb.mono ?_); rintro e wc ⟨⟨rc, cc, Tc, rfl, hTc, hAc⟩, hEc⟩; obtain ⟨rfl, rfl, rfl⟩ := TakeR.det ex_take5 hTc)
       have Ec := Exc.trans Eb hEc
       have qc := qa_give _ _ _ _ _ _ wc hAc Ec.size (t3.exc Ec z3) 15 ⟨by decide, by decide⟩
       clear qb)
    | (go_at_call 24; ((with_reducible refine qc.mono ?_); rintro e wd ⟨⟨cd, Td, rfl, hTd, hAd⟩, hEd⟩; obtain ⟨rfl, rfl⟩ := GiveR.det ex_give3 hTd)
       have Ed := Exc.trans Ec hEd
       clear qc))
  go_ret
  refine ⟨by simp, Below.trans k3 (Exc.below Ed (fun x hx => ?_) k3.size)⟩
  exact Nat.le_trans lo3 hx.1

end Go.Proofs.YtjgjomojcocegaaDoor

/- Acts on arenas, as they lie. -/
namespace Go.Proofs.YtjgjomojcocegaaDoor
open Go.ChangeShapes Go.WideShapes Go.ChangeAt Go.RowKit Go.Deep
set_option linter.unusedVariables false

/-- an act -/
structure Ac where
  wh : Nat
  n : Int
instance : Inhabited Ac := ⟨⟨0, 0⟩⟩
/-- its cells -/
def AcAt (w : World) (b o : Nat) (x : Ac) : Prop := w.cell? ⟨b, o, none⟩ = some (.int .u8 (x.wh : Nat)) ∧ w.cell? ⟨b, o + 1, none⟩ = some (.int .i64 x.n)
theorem AcAt.bel {w w' : World} {b o : Nat} {x : Ac} (h : AcAt w b o x) (g : Bel w w') : AcAt w' b o x := ⟨cell_bel g h.1, cell_bel g h.2⟩
theorem AcAt.exc {X : Nat → Prop} {w w' : World} {b o : Nat} {x : Ac} (h : AcAt w b o x) (g : Exc X w w') (hx : ¬ X b) : AcAt w' b o x := ⟨cell_exc g h.1 hx, cell_exc g h.2 hx⟩
/-- a value that is one -/
def Ac.ok (x : Ac) : Prop := x.wh ≤ 255 ∧ (-9223372036854775808 ≤ x.n ∧ x.n ≤ 9223372036854775807)
/-- a slice of acts -/
def Acts (w : World) (v : Value) (n : Nat) (A : Nat → Ac) : Prop :=
  (n = 0 ∧ ∃ p cap, v = .slice p 0 cap) ∨
  ∃ b off cap, v = .slice (some ⟨b, off, none⟩) n cap ∧ 1 ≤ n ∧ n ≤ cap ∧ cap ≤ 9223372036854775807 ∧ ∀ j, j < n → AcAt w b (off + j * 2) (A j) ∧ (A j).ok
theorem Acts.bel {w w' : World} {v : Value} {n : Nat} {A : Nat → Ac} (h : Acts w v n A) (g : Bel w w') : Acts w' v n A := by
  rcases h with h | ⟨b, off, cap, h1, h2, h3, h4, h5⟩
  · exact Or.inl h
  · exact Or.inr ⟨b, off, cap, h1, h2, h3, h4, fun j hj => ⟨(h5 j hj).1.bel g, (h5 j hj).2⟩⟩
theorem Acts.slice {w : World} {v : Value} {n : Nat} {A : Nat → Ac} (h : Acts w v n A) : ∃ p cap, v = .slice p n cap ∧ n ≤ 9223372036854775807 := by
  rcases h with ⟨rfl, p, cap, rfl⟩ | ⟨b, off, cap, rfl, h1, h2, h3, h4⟩
  · exact ⟨p, cap, rfl, by omega⟩
  · exact ⟨_, cap, rfl, by omega⟩
theorem Acts.at {w : World} {p : Option Addr} {n cap : Nat} {A : Nat → Ac} (h : Acts w (.slice p n cap) n A) {j : Nat} (hj : j < n) :
    ∃ b off, p = some ⟨b, off, none⟩ ∧ b < w.heap.size ∧ AcAt w b (off + j * 2) (A j) ∧ (A j).ok := by
  rcases h with ⟨rfl, _⟩ | ⟨b, off, cap', e, h1, h2, h3, h4⟩
  · omega
  · injection e with e1 e2 e3
    exact ⟨b, off, e1, (cell_block (h4 j hj).1.1).1, h4 j hj⟩

end Go.Proofs.YtjgjomojcocegaaDoor

/- Both arenas in a statement's loop. -/
namespace Go.Proofs.YtjgjomojcocegaaDoor
open Go.ChangeShapes Go.WideShapes Go.ChangeAt Go.RowKit Go.Deep
set_option linter.unusedVariables false

theorem six_store {w : World} {g : Nat} {a b c d e f : Value} {t : TypeId} (h : w.heap[g]? = some (.cells #[a, b, c, d, e, f] t (0, 0))) (a' b' c' d' e' f' : Value) :
    ∃ W, (((((w.setCell ⟨g, 0, none⟩ a').setCell ⟨g, 1, none⟩ b').setCell ⟨g, 2, none⟩ c').setCell ⟨g, 3, none⟩ d').setCell ⟨g, 4, none⟩ e').setCell ⟨g, 5, none⟩ f' = W ∧ W.heap[g]? = some (.cells #[a', b', c', d', e', f'] t (0, 0)) ∧ Exc (fun k => k = g) w W :=
  ⟨_, rfl, six_row h _ _ _ _ _ _, set6_exc w g _ _ _ _ _ _⟩

theorem IsAr.six {X : Nat → Prop} {w : World} {P : Pl} {T : Nat → Bool} {x0 x1 x2 x3 x4 x5 : Value} (h : IsAr X w (.agg #[x0, x1, x2, x3, x4, x5]) P T) : ∃ bl ol cl pf cf pm cm p cap b off cb,
    x0 = .slice (some ⟨bl, ol, none⟩) P.S cl ∧ x1 = .slice pf P.T cf ∧ x2 = .slice pm P.T cm ∧ x3 = .int .i64 (P.W : Nat) ∧ x4 = .slice p P.n cap ∧ x5 = .slice (some ⟨b, off, none⟩) P.S cb := by
  obtain ⟨bl, ol, cl, pf, cf, pm, cm, p, cap, b, off, cb, e, _, _⟩ := h.shape
  injection e with e
  injection e with e
  simp only [List.cons.injEq, and_true] at e
  exact ⟨bl, ol, cl, pf, cf, pm, cm, p, cap, b, off, cb, e⟩

/-- both arenas in a statement's loop: the program's own blocks from lo on below hi, the document's in the box Bq -/
structure Lp (w5 wr : World) (a : Value) (pl lo hi Bq : Nat) (P : Pl) (T : Nat → Bool) (x0 x1 x2 x3 x4 x5 : Value) : Prop where
  mem : IsA wr a pl lo hi P T
  top : hi ≤ Bq
  box : wr.heap[Bq]? = some (.cells #[x0, x1, x2, x3, x4, x5] 33 (0, 0))
  ar : IsAr (fun k => Own lo hi k ∨ k = Bq) wr (.agg #[x0, x1, x2, x3, x4, x5]) P T
  exc : Exc (fun k => Own lo hi k ∨ k = Bq) w5 wr
/-- behind an act, ahead of the store into the document's box -/
structure Mid (wr wx : World) (a : Value) (pl lo hi Bq g : Nat) (P : Pl) (T : Nat → Bool) (x0 x1 x2 x3 x4 x5 : Value) : Prop where
  mem : IsA wx a pl lo hi P T
  exc : Exc (Own lo hi) wr wx
  box : wx.heap[g]? = some (.cells #[x0, x1, x2, x3, x4, x5] 33 (0, 0))
  ar : IsAr (fun k => Own lo hi k ∨ k = Bq) wx (.agg #[x0, x1, x2, x3, x4, x5]) P T
  new : wr.heap.size ≤ g

variable {w5 wr w6 w7 wx : World} {a : Value} {pl lo hi Bq g : Nat} {P : Pl} {T T' : Nat → Bool} {x0 x1 x2 x3 x4 x5 y0 y1 y2 y3 y4 y5 : Value}
theorem Lp.hh (h : Lp w5 wr a pl lo hi Bq P T x0 x1 x2 x3 x4 x5) : hi ≤ wr.heap.size := by
  have := h.top
  have := heap_lt h.box
  omega
theorem Lp.till (h : Lp w5 wr a pl lo hi Bq P T x0 x1 x2 x3 x4 x5) : Till (fun k => Own lo hi k ∨ k = Bq) wr := fun k hk => by
  have := h.hh
  have := heap_lt h.box
  rcases hk with hk | hk
  · have := hk.2; omega
  · omega
theorem Lp.bel {w' : World} (h : Lp w5 wr a pl lo hi Bq P T x0 x1 x2 x3 x4 x5) (g : Bel wr w') : Lp w5 w' a pl lo hi Bq P T x0 x1 x2 x3 x4 x5 := ⟨h.mem.bel g, h.top, heap_bel g h.box, h.ar.bel g, h.exc.trans g.exc⟩
theorem Lp.tb (h : Lp w5 wr a pl lo hi Bq P T x0 x1 x2 x3 x4 x5) (t : Tb w5) : Tb wr := t.exc h.exc fun y => by
  have := h.mem.low
  have := h.mem.lt
  have := h.top
  rcases y with y | y
  · have := y.1; omega
  · omega
/-- the box made behind the act -/
theorem Mid.after (hA : IsA w6 a pl lo hi P T) (hq : IsAr (fun k => Own lo hi k ∨ k = Bq) w6 (.agg #[x0, x1, x2, x3, x4, x5]) P T) (e : Exc (Own lo hi) wr w6) :
    Mid wr (w6.alloc (.cells #[x0, x1, x2, x3, x4, x5] 33)) a pl lo hi Bq w6.heap.size P T x0 x1 x2 x3 x4 x5 :=
  have al := (Bel.refl w6).alloc (.cells #[x0, x1, x2, x3, x4, x5] 33)
  ⟨hA.bel al, e.trans al.exc, heap_alloc_new w6 _, hq.bel al, e.size⟩
/-- the box made ahead of the act -/
theorem Mid.ahead (hA : IsA w6 a pl lo hi P T) (hh : hi ≤ g) (hq : IsAr (fun k => (Own lo hi k ∨ k = Bq) ∨ k = g) w6 (.agg #[x0, x1, x2, x3, x4, x5]) P T) (e : Exc (Own lo hi) wr w7) (hb : w7.heap[g]? = some (.cells #[x0, x1, x2, x3, x4, x5] 33 (0, 0))) (e2 : Exc (fun k => k = g) w6 w7) (hg : wr.heap.size ≤ g) :
    Mid wr w7 a pl lo hi Bq g P T x0 x1 x2 x3 x4 x5 :=
  ⟨hA.exc e2 (fun x hx => by
    have := hA.low
    have := hA.lt
    exact ⟨by omega, fun y => by have := y.2; omega⟩), e, hb, (hq.exc (e2.mono fun k hk => Or.inr hk)).less fun k hk => Or.inl hk, hg⟩
/-- behind an act -/
theorem Lp.step (h : Lp w5 wr a pl lo hi Bq P T x0 x1 x2 x3 x4 x5) (m : Mid wr wx a pl lo hi Bq g P T' y0 y1 y2 y3 y4 y5) (hb : w7.heap[Bq]? = some (.cells #[y0, y1, y2, y3, y4, y5] 33 (0, 0))) (e : Exc (fun k => k = Bq) wx w7) :
    Lp w5 w7 a pl lo hi Bq P T' y0 y1 y2 y3 y4 y5 := by
  have l1 := m.mem.low
  have l2 := m.mem.lt
  have l3 := h.top
  exact ⟨m.mem.exc e (fun x hx => ⟨by omega, fun y => by have := y.2; omega⟩), h.top, hb, m.ar.exc (e.mono fun k hk => Or.inr hk), h.exc.trans ((m.exc.mono fun k hk => Or.inl hk).trans (e.mono fun k hk => Or.inr hk))⟩
/-- at first -/
theorem Lp.start {w4 : World} (hA : IsA w4 a pl lo hi P T) (hq : IsAr (Own lo hi) w4 (.agg #[x0, x1, x2, x3, x4, x5]) P T) (hh : hi ≤ w4.heap.size) :
    Lp (w4.alloc (.cells #[x0, x1, x2, x3, x4, x5] 33)) (w4.alloc (.cells #[x0, x1, x2, x3, x4, x5] 33)) a pl lo hi w4.heap.size P T x0 x1 x2 x3 x4 x5 := by
  have al := (Bel.refl w4).alloc (.cells #[x0, x1, x2, x3, x4, x5] 33)
  have hST := hA.ok.T1
  refine ⟨hA.bel al, hh, heap_alloc_new w4 _, ((hq.old hST.1 hST.2).bel al).less fun k hk => ?_, Exc.refl _ _⟩
  rcases hk with hk | hk
  · exact Or.inl hk
  · exact Or.inr (by omega)

end Go.Proofs.YtjgjomojcocegaaDoor
