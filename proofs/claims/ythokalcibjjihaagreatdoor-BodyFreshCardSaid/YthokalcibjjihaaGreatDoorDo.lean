/- does: an act on a body, and on the document's. -/
import Derived.Test.YthokalcibjjihaaGreatDoorDe
import Derived.Deep.RegionWith
namespace Go.Proofs.YthokalcibjjihaaGreatDoor
open Go.ChangeShapes Go.WideShapes Go.ChangeAt Go.RowKit Go.Deep hd
set_option linter.unusedVariables false
variable {X : Nat → Prop} {w w' : World} {v : Value} {lo hi top : Nat} {R : List (List Nat)} {t : Nat} {P : Pl}

/-- an act -/
structure Ac where
  wh : Nat
  s : Int
  i : Int
  q : Int
  u : Nat
  c : Int
  r : Int
  n : Int
/-- its cells -/
abbrev Ac.cells (A : Ac) : Array Value := #[.int .u8 (A.wh : Nat), .int .i64 A.s, .int .i64 A.i, .int .i64 A.q, .int .u64 (A.u : Nat), .int .i64 A.c, .int .i64 A.r, .int .i64 A.n]
structure Ac.Ok (A : Ac) : Prop where
  wh : A.wh ≤ 255
  s : i64b' A.s
  i : i64b' A.i
  q : i64b' A.q
  u : A.u < 18446744073709551616
  c : i64b A.c
  r : i64b A.r
  n : i64b A.n
/-- what an act may turn of a memory -/
inductive Stp (P : Pl) (R : List (List Nat)) (t : Nat) : List (List Nat) → Prop
  | same : Stp P R t R
  | sref (s i q : Int) : Stp P R t (P.srM R t s i q)
  | sword (s i : Int) (u : Nat) : Stp P R t (P.swM R t s i u)
  | wipe (s : Int) : Stp P R t (P.wpM R t s)
  | make (s c r n : Int) : Stp P R t (P.mkM R t s c r n)
/-- what an act leaves -/
def DoneS (X : Nat → Prop) (w : World) (v : Value) (lo hi top : Nat) (t : Nat) (P : Pl) (R : List (List Nat)) (q' : Value) (w' : World) : Prop := (∃ R', (IsB X w' q' R' t P ∧ IsD w' v lo hi top R' t P) ∧ Stp P R t R') ∧ Exc (Own lo hi) w w'
def Done (X : Nat → Prop) (w : World) (v : Value) (lo hi top : Nat) (t : Nat) (P : Pl) (q' : Value) (w' : World) : Prop := (∃ R', IsB X w' q' R' t P ∧ IsD w' v lo hi top R' t P) ∧ Exc (Own lo hi) w w'
theorem box8 {w : World} {b : Nat} {x0 x1 x2 x3 x4 x5 x6 x7 : Value} {t : TypeId} (h : w.heap[b]? = some (.cells #[x0, x1, x2, x3, x4, x5, x6, x7] t (0, 0))) :
    w.cell? ⟨b, 0, none⟩ = some x0 ∧ w.cell? ⟨b, 1, none⟩ = some x1 ∧ w.cell? ⟨b, 2, none⟩ = some x2 ∧ w.cell? ⟨b, 3, none⟩ = some x3 ∧ w.cell? ⟨b, 4, none⟩ = some x4 ∧ w.cell? ⟨b, 5, none⟩ = some x5 ∧ w.cell? ⟨b, 6, none⟩ = some x6 ∧ w.cell? ⟨b, 7, none⟩ = some x7 :=
  ⟨cell_of_row w b 0 _ _ (0, 0) h, cell_of_row w b 1 _ _ (0, 0) h, cell_of_row w b 2 _ _ (0, 0) h, cell_of_row w b 3 _ _ (0, 0) h, cell_of_row w b 4 _ _ (0, 0) h, cell_of_row w b 5 _ _ (0, 0) h, cell_of_row w b 6 _ _ (0, 0) h, cell_of_row w b 7 _ _ (0, 0) h⟩
theorem blk_exc {Z : Nat → Prop} {w w' : World} (g : Exc Z w w') {k : Nat} {o : Obj} (h : w.heap[k]? = some o) (hk : ¬ Z k) : w'.heap[k]? = some o := (g.block k (heap_lt h) hk).trans h

set_option maxRecDepth 100000 in
set_option maxHeartbeats 4000000 in
theorem does_setref (q : Value) (A : Ac) (hA : A.Ok) (hD : IsD w v lo hi top R t P) (hq : IsB X w q R t P) (hX : Till X w) (hO : ∀ k, Own lo hi k → X k) (hw : A.wh % 7 = 2) :
    Calls Tryz.prog 11 #[v, q, .agg #[.int .u8 (A.wh : Nat), .int .i64 A.s, .int .i64 A.i, .int .i64 A.q, .int .u64 (A.u : Nat), .int .i64 A.c, .int .i64 A.r, .int .i64 A.n]] w fun e w' => ∃ q', e = .returned (.tuple #[q', .bool true]) ∧ DoneS X w v lo hi top t P R q' w' := by
  have ok := hD.ok
  have hqo := (hq.old ok).less (Y := fun k => X k ∨ w.heap.size ≤ k ∧ k < w.heap.size + 3) fun k hk => hk.imp id fun y => y.1
  obtain ⟨pr, cr, bl, ol, cl, pf, cf, pm, cm, p, cap, rfl, _, _, _⟩ := hq.shape
  obtain ⟨pa, rfl⟩ := hD.ptr
  obtain ⟨m0, m1, m2, s3⟩ := mm.three_made w (.cells #[.slice pr R.length cr, .int .i64 (t : Nat), .slice (some ⟨bl, ol, none⟩) P.S cl, .slice pf P.T cf, .slice pm P.T cm, .int .i64 (P.W : Nat), .slice p P.n cap] 36) (.cells #[.int .u8 (A.wh : Nat), .int .i64 A.s, .int .i64 A.i, .int .i64 A.q, .int .u64 (A.u : Nat), .int .i64 A.c, .int .i64 A.r, .int .i64 A.n] 46) (.cells #[.slice none 0 0, .int .i64 0, .slice none 0 0, .slice none 0 0, .slice none 0 0, .int .i64 0, .slice none 0 0] 36)
  have g3 : Bel w _ := (bel_two w (.cells #[.slice pr R.length cr, .int .i64 (t : Nat), .slice (some ⟨bl, ol, none⟩) P.S cl, .slice pf P.T cf, .slice pm P.T cm, .int .i64 (P.W : Nat), .slice p P.n cap] 36) (.cells #[.int .u8 (A.wh : Nat), .int .i64 A.s, .int .i64 A.i, .int .i64 A.q, .int .u64 (A.u : Nat), .int .i64 A.c, .int .i64 A.r, .int .i64 A.n] 46)).alloc (.cells #[.slice none 0 0, .int .i64 0, .slice none 0 0, .slice none 0 0, .slice none 0 0, .int .i64 0, .slice none 0 0] 36)
  obtain ⟨W0, hW0⟩ : ∃ W, ((w.alloc (.cells #[.slice pr R.length cr, .int .i64 (t : Nat), .slice (some ⟨bl, ol, none⟩) P.S cl, .slice pf P.T cf, .slice pm P.T cm, .int .i64 (P.W : Nat), .slice p P.n cap] 36)).alloc (.cells #[.int .u8 (A.wh : Nat), .int .i64 A.s, .int .i64 A.i, .int .i64 A.q, .int .u64 (A.u : Nat), .int .i64 A.c, .int .i64 A.r, .int .i64 A.n] 46)).alloc (.cells #[.slice none 0 0, .int .i64 0, .slice none 0 0, .slice none 0 0, .slice none 0 0, .int .i64 0, .slice none 0 0] 36) = W := ⟨_, rfl⟩
  rw [hW0] at s3 m0 m1 m2 g3
  have hX0 : Till (fun k => X k ∨ w.heap.size ≤ k ∧ k < w.heap.size + 3) W0 := fun k hk => by
    rcases hk with hk | hk
    · have := hX k hk; omega
    · omega
  obtain ⟨tp1, tp2, tp3, tp4⟩ := hD.lims
  obtain ⟨a0, a1, a2, a3, a4, a5, a6, a7⟩ := box8 m1
  obtain ⟨⟨k0, k1, k2, k3, k4, k5, k6⟩, _⟩ := box7 m0
  have rg := rb_setref _ R t P A.s A.i A.q W0 (hqo.bel g3) ok hX0
  have gv := fun W (g : Bel w W) => pb_setref A.s A.i A.q hA.s hA.q (hD.bel g)
  have e2 : (A.wh : Int) % 7 = 2 := by omega
  have hSt := Lib.hid (show Stp P R t (P.srM R t A.s A.i A.q) from Stp.sref _ _ _)
  generalize hR9 : P.srM R t A.s A.i A.q = R9 at *
  generalize P.srE R t A.s A.i A.q = E9 at *
  go_enter Tryz.func11, Tryz.ntmps11
  go_upto_region 1 with fail
  (try rw [hW0])
  clear hW0
  go_upto_region 4 with (go_at_call 37; refine rg.mono ?_; rintro e w4 ⟨⟨q4, rfl, hq4⟩, hg4⟩; obtain ⟨pr4, cr4, bl4, ol4, cl4, pf4, cf4, pm4, cm4, p4, cap4, rfl, _, _, _⟩ := hq4.shape; obtain ⟨a0, a1, a2, a3, a4, a5, a6, a7⟩ := box8 (heap_bel hg4 m1))
  have hg4' := g3.trans hg4
  have ga := (Bel.refl w4).alloc (.cells #[.slice pr4 R9.length cr4, .int .i64 (t : Nat), .slice (some ⟨bl4, ol4, none⟩) P.S cl4, .slice pf4 P.T cf4, .slice pm4 P.T cm4, .int .i64 (P.W : Nat), .slice p4 P.n cap4] 36)
  have b8 := heap_alloc_new w4 (.cells #[.slice pr4 R9.length cr4, .int .i64 (t : Nat), .slice (some ⟨bl4, ol4, none⟩) P.S cl4, .slice pf4 P.T cf4, .slice pm4 P.T cm4, .int .i64 (P.W : Nat), .slice p4 P.n cap4] 36)
  have b6 := heap_bel (hg4.trans ga) m2
  have b5 := heap_bel (hg4.trans ga) m1
  obtain ⟨w5, hw5⟩ : ∃ w5, w4.alloc (.cells #[.slice pr4 R9.length cr4, .int .i64 (t : Nat), .slice (some ⟨bl4, ol4, none⟩) P.S cl4, .slice pf4 P.T cf4, .slice pm4 P.T cm4, .int .i64 (P.W : Nat), .slice p4 P.n cap4] 36) = w5 := ⟨_, rfl⟩
  rw [hw5] at ga b8 b6 b5
  (try rw [hw5])
  have gv1 := gv _ ((hg4'.trans ga).drew)
  have hqa := hq4.bel (ga.drew)
  have sz4 := hg4'.size
  have n8 : ¬ Own lo hi w4.heap.size := fun y => by have := y.2; omega
  have n6 : ¬ Own lo hi (w.heap.size + 2) := fun y => by have := y.2; omega
  have n5 : ¬ Own lo hi (w.heap.size + 1) := fun y => by have := y.2; omega
  have sz0 := hg4.size
  have kk : ∀ W, Exc (fun k => Own lo hi k ∨ k = w.heap.size + 2) w5 W → Exc (fun k => Own lo hi k ∨ k = w.heap.size + 2) w5 W ∧ (W.cell? ⟨w4.heap.size, 0, none⟩ = some (.slice pr4 R9.length cr4) ∧ W.cell? ⟨w4.heap.size, 1, none⟩ = some (.int .i64 (t : Nat)) ∧ W.cell? ⟨w4.heap.size, 2, none⟩ = some (.slice (some ⟨bl4, ol4, none⟩) P.S cl4) ∧ W.cell? ⟨w4.heap.size, 3, none⟩ = some (.slice pf4 P.T cf4) ∧ W.cell? ⟨w4.heap.size, 4, none⟩ = some (.slice pm4 P.T cm4) ∧ W.cell? ⟨w4.heap.size, 5, none⟩ = some (.int .i64 (P.W : Nat)) ∧ W.cell? ⟨w4.heap.size, 6, none⟩ = some (.slice p4 P.n cap4)) ∧
      (W.cell? ⟨w.heap.size + 1, 0, none⟩ = some (.int .u8 (A.wh : Nat)) ∧ W.cell? ⟨w.heap.size + 1, 1, none⟩ = some (.int .i64 A.s) ∧ W.cell? ⟨w.heap.size + 1, 2, none⟩ = some (.int .i64 A.i) ∧ W.cell? ⟨w.heap.size + 1, 3, none⟩ = some (.int .i64 A.q) ∧ W.cell? ⟨w.heap.size + 1, 4, none⟩ = some (.int .u64 (A.u : Nat)) ∧ W.cell? ⟨w.heap.size + 1, 5, none⟩ = some (.int .i64 A.c) ∧ W.cell? ⟨w.heap.size + 1, 6, none⟩ = some (.int .i64 A.r) ∧ W.cell? ⟨w.heap.size + 1, 7, none⟩ = some (.int .i64 A.n)) := fun W g =>
    ⟨g, (box7 (blk_exc g b8 (fun y => y.elim n8 (by omega)))).1, box8 (blk_exc g b5 (fun y => y.elim n5 (by omega)))⟩
  have gE : Exc (Own lo hi) w w5.drew := ((hg4'.trans ga).drew).exc
  have g0 : Exc (fun k => Own lo hi k ∨ k = w.heap.size + 2) w5 w5 := Exc.refl _ _
  have gw5 := Bel.refl w5
  have kd := kk _ (Bel.exc gw5.drew)
  have hid := Lib.hid (And.intro hqa (And.intro gE (And.intro hO (And.intro b6 n6))))
  obtain ⟨_, ⟨x0, x1, x2, x3, x4, x5, x6⟩, a0, a1, a2, a3, a4, a5, a6, a7⟩ := kk _ g0
  have hid1 := Lib.hid (And.intro tp1 (And.intro tp2 (And.intro tp3 tp4)))
  clear hqa gE hO b8 b6 hq4 hg4' hq hqo rg gv g3 m0 m1 m2 hg4 ga hX hD hX0 b5 hw5 n8 n6 n5 sz4 sz0 hR9 ok tp1 tp2 tp3 tp4 s3
  go_region_held3 (fun W => Exc (fun k => Own lo hi k ∨ k = w.heap.size + 2) w5 W ∧ (W.cell? ⟨w4.heap.size, 0, none⟩ = some (.slice pr4 R9.length cr4) ∧ W.cell? ⟨w4.heap.size, 1, none⟩ = some (.int .i64 (t : Nat)) ∧ W.cell? ⟨w4.heap.size, 2, none⟩ = some (.slice (some ⟨bl4, ol4, none⟩) P.S cl4) ∧ W.cell? ⟨w4.heap.size, 3, none⟩ = some (.slice pf4 P.T cf4) ∧ W.cell? ⟨w4.heap.size, 4, none⟩ = some (.slice pm4 P.T cm4) ∧ W.cell? ⟨w4.heap.size, 5, none⟩ = some (.int .i64 (P.W : Nat)) ∧ W.cell? ⟨w4.heap.size, 6, none⟩ = some (.slice p4 P.n cap4)) ∧
      (W.cell? ⟨w.heap.size + 1, 0, none⟩ = some (.int .u8 (A.wh : Nat)) ∧ W.cell? ⟨w.heap.size + 1, 1, none⟩ = some (.int .i64 A.s) ∧ W.cell? ⟨w.heap.size + 1, 2, none⟩ = some (.int .i64 A.i) ∧ W.cell? ⟨w.heap.size + 1, 3, none⟩ = some (.int .i64 A.q) ∧ W.cell? ⟨w.heap.size + 1, 4, none⟩ = some (.int .u64 (A.u : Nat)) ∧ W.cell? ⟨w.heap.size + 1, 5, none⟩ = some (.int .i64 A.c) ∧ W.cell? ⟨w.heap.size + 1, 6, none⟩ = some (.int .i64 A.r) ∧ W.cell? ⟨w.heap.size + 1, 7, none⟩ = some (.int .i64 A.n)))
    (first | with_reducible exact kd | with_reducible exact kk _ (by assumption))
    (first | (go_at_call 23; (with_reducible refine gv1.mono ?_); rintro e w6 ⟨rfl, hD6, hE6⟩
              have G6 : Exc (fun k => Own lo hi k ∨ k = w.heap.size + 2) w5 w6 := Exc.trans (Bel.exc gw5.drew) (hE6.mono fun k hk => Or.inl hk)
              have b6' := blk_exc hE6 hid.out.2.2.2.1 hid.out.2.2.2.2
              obtain ⟨⟨z0, z1, z2, z3, z4, z5, z6⟩, f0, f1, f2, f3, f4, f5, f6⟩ := box7 b6'
              obtain ⟨W7, hW7, hbx7, hE7⟩ := seven_store b6' (.slice pr4 R9.length cr4) (.int .i64 (t : Nat)) (.slice (some ⟨bl4, ol4, none⟩) P.S cl4) (.slice pf4 P.T cf4) (.slice pm4 P.T cm4) (.int .i64 (P.W : Nat)) (.slice p4 P.n cap4)
              have G7 := Exc.trans G6 (hE7.mono (Y := fun k => Own lo hi k ∨ k = w.heap.size + 2) fun k hk => Or.inr hk)
              have hid7 := Lib.hid (And.intro hD6 (And.intro hE6 (And.intro hbx7 hE7)))
              clear hD6 hE6 hbx7 hE7 b6'))
  go_wp2
  (try simp only [Exit.inBlock, Exit.then])
  refine bodyPost_ret (results_cell_row2 rfl _ _ _ 36 _ (0, 0) _ rfl hid7.out.2.2.1 Tryz.underlying36 rfl info_b) rfl ?_
  obtain ⟨hD6, hE6, hbx7, hE7⟩ := hid7.out
  obtain ⟨tp1, tp2, tp3, tp4⟩ := hid1.out
  exact ⟨_, by simp, ⟨R9, ⟨((hid.out.1.exc (hE6.mono fun k hk => Or.inl (hid.out.2.2.1 k hk))).exc (hE7.mono fun k hk => Or.inr (by omega))).less fun k hk => Or.inl hk, hD6.exc hE7 fun k hk => by omega⟩, hSt.out⟩, (hid.out.2.1.trans hE6).tail hE7 fun k hk => by omega⟩

set_option maxRecDepth 100000 in
set_option maxHeartbeats 4000000 in
theorem does_setword (q : Value) (A : Ac) (hA : A.Ok) (hD : IsD w v lo hi top R t P) (hq : IsB X w q R t P) (hX : Till X w) (hO : ∀ k, Own lo hi k → X k) (hw : A.wh % 7 = 3) :
    Calls Tryz.prog 11 #[v, q, .agg #[.int .u8 (A.wh : Nat), .int .i64 A.s, .int .i64 A.i, .int .i64 A.q, .int .u64 (A.u : Nat), .int .i64 A.c, .int .i64 A.r, .int .i64 A.n]] w fun e w' => ∃ q', e = .returned (.tuple #[q', .bool true]) ∧ DoneS X w v lo hi top t P R q' w' := by
  have ok := hD.ok
  have hqo := (hq.old ok).less (Y := fun k => X k ∨ w.heap.size ≤ k ∧ k < w.heap.size + 3) fun k hk => hk.imp id fun y => y.1
  obtain ⟨pr, cr, bl, ol, cl, pf, cf, pm, cm, p, cap, rfl, _, _, _⟩ := hq.shape
  obtain ⟨pa, rfl⟩ := hD.ptr
  obtain ⟨m0, m1, m2, s3⟩ := mm.three_made w (.cells #[.slice pr R.length cr, .int .i64 (t : Nat), .slice (some ⟨bl, ol, none⟩) P.S cl, .slice pf P.T cf, .slice pm P.T cm, .int .i64 (P.W : Nat), .slice p P.n cap] 36) (.cells #[.int .u8 (A.wh : Nat), .int .i64 A.s, .int .i64 A.i, .int .i64 A.q, .int .u64 (A.u : Nat), .int .i64 A.c, .int .i64 A.r, .int .i64 A.n] 46) (.cells #[.slice none 0 0, .int .i64 0, .slice none 0 0, .slice none 0 0, .slice none 0 0, .int .i64 0, .slice none 0 0] 36)
  have g3 : Bel w _ := (bel_two w (.cells #[.slice pr R.length cr, .int .i64 (t : Nat), .slice (some ⟨bl, ol, none⟩) P.S cl, .slice pf P.T cf, .slice pm P.T cm, .int .i64 (P.W : Nat), .slice p P.n cap] 36) (.cells #[.int .u8 (A.wh : Nat), .int .i64 A.s, .int .i64 A.i, .int .i64 A.q, .int .u64 (A.u : Nat), .int .i64 A.c, .int .i64 A.r, .int .i64 A.n] 46)).alloc (.cells #[.slice none 0 0, .int .i64 0, .slice none 0 0, .slice none 0 0, .slice none 0 0, .int .i64 0, .slice none 0 0] 36)
  obtain ⟨W0, hW0⟩ : ∃ W, ((w.alloc (.cells #[.slice pr R.length cr, .int .i64 (t : Nat), .slice (some ⟨bl, ol, none⟩) P.S cl, .slice pf P.T cf, .slice pm P.T cm, .int .i64 (P.W : Nat), .slice p P.n cap] 36)).alloc (.cells #[.int .u8 (A.wh : Nat), .int .i64 A.s, .int .i64 A.i, .int .i64 A.q, .int .u64 (A.u : Nat), .int .i64 A.c, .int .i64 A.r, .int .i64 A.n] 46)).alloc (.cells #[.slice none 0 0, .int .i64 0, .slice none 0 0, .slice none 0 0, .slice none 0 0, .int .i64 0, .slice none 0 0] 36) = W := ⟨_, rfl⟩
  rw [hW0] at s3 m0 m1 m2 g3
  have hX0 : Till (fun k => X k ∨ w.heap.size ≤ k ∧ k < w.heap.size + 3) W0 := fun k hk => by
    rcases hk with hk | hk
    · have := hX k hk; omega
    · omega
  obtain ⟨tp1, tp2, tp3, tp4⟩ := hD.lims
  obtain ⟨a0, a1, a2, a3, a4, a5, a6, a7⟩ := box8 m1
  obtain ⟨⟨k0, k1, k2, k3, k4, k5, k6⟩, _⟩ := box7 m0
  have rg := rb_setword _ R t P A.s A.i A.u W0 (hqo.bel g3) ok hX0
  have gv := fun W (g : Bel w W) => pb_setword A.s A.i A.u hA.s (hD.bel g) hA.u
  have e2 : (A.wh : Int) % 7 = 3 := by omega
  have hSt := Lib.hid (show Stp P R t (P.swM R t A.s A.i A.u) from Stp.sword _ _ _)
  generalize hR9 : P.swM R t A.s A.i A.u = R9 at *
  generalize P.wdE R t A.s A.i = E9 at *
  go_enter Tryz.func11, Tryz.ntmps11
  go_upto_region 1 with fail
  (try rw [hW0])
  clear hW0
  go_upto_region 7 with (go_at_call 38; refine rg.mono ?_; rintro e w4 ⟨⟨q4, rfl, hq4⟩, hg4⟩; obtain ⟨pr4, cr4, bl4, ol4, cl4, pf4, cf4, pm4, cm4, p4, cap4, rfl, _, _, _⟩ := hq4.shape; obtain ⟨a0, a1, a2, a3, a4, a5, a6, a7⟩ := box8 (heap_bel hg4 m1))
  have hg4' := g3.trans hg4
  have ga := (Bel.refl w4).alloc (.cells #[.slice pr4 R9.length cr4, .int .i64 (t : Nat), .slice (some ⟨bl4, ol4, none⟩) P.S cl4, .slice pf4 P.T cf4, .slice pm4 P.T cm4, .int .i64 (P.W : Nat), .slice p4 P.n cap4] 36)
  have b8 := heap_alloc_new w4 (.cells #[.slice pr4 R9.length cr4, .int .i64 (t : Nat), .slice (some ⟨bl4, ol4, none⟩) P.S cl4, .slice pf4 P.T cf4, .slice pm4 P.T cm4, .int .i64 (P.W : Nat), .slice p4 P.n cap4] 36)
  have b6 := heap_bel (hg4.trans ga) m2
  have b5 := heap_bel (hg4.trans ga) m1
  obtain ⟨w5, hw5⟩ : ∃ w5, w4.alloc (.cells #[.slice pr4 R9.length cr4, .int .i64 (t : Nat), .slice (some ⟨bl4, ol4, none⟩) P.S cl4, .slice pf4 P.T cf4, .slice pm4 P.T cm4, .int .i64 (P.W : Nat), .slice p4 P.n cap4] 36) = w5 := ⟨_, rfl⟩
  rw [hw5] at ga b8 b6 b5
  (try rw [hw5])
  have gv1 := gv _ ((hg4'.trans ga).drew)
  have hqa := hq4.bel (ga.drew)
  have sz4 := hg4'.size
  have n8 : ¬ Own lo hi w4.heap.size := fun y => by have := y.2; omega
  have n6 : ¬ Own lo hi (w.heap.size + 2) := fun y => by have := y.2; omega
  have n5 : ¬ Own lo hi (w.heap.size + 1) := fun y => by have := y.2; omega
  have sz0 := hg4.size
  have kk : ∀ W, Exc (fun k => Own lo hi k ∨ k = w.heap.size + 2) w5 W → Exc (fun k => Own lo hi k ∨ k = w.heap.size + 2) w5 W ∧ (W.cell? ⟨w4.heap.size, 0, none⟩ = some (.slice pr4 R9.length cr4) ∧ W.cell? ⟨w4.heap.size, 1, none⟩ = some (.int .i64 (t : Nat)) ∧ W.cell? ⟨w4.heap.size, 2, none⟩ = some (.slice (some ⟨bl4, ol4, none⟩) P.S cl4) ∧ W.cell? ⟨w4.heap.size, 3, none⟩ = some (.slice pf4 P.T cf4) ∧ W.cell? ⟨w4.heap.size, 4, none⟩ = some (.slice pm4 P.T cm4) ∧ W.cell? ⟨w4.heap.size, 5, none⟩ = some (.int .i64 (P.W : Nat)) ∧ W.cell? ⟨w4.heap.size, 6, none⟩ = some (.slice p4 P.n cap4)) ∧
      (W.cell? ⟨w.heap.size + 1, 0, none⟩ = some (.int .u8 (A.wh : Nat)) ∧ W.cell? ⟨w.heap.size + 1, 1, none⟩ = some (.int .i64 A.s) ∧ W.cell? ⟨w.heap.size + 1, 2, none⟩ = some (.int .i64 A.i) ∧ W.cell? ⟨w.heap.size + 1, 3, none⟩ = some (.int .i64 A.q) ∧ W.cell? ⟨w.heap.size + 1, 4, none⟩ = some (.int .u64 (A.u : Nat)) ∧ W.cell? ⟨w.heap.size + 1, 5, none⟩ = some (.int .i64 A.c) ∧ W.cell? ⟨w.heap.size + 1, 6, none⟩ = some (.int .i64 A.r) ∧ W.cell? ⟨w.heap.size + 1, 7, none⟩ = some (.int .i64 A.n)) := fun W g =>
    ⟨g, (box7 (blk_exc g b8 (fun y => y.elim n8 (by omega)))).1, box8 (blk_exc g b5 (fun y => y.elim n5 (by omega)))⟩
  have gE : Exc (Own lo hi) w w5.drew := ((hg4'.trans ga).drew).exc
  have g0 : Exc (fun k => Own lo hi k ∨ k = w.heap.size + 2) w5 w5 := Exc.refl _ _
  have gw5 := Bel.refl w5
  have kd := kk _ (Bel.exc gw5.drew)
  have hid := Lib.hid (And.intro hqa (And.intro gE (And.intro hO (And.intro b6 n6))))
  obtain ⟨_, ⟨x0, x1, x2, x3, x4, x5, x6⟩, a0, a1, a2, a3, a4, a5, a6, a7⟩ := kk _ g0
  have hid1 := Lib.hid (And.intro tp1 (And.intro tp2 (And.intro tp3 tp4)))
  clear hqa gE hO b8 b6 hq4 hg4' hq hqo rg gv g3 m0 m1 m2 hg4 ga hX hD hX0 b5 hw5 n8 n6 n5 sz4 sz0 hR9 ok tp1 tp2 tp3 tp4 s3
  go_region_held3 (fun W => Exc (fun k => Own lo hi k ∨ k = w.heap.size + 2) w5 W ∧ (W.cell? ⟨w4.heap.size, 0, none⟩ = some (.slice pr4 R9.length cr4) ∧ W.cell? ⟨w4.heap.size, 1, none⟩ = some (.int .i64 (t : Nat)) ∧ W.cell? ⟨w4.heap.size, 2, none⟩ = some (.slice (some ⟨bl4, ol4, none⟩) P.S cl4) ∧ W.cell? ⟨w4.heap.size, 3, none⟩ = some (.slice pf4 P.T cf4) ∧ W.cell? ⟨w4.heap.size, 4, none⟩ = some (.slice pm4 P.T cm4) ∧ W.cell? ⟨w4.heap.size, 5, none⟩ = some (.int .i64 (P.W : Nat)) ∧ W.cell? ⟨w4.heap.size, 6, none⟩ = some (.slice p4 P.n cap4)) ∧
      (W.cell? ⟨w.heap.size + 1, 0, none⟩ = some (.int .u8 (A.wh : Nat)) ∧ W.cell? ⟨w.heap.size + 1, 1, none⟩ = some (.int .i64 A.s) ∧ W.cell? ⟨w.heap.size + 1, 2, none⟩ = some (.int .i64 A.i) ∧ W.cell? ⟨w.heap.size + 1, 3, none⟩ = some (.int .i64 A.q) ∧ W.cell? ⟨w.heap.size + 1, 4, none⟩ = some (.int .u64 (A.u : Nat)) ∧ W.cell? ⟨w.heap.size + 1, 5, none⟩ = some (.int .i64 A.c) ∧ W.cell? ⟨w.heap.size + 1, 6, none⟩ = some (.int .i64 A.r) ∧ W.cell? ⟨w.heap.size + 1, 7, none⟩ = some (.int .i64 A.n)))
    (first | with_reducible exact kd | with_reducible exact kk _ (by assumption))
    (first | (go_at_call 24; (with_reducible refine gv1.mono ?_); rintro e w6 ⟨rfl, hD6, hE6⟩
              have G6 : Exc (fun k => Own lo hi k ∨ k = w.heap.size + 2) w5 w6 := Exc.trans (Bel.exc gw5.drew) (hE6.mono fun k hk => Or.inl hk)
              have b6' := blk_exc hE6 hid.out.2.2.2.1 hid.out.2.2.2.2
              obtain ⟨⟨z0, z1, z2, z3, z4, z5, z6⟩, f0, f1, f2, f3, f4, f5, f6⟩ := box7 b6'
              obtain ⟨W7, hW7, hbx7, hE7⟩ := seven_store b6' (.slice pr4 R9.length cr4) (.int .i64 (t : Nat)) (.slice (some ⟨bl4, ol4, none⟩) P.S cl4) (.slice pf4 P.T cf4) (.slice pm4 P.T cm4) (.int .i64 (P.W : Nat)) (.slice p4 P.n cap4)
              have G7 := Exc.trans G6 (hE7.mono (Y := fun k => Own lo hi k ∨ k = w.heap.size + 2) fun k hk => Or.inr hk)
              have hid7 := Lib.hid (And.intro hD6 (And.intro hE6 (And.intro hbx7 hE7)))
              clear hD6 hE6 hbx7 hE7 b6'))
  go_wp2
  (try simp only [Exit.inBlock, Exit.then])
  refine bodyPost_ret (results_cell_row2 rfl _ _ _ 36 _ (0, 0) _ rfl hid7.out.2.2.1 Tryz.underlying36 rfl info_b) rfl ?_
  obtain ⟨hD6, hE6, hbx7, hE7⟩ := hid7.out
  obtain ⟨tp1, tp2, tp3, tp4⟩ := hid1.out
  exact ⟨_, by simp, ⟨R9, ⟨((hid.out.1.exc (hE6.mono fun k hk => Or.inl (hid.out.2.2.1 k hk))).exc (hE7.mono fun k hk => Or.inr (by omega))).less fun k hk => Or.inl hk, hD6.exc hE7 fun k hk => by omega⟩, hSt.out⟩, (hid.out.2.1.trans hE6).tail hE7 fun k hk => by omega⟩

set_option maxRecDepth 100000 in
set_option maxHeartbeats 4000000 in
theorem does_wipe (q : Value) (A : Ac) (hA : A.Ok) (hD : IsD w v lo hi top R t P) (hq : IsB X w q R t P) (hX : Till X w) (hO : ∀ k, Own lo hi k → X k) (hw : A.wh % 7 = 6) :
    Calls Tryz.prog 11 #[v, q, .agg #[.int .u8 (A.wh : Nat), .int .i64 A.s, .int .i64 A.i, .int .i64 A.q, .int .u64 (A.u : Nat), .int .i64 A.c, .int .i64 A.r, .int .i64 A.n]] w fun e w' => ∃ q', e = .returned (.tuple #[q', .bool true]) ∧ DoneS X w v lo hi top t P R q' w' := by
  have ok := hD.ok
  have hqo := (hq.old ok).less (Y := fun k => X k ∨ w.heap.size ≤ k ∧ k < w.heap.size + 3) fun k hk => hk.imp id fun y => y.1
  obtain ⟨pr, cr, bl, ol, cl, pf, cf, pm, cm, p, cap, rfl, _, _, _⟩ := hq.shape
  obtain ⟨pa, rfl⟩ := hD.ptr
  obtain ⟨m0, m1, m2, s3⟩ := mm.three_made w (.cells #[.slice pr R.length cr, .int .i64 (t : Nat), .slice (some ⟨bl, ol, none⟩) P.S cl, .slice pf P.T cf, .slice pm P.T cm, .int .i64 (P.W : Nat), .slice p P.n cap] 36) (.cells #[.int .u8 (A.wh : Nat), .int .i64 A.s, .int .i64 A.i, .int .i64 A.q, .int .u64 (A.u : Nat), .int .i64 A.c, .int .i64 A.r, .int .i64 A.n] 46) (.cells #[.slice none 0 0, .int .i64 0, .slice none 0 0, .slice none 0 0, .slice none 0 0, .int .i64 0, .slice none 0 0] 36)
  have g3 : Bel w _ := (bel_two w (.cells #[.slice pr R.length cr, .int .i64 (t : Nat), .slice (some ⟨bl, ol, none⟩) P.S cl, .slice pf P.T cf, .slice pm P.T cm, .int .i64 (P.W : Nat), .slice p P.n cap] 36) (.cells #[.int .u8 (A.wh : Nat), .int .i64 A.s, .int .i64 A.i, .int .i64 A.q, .int .u64 (A.u : Nat), .int .i64 A.c, .int .i64 A.r, .int .i64 A.n] 46)).alloc (.cells #[.slice none 0 0, .int .i64 0, .slice none 0 0, .slice none 0 0, .slice none 0 0, .int .i64 0, .slice none 0 0] 36)
  obtain ⟨W0, hW0⟩ : ∃ W, ((w.alloc (.cells #[.slice pr R.length cr, .int .i64 (t : Nat), .slice (some ⟨bl, ol, none⟩) P.S cl, .slice pf P.T cf, .slice pm P.T cm, .int .i64 (P.W : Nat), .slice p P.n cap] 36)).alloc (.cells #[.int .u8 (A.wh : Nat), .int .i64 A.s, .int .i64 A.i, .int .i64 A.q, .int .u64 (A.u : Nat), .int .i64 A.c, .int .i64 A.r, .int .i64 A.n] 46)).alloc (.cells #[.slice none 0 0, .int .i64 0, .slice none 0 0, .slice none 0 0, .slice none 0 0, .int .i64 0, .slice none 0 0] 36) = W := ⟨_, rfl⟩
  rw [hW0] at s3 m0 m1 m2 g3
  have hX0 : Till (fun k => X k ∨ w.heap.size ≤ k ∧ k < w.heap.size + 3) W0 := fun k hk => by
    rcases hk with hk | hk
    · have := hX k hk; omega
    · omega
  obtain ⟨tp1, tp2, tp3, tp4⟩ := hD.lims
  obtain ⟨a0, a1, a2, a3, a4, a5, a6, a7⟩ := box8 m1
  obtain ⟨⟨k0, k1, k2, k3, k4, k5, k6⟩, _⟩ := box7 m0
  have rg := rb_wipe _ R t P A.s W0 (hqo.bel g3) ok hX0
  have gv := fun W (g : Bel w W) => pb_wipe A.s hA.s (hD.bel g)
  have e2 : (A.wh : Int) % 7 = 6 := by omega
  have hSt := Lib.hid (show Stp P R t (P.wpM R t A.s) from Stp.wipe _)
  generalize hR9 : P.wpM R t A.s = R9 at *
  generalize P.wpE A.s = E9 at *
  go_enter Tryz.func11, Tryz.ntmps11
  go_upto_region 1 with fail
  (try rw [hW0])
  clear hW0
  go_upto_region 18 with (go_at_call 41; refine rg.mono ?_; rintro e w4 ⟨⟨q4, rfl, hq4⟩, hg4⟩; obtain ⟨pr4, cr4, bl4, ol4, cl4, pf4, cf4, pm4, cm4, p4, cap4, rfl, _, _, _⟩ := hq4.shape; obtain ⟨a0, a1, a2, a3, a4, a5, a6, a7⟩ := box8 (heap_bel hg4 m1))
  have hg4' := g3.trans hg4
  have ga := (Bel.refl w4).alloc (.cells #[.slice pr4 R9.length cr4, .int .i64 (t : Nat), .slice (some ⟨bl4, ol4, none⟩) P.S cl4, .slice pf4 P.T cf4, .slice pm4 P.T cm4, .int .i64 (P.W : Nat), .slice p4 P.n cap4] 36)
  have b8 := heap_alloc_new w4 (.cells #[.slice pr4 R9.length cr4, .int .i64 (t : Nat), .slice (some ⟨bl4, ol4, none⟩) P.S cl4, .slice pf4 P.T cf4, .slice pm4 P.T cm4, .int .i64 (P.W : Nat), .slice p4 P.n cap4] 36)
  have b6 := heap_bel (hg4.trans ga) m2
  have b5 := heap_bel (hg4.trans ga) m1
  obtain ⟨w5, hw5⟩ : ∃ w5, w4.alloc (.cells #[.slice pr4 R9.length cr4, .int .i64 (t : Nat), .slice (some ⟨bl4, ol4, none⟩) P.S cl4, .slice pf4 P.T cf4, .slice pm4 P.T cm4, .int .i64 (P.W : Nat), .slice p4 P.n cap4] 36) = w5 := ⟨_, rfl⟩
  rw [hw5] at ga b8 b6 b5
  (try rw [hw5])
  have gv1 := gv _ ((hg4'.trans ga).drew)
  have hqa := hq4.bel (ga.drew)
  have sz4 := hg4'.size
  have n8 : ¬ Own lo hi w4.heap.size := fun y => by have := y.2; omega
  have n6 : ¬ Own lo hi (w.heap.size + 2) := fun y => by have := y.2; omega
  have n5 : ¬ Own lo hi (w.heap.size + 1) := fun y => by have := y.2; omega
  have sz0 := hg4.size
  have kk : ∀ W, Exc (fun k => Own lo hi k ∨ k = w.heap.size + 2) w5 W → Exc (fun k => Own lo hi k ∨ k = w.heap.size + 2) w5 W ∧ (W.cell? ⟨w4.heap.size, 0, none⟩ = some (.slice pr4 R9.length cr4) ∧ W.cell? ⟨w4.heap.size, 1, none⟩ = some (.int .i64 (t : Nat)) ∧ W.cell? ⟨w4.heap.size, 2, none⟩ = some (.slice (some ⟨bl4, ol4, none⟩) P.S cl4) ∧ W.cell? ⟨w4.heap.size, 3, none⟩ = some (.slice pf4 P.T cf4) ∧ W.cell? ⟨w4.heap.size, 4, none⟩ = some (.slice pm4 P.T cm4) ∧ W.cell? ⟨w4.heap.size, 5, none⟩ = some (.int .i64 (P.W : Nat)) ∧ W.cell? ⟨w4.heap.size, 6, none⟩ = some (.slice p4 P.n cap4)) ∧
      (W.cell? ⟨w.heap.size + 1, 0, none⟩ = some (.int .u8 (A.wh : Nat)) ∧ W.cell? ⟨w.heap.size + 1, 1, none⟩ = some (.int .i64 A.s) ∧ W.cell? ⟨w.heap.size + 1, 2, none⟩ = some (.int .i64 A.i) ∧ W.cell? ⟨w.heap.size + 1, 3, none⟩ = some (.int .i64 A.q) ∧ W.cell? ⟨w.heap.size + 1, 4, none⟩ = some (.int .u64 (A.u : Nat)) ∧ W.cell? ⟨w.heap.size + 1, 5, none⟩ = some (.int .i64 A.c) ∧ W.cell? ⟨w.heap.size + 1, 6, none⟩ = some (.int .i64 A.r) ∧ W.cell? ⟨w.heap.size + 1, 7, none⟩ = some (.int .i64 A.n)) := fun W g =>
    ⟨g, (box7 (blk_exc g b8 (fun y => y.elim n8 (by omega)))).1, box8 (blk_exc g b5 (fun y => y.elim n5 (by omega)))⟩
  have gE : Exc (Own lo hi) w w5.drew := ((hg4'.trans ga).drew).exc
  have g0 : Exc (fun k => Own lo hi k ∨ k = w.heap.size + 2) w5 w5 := Exc.refl _ _
  have gw5 := Bel.refl w5
  have kd := kk _ (Bel.exc gw5.drew)
  have hid := Lib.hid (And.intro hqa (And.intro gE (And.intro hO (And.intro b6 n6))))
  obtain ⟨_, ⟨x0, x1, x2, x3, x4, x5, x6⟩, a0, a1, a2, a3, a4, a5, a6, a7⟩ := kk _ g0
  have hid1 := Lib.hid (And.intro tp1 (And.intro tp2 (And.intro tp3 tp4)))
  clear hqa gE hO b8 b6 hq4 hg4' hq hqo rg gv g3 m0 m1 m2 hg4 ga hX hD hX0 b5 hw5 n8 n6 n5 sz4 sz0 hR9 ok tp1 tp2 tp3 tp4 s3
  go_region_held3 (fun W => Exc (fun k => Own lo hi k ∨ k = w.heap.size + 2) w5 W ∧ (W.cell? ⟨w4.heap.size, 0, none⟩ = some (.slice pr4 R9.length cr4) ∧ W.cell? ⟨w4.heap.size, 1, none⟩ = some (.int .i64 (t : Nat)) ∧ W.cell? ⟨w4.heap.size, 2, none⟩ = some (.slice (some ⟨bl4, ol4, none⟩) P.S cl4) ∧ W.cell? ⟨w4.heap.size, 3, none⟩ = some (.slice pf4 P.T cf4) ∧ W.cell? ⟨w4.heap.size, 4, none⟩ = some (.slice pm4 P.T cm4) ∧ W.cell? ⟨w4.heap.size, 5, none⟩ = some (.int .i64 (P.W : Nat)) ∧ W.cell? ⟨w4.heap.size, 6, none⟩ = some (.slice p4 P.n cap4)) ∧
      (W.cell? ⟨w.heap.size + 1, 0, none⟩ = some (.int .u8 (A.wh : Nat)) ∧ W.cell? ⟨w.heap.size + 1, 1, none⟩ = some (.int .i64 A.s) ∧ W.cell? ⟨w.heap.size + 1, 2, none⟩ = some (.int .i64 A.i) ∧ W.cell? ⟨w.heap.size + 1, 3, none⟩ = some (.int .i64 A.q) ∧ W.cell? ⟨w.heap.size + 1, 4, none⟩ = some (.int .u64 (A.u : Nat)) ∧ W.cell? ⟨w.heap.size + 1, 5, none⟩ = some (.int .i64 A.c) ∧ W.cell? ⟨w.heap.size + 1, 6, none⟩ = some (.int .i64 A.r) ∧ W.cell? ⟨w.heap.size + 1, 7, none⟩ = some (.int .i64 A.n)))
    (first | with_reducible exact kd | with_reducible exact kk _ (by assumption))
    (first | (go_at_call 19; (with_reducible refine gv1.mono ?_); rintro e w6 ⟨rfl, hD6, hE6⟩
              have G6 : Exc (fun k => Own lo hi k ∨ k = w.heap.size + 2) w5 w6 := Exc.trans (Bel.exc gw5.drew) (hE6.mono fun k hk => Or.inl hk)
              have b6' := blk_exc hE6 hid.out.2.2.2.1 hid.out.2.2.2.2
              obtain ⟨⟨z0, z1, z2, z3, z4, z5, z6⟩, f0, f1, f2, f3, f4, f5, f6⟩ := box7 b6'
              obtain ⟨W7, hW7, hbx7, hE7⟩ := seven_store b6' (.slice pr4 R9.length cr4) (.int .i64 (t : Nat)) (.slice (some ⟨bl4, ol4, none⟩) P.S cl4) (.slice pf4 P.T cf4) (.slice pm4 P.T cm4) (.int .i64 (P.W : Nat)) (.slice p4 P.n cap4)
              have G7 := Exc.trans G6 (hE7.mono (Y := fun k => Own lo hi k ∨ k = w.heap.size + 2) fun k hk => Or.inr hk)
              have hid7 := Lib.hid (And.intro hD6 (And.intro hE6 (And.intro hbx7 hE7)))
              clear hD6 hE6 hbx7 hE7 b6'))
  go_wp2
  (try simp only [Exit.inBlock, Exit.then])
  refine bodyPost_ret (results_cell_row2 rfl _ _ _ 36 _ (0, 0) _ rfl hid7.out.2.2.1 Tryz.underlying36 rfl info_b) rfl ?_
  obtain ⟨hD6, hE6, hbx7, hE7⟩ := hid7.out
  obtain ⟨tp1, tp2, tp3, tp4⟩ := hid1.out
  exact ⟨_, by simp, ⟨R9, ⟨((hid.out.1.exc (hE6.mono fun k hk => Or.inl (hid.out.2.2.1 k hk))).exc (hE7.mono fun k hk => Or.inr (by omega))).less fun k hk => Or.inl hk, hD6.exc hE7 fun k hk => by omega⟩, hSt.out⟩, (hid.out.2.1.trans hE6).tail hE7 fun k hk => by omega⟩

set_option maxRecDepth 100000 in
set_option maxHeartbeats 4000000 in
theorem does_make (q : Value) (A : Ac) (hA : A.Ok) (hD : IsD w v lo hi top R t P) (hq : IsB X w q R t P) (hX : Till X w) (hO : ∀ k, Own lo hi k → X k) (hw : A.wh % 7 < 2) :
    Calls Tryz.prog 11 #[v, q, .agg #[.int .u8 (A.wh : Nat), .int .i64 A.s, .int .i64 A.i, .int .i64 A.q, .int .u64 (A.u : Nat), .int .i64 A.c, .int .i64 A.r, .int .i64 A.n]] w fun e w' => ∃ q', e = .returned (.tuple #[q', .bool true]) ∧ DoneS X w v lo hi top t P R q' w' := by
  have ok := hD.ok
  have hqo := (hq.old ok).less (Y := fun k => X k ∨ w.heap.size ≤ k ∧ k < w.heap.size + 3) fun k hk => hk.imp id fun y => y.1
  obtain ⟨pr, cr, bl, ol, cl, pf, cf, pm, cm, p, cap, rfl, _, _, _⟩ := hq.shape
  obtain ⟨pa, rfl⟩ := hD.ptr
  obtain ⟨m0, m1, m2, s3⟩ := mm.three_made w (.cells #[.slice pr R.length cr, .int .i64 (t : Nat), .slice (some ⟨bl, ol, none⟩) P.S cl, .slice pf P.T cf, .slice pm P.T cm, .int .i64 (P.W : Nat), .slice p P.n cap] 36) (.cells #[.int .u8 (A.wh : Nat), .int .i64 A.s, .int .i64 A.i, .int .i64 A.q, .int .u64 (A.u : Nat), .int .i64 A.c, .int .i64 A.r, .int .i64 A.n] 46) (.cells #[.slice none 0 0, .int .i64 0, .slice none 0 0, .slice none 0 0, .slice none 0 0, .int .i64 0, .slice none 0 0] 36)
  have g3 : Bel w _ := (bel_two w (.cells #[.slice pr R.length cr, .int .i64 (t : Nat), .slice (some ⟨bl, ol, none⟩) P.S cl, .slice pf P.T cf, .slice pm P.T cm, .int .i64 (P.W : Nat), .slice p P.n cap] 36) (.cells #[.int .u8 (A.wh : Nat), .int .i64 A.s, .int .i64 A.i, .int .i64 A.q, .int .u64 (A.u : Nat), .int .i64 A.c, .int .i64 A.r, .int .i64 A.n] 46)).alloc (.cells #[.slice none 0 0, .int .i64 0, .slice none 0 0, .slice none 0 0, .slice none 0 0, .int .i64 0, .slice none 0 0] 36)
  obtain ⟨W0, hW0⟩ : ∃ W, ((w.alloc (.cells #[.slice pr R.length cr, .int .i64 (t : Nat), .slice (some ⟨bl, ol, none⟩) P.S cl, .slice pf P.T cf, .slice pm P.T cm, .int .i64 (P.W : Nat), .slice p P.n cap] 36)).alloc (.cells #[.int .u8 (A.wh : Nat), .int .i64 A.s, .int .i64 A.i, .int .i64 A.q, .int .u64 (A.u : Nat), .int .i64 A.c, .int .i64 A.r, .int .i64 A.n] 46)).alloc (.cells #[.slice none 0 0, .int .i64 0, .slice none 0 0, .slice none 0 0, .slice none 0 0, .int .i64 0, .slice none 0 0] 36) = W := ⟨_, rfl⟩
  rw [hW0] at s3 m0 m1 m2 g3
  have hX0 : Till (fun k => X k ∨ w.heap.size ≤ k ∧ k < w.heap.size + 3) W0 := fun k hk => by
    rcases hk with hk | hk
    · have := hX k hk; omega
    · omega
  obtain ⟨tp1, tp2, tp3, tp4⟩ := hD.lims
  obtain ⟨a0, a1, a2, a3, a4, a5, a6, a7⟩ := box8 m1
  obtain ⟨⟨k0, k1, k2, k3, k4, k5, k6⟩, _⟩ := box7 m0
  have rg := rb_make _ R t P A.s A.c A.r A.n W0 (hqo.bel g3) ok hX0 hA.c hA.r hA.n
  have gv := fun W (g : Bel w W) => pb_make A.s A.c A.r A.n hA.s hA.c hA.r hA.n (hD.bel g)
  have e2 : ((A.wh : Int) % 7 == 2) = false := by rw [beq_eq_false_iff_ne]; omega
  have d2 : decide ((A.wh : Int) % 7 = 2) = false := decide_eq_false (by omega)
  have n2 : ¬ ((A.wh : Int) % 7 = 2) := by omega
  have e3 : ((A.wh : Int) % 7 == 3) = false := by rw [beq_eq_false_iff_ne]; omega
  have d3 : decide ((A.wh : Int) % 7 = 3) = false := decide_eq_false (by omega)
  have n3 : ¬ ((A.wh : Int) % 7 = 3) := by omega
  have e4 : ((A.wh : Int) % 7 == 4) = false := by rw [beq_eq_false_iff_ne]; omega
  have d4 : decide ((A.wh : Int) % 7 = 4) = false := decide_eq_false (by omega)
  have n4 : ¬ ((A.wh : Int) % 7 = 4) := by omega
  have e5 : ((A.wh : Int) % 7 == 5) = false := by rw [beq_eq_false_iff_ne]; omega
  have d5 : decide ((A.wh : Int) % 7 = 5) = false := decide_eq_false (by omega)
  have n5 : ¬ ((A.wh : Int) % 7 = 5) := by omega
  have e6 : ((A.wh : Int) % 7 == 6) = false := by rw [beq_eq_false_iff_ne]; omega
  have d6 : decide ((A.wh : Int) % 7 = 6) = false := decide_eq_false (by omega)
  have n6 : ¬ ((A.wh : Int) % 7 = 6) := by omega
  have hSt := Lib.hid (show Stp P R t (P.mkM R t A.s A.c A.r A.n) from Stp.make _ _ _ _)
  generalize hR9 : P.mkM R t A.s A.c A.r A.n = R9 at *
  generalize P.mkE R t A.s A.c A.r A.n = E9 at *
  go_enter Tryz.func11, Tryz.ntmps11
  go_upto_region 1 with fail
  (try rw [hW0])
  clear hW0
  go_upto_region 20 with (go_at_call 42; refine rg.mono ?_; rintro e w4 ⟨⟨q4, rfl, hq4⟩, hg4⟩; obtain ⟨pr4, cr4, bl4, ol4, cl4, pf4, cf4, pm4, cm4, p4, cap4, rfl, _, _, _⟩ := hq4.shape; obtain ⟨a0, a1, a2, a3, a4, a5, a6, a7⟩ := box8 (heap_bel hg4 m1))
  have hg4' := g3.trans hg4
  have ga := (Bel.refl w4).alloc (.cells #[.slice pr4 R9.length cr4, .int .i64 (t : Nat), .slice (some ⟨bl4, ol4, none⟩) P.S cl4, .slice pf4 P.T cf4, .slice pm4 P.T cm4, .int .i64 (P.W : Nat), .slice p4 P.n cap4] 36)
  have b8 := heap_alloc_new w4 (.cells #[.slice pr4 R9.length cr4, .int .i64 (t : Nat), .slice (some ⟨bl4, ol4, none⟩) P.S cl4, .slice pf4 P.T cf4, .slice pm4 P.T cm4, .int .i64 (P.W : Nat), .slice p4 P.n cap4] 36)
  have b6 := heap_bel (hg4.trans ga) m2
  have b5 := heap_bel (hg4.trans ga) m1
  obtain ⟨w5, hw5⟩ : ∃ w5, w4.alloc (.cells #[.slice pr4 R9.length cr4, .int .i64 (t : Nat), .slice (some ⟨bl4, ol4, none⟩) P.S cl4, .slice pf4 P.T cf4, .slice pm4 P.T cm4, .int .i64 (P.W : Nat), .slice p4 P.n cap4] 36) = w5 := ⟨_, rfl⟩
  rw [hw5] at ga b8 b6 b5
  (try rw [hw5])
  have gv1 := gv _ ((hg4'.trans ga).drew)
  have hqa := hq4.bel (ga.drew)
  have sz4 := hg4'.size
  have n8 : ¬ Own lo hi w4.heap.size := fun y => by have := y.2; omega
  have n6 : ¬ Own lo hi (w.heap.size + 2) := fun y => by have := y.2; omega
  have n5 : ¬ Own lo hi (w.heap.size + 1) := fun y => by have := y.2; omega
  have sz0 := hg4.size
  have kk : ∀ W, Exc (fun k => Own lo hi k ∨ k = w.heap.size + 2) w5 W → Exc (fun k => Own lo hi k ∨ k = w.heap.size + 2) w5 W ∧ (W.cell? ⟨w4.heap.size, 0, none⟩ = some (.slice pr4 R9.length cr4) ∧ W.cell? ⟨w4.heap.size, 1, none⟩ = some (.int .i64 (t : Nat)) ∧ W.cell? ⟨w4.heap.size, 2, none⟩ = some (.slice (some ⟨bl4, ol4, none⟩) P.S cl4) ∧ W.cell? ⟨w4.heap.size, 3, none⟩ = some (.slice pf4 P.T cf4) ∧ W.cell? ⟨w4.heap.size, 4, none⟩ = some (.slice pm4 P.T cm4) ∧ W.cell? ⟨w4.heap.size, 5, none⟩ = some (.int .i64 (P.W : Nat)) ∧ W.cell? ⟨w4.heap.size, 6, none⟩ = some (.slice p4 P.n cap4)) ∧
      (W.cell? ⟨w.heap.size + 1, 0, none⟩ = some (.int .u8 (A.wh : Nat)) ∧ W.cell? ⟨w.heap.size + 1, 1, none⟩ = some (.int .i64 A.s) ∧ W.cell? ⟨w.heap.size + 1, 2, none⟩ = some (.int .i64 A.i) ∧ W.cell? ⟨w.heap.size + 1, 3, none⟩ = some (.int .i64 A.q) ∧ W.cell? ⟨w.heap.size + 1, 4, none⟩ = some (.int .u64 (A.u : Nat)) ∧ W.cell? ⟨w.heap.size + 1, 5, none⟩ = some (.int .i64 A.c) ∧ W.cell? ⟨w.heap.size + 1, 6, none⟩ = some (.int .i64 A.r) ∧ W.cell? ⟨w.heap.size + 1, 7, none⟩ = some (.int .i64 A.n)) := fun W g =>
    ⟨g, (box7 (blk_exc g b8 (fun y => y.elim n8 (by omega)))).1, box8 (blk_exc g b5 (fun y => y.elim n5 (by omega)))⟩
  have gE : Exc (Own lo hi) w w5.drew := ((hg4'.trans ga).drew).exc
  have g0 : Exc (fun k => Own lo hi k ∨ k = w.heap.size + 2) w5 w5 := Exc.refl _ _
  have gw5 := Bel.refl w5
  have kd := kk _ (Bel.exc gw5.drew)
  have hid := Lib.hid (And.intro hqa (And.intro gE (And.intro hO (And.intro b6 n6))))
  obtain ⟨_, ⟨x0, x1, x2, x3, x4, x5, x6⟩, a0, a1, a2, a3, a4, a5, a6, a7⟩ := kk _ g0
  have hid1 := Lib.hid (And.intro tp1 (And.intro tp2 (And.intro tp3 tp4)))
  clear hqa gE hO b8 b6 hq4 hg4' hq hqo rg gv g3 m0 m1 m2 hg4 ga hX hD hX0 b5 hw5 n8 n6 n5 sz4 sz0 hR9 ok tp1 tp2 tp3 tp4 s3
  go_region_held3 (fun W => Exc (fun k => Own lo hi k ∨ k = w.heap.size + 2) w5 W ∧ (W.cell? ⟨w4.heap.size, 0, none⟩ = some (.slice pr4 R9.length cr4) ∧ W.cell? ⟨w4.heap.size, 1, none⟩ = some (.int .i64 (t : Nat)) ∧ W.cell? ⟨w4.heap.size, 2, none⟩ = some (.slice (some ⟨bl4, ol4, none⟩) P.S cl4) ∧ W.cell? ⟨w4.heap.size, 3, none⟩ = some (.slice pf4 P.T cf4) ∧ W.cell? ⟨w4.heap.size, 4, none⟩ = some (.slice pm4 P.T cm4) ∧ W.cell? ⟨w4.heap.size, 5, none⟩ = some (.int .i64 (P.W : Nat)) ∧ W.cell? ⟨w4.heap.size, 6, none⟩ = some (.slice p4 P.n cap4)) ∧
      (W.cell? ⟨w.heap.size + 1, 0, none⟩ = some (.int .u8 (A.wh : Nat)) ∧ W.cell? ⟨w.heap.size + 1, 1, none⟩ = some (.int .i64 A.s) ∧ W.cell? ⟨w.heap.size + 1, 2, none⟩ = some (.int .i64 A.i) ∧ W.cell? ⟨w.heap.size + 1, 3, none⟩ = some (.int .i64 A.q) ∧ W.cell? ⟨w.heap.size + 1, 4, none⟩ = some (.int .u64 (A.u : Nat)) ∧ W.cell? ⟨w.heap.size + 1, 5, none⟩ = some (.int .i64 A.c) ∧ W.cell? ⟨w.heap.size + 1, 6, none⟩ = some (.int .i64 A.r) ∧ W.cell? ⟨w.heap.size + 1, 7, none⟩ = some (.int .i64 A.n)))
    (first | with_reducible exact kd | with_reducible exact kk _ (by assumption))
    (first | (go_at_call 20; (with_reducible refine gv1.mono ?_); rintro e w6 ⟨rfl, hD6, hE6⟩
              have G6 : Exc (fun k => Own lo hi k ∨ k = w.heap.size + 2) w5 w6 := Exc.trans (Bel.exc gw5.drew) (hE6.mono fun k hk => Or.inl hk)
              have b6' := blk_exc hE6 hid.out.2.2.2.1 hid.out.2.2.2.2
              obtain ⟨⟨z0, z1, z2, z3, z4, z5, z6⟩, f0, f1, f2, f3, f4, f5, f6⟩ := box7 b6'
              obtain ⟨W7, hW7, hbx7, hE7⟩ := seven_store b6' (.slice pr4 R9.length cr4) (.int .i64 (t : Nat)) (.slice (some ⟨bl4, ol4, none⟩) P.S cl4) (.slice pf4 P.T cf4) (.slice pm4 P.T cm4) (.int .i64 (P.W : Nat)) (.slice p4 P.n cap4)
              have G7 := Exc.trans G6 (hE7.mono (Y := fun k => Own lo hi k ∨ k = w.heap.size + 2) fun k hk => Or.inr hk)
              have hid7 := Lib.hid (And.intro hD6 (And.intro hE6 (And.intro hbx7 hE7)))
              clear hD6 hE6 hbx7 hE7 b6'))
  go_wp2
  (try simp only [Exit.inBlock, Exit.then])
  refine bodyPost_ret (results_cell_row2 rfl _ _ _ 36 _ (0, 0) _ rfl hid7.out.2.2.1 Tryz.underlying36 rfl info_b) rfl ?_
  obtain ⟨hD6, hE6, hbx7, hE7⟩ := hid7.out
  obtain ⟨tp1, tp2, tp3, tp4⟩ := hid1.out
  exact ⟨_, by simp, ⟨R9, ⟨((hid.out.1.exc (hE6.mono fun k hk => Or.inl (hid.out.2.2.1 k hk))).exc (hE7.mono fun k hk => Or.inr (by omega))).less fun k hk => Or.inl hk, hD6.exc hE7 fun k hk => by omega⟩, hSt.out⟩, (hid.out.2.1.trans hE6).tail hE7 fun k hk => by omega⟩

set_option maxRecDepth 100000 in
set_option maxHeartbeats 4000000 in
theorem does_ref (q : Value) (A : Ac) (hA : A.Ok) (hD : IsD w v lo hi top R t P) (hq : IsB X w q R t P) (hX : Till X w) (hO : ∀ k, Own lo hi k → X k) (hw : A.wh % 7 = 4) :
    Calls Tryz.prog 11 #[v, q, .agg #[.int .u8 (A.wh : Nat), .int .i64 A.s, .int .i64 A.i, .int .i64 A.q, .int .u64 (A.u : Nat), .int .i64 A.c, .int .i64 A.r, .int .i64 A.n]] w fun e w' => ∃ q', e = .returned (.tuple #[q', .bool true]) ∧ DoneS X w v lo hi top t P R q' w' := by
  have ok := hD.ok
  have hqo := (hq.old ok).less (Y := fun k => X k ∨ w.heap.size ≤ k ∧ k < w.heap.size + 3) fun k hk => hk.imp id fun y => y.1
  obtain ⟨pr, cr, bl, ol, cl, pf, cf, pm, cm, p, cap, rfl, _, _, _⟩ := hq.shape
  obtain ⟨pa, rfl⟩ := hD.ptr
  obtain ⟨m0, m1, m2, s3⟩ := mm.three_made w (.cells #[.slice pr R.length cr, .int .i64 (t : Nat), .slice (some ⟨bl, ol, none⟩) P.S cl, .slice pf P.T cf, .slice pm P.T cm, .int .i64 (P.W : Nat), .slice p P.n cap] 36) (.cells #[.int .u8 (A.wh : Nat), .int .i64 A.s, .int .i64 A.i, .int .i64 A.q, .int .u64 (A.u : Nat), .int .i64 A.c, .int .i64 A.r, .int .i64 A.n] 46) (.cells #[.slice none 0 0, .int .i64 0, .slice none 0 0, .slice none 0 0, .slice none 0 0, .int .i64 0, .slice none 0 0] 36)
  have g3 : Bel w _ := (bel_two w (.cells #[.slice pr R.length cr, .int .i64 (t : Nat), .slice (some ⟨bl, ol, none⟩) P.S cl, .slice pf P.T cf, .slice pm P.T cm, .int .i64 (P.W : Nat), .slice p P.n cap] 36) (.cells #[.int .u8 (A.wh : Nat), .int .i64 A.s, .int .i64 A.i, .int .i64 A.q, .int .u64 (A.u : Nat), .int .i64 A.c, .int .i64 A.r, .int .i64 A.n] 46)).alloc (.cells #[.slice none 0 0, .int .i64 0, .slice none 0 0, .slice none 0 0, .slice none 0 0, .int .i64 0, .slice none 0 0] 36)
  obtain ⟨W0, hW0⟩ : ∃ W, ((w.alloc (.cells #[.slice pr R.length cr, .int .i64 (t : Nat), .slice (some ⟨bl, ol, none⟩) P.S cl, .slice pf P.T cf, .slice pm P.T cm, .int .i64 (P.W : Nat), .slice p P.n cap] 36)).alloc (.cells #[.int .u8 (A.wh : Nat), .int .i64 A.s, .int .i64 A.i, .int .i64 A.q, .int .u64 (A.u : Nat), .int .i64 A.c, .int .i64 A.r, .int .i64 A.n] 46)).alloc (.cells #[.slice none 0 0, .int .i64 0, .slice none 0 0, .slice none 0 0, .slice none 0 0, .int .i64 0, .slice none 0 0] 36) = W := ⟨_, rfl⟩
  rw [hW0] at s3 m0 m1 m2 g3
  have hX0 : Till (fun k => X k ∨ w.heap.size ≤ k ∧ k < w.heap.size + 3) W0 := fun k hk => by
    rcases hk with hk | hk
    · have := hX k hk; omega
    · omega
  obtain ⟨tp1, tp2, tp3, tp4⟩ := hD.lims
  obtain ⟨a0, a1, a2, a3, a4, a5, a6, a7⟩ := box8 m1
  obtain ⟨⟨k0, k1, k2, k3, k4, k5, k6⟩, _⟩ := box7 m0
  have hqI := hqo.bel g3
  have pg := pb_ref A.s A.i hA.s (hD.bel g3)
  have rg := fun W (g : Bel W0 W) => (rb_ref _ R t P A.s A.i W (hqI.bel g) ok).mono fun e w' ⟨x, y⟩ => (⟨x, g.trans y⟩ : _ ∧ Bel W0 w')
  have e2 : (A.wh : Int) % 7 = 4 := by omega
  have fin : ∀ W, Bel W0 W → DoneS X w (.pointer (some pa)) lo hi top t P R (.agg #[.slice pr R.length cr, .int .i64 (t : Nat), .slice (some ⟨bl, ol, none⟩) P.S cl, .slice pf P.T cf, .slice pm P.T cm, .int .i64 (P.W : Nat), .slice p P.n cap]) (set7 W (w.heap.size + 2) (.slice pr R.length cr) (.int .i64 (t : Nat)) (.slice (some ⟨bl, ol, none⟩) P.S cl) (.slice pf P.T cf) (.slice pm P.T cm) (.int .i64 (P.W : Nat)) (.slice p P.n cap)) := fun W g => by
    obtain ⟨f1, f2⟩ := IsB.same (D := w.heap.size + 2) hq (g3.trans g) (by omega)
    exact ⟨⟨R, ⟨f1, hD.bel f2⟩, Stp.same⟩, f2.exc⟩
  have kk := fun W (g : Bel W0 W) => And.intro (box7 (heap_bel g m0)).1 (And.intro (box8 (heap_bel g m1)) (box7 (heap_bel g m2)))
  have hid := Lib.hid (And.intro m2 (And.intro fin kk))
  clear hq hqo g3 m0 m1 m2 hX hD hX0 ok tp1 tp2 tp3 tp4 s3 hO fin kk hqI
  generalize P.rfR R t A.s A.i = V9 at *
  generalize P.rfE R t A.s A.i = E9 at *
  go_enter Tryz.func11, Tryz.ntmps11
  go_upto_region 1 with fail
  (try rw [hW0])
  clear hW0
  go_wp2_with (first
    | (go_at_call 25; refine pg.mono ?_; rintro e w4 ⟨rfl, h4⟩; obtain ⟨⟨k0, k1, k2, k3, k4, k5, k6⟩, ⟨a0, a1, a2, a3, a4, a5, a6, a7⟩, _⟩ := hid.out.2.2 _ h4)
    | (go_at_call 39; refine (rg _ h4).mono ?_; rintro e w5 ⟨rfl, h5⟩; obtain ⟨⟨k0, k1, k2, k3, k4, k5, k6⟩, _, ⟨z0, z1, z2, z3, z4, z5, z6⟩, f0, f1, f2, f3, f4, f5, f6⟩ := hid.out.2.2 _ h5))
  (try simp only [Exit.inBlock, Exit.then])
  refine bodyPost_ret (results_cell_row2 rfl _ _ _ 36 _ (0, 0) _ rfl (seven_row (heap_bel h5 hid.out.1) _ _ _ _ _ _ _) Tryz.underlying36 rfl info_b) rfl ?_
  exact ⟨_, by simp, hid.out.2.1 _ h5⟩

set_option maxRecDepth 100000 in
set_option maxHeartbeats 4000000 in
theorem does_word (q : Value) (A : Ac) (hA : A.Ok) (hD : IsD w v lo hi top R t P) (hq : IsB X w q R t P) (hX : Till X w) (hO : ∀ k, Own lo hi k → X k) (hw : A.wh % 7 = 5) :
    Calls Tryz.prog 11 #[v, q, .agg #[.int .u8 (A.wh : Nat), .int .i64 A.s, .int .i64 A.i, .int .i64 A.q, .int .u64 (A.u : Nat), .int .i64 A.c, .int .i64 A.r, .int .i64 A.n]] w fun e w' => ∃ q', e = .returned (.tuple #[q', .bool true]) ∧ DoneS X w v lo hi top t P R q' w' := by
  have ok := hD.ok
  have hqo := (hq.old ok).less (Y := fun k => X k ∨ w.heap.size ≤ k ∧ k < w.heap.size + 3) fun k hk => hk.imp id fun y => y.1
  obtain ⟨pr, cr, bl, ol, cl, pf, cf, pm, cm, p, cap, rfl, _, _, _⟩ := hq.shape
  obtain ⟨pa, rfl⟩ := hD.ptr
  obtain ⟨m0, m1, m2, s3⟩ := mm.three_made w (.cells #[.slice pr R.length cr, .int .i64 (t : Nat), .slice (some ⟨bl, ol, none⟩) P.S cl, .slice pf P.T cf, .slice pm P.T cm, .int .i64 (P.W : Nat), .slice p P.n cap] 36) (.cells #[.int .u8 (A.wh : Nat), .int .i64 A.s, .int .i64 A.i, .int .i64 A.q, .int .u64 (A.u : Nat), .int .i64 A.c, .int .i64 A.r, .int .i64 A.n] 46) (.cells #[.slice none 0 0, .int .i64 0, .slice none 0 0, .slice none 0 0, .slice none 0 0, .int .i64 0, .slice none 0 0] 36)
  have g3 : Bel w _ := (bel_two w (.cells #[.slice pr R.length cr, .int .i64 (t : Nat), .slice (some ⟨bl, ol, none⟩) P.S cl, .slice pf P.T cf, .slice pm P.T cm, .int .i64 (P.W : Nat), .slice p P.n cap] 36) (.cells #[.int .u8 (A.wh : Nat), .int .i64 A.s, .int .i64 A.i, .int .i64 A.q, .int .u64 (A.u : Nat), .int .i64 A.c, .int .i64 A.r, .int .i64 A.n] 46)).alloc (.cells #[.slice none 0 0, .int .i64 0, .slice none 0 0, .slice none 0 0, .slice none 0 0, .int .i64 0, .slice none 0 0] 36)
  obtain ⟨W0, hW0⟩ : ∃ W, ((w.alloc (.cells #[.slice pr R.length cr, .int .i64 (t : Nat), .slice (some ⟨bl, ol, none⟩) P.S cl, .slice pf P.T cf, .slice pm P.T cm, .int .i64 (P.W : Nat), .slice p P.n cap] 36)).alloc (.cells #[.int .u8 (A.wh : Nat), .int .i64 A.s, .int .i64 A.i, .int .i64 A.q, .int .u64 (A.u : Nat), .int .i64 A.c, .int .i64 A.r, .int .i64 A.n] 46)).alloc (.cells #[.slice none 0 0, .int .i64 0, .slice none 0 0, .slice none 0 0, .slice none 0 0, .int .i64 0, .slice none 0 0] 36) = W := ⟨_, rfl⟩
  rw [hW0] at s3 m0 m1 m2 g3
  have hX0 : Till (fun k => X k ∨ w.heap.size ≤ k ∧ k < w.heap.size + 3) W0 := fun k hk => by
    rcases hk with hk | hk
    · have := hX k hk; omega
    · omega
  obtain ⟨tp1, tp2, tp3, tp4⟩ := hD.lims
  obtain ⟨a0, a1, a2, a3, a4, a5, a6, a7⟩ := box8 m1
  obtain ⟨⟨k0, k1, k2, k3, k4, k5, k6⟩, _⟩ := box7 m0
  have hqI := hqo.bel g3
  have pg := pb_word A.s A.i hA.s (hD.bel g3)
  have rg := fun W (g : Bel W0 W) => (rb_word _ R t P A.s A.i W (hqI.bel g) ok).mono fun e w' ⟨x, y⟩ => (⟨x, g.trans y⟩ : _ ∧ Bel W0 w')
  have e2 : (A.wh : Int) % 7 = 5 := by omega
  have fin : ∀ W, Bel W0 W → DoneS X w (.pointer (some pa)) lo hi top t P R (.agg #[.slice pr R.length cr, .int .i64 (t : Nat), .slice (some ⟨bl, ol, none⟩) P.S cl, .slice pf P.T cf, .slice pm P.T cm, .int .i64 (P.W : Nat), .slice p P.n cap]) (set7 W (w.heap.size + 2) (.slice pr R.length cr) (.int .i64 (t : Nat)) (.slice (some ⟨bl, ol, none⟩) P.S cl) (.slice pf P.T cf) (.slice pm P.T cm) (.int .i64 (P.W : Nat)) (.slice p P.n cap)) := fun W g => by
    obtain ⟨f1, f2⟩ := IsB.same (D := w.heap.size + 2) hq (g3.trans g) (by omega)
    exact ⟨⟨R, ⟨f1, hD.bel f2⟩, Stp.same⟩, f2.exc⟩
  have kk := fun W (g : Bel W0 W) => And.intro (box7 (heap_bel g m0)).1 (And.intro (box8 (heap_bel g m1)) (box7 (heap_bel g m2)))
  have hid := Lib.hid (And.intro m2 (And.intro fin kk))
  clear hq hqo g3 m0 m1 m2 hX hD hX0 ok tp1 tp2 tp3 tp4 s3 hO fin kk hqI
  generalize P.wdR R t A.s A.i = V9 at *
  generalize P.wdE R t A.s A.i = E9 at *
  go_enter Tryz.func11, Tryz.ntmps11
  go_upto_region 1 with fail
  (try rw [hW0])
  clear hW0
  go_wp2_with (first
    | (go_at_call 26; refine pg.mono ?_; rintro e w4 ⟨rfl, h4⟩; obtain ⟨⟨k0, k1, k2, k3, k4, k5, k6⟩, ⟨a0, a1, a2, a3, a4, a5, a6, a7⟩, _⟩ := hid.out.2.2 _ h4)
    | (go_at_call 40; refine (rg _ h4).mono ?_; rintro e w5 ⟨rfl, h5⟩; obtain ⟨⟨k0, k1, k2, k3, k4, k5, k6⟩, _, ⟨z0, z1, z2, z3, z4, z5, z6⟩, f0, f1, f2, f3, f4, f5, f6⟩ := hid.out.2.2 _ h5))
  (try simp only [Exit.inBlock, Exit.then])
  refine bodyPost_ret (results_cell_row2 rfl _ _ _ 36 _ (0, 0) _ rfl (seven_row (heap_bel h5 hid.out.1) _ _ _ _ _ _ _) Tryz.underlying36 rfl info_b) rfl ?_
  exact ⟨_, by simp, hid.out.2.1 _ h5⟩

theorem does_stp (q : Value) (A : Ac) (hA : A.Ok) (hD : IsD w v lo hi top R t P) (hq : IsB X w q R t P) (hX : Till X w) (hO : ∀ k, Own lo hi k → X k) :
    Calls Tryz.prog 11 #[v, q, .agg #[.int .u8 (A.wh : Nat), .int .i64 A.s, .int .i64 A.i, .int .i64 A.q, .int .u64 (A.u : Nat), .int .i64 A.c, .int .i64 A.r, .int .i64 A.n]] w fun e w' => ∃ q', e = .returned (.tuple #[q', .bool true]) ∧ DoneS X w v lo hi top t P R q' w' := by
  have h : A.wh % 7 < 2 ∨ A.wh % 7 = 2 ∨ A.wh % 7 = 3 ∨ A.wh % 7 = 4 ∨ A.wh % 7 = 5 ∨ A.wh % 7 = 6 := by omega
  rcases h with h | h | h | h | h | h
  · exact does_make q A hA hD hq hX hO h
  · exact does_setref q A hA hD hq hX hO h
  · exact does_setword q A hA hD hq hX hO h
  · exact does_ref q A hA hD hq hX hO h
  · exact does_word q A hA hD hq hX hO h
  · exact does_wipe q A hA hD hq hX hO h
theorem does_any (q : Value) (A : Ac) (hA : A.Ok) (hD : IsD w v lo hi top R t P) (hq : IsB X w q R t P) (hX : Till X w) (hO : ∀ k, Own lo hi k → X k) :
    Calls Tryz.prog 11 #[v, q, .agg #[.int .u8 (A.wh : Nat), .int .i64 A.s, .int .i64 A.i, .int .i64 A.q, .int .u64 (A.u : Nat), .int .i64 A.c, .int .i64 A.r, .int .i64 A.n]] w fun e w' => ∃ q', e = .returned (.tuple #[q', .bool true]) ∧ Done X w v lo hi top t P q' w' :=
  (does_stp q A hA hD hq hX hO).mono fun e w' ⟨q', a, ⟨R', b, _⟩, c⟩ => (⟨q', a, ⟨R', b⟩, c⟩ : (∃ q', e = .returned (.tuple #[q', .bool true]) ∧ Done X w v lo hi top t P q' w'))

end Go.Proofs.YthokalcibjjihaaGreatDoor
