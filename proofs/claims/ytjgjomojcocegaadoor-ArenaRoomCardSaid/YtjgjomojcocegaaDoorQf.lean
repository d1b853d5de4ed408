/- does: an act on an arena, and on the document's. -/
import Derived.Test.YtjgjomojcocegaaDoorQs
import Derived.Test.YtjgjomojcocegaaDoorPq
import Derived.Deep.RegionWith
namespace Go.Proofs.YtjgjomojcocegaaDoor
open Go.ChangeShapes Go.WideShapes Go.ChangeAt Go.RowKit Go.Deep
set_option linter.unusedVariables false

theorem Avoid.or {X Y : Nat → Prop} {v : Value} (h : Avoid X v) (g : Avoid Y v) : Avoid (fun k => X k ∨ Y k) v := fun b off sp n cap e x => x.elim (h b off sp n cap e) (g b off sp n cap e)
/-- the blocks of an arena that there is are none of those to come -/
theorem IsAr.old {X : Nat → Prop} {w : World} {v : Value} {P : Pl} {T : Nat → Bool} (h : IsAr X w v P T) (hS : 1 ≤ P.S) (hT : 1 ≤ P.T) : IsAr (fun k => X k ∨ w.heap.size ≤ k) w v P T := by
  obtain ⟨Lv, Fv, Mv, Bv, p, cap, e, h1, ⟨b, off, cb, rfl, hB⟩, ⟨a1, a2, a3⟩, a4⟩ := h
  obtain ⟨b1, b2, b3⟩ := h1.avoid (X := fun k => w.heap.size ≤ k) hS hT (fun k hk => hk) _ _ _ _ _ rfl
  have bb := (cell_block (hB 0 (by omega))).1
  refine ⟨Lv, Fv, Mv, _, p, cap, e, h1, ⟨b, off, cb, rfl, hB⟩, ⟨a1.or b1, a2.or b2, a3.or b3⟩, a4.or (Avoid.at fun x => ?_)⟩
  simp only at *
  omega
theorem IsA.lt {w : World} {v : Value} {pl lo hi : Nat} {P : Pl} {T : Nat → Bool} (h : IsA w v pl lo hi P T) : lo < hi := by
  obtain ⟨_, _, _, _, _, _, _, _, _, h1, _⟩ := h
  exact Nat.lt_of_le_of_lt h1.1 h1.2
/-- six stores -/
abbrev set6 (w : World) (g : Nat) (a b c d e f : Value) : World := (((((w.setCell ⟨g, 0, none⟩ a).setCell ⟨g, 1, none⟩ b).setCell ⟨g, 2, none⟩ c).setCell ⟨g, 3, none⟩ d).setCell ⟨g, 4, none⟩ e).setCell ⟨g, 5, none⟩ f
theorem set_exc {w w0 : World} {g : Nat} (h : Exc (fun k => k = g) w0 w) (j : Nat) (u : Value) : Exc (fun k => k = g) w0 (w.setCell ⟨g, j, none⟩ u) := by
  have k := (Below.refl 0 w).setCell (p := ⟨g, j, none⟩) (Nat.zero_le _) u
  exact ⟨k.os.trans h.os, k.tape.trans h.tape, k.output.trans h.output, Nat.le_trans h.size k.size, fun i hi hx => (set_heap hx u).trans (h.block i hi hx)⟩
theorem set6_exc (w : World) (g : Nat) (a b c d e f : Value) : Exc (fun k => k = g) w (set6 w g a b c d e f) :=
  set_exc (set_exc (set_exc (set_exc (set_exc (set_exc (Exc.refl _ w) 0 a) 1 b) 2 c) 3 d) 4 e) 5 f

/-- what an act leaves -/
def Done (X : Nat → Prop) (w : World) (v : Value) (pl lo hi : Nat) (P : Pl) (q' : Value) (w' : World) : Prop := (∃ T', IsAr X w' q' P T' ∧ IsA w' v pl lo hi P T') ∧ Exc (Own lo hi) w w'
theorem Done.mk' {X : Nat → Prop} {w w5 : World} {v q' : Value} {pl lo hi : Nat} {P : Pl} {T' : Nat → Bool} (hO : ∀ k, Own lo hi k → X k) (hh : hi ≤ w.heap.size) (hq : IsAr (fun k => X k ∨ w.heap.size ≤ k ∧ k < w.heap.size + 3) w5 q' P T') (hA : IsA w5 v pl lo hi P T') (hE : Exc (Own lo hi) w w5)
    (a b c d e f : Value) : Done X w v pl lo hi P q' (set6 w5 (w.heap.size + 2) a b c d e f) := by
  have s := set6_exc w5 (w.heap.size + 2) a b c d e f
  have l1 := hA.low
  have l2 := hA.lt
  refine ⟨⟨T', (hq.exc (s.mono fun k hk => Or.inr (by omega))).less fun k hk => Or.inl hk, hA.exc s fun x hx => ⟨by omega, fun y => by have := y.2; omega⟩⟩, hE.tail s fun k hk => by omega⟩

theorem four_made (w : World) (a b c : Obj) : (((w.alloc a).alloc b).alloc c).heap.size = w.heap.size + 3 ∧ (((w.alloc a).alloc b).alloc c).heap[w.heap.size]? = some a ∧ (((w.alloc a).alloc b).alloc c).heap[w.heap.size + 1]? = some b ∧ (((w.alloc a).alloc b).alloc c).heap[w.heap.size + 2]? = some c := by
  obtain ⟨h1, _, h3, h4, h5⟩ := three_at (w := w) (a := a) (c := b) (d := c) rfl
  exact ⟨h1, h3, h4, h5⟩

set_option maxRecDepth 100000 in
set_option maxHeartbeats 4000000 in
theorem does_give {X : Nat → Prop} (v q : Value) (pl lo hi : Nat) (P : Pl) (T : Nat → Bool) (what : Nat) (n : Int) (w : World) (hA : IsA w v pl lo hi P T) (hh : hi ≤ w.heap.size) (ht : Tb w) (hq : IsAr X w q P T) (hX : Till X w) (hO : ∀ k, Own lo hi k → X k) (h8 : what ≤ 255) (hn : i64b' n) (hw : what % 4 = 2) :
    Calls Tryd.prog 10 #[v, q, .agg #[.int .u8 (what : Nat), .int .i64 n]] w fun e w' => ∃ q', e = .returned (.tuple #[q', .bool true]) ∧ Done X w v pl lo hi P q' w' := by
  have ok := hA.ok
  have hST := ok.T1
  have hqo := (hq.old hST.1 hST.2).less (Y := fun k => X k ∨ w.heap.size ≤ k ∧ k < w.heap.size + 3) fun k hk => hk.imp id fun y => y.1
  obtain ⟨bl, ol, cl, pf, cf, pm, cm, p, cap, b, off, cb, rfl, hB, hL⟩ := hq.shape
  clear hB hL
  obtain ⟨pa, rfl⟩ := hA.ptr
  obtain ⟨s3, m0, m1, m2⟩ := four_made w (.cells #[.slice (some ⟨bl, ol, none⟩) P.S cl, .slice pf P.T cf, .slice pm P.T cm, .int .i64 (P.W : Nat), .slice p P.n cap, .slice (some ⟨b, off, none⟩) P.S cb] 33) (.cells #[.int .u8 (what : Nat), .int .i64 n] 40) (.cells #[.slice none 0 0, .slice none 0 0, .slice none 0 0, .int .i64 0, .slice none 0 0, .slice none 0 0] 33)
  have g3 := al3 w (.cells #[.slice (some ⟨bl, ol, none⟩) P.S cl, .slice pf P.T cf, .slice pm P.T cm, .int .i64 (P.W : Nat), .slice p P.n cap, .slice (some ⟨b, off, none⟩) P.S cb] 33) (.cells #[.int .u8 (what : Nat), .int .i64 n] 40) (.cells #[.slice none 0 0, .slice none 0 0, .slice none 0 0, .int .i64 0, .slice none 0 0, .slice none 0 0] 33)
  obtain ⟨W0, hW0⟩ : ∃ W, ((w.alloc (.cells #[.slice (some ⟨bl, ol, none⟩) P.S cl, .slice pf P.T cf, .slice pm P.T cm, .int .i64 (P.W : Nat), .slice p P.n cap, .slice (some ⟨b, off, none⟩) P.S cb] 33)).alloc (.cells #[.int .u8 (what : Nat), .int .i64 n] 40)).alloc (.cells #[.slice none 0 0, .slice none 0 0, .slice none 0 0, .int .i64 0, .slice none 0 0, .slice none 0 0] 33) = W := ⟨_, rfl⟩
  rw [hW0] at s3 m0 m1 m2 g3
  have rg := rgive _ P T n W0 (X := fun k => X k ∨ w.heap.size ≤ k ∧ k < w.heap.size + 3) (fun k hk => by
    rcases hk with hk | hk
    · have := hX k hk; omega
    · omega) (hqo.bel g3) ok.2.1
  have gv := fun W (g : Bel w W) => qa_give _ pl lo hi P T W (hA.bel g) (Nat.le_trans hh g.size) (ht.bel g) n hn
  have e2 : (what : Int) % 4 = 2 := by omega
  obtain ⟨⟨k0, k1, k2, k3, k4, k5⟩, _⟩ := box6 m0
  obtain ⟨⟨a0, a1⟩, _⟩ := box2 m1
  go_enter Tryd.func10, Tryd.ntmps10
  go_upto_region 1 with fail
  (try rw [hW0])
  clear hW0
  go_wp2_with (go_at_call 34; refine rg.mono ?_; rintro e w4 ⟨⟨q4, cr, Tr, rfl, hGr, hq4⟩, hg4⟩; obtain ⟨bl4, ol4, cl4, pf4, cf4, pm4, cm4, p4, cap4, b4, off4, cb4, rfl, _, _⟩ := hq4.shape; have cc := box2 (heap_bel hg4 m1); obtain ⟨⟨a0, a1⟩, _⟩ := cc)
  have hg4' := g3.trans hg4
  have ga := (Bel.refl w4).alloc (.cells #[.slice (some ⟨bl4, ol4, none⟩) P.S cl4, .slice pf4 P.T cf4, .slice pm4 P.T cm4, .int .i64 (P.W : Nat), .slice p4 P.n cap4, .slice (some ⟨b4, off4, none⟩) P.S cb4] 33)
  have b8 := heap_alloc_new w4 (.cells #[.slice (some ⟨bl4, ol4, none⟩) P.S cl4, .slice pf4 P.T cf4, .slice pm4 P.T cm4, .int .i64 (P.W : Nat), .slice p4 P.n cap4, .slice (some ⟨b4, off4, none⟩) P.S cb4] 33)
  have b6 := heap_bel (hg4.trans ga) m2
  have c1 := cell_bel ga a1
  have gv1 := gv _ ((hg4'.trans ga).drew)
  have hqa := hq4.bel ga
  have sz4 := hg4'.size
  have l2 := hA.lt
  have l1 := hA.low
  have gE : Exc (Own lo hi) w ((w4.alloc (.cells #[.slice (some ⟨bl4, ol4, none⟩) P.S cl4, .slice pf4 P.T cf4, .slice pm4 P.T cm4, .int .i64 (P.W : Nat), .slice p4 P.n cap4, .slice (some ⟨b4, off4, none⟩) P.S cb4] 33)).drew) := ((hg4'.trans ga).drew).exc
  have hid := Lib.hid (And.intro hqa (And.intro gE (And.intro hGr (And.intro hO (And.intro b8 b6)))))
  obtain ⟨⟨x0, x1, x2, x3, x4, x5⟩, _⟩ := box6 b8
  obtain ⟨⟨y0, y1, y2, y3, y4, y5⟩, f0, f1, f2, f3, f4, f5⟩ := box6 b6
  clear hqa gE hGr hO b8 b6 hq4 hg4' hq hqo rg gv g3 m0 m1 m2 hg4 ga hX hA
  go_region_with (go_at_call 24; refine gv1.mono ?_; rintro e w5 ⟨⟨c, T5, rfl, hG5, hA5⟩, hE5⟩; obtain ⟨rfl, rfl⟩ := GiveR.det hid.out.2.2.1 hG5
                  have n8 : ¬ Own lo hi w4.heap.size := fun y => by have := y.2; omega
                  have n6 : ¬ Own lo hi (w.heap.size + 2) := fun y => by have := y.2; omega
                  have hid5 := Lib.hid (And.intro hA5 (And.intro hE5 (blk_exc hE5 hid.out.2.2.2.2.2 n6)))
                  have cc := box6 (blk_exc hE5 hid.out.2.2.2.2.1 n8)
                  have dd := box6 (blk_exc hE5 hid.out.2.2.2.2.2 n6)
                  obtain ⟨⟨x0, x1, x2, x3, x4, x5⟩, _⟩ := cc
                  obtain ⟨⟨y0, y1, y2, y3, y4, y5⟩, f0, f1, f2, f3, f4, f5⟩ := dd
                  clear hA5 hE5 hG5)
  all_goals go_wp2_with fail
  all_goals (try simp only [Exit.inBlock, Exit.then])
  all_goals refine bodyPost_ret (results_cell_row2 rfl _ _ _ 33 _ (0, 0) _ rfl (six_row hid5.out.2.2 _ _ _ _ _ _) Tryd.underlying33 rfl info_ar) rfl ?_
  all_goals exact ⟨_, by simp [Act.put], Done.mk' hid.out.2.2.2.1 hh ((hid.out.1.bel (Bel.refl _).drew).exc (hid5.out.2.1.mono fun k hk => Or.inl (hid.out.2.2.2.1 k hk))) hid5.out.1 (hid.out.2.1.trans hid5.out.2.1) _ _ _ _ _ _⟩

end Go.Proofs.YtjgjomojcocegaaDoor

/- does: Take. -/
namespace Go.Proofs.YtjgjomojcocegaaDoor
open Go.ChangeShapes Go.WideShapes Go.ChangeAt Go.RowKit Go.Deep
set_option linter.unusedVariables false

set_option maxRecDepth 100000 in
set_option maxHeartbeats 4000000 in
theorem does_take {X : Nat → Prop} (v q : Value) (pl lo hi : Nat) (P : Pl) (T : Nat → Bool) (what : Nat) (n : Int) (w : World) (hA : IsA w v pl lo hi P T) (hh : hi ≤ w.heap.size) (ht : Tb w) (hq : IsAr X w q P T) (hX : Till X w) (hO : ∀ k, Own lo hi k → X k) (h8 : what ≤ 255) (hn : i64b' n) (hw : what % 4 = 0 ∨ what % 4 = 1) :
    Calls Tryd.prog 10 #[v, q, .agg #[.int .u8 (what : Nat), .int .i64 n]] w fun e w' => ∃ q', e = .returned (.tuple #[q', .bool true]) ∧ Done X w v pl lo hi P q' w' := by
  have ok := hA.ok
  have hST := ok.T1
  have hqo := (hq.old hST.1 hST.2).less (Y := fun k => X k ∨ w.heap.size ≤ k ∧ k < w.heap.size + 3) fun k hk => hk.imp id fun y => y.1
  obtain ⟨bl, ol, cl, pf, cf, pm, cm, p, cap, b, off, cb, rfl, hB, hL⟩ := hq.shape
  clear hB hL
  obtain ⟨pa, rfl⟩ := hA.ptr
  obtain ⟨s3, m0, m1, m2⟩ := four_made w (.cells #[.slice (some ⟨bl, ol, none⟩) P.S cl, .slice pf P.T cf, .slice pm P.T cm, .int .i64 (P.W : Nat), .slice p P.n cap, .slice (some ⟨b, off, none⟩) P.S cb] 33) (.cells #[.int .u8 (what : Nat), .int .i64 n] 40) (.cells #[.slice none 0 0, .slice none 0 0, .slice none 0 0, .int .i64 0, .slice none 0 0, .slice none 0 0] 33)
  have g3 := al3 w (.cells #[.slice (some ⟨bl, ol, none⟩) P.S cl, .slice pf P.T cf, .slice pm P.T cm, .int .i64 (P.W : Nat), .slice p P.n cap, .slice (some ⟨b, off, none⟩) P.S cb] 33) (.cells #[.int .u8 (what : Nat), .int .i64 n] 40) (.cells #[.slice none 0 0, .slice none 0 0, .slice none 0 0, .int .i64 0, .slice none 0 0, .slice none 0 0] 33)
  obtain ⟨W0, hW0⟩ : ∃ W, ((w.alloc (.cells #[.slice (some ⟨bl, ol, none⟩) P.S cl, .slice pf P.T cf, .slice pm P.T cm, .int .i64 (P.W : Nat), .slice p P.n cap, .slice (some ⟨b, off, none⟩) P.S cb] 33)).alloc (.cells #[.int .u8 (what : Nat), .int .i64 n] 40)).alloc (.cells #[.slice none 0 0, .slice none 0 0, .slice none 0 0, .int .i64 0, .slice none 0 0, .slice none 0 0] 33) = W := ⟨_, rfl⟩
  rw [hW0] at s3 m0 m1 m2 g3
  have rt := fun W (hE : Exc (Own lo hi) W0 W) => rtake _ P T n W (X := fun k => X k ∨ w.heap.size ≤ k ∧ k < w.heap.size + 3) (fun k hk => by
    have := hE.size
    rcases hk with hk | hk
    · have := hX k hk; omega
    · omega) ((hqo.bel g3).exc (hE.mono fun k hk => Or.inl (hO k hk))) ok.2.1
  have tk := qa_take _ pl lo hi P T W0 (hA.bel g3) (Nat.le_trans hh g3.size) (ht.bel g3) n hn
  obtain ⟨m4, hm4⟩ : ∃ m4 : Nat, what % 4 = m4 := ⟨_, rfl⟩
  have e2 : (what : Int) % 4 = (m4 : Int) := by omega
  have d2 : decide ((m4 : Int) = 2) = false := decide_eq_false (by omega)
  have d3 : decide ((m4 : Int) = 3) = false := decide_eq_false (by omega)
  have d4 : ((m4 : Int) == 2) = false := by simp; omega
  have d5 : ((m4 : Int) == 3) = false := by simp; omega
  have d6 : ¬ m4 = 2 := by omega
  have d7 : ¬ m4 = 3 := by omega
  have d8 : decide (m4 = 2) = false := decide_eq_false d6
  have d9 : decide (m4 = 3) = false := decide_eq_false d7
  clear hm4
  have n0 : ¬ Own lo hi w.heap.size := fun y => by have := y.2; omega
  have n1 : ¬ Own lo hi (w.heap.size + 1) := fun y => by have := y.2; omega
  have n2 : ¬ Own lo hi (w.heap.size + 2) := fun y => by have := y.2; omega
  obtain ⟨⟨k0, k1, k2, k3, k4, k5⟩, _⟩ := box6 m0
  obtain ⟨⟨a0, a1⟩, _⟩ := box2 m1
  have hid0 := Lib.hid (And.intro m0 (And.intro m1 (And.intro m2 (And.intro g3 (And.intro hO (And.intro n0 (And.intro n1 n2)))))))
  clear m0 m1 m2 hqo hX hO n0 n1 n2 hA
  go_enter Tryd.func10, Tryd.ntmps10
  go_upto_region 1 with fail
  (try rw [hW0])
  clear hW0 g3
  go_wp2_with (first
    | (go_at_call 14; refine tk.mono ?_; rintro e w4 ⟨⟨r, c, T4, rfl, hT4, hA4⟩, hE4⟩
       have cc := box6 (blk_exc hE4 hid0.out.1 hid0.out.2.2.2.2.2.1)
       have dd := box2 (blk_exc hE4 hid0.out.2.1 hid0.out.2.2.2.2.2.2.1)
       obtain ⟨⟨k0, k1, k2, k3, k4, k5⟩, _⟩ := cc
       obtain ⟨⟨a0, a1⟩, _⟩ := dd
       have rt1 := rt _ hE4)
    | (go_at_call 17; refine rt1.mono ?_; rintro e w5 ⟨⟨q5, r5, c5, T5, rfl, hT5, hq5⟩, hg5⟩
       obtain ⟨bl4, ol4, cl4, pf4, cf4, pm4, cm4, p4, cap4, b4, off4, cb4, rfl, _, _⟩ := hq5.shape
       obtain ⟨rfl, rfl, rfl⟩ := TakeR.det hT4 hT5
       have b6 := heap_bel (hg5.alloc (.cells #[.slice (some ⟨bl4, ol4, none⟩) P.S cl4, .slice pf4 P.T cf4, .slice pm4 P.T cm4, .int .i64 (P.W : Nat), .slice p4 P.n cap4, .slice (some ⟨b4, off4, none⟩) P.S cb4] 33)) (blk_exc hE4 hid0.out.2.2.1 hid0.out.2.2.2.2.2.2.2)
       have dd := box6 b6
       obtain ⟨⟨y0, y1, y2, y3, y4, y5⟩, f0, f1, f2, f3, f4, f5⟩ := dd
       have hid5 := Lib.hid (And.intro hA4 (And.intro hE4 (And.intro hq5 (And.intro hg5 b6))))
       clear hA4 hE4 hq5 hg5 b6 rt1 hT4 hT5))
  (try simp only [Exit.inBlock, Exit.then])
  refine bodyPost_ret (results_cell_row2 rfl _ _ _ 33 _ (0, 0) _ rfl (six_row hid5.out.2.2.2.2 _ _ _ _ _ _) Tryd.underlying33 rfl info_ar) rfl ?_
  have al := (Bel.refl w5).alloc (.cells #[.slice (some ⟨bl4, ol4, none⟩) P.S cl4, .slice pf4 P.T cf4, .slice pm4 P.T cm4, .int .i64 (P.W : Nat), .slice p4 P.n cap4, .slice (some ⟨b4, off4, none⟩) P.S cb4] 33)
  exact ⟨_, by simp [Act.put], Done.mk' hid0.out.2.2.2.2.1 hh (hid5.out.2.2.1.bel al) (hid5.out.1.bel (hid5.out.2.2.2.1.trans al)) (hid0.out.2.2.2.1.exc.trans (hid5.out.2.1.trans (hid5.out.2.2.2.1.trans al).exc)) _ _ _ _ _ _⟩

end Go.Proofs.YtjgjomojcocegaaDoor

/- does: GiveAll; an act, whatever it is. -/
namespace Go.Proofs.YtjgjomojcocegaaDoor
open Go.ChangeShapes Go.WideShapes Go.ChangeAt Go.RowKit Go.Deep
set_option linter.unusedVariables false

set_option maxRecDepth 100000 in
set_option maxHeartbeats 4000000 in
theorem does_all {X : Nat → Prop} (v q : Value) (pl lo hi : Nat) (P : Pl) (T : Nat → Bool) (what : Nat) (n : Int) (w : World) (hA : IsA w v pl lo hi P T) (hh : hi ≤ w.heap.size) (ht : Tb w) (hq : IsAr X w q P T) (hX : Till X w) (hO : ∀ k, Own lo hi k → X k) (h8 : what ≤ 255) (hn : i64b' n) (hw : what % 4 = 3) :
    Calls Tryd.prog 10 #[v, q, .agg #[.int .u8 (what : Nat), .int .i64 n]] w fun e w' => ∃ q', e = .returned (.tuple #[q', .bool true]) ∧ Done X w v pl lo hi P q' w' := by
  have ok := hA.ok
  have hST := ok.T1
  have hqo := (hq.old hST.1 hST.2).less (Y := fun k => X k ∨ w.heap.size ≤ k ∧ k < w.heap.size + 3) fun k hk => hk.imp id fun y => y.1
  obtain ⟨bl, ol, cl, pf, cf, pm, cm, p, cap, b, off, cb, rfl, hB, hL⟩ := hq.shape
  clear hB hL
  obtain ⟨pa, rfl⟩ := hA.ptr
  obtain ⟨s3, m0, m1, m2⟩ := four_made w (.cells #[.slice (some ⟨bl, ol, none⟩) P.S cl, .slice pf P.T cf, .slice pm P.T cm, .int .i64 (P.W : Nat), .slice p P.n cap, .slice (some ⟨b, off, none⟩) P.S cb] 33) (.cells #[.int .u8 (what : Nat), .int .i64 n] 40) (.cells #[.slice none 0 0, .slice none 0 0, .slice none 0 0, .int .i64 0, .slice none 0 0, .slice none 0 0] 33)
  have g3 := al3 w (.cells #[.slice (some ⟨bl, ol, none⟩) P.S cl, .slice pf P.T cf, .slice pm P.T cm, .int .i64 (P.W : Nat), .slice p P.n cap, .slice (some ⟨b, off, none⟩) P.S cb] 33) (.cells #[.int .u8 (what : Nat), .int .i64 n] 40) (.cells #[.slice none 0 0, .slice none 0 0, .slice none 0 0, .int .i64 0, .slice none 0 0, .slice none 0 0] 33)
  obtain ⟨W0, hW0⟩ : ∃ W, ((w.alloc (.cells #[.slice (some ⟨bl, ol, none⟩) P.S cl, .slice pf P.T cf, .slice pm P.T cm, .int .i64 (P.W : Nat), .slice p P.n cap, .slice (some ⟨b, off, none⟩) P.S cb] 33)).alloc (.cells #[.int .u8 (what : Nat), .int .i64 n] 40)).alloc (.cells #[.slice none 0 0, .slice none 0 0, .slice none 0 0, .int .i64 0, .slice none 0 0, .slice none 0 0] 33) = W := ⟨_, rfl⟩
  rw [hW0] at s3 m0 m1 m2 g3
  have hX2 : ∀ W, Bel W0 W → Till (fun k => X k ∨ w.heap.size ≤ k ∧ k < w.heap.size + 3) W := fun W g k hk => by
    have := g.size
    rcases hk with hk | hk
    · have := hX k hk; omega
    · omega
  have ro := fun W (g : Bel W0 W) => row_any _ P T n W ((hqo.bel g3).bel g) ok.2.1 (by omega) hn
  have ra := fun W (g : Bel W0 W) rv R (hr : Bls W rv P.S R) => rall _ rv P T R P.S W (hX2 W g) ((hqo.bel g3).bel g) hr ok.2.1 (by omega)
  have gv := fun W (g : Bel w W) b g' ca R (hR : bt.RowIs W b g' ca P.S R) hb hg => qa_all _ pl lo hi P T W (hA.bel g) (Nat.le_trans hh g.size) (ht.bel g) b g' ca P.S R hR hb hg
  have e2 : (what : Int) % 4 = 3 := by omega
  obtain ⟨⟨k0, k1, k2, k3, k4, k5⟩, _⟩ := box6 m0
  obtain ⟨⟨a0, a1⟩, _⟩ := box2 m1
  have g00 := Bel.refl W0
  go_enter Tryd.func10, Tryd.ntmps10
  go_upto_region 1 with fail
  (try rw [hW0])
  clear hW0
  go_wp2_with (first
    | (go_at_call 27; refine (ro _ g00).mono ?_; rintro e w3 ⟨⟨rb, rg, rca, ov, rfl, hR3, hrb, hrg, hov⟩, hg3⟩
       have cc := box6 (heap_bel hg3 m0)
       obtain ⟨⟨k0, k1, k2, k3, k4, k5⟩, _⟩ := cc
       have ra1 := ra _ hg3 ov _ hov
       obtain ⟨ob, oo, oc, rfl, _⟩ := hov)
    | (go_at_call 35; refine ra1.mono ?_; rintro e w4 ⟨⟨q4, cr, Tr, rfl, hGr, hq4⟩, hg4⟩
       obtain ⟨bl4, ol4, cl4, pf4, cf4, pm4, cm4, p4, cap4, b4, off4, cb4, rfl, _, _⟩ := hq4.shape))
  have hg4' := g3.trans (hg3.trans hg4)
  have ga := (Bel.refl w4).alloc (.cells #[.slice (some ⟨bl4, ol4, none⟩) P.S cl4, .slice pf4 P.T cf4, .slice pm4 P.T cm4, .int .i64 (P.W : Nat), .slice p4 P.n cap4, .slice (some ⟨b4, off4, none⟩) P.S cb4] 33)
  have b8 := heap_alloc_new w4 (.cells #[.slice (some ⟨bl4, ol4, none⟩) P.S cl4, .slice pf4 P.T cf4, .slice pm4 P.T cm4, .int .i64 (P.W : Nat), .slice p4 P.n cap4, .slice (some ⟨b4, off4, none⟩) P.S cb4] 33)
  have b6 := heap_bel ((hg3.trans hg4).trans ga) m2
  have sz4 := hg4'.size
  have sz0 := g3.size
  have l2 := hA.lt
  have l1 := hA.low
  have gv1 := gv _ ((hg4'.trans ga).drew) rb rg rca _ (hR3.bel ((hg4.trans ga).drew)) (fun y => by have := y.2; omega) (fun y => by have := y.2; omega)
  have hqa := hq4.bel ga
  have gE : Exc (Own lo hi) w ((w4.alloc (.cells #[.slice (some ⟨bl4, ol4, none⟩) P.S cl4, .slice pf4 P.T cf4, .slice pm4 P.T cm4, .int .i64 (P.W : Nat), .slice p4 P.n cap4, .slice (some ⟨b4, off4, none⟩) P.S cb4] 33)).drew) := ((hg4'.trans ga).drew).exc
  have hid := Lib.hid (And.intro hqa (And.intro gE (And.intro hGr (And.intro hO (And.intro b8 b6)))))
  obtain ⟨⟨x0, x1, x2, x3, x4, x5⟩, _⟩ := box6 b8
  obtain ⟨⟨y0, y1, y2, y3, y4, y5⟩, f0, f1, f2, f3, f4, f5⟩ := box6 b6
  clear hqa gE hGr hO b8 b6 hq4 hg4' hq hqo ro ra gv g3 m0 m1 m2 hg4 hg3 ga hX hX2 hA hR3 ra1 g00
  go_region_with (go_at_call 22; refine gv1.mono ?_; rintro e w5 ⟨⟨c, T5, rfl, hG5, hA5⟩, hE5⟩; obtain ⟨rfl, rfl⟩ := GiveAllR.det hid.out.2.2.1 hG5
                  have n8 : ¬ Own lo hi w4.heap.size := fun y => by have := y.2; omega
                  have n6 : ¬ Own lo hi (w.heap.size + 2) := fun y => by have := y.2; omega
                  have hid5 := Lib.hid (And.intro hA5 (And.intro hE5 (blk_exc hE5 hid.out.2.2.2.2.2 n6)))
                  have cc := box6 (blk_exc hE5 hid.out.2.2.2.2.1 n8)
                  have dd := box6 (blk_exc hE5 hid.out.2.2.2.2.2 n6)
                  obtain ⟨⟨x0, x1, x2, x3, x4, x5⟩, _⟩ := cc
                  obtain ⟨⟨y0, y1, y2, y3, y4, y5⟩, f0, f1, f2, f3, f4, f5⟩ := dd
                  clear hA5 hE5 hG5)
  all_goals go_wp2_with fail
  all_goals (try simp only [Exit.inBlock, Exit.then])
  all_goals refine bodyPost_ret (results_cell_row2 rfl _ _ _ 33 _ (0, 0) _ rfl (six_row hid5.out.2.2 _ _ _ _ _ _) Tryd.underlying33 rfl info_ar) rfl ?_
  all_goals exact ⟨_, by simp [Act.put], Done.mk' hid.out.2.2.2.1 hh ((hid.out.1.bel (Bel.refl _).drew).exc (hid5.out.2.1.mono fun k hk => Or.inl (hid.out.2.2.2.1 k hk))) hid5.out.1 (hid.out.2.1.trans hid5.out.2.1) _ _ _ _ _ _⟩

/-- an act -/
theorem does_any {X : Nat → Prop} (v q : Value) (pl lo hi : Nat) (P : Pl) (T : Nat → Bool) (what : Nat) (n : Int) (w : World) (hA : IsA w v pl lo hi P T) (hh : hi ≤ w.heap.size) (ht : Tb w) (hq : IsAr X w q P T) (hX : Till X w) (hO : ∀ k, Own lo hi k → X k) (h8 : what ≤ 255) (hn : i64b' n) :
    Calls Tryd.prog 10 #[v, q, .agg #[.int .u8 (what : Nat), .int .i64 n]] w fun e w' => ∃ q', e = .returned (.tuple #[q', .bool true]) ∧ Done X w v pl lo hi P q' w' := by
  by_cases a : what % 4 = 2
  · exact does_give v q pl lo hi P T what n w hA hh ht hq hX hO h8 hn a
  · by_cases b : what % 4 = 3
    · exact does_all v q pl lo hi P T what n w hA hh ht hq hX hO h8 hn b
    · exact does_take v q pl lo hi P T what n w hA hh ht hq hX hO h8 hn (by omega)

end Go.Proofs.YtjgjomojcocegaaDoor
