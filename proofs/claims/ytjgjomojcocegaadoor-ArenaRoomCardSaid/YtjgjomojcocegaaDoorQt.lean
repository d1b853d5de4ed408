/- The program's arenas as they lie. -/
import Derived.Test.YtjgjomojcocegaaDoorPh
import Derived.Test.YtjgjomojcocegaaDoorPc
import Derived.Test.YtjgjomojcocegaaDoorRnw
import Derived.Test.YtjgjomojcocegaaDoorBnxp
import Derived.Test.YtjgjomojcocegaaDoorBcp
import Derived.Test.YtjgjomojcocegaaDoorPl
import Derived.Deep.RegionHeld3
import Derived.Test.YtjgjomojcocegaaDoorPi
import Derived.Test.YtjgjomojcocegaaDoorAd
namespace Go.Proofs.YtjgjomojcocegaaDoor
open Go.ChangeShapes Go.WideShapes Go.ChangeAt Go.RowKit Go.Deep
set_option linter.unusedVariables false

/-- what the calls ask of the start: the table of trailing zeros -/
def Tb (w : World) : Prop := bt.TabAt w
theorem Tb.bel {w w' : World} (h : Tb w) (g : Bel w w') : Tb w' := bt.TabAt.bel h g
theorem Tb.exc {X : Nat → Prop} {w w' : World} (h : Tb w) (g : Exc X w w') (hx : ¬ X 0) : Tb w' := fun j hj => cell_exc g (h j hj) hx
theorem Tb.pos {w : World} (h : Tb w) : 0 < w.heap.size := (cell_block (h 0 (by decide))).1

/-- an arena of the program: its own blocks from lo on below hi, its plan's below pl -/
def IsA (w : World) (v : Value) (pl lo hi : Nat) (P : Pl) (T : Nat → Bool) : Prop := ∃ b rb g ca pb pg off cap, v = .pointer (some ⟨b, 0, none⟩) ∧ Own lo hi b ∧ Own lo hi rb ∧ Own lo hi g ∧ 0 < pl ∧ pl ≤ lo ∧ pb < pl ∧ pg < pl ∧
  w.heap[b]? = some (.cells #[.pointer (some ⟨pb, 0, none⟩), .pointer (some ⟨rb, 0, none⟩), .int .i64 (P.used T P.S : Nat)] 60 (0, 0)) ∧ PlanAt w pb pg off cap P ∧ bt.RowIs w rb g ca P.S T ∧ PlOk P
theorem IsA.keep {w w' : World} {v : Value} {pl lo hi : Nat} {P : Pl} {T : Nat → Bool} (h : IsA w v pl lo hi P T) (k : ∀ x, (x < pl ∨ Own lo hi x) → x < w.heap.size → w'.heap[x]? = w.heap[x]?) (s : w.heap.size ≤ w'.heap.size) : IsA w' v pl lo hi P T := by
  obtain ⟨b, rb, g, ca, pb, pg, off, cap, rfl, h1, h2, h3, h0, h4, h5, h6, h7, h8, h9, h10⟩ := h
  have e1 := (heap_lt h7)
  obtain ⟨p1, p2, p3, p4, p5, p6, p7⟩ := h8
  have cb : ∀ j, w'.cell? ⟨pb, j, none⟩ = w.cell? ⟨pb, j, none⟩ := fun j => World.cell?_of_block (k pb (Or.inl h5) p1)
  have cg : ∀ j, w'.cell? ⟨pg, j, none⟩ = w.cell? ⟨pg, j, none⟩ := fun j => World.cell?_of_block (k pg (Or.inl h6) p2)
  obtain ⟨r1, r2, r3, r4, cs, r5, r6⟩ := h9
  refine ⟨b, rb, g, ca, pb, pg, off, cap, rfl, h1, h2, h3, h0, h4, h5, h6, (k b (Or.inr h1) e1).trans h7, ⟨by omega, by omega, (cb 0).trans p3, (cb 1).trans p4, p5, p6, fun j hj => ?_⟩, ⟨r1, r2, r3, (k rb (Or.inr h2) (heap_lt r4)).trans r4, cs, (k g (Or.inr h3) (heap_lt r5)).trans r5, r6⟩, h10⟩
  obtain ⟨q0, q1, q2, q3, q4, q5, q6⟩ := p7 j hj
  exact ⟨(cg _).trans q0, (cg _).trans q1, (cg _).trans q2, (cg _).trans q3, (cg _).trans q4, (cg _).trans q5, (cg _).trans q6⟩
/-- the box of an arena of the document that is none: no block of a plan -/
abbrev zAr : Array Value := #[.slice none 0 0, .slice none 0 0, .slice none 0 0, .int .i64 0, .slice none 0 0, .slice none 0 0]
theorem PlanAt.apart {w : World} {pb pg off cap r : Nat} {P : Pl} {t : TypeId} {m : Nat × Nat} (h : PlanAt w pb pg off cap P) (hn : 1 ≤ P.n) (hr : w.heap[r]? = some (.cells zAr t m)) : pb ≠ r ∧ pg ≠ r := by
  obtain ⟨_, _, p3, _, _, _, p7⟩ := h
  refine ⟨fun e => ?_, fun e => ?_⟩
  · subst e
    rw [blk_cell hr 0] at p3
    cases p3
  · subst e
    obtain ⟨q0, q1, _⟩ := p7 0 (by omega)
    rw [blk_cell hr] at q0 q1
    have c : off = 0 ∨ off = 1 ∨ off = 2 ∨ off = 3 ∨ off = 4 ∨ off = 5 ∨ 6 ≤ off := by omega
    rcases c with rfl | rfl | rfl | rfl | rfl | rfl | c
    · cases q0
    · cases q0
    · cases q0
    · cases q1
    · cases q0
    · cases q0
    · rw [Array.getElem?_eq_none (by show 6 ≤ _; omega)] at q0
      cases q0
/-- a store into such a box -/
theorem IsA.apart {w w' : World} {v : Value} {pl lo hi r : Nat} {P : Pl} {T : Nat → Bool} {t : TypeId} {m : Nat × Nat} (h : IsA w v pl lo hi P T) (hr : w.heap[r]? = some (.cells zAr t m)) (hlo : ¬ Own lo hi r) (g : Exc (fun k => k = r) w w') : IsA w' v pl lo hi P T := by
  obtain ⟨b, rb, g1, ca, pb, pg, off, cap, rfl, h1, h2, h3, h0, h4, h5, h6, h7, h8, h9, h10⟩ := h
  have e1 := (heap_lt h7)
  obtain ⟨n1, n2⟩ := h8.apart h10.1.one hr
  obtain ⟨p1, p2, p3, p4, p5, p6, p7⟩ := h8
  have s := g.size
  have ko : ∀ x, Own lo hi x → x < w.heap.size → w'.heap[x]? = w.heap[x]? := fun x hx hs => g.block x hs fun e => hlo (e ▸ hx)
  have cb : ∀ j, w'.cell? ⟨pb, j, none⟩ = w.cell? ⟨pb, j, none⟩ := fun j => World.cell?_of_block (g.block pb p1 n1)
  have cg : ∀ j, w'.cell? ⟨pg, j, none⟩ = w.cell? ⟨pg, j, none⟩ := fun j => World.cell?_of_block (g.block pg p2 n2)
  obtain ⟨r1, r2, r3, r4, cs, r5, r6⟩ := h9
  refine ⟨b, rb, g1, ca, pb, pg, off, cap, rfl, h1, h2, h3, h0, h4, h5, h6, (ko b h1 e1).trans h7, ⟨by omega, by omega, (cb 0).trans p3, (cb 1).trans p4, p5, p6, fun j hj => ?_⟩, ⟨r1, r2, r3, (ko rb h2 (heap_lt r4)).trans r4, cs, (ko g1 h3 (heap_lt r5)).trans r5, r6⟩, h10⟩
  obtain ⟨q0, q1, q2, q3, q4, q5, q6⟩ := p7 j hj
  exact ⟨(cg _).trans q0, (cg _).trans q1, (cg _).trans q2, (cg _).trans q3, (cg _).trans q4, (cg _).trans q5, (cg _).trans q6⟩
theorem IsA.bel {w w' : World} {v : Value} {pl lo hi : Nat} {P : Pl} {T : Nat → Bool} (h : IsA w v pl lo hi P T) (g : Bel w w') : IsA w' v pl lo hi P T := h.keep (fun x _ hx => g.block x hx) g.size
theorem IsA.exc {X : Nat → Prop} {w w' : World} {v : Value} {pl lo hi : Nat} {P : Pl} {T : Nat → Bool} (h : IsA w v pl lo hi P T) (g : Exc X w w') (hx : ∀ x, X x → pl ≤ x ∧ ¬ Own lo hi x) : IsA w' v pl lo hi P T :=
  h.keep (fun x hk hs => g.block x hs fun y => by
    have := hx x y
    rcases hk with hk | hk
    · omega
    · exact this.2 hk) g.size
theorem IsA.ptr {w : World} {v : Value} {pl lo hi : Nat} {P : Pl} {T : Nat → Bool} (h : IsA w v pl lo hi P T) : ∃ p, v = .pointer (some p) := ⟨_, h.choose_spec.choose_spec.choose_spec.choose_spec.choose_spec.choose_spec.choose_spec.choose_spec.1⟩
theorem IsA.low {w : World} {v : Value} {pl lo hi : Nat} {P : Pl} {T : Nat → Bool} (h : IsA w v pl lo hi P T) : 0 < pl ∧ pl ≤ lo := by
  obtain ⟨_, _, _, _, _, _, _, _, _, _, _, _, h0, h4, _⟩ := h
  exact ⟨h0, h4⟩
theorem IsA.fits {w : World} {v : Value} {pl lo hi : Nat} {P : Pl} {T : Nat → Bool} (h : IsA w v pl lo hi P T) : ∀ i, P.S ≤ i → T i = false := by
  obtain ⟨_, _, _, _, _, _, _, _, _, _, _, _, _, _, _, _, _, _, h9, _⟩ := h
  exact h9.2.1
theorem IsA.ok {w : World} {v : Value} {pl lo hi : Nat} {P : Pl} {T : Nat → Bool} (h : IsA w v pl lo hi P T) : PlOk P := by
  obtain ⟨_, _, _, _, _, _, _, _, _, _, _, _, _, _, _, _, _, _, _, h10⟩ := h
  exact h10

/-- a row of bits that was just made -/
def NewR (w : World) (m : Nat) (f : Nat → Bool) (v : Value) (w' : World) : Prop := ∃ b g ca, v = .pointer (some ⟨b, 0, none⟩) ∧ bt.RowIs w' b g ca m f ∧ w.heap.size ≤ b ∧ w.heap.size ≤ g

theorem cnt_same (f : Nat → Bool) : ∀ n, bt.cnt f n = Pl.cnt f n
  | 0 => rfl
  | n + 1 => congrArg (· + if f n = true then 1 else 0) (cnt_same f n)
theorem PlOk.T1 {P : Pl} (h : PlOk P) : 1 ≤ P.S ∧ 1 ≤ P.T := by
  have a := h.1.one
  have b := h.1.s1 0 a
  have c := h.1.p1 0 a
  have d := Pl.fo_S (P := P) a (show 0 < P.s 0 by omega)
  have e := Pl.po_T (P := P) a (show 0 < P.p 0 by omega)
  omega

theorem blk_exc {X : Nat → Prop} {w w' : World} (g : Exc X w w') {k : Nat} {o : Obj} (h : w.heap[k]? = some o) (hx : ¬ X k) : w'.heap[k]? = some o := (g.block k (heap_lt h) hx).trans h
theorem row_exc {X : Nat → Prop} {w w' : World} {b g ca n : Nat} {f : Nat → Bool} (h : bt.RowIs w b g ca n f) (k : Exc X w w') (hb : ¬ X b) (hg : ¬ X g) : bt.RowIs w' b g ca n f := by
  obtain ⟨h1, h2, h0, h3, cs, h4, h5⟩ := h
  exact ⟨h1, h2, h0, blk_exc k h3 hb, cs, blk_exc k h4 hg, h5⟩
/-- the box of an arena of zeros -/
def ZeroA (w : World) (b : Nat) : Prop := w.heap[b]? = some (.cells #[.pointer none, .pointer none, .int .i64 0] 60 (0, 0))

end Go.Proofs.YtjgjomojcocegaaDoor

/- What the program's arenas answer of themselves: exists, Has, Used, Count, Taken, Copy, New; arenas that are none. -/
namespace Go.Proofs.YtjgjomojcocegaaDoor
open Go.ChangeShapes Go.WideShapes Go.ChangeAt Go.RowKit Go.Deep
set_option linter.unusedVariables false

theorem aex_yes {w : World} {b : Nat} {q : Addr} (c0 : w.cell? ⟨b, 0, none⟩ = some (.pointer (some q))) :
    Calls Tryd.prog 37 #[.pointer (some ⟨b, 0, none⟩)] w fun e w' => e = .returned (.bool true) ∧ w' = w := by
  go_enter Tryd.func37, Tryd.ntmps37
  go_wp2
  go_ret
  exact ⟨rfl, rfl⟩
theorem aex_nil (w : World) : Calls Tryd.prog 37 #[.pointer none] w fun e w' => e = .returned (.bool false) ∧ w' = w := by
  go_enter Tryd.func37, Tryd.ntmps37
  go_wp2
  go_ret
  exact ⟨rfl, rfl⟩
theorem aex_zero {w : World} {b : Nat} (c0 : w.cell? ⟨b, 0, none⟩ = some (.pointer none)) :
    Calls Tryd.prog 37 #[.pointer (some ⟨b, 0, none⟩)] w fun e w' => e = .returned (.bool false) ∧ w' = w := by
  go_enter Tryd.func37, Tryd.ntmps37
  go_wp2
  go_ret
  exact ⟨rfl, rfl⟩

theorem has_same (v : Value) (pl lo hi : Nat) (P : Pl) (T : Nat → Bool) (w : World) (h : IsA w v pl lo hi P T) (hh : hi ≤ w.heap.size) (ht : Tb w) (i : Int) : Calls Tryd.prog 16 #[v, .int .i64 i] w fun e w' => e = .returned (.bool (bt.getB P.S T i)) ∧ w' = w := by
  obtain ⟨b, rb, g, ca, pb, pg, off, cap, rfl, _, _, _, _, _, _, _, h7, _, h9, _⟩ := h
  have c0 := blk_cell h7 0
  have c1 := blk_cell h7 1
  have he := aex_yes c0
  have hg := bt.get_any i w h9
  clear h7 h9 hh ht
  generalize bt.getB P.S T i = B at *
  go_enter Tryd.func16, Tryd.ntmps16
  go_wp2_with (first
    | (go_at_call 37; (with_reducible refine he.mono ?_); rintro e w' ⟨rfl, hw⟩; rw [hw]; clear hw)
    | (go_at_call 15; (with_reducible refine hg.mono ?_); rintro e w' ⟨rfl, hw⟩; rw [hw]; clear hw))
  go_ret
  exact ⟨rfl, rfl⟩
theorem qa_has (v : Value) (pl lo hi : Nat) (P : Pl) (T : Nat → Bool) (w : World) (h : IsA w v pl lo hi P T) (hh : hi ≤ w.heap.size) (ht : Tb w) (i : Int) (hib : i64b' i) : Calls Tryd.prog 16 #[v, .int .i64 i] w fun e w' => e = .returned (.bool (bt.getB P.S T i)) ∧ Bel w w' :=
  (has_same v pl lo hi P T w h hh ht i).mono fun e w' ⟨a, b⟩ => ⟨a, bt.Bel.of_eq b⟩
theorem qa_used (v : Value) (pl lo hi : Nat) (P : Pl) (T : Nat → Bool) (w : World) (h : IsA w v pl lo hi P T) (hh : hi ≤ w.heap.size) (ht : Tb w) : Calls Tryd.prog 12 #[v] w fun e w' => e = .returned (.int .i64 (P.used T P.S : Nat)) ∧ Bel w w' := by
  obtain ⟨b, rb, g, ca, pb, pg, off, cap, rfl, _, _, _, _, _, _, _, h7, _, h9, _⟩ := h
  have c0 := blk_cell h7 0
  have c2 := blk_cell h7 2
  have he := aex_yes c0
  clear h7 h9 hh ht
  generalize P.used T P.S = U at *
  go_enter Tryd.func12, Tryd.ntmps12
  go_wp2_with (go_at_call 37; (with_reducible refine he.mono ?_); rintro e w' ⟨rfl, hw⟩; rw [hw]; clear hw)
  go_ret
  exact ⟨rfl, Bel.refl _⟩
theorem qa_count (v : Value) (pl lo hi : Nat) (P : Pl) (T : Nat → Bool) (w : World) (h : IsA w v pl lo hi P T) (hh : hi ≤ w.heap.size) (ht : Tb w) : Calls Tryd.prog 25 #[v] w fun e w' => e = .returned (.int .i64 (Pl.cnt T P.S : Nat)) ∧ Bel w w' := by
  obtain ⟨b, rb, g, ca, pb, pg, off, cap, rfl, _, _, _, _, _, _, _, h7, _, h9, _⟩ := h
  have c0 := blk_cell h7 0
  have c1 := blk_cell h7 1
  have he := aex_yes c0
  have hc := bt.count_any w h9
  rw [show bt.cnt T P.S = Pl.cnt T P.S from cnt_same T P.S] at hc
  clear h7 h9 hh ht
  generalize Pl.cnt T P.S = U at *
  go_enter Tryd.func25, Tryd.ntmps25
  go_wp2_with (first
    | (go_at_call 37; (with_reducible refine he.mono ?_); rintro e w' ⟨rfl, hw⟩; rw [hw]; clear hw)
    | (go_at_call 26; (with_reducible refine hc.mono ?_); rintro e w' ⟨rfl, hw⟩; rw [hw]; clear hw))
  go_ret
  exact ⟨rfl, Bel.refl _⟩
theorem qa_taken (v : Value) (pl lo hi : Nat) (P : Pl) (T : Nat → Bool) (w : World) (h : IsA w v pl lo hi P T) (hh : hi ≤ w.heap.size) (ht : Tb w) : Calls Tryd.prog 13 #[v] w fun e w' => (∃ r, e = .returned r ∧ NewR w P.S T r w') ∧ Bel w w' := by
  obtain ⟨b, rb, g, ca, pb, pg, off, cap, rfl, _, _, _, _, _, _, _, h7, _, h9, _⟩ := h
  have c0 := blk_cell h7 0
  have c1 := blk_cell h7 1
  have he := aex_yes c0
  have hc := bt.copy_any w h9
  clear h7 h9 hh ht
  go_enter Tryd.func13, Tryd.ntmps13
  go_wp2_with (first
    | (go_at_call 37; (with_reducible refine he.mono ?_); rintro e w' ⟨rfl, hw⟩; rw [hw]; clear hw)
    | (go_at_call 38; (with_reducible refine hc.mono ?_); rintro e w' ⟨b2, g2, ca2, rfl, k1, k2, k3, k4⟩))
  go_ret
  exact ⟨⟨_, rfl, b2, g2, ca2, rfl, k1, k3, k2⟩, k4⟩
set_option maxHeartbeats 2000000 in
theorem qa_copy (v : Value) (pl lo hi : Nat) (P : Pl) (T : Nat → Bool) (w : World) (h : IsA w v pl lo hi P T) (hh : hi ≤ w.heap.size) (ht : Tb w) : Calls Tryd.prog 18 #[v] w fun e w' => (∃ p, e = .returned (.pointer (some p)) ∧ IsA w' (.pointer (some p)) pl w.heap.size w'.heap.size P T) ∧ Bel w w' := by
  have hall := h
  obtain ⟨b, rb, g, ca, pb, pg, off, cap, rfl, hb, hrb, hg, hp0, hpl, hpb, hpg, h7, h8, h9, h10⟩ := h
  have c0 := blk_cell h7 0
  have c1 := blk_cell h7 1
  have c2 := blk_cell h7 2
  have he := aex_yes c0
  have hc := bt.copy_any w.drew (h9.bel (Bel.refl w).drew)
  have k0 : ∀ w', Bel w w' → w'.cell? ⟨b, 0, none⟩ = some (.pointer (some ⟨pb, 0, none⟩)) := fun w' k => cell_bel k c0
  have k2 : ∀ w', Bel w w' → w'.cell? ⟨b, 2, none⟩ = some (.int .i64 (P.used T P.S : Nat)) := fun w' k => cell_bel k c2
  have hlo := hb.1
  have hbs := heap_lt h7
  have fin : ∀ (w' : World) (b2 g2 ca2 : Nat), Bel w w' → bt.RowIs w' b2 g2 ca2 P.S T → w.heap.size ≤ g2 → w.heap.size ≤ b2 →
      (∃ p, Ending.returned (.pointer (some ⟨w'.heap.size, 0, none⟩)) = .returned (.pointer (some p)) ∧ IsA (w'.alloc (.cells #[.pointer (some ⟨pb, 0, none⟩), .pointer (some ⟨b2, 0, none⟩), .int .i64 (P.used T P.S : Nat)] 60)) (.pointer (some p)) pl w.heap.size (w'.alloc (.cells #[.pointer (some ⟨pb, 0, none⟩), .pointer (some ⟨b2, 0, none⟩), .int .i64 (P.used T P.S : Nat)] 60)).heap.size P T) ∧ Bel w (w'.alloc (.cells #[.pointer (some ⟨pb, 0, none⟩), .pointer (some ⟨b2, 0, none⟩), .int .i64 (P.used T P.S : Nat)] 60)) := fun w' b2 g2 ca2 k r gg gb => by
    have ka := (Bel.refl w').alloc (.cells #[.pointer (some ⟨pb, 0, none⟩), .pointer (some ⟨b2, 0, none⟩), .int .i64 (P.used T P.S : Nat)] 60)
    have sz := size_al w' (.cells #[.pointer (some ⟨pb, 0, none⟩), .pointer (some ⟨b2, 0, none⟩), .int .i64 (P.used T P.S : Nat)] 60)
    have ra := r.bel ka
    have hr1 := heap_lt r.2.2.2.1
    have hr2 : g2 < w'.heap.size := by obtain ⟨cs, q, _⟩ := r.2.2.2.2; exact heap_lt q
    have hkb := k.size
    exact ⟨⟨_, rfl, _, b2, g2, ca2, pb, pg, off, cap, rfl, ⟨hkb, by omega⟩, ⟨gb, by omega⟩, ⟨gg, by omega⟩, hp0, by omega, hpb, hpg, World.alloc_heap_new w' _, (h8.bel k).bel ka, ra, h10⟩, Bel.trans k ka⟩
  have d0 : w.drew.cell? ⟨b, 0, none⟩ = some (.pointer (some ⟨pb, 0, none⟩)) := c0
  have d1 : w.drew.cell? ⟨b, 1, none⟩ = some (.pointer (some ⟨rb, 0, none⟩)) := c1
  have d2 : w.drew.cell? ⟨b, 2, none⟩ = some (.int .i64 (P.used T P.S : Nat)) := c2
  clear h7 h8 h9 h10 hh ht hall
  have fin := Lib.hid fin
  generalize P.used T P.S = U at *
  go_enter Tryd.func18, Tryd.ntmps18
  go_wp2_with (go_at_call 37; (with_reducible refine he.mono ?_); rintro e w' ⟨rfl, hw⟩; rw [hw]; clear hw)
  clear he
  go_region_law (first | (go_simp; go_at_call 38; refine hc.mono ?_; rintro e w' ⟨b2, g2, ca2, rfl, r1, r2, r3, r4⟩; have r5 := Bel.trans (Bel.refl w).drew r4; have m0 := k0 _ r5; have m2 := k2 _ r5))
  all_goals go_wp2
  all_goals go_ret
  all_goals exact fin.out _ _ _ _ r5 r1 r2 r3
/-- New: a plan -/
theorem qa_new (v : Value) (P : Pl) (w : World) (h : IsPlan w v P) (ok : PlOk P) (ht : Tb w) :
    Calls Tryd.prog 23 #[v] w fun e w' => (∃ p, e = .returned (.tuple #[.pointer (some p), .int .i64 0]) ∧ IsA w' (.pointer (some p)) w.heap.size w.heap.size w'.heap.size P fun _ => false) ∧ Bel w w' := by
  obtain ⟨b, g, off, cap, rfl, h⟩ := h
  have s1 : 1 ≤ P.S := ok.T1.1
  have hS := fun W (k : Bel w W) => pslots_at W (h.bel k) ok.1.one ok.2.2.2.2.1 fun k hk => (ok.2.2.2.2.2 k hk).1
  have hN := fun W => bt.new_ok P.S (by have := ok.2.1; omega) W
  have fin : ∀ (w' : World) (b2 g2 ca2 : Nat), Bel w w' → bt.RowIs w' b2 g2 ca2 P.S (fun _ => false) → w.heap.size ≤ g2 → w.heap.size ≤ b2 →
      (∃ p, Ending.returned (.tuple #[.pointer (some ⟨w'.heap.size, 0, none⟩), .int .i64 0]) = .returned (.tuple #[.pointer (some p), .int .i64 0]) ∧ IsA (w'.alloc (.cells #[.pointer (some ⟨b, 0, none⟩), .pointer (some ⟨b2, 0, none⟩), .int .i64 0] 60)) (.pointer (some p)) w.heap.size w.heap.size (w'.alloc (.cells #[.pointer (some ⟨b, 0, none⟩), .pointer (some ⟨b2, 0, none⟩), .int .i64 0] 60)).heap.size P fun _ => false) ∧ Bel w (w'.alloc (.cells #[.pointer (some ⟨b, 0, none⟩), .pointer (some ⟨b2, 0, none⟩), .int .i64 0] 60)) := fun w' b2 g2 ca2 k r gg gb => by
    have ka := (Bel.refl w').alloc (.cells #[.pointer (some ⟨b, 0, none⟩), .pointer (some ⟨b2, 0, none⟩), .int .i64 0] 60)
    have sz := size_al w' (.cells #[.pointer (some ⟨b, 0, none⟩), .pointer (some ⟨b2, 0, none⟩), .int .i64 0] 60)
    have ra := r.bel ka
    have hr1 := heap_lt r.2.2.2.1
    have hr2 : g2 < w'.heap.size := by obtain ⟨cs, q, _⟩ := r.2.2.2.2; exact heap_lt q
    have hkb := k.size
    have hp := (h.bel k).bel ka
    refine ⟨⟨_, rfl, _, b2, g2, ca2, b, g, off, cap, rfl, ⟨hkb, by omega⟩, ⟨gb, by omega⟩, ⟨gg, by omega⟩, ht.pos, Nat.le_refl _, h.1, h.2.1, ?_, hp, ra, ok⟩, Bel.trans k ka⟩
    rw [Pl.used_none]
    exact World.alloc_heap_new w' _
  have b0 := h.1
  have S0 : ¬ (P.S : Int) < 1 := by omega
  have S1 : decide ((P.S : Int) < 1) = false := decide_eq_false S0
  clear h ok ht
  generalize P.S = S at *
  go_enter Tryd.func23, Tryd.ntmps23
  go_wp2_with (first
    | (go_at_call 47; (with_reducible refine (hS _ (by assumption)).mono ?_); rintro e w1 ⟨rfl, g1⟩)
    | (go_at_call 47; (with_reducible refine (hS _ (Bel.refl _)).mono ?_); rintro e w1 ⟨rfl, g1⟩)
    | (go_at_call 20; (with_reducible refine (hN _).mono ?_); rintro e w3 ⟨b2, g2, ca2, rfl, r1, r2, r3, r4⟩))
  have gA : Bel w w1 := Bel.trans (by assumption) g1
  have gs := gA.size
  go_ret2
  exact fin w3 b2 g2 ca2 (Bel.trans gA r4) r1 (by omega) (by omega)
theorem qa_new_nil (w : World) : Calls Tryd.prog 23 #[.pointer none] w fun e w' => e = .returned (.tuple #[.pointer none, .int .i64 1]) ∧ Bel w w' := by
  have hs := fun W => slots_none none W (noPlan_nil W)
  go_enter Tryd.func23, Tryd.ntmps23
  go_wp2_with (go_at_call 47; (with_reducible refine (hs _).mono ?_); rintro e w' ⟨rfl, g1⟩)
  go_ret2
  exact ⟨rfl, g1⟩

/-! Arenas that are none: nil; an arena of zeros. -/
/-- one result, in a box -/
theorem results_one {Q : Program} {fn : Func} {p : Tmp} {ty : TypeId} (h : fn.results = #[.cell p ty]) (tmps : Array Value) (w : World) (g : Nat) (v : Value)
    (hp : tmps.getD p undef = .pointer (some ⟨g, 0, none⟩)) (hl : (loadVar ty ⟨g, 0, none⟩).run Q w = .ok v w) : (results fn tmps).run Q w = .ok v w := by
  have hp' : tmps[p]?.getD undef = .pointer (some ⟨g, 0, none⟩) := by simpa using hp
  simp [results, h, hp', asAddr, hl]
theorem load_errno {W : World} {g : Nat} {v : Value} (h : W.cell? ⟨g, 0, none⟩ = some v) : (loadVar 48 ⟨g, 0, none⟩).run Tryd.prog W = .ok v W := by simp [loadVar, go_sem, h]
theorem qn_take (w : World) (k : Int) : Calls Tryd.prog 14 #[.pointer none, .int .i64 k] w fun e w' => e = .returned (.tuple #[.int .i64 0, .int .i64 1]) ∧ Bel w w' := by
  have he := fun w => aex_nil w
  go_enter Tryd.func14, Tryd.ntmps14
  go_wp2_with (go_at_call 37; (with_reducible refine (he _).mono ?_); rintro e w' ⟨rfl, hw⟩; rw [hw]; clear hw)
  go_ret2
  exact ⟨rfl, (Bel.refl w).alloc _⟩
theorem qn_all (w : World) (v : Value) : Calls Tryd.prog 22 #[.pointer none, v] w fun e w' => e = .returned (.int .i64 1) ∧ Bel w w' := by
  have he := fun w => aex_nil w
  go_enter Tryd.func22, Tryd.ntmps22
  go_wp2_with (go_at_call 37; (with_reducible refine (he _).mono ?_); rintro e w' ⟨rfl, hw⟩; rw [hw]; clear hw)
  obtain ⟨h1, h2, h3, h4⟩ := two_at (w := w) (a := .cells #[.pointer none] 27) (c := .cells #[.int .i64 1] 48) rfl
  exact bodyPost_ret (results_one rfl _ _ (w.heap.size + 1) (.int .i64 1) rfl (load_errno (blk_cell h4 0))) rfl ⟨rfl, h2⟩
theorem qn_has (w : World) (k : Int) : Calls Tryd.prog 16 #[.pointer none, .int .i64 k] w fun e w' => e = .returned (.bool false) ∧ Bel w w' := by
  have he := fun w => aex_nil w
  go_enter Tryd.func16, Tryd.ntmps16
  go_wp2_with (go_at_call 37; (with_reducible refine (he _).mono ?_); rintro e w' ⟨rfl, hw⟩; rw [hw]; clear hw)
  go_ret
  exact ⟨rfl, Bel.refl w⟩
theorem qn_used (w : World) : Calls Tryd.prog 12 #[.pointer none] w fun e w' => e = .returned (.int .i64 0) ∧ Bel w w' := by
  have he := fun w => aex_nil w
  go_enter Tryd.func12, Tryd.ntmps12
  go_wp2_with (go_at_call 37; (with_reducible refine (he _).mono ?_); rintro e w' ⟨rfl, hw⟩; rw [hw]; clear hw)
  go_ret
  exact ⟨rfl, Bel.refl w⟩
theorem qn_taken (w : World) : Calls Tryd.prog 13 #[.pointer none] w fun e w' => e = .returned (.pointer none) ∧ Bel w w' := by
  have he := fun w => aex_nil w
  go_enter Tryd.func13, Tryd.ntmps13
  go_wp2_with (go_at_call 37; (with_reducible refine (he _).mono ?_); rintro e w' ⟨rfl, hw⟩; rw [hw]; clear hw)
  go_ret
  exact ⟨rfl, Bel.refl w⟩
theorem qz_give (w : World) (b : Nat) (k : Int) (h : ZeroA w b) : Calls Tryd.prog 24 #[.pointer (some ⟨b, 0, none⟩), .int .i64 k] w fun e w' => e = .returned (.int .i64 1) ∧ Bel w w' := by
  have he := aex_zero (blk_cell h 0)
  go_enter Tryd.func24, Tryd.ntmps24
  go_wp2_with (go_at_call 37; (with_reducible refine he.mono ?_); rintro e w' ⟨rfl, hw⟩; rw [hw]; clear hw)
  go_ret
  exact ⟨rfl, Bel.refl w⟩
theorem qz_count (w : World) (b : Nat) (h : ZeroA w b) : Calls Tryd.prog 25 #[.pointer (some ⟨b, 0, none⟩)] w fun e w' => e = .returned (.int .i64 0) ∧ Bel w w' := by
  have he := aex_zero (blk_cell h 0)
  go_enter Tryd.func25, Tryd.ntmps25
  go_wp2_with (go_at_call 37; (with_reducible refine he.mono ?_); rintro e w' ⟨rfl, hw⟩; rw [hw]; clear hw)
  go_ret
  exact ⟨rfl, Bel.refl w⟩
theorem qz_copy (w : World) (b : Nat) (h : ZeroA w b) : Calls Tryd.prog 18 #[.pointer (some ⟨b, 0, none⟩)] w fun e w' => e = .returned (.pointer none) ∧ Bel w w' := by
  have he := aex_zero (blk_cell h 0)
  go_enter Tryd.func18, Tryd.ntmps18
  go_wp2_with (go_at_call 37; (with_reducible refine he.mono ?_); rintro e w' ⟨rfl, hw⟩; rw [hw]; clear hw)
  go_ret
  exact ⟨rfl, Bel.refl w⟩

end Go.Proofs.YtjgjomojcocegaaDoor

/- Take and Give of the program's arenas. -/
namespace Go.Proofs.YtjgjomojcocegaaDoor
open Go.ChangeShapes Go.WideShapes Go.ChangeAt Go.RowKit Go.Deep
set_option linter.unusedVariables false

theorem sz_le {P : Pl} (ok : PlOk P) {i : Nat} (h : i < P.S) : P.sz i ≤ 64 := (ok.2.2.2.2.2 _ (Pl.cls_lt h)).2.2.2.1
theorem used_bd {P : Pl} (ok : PlOk P) (T : Nat → Bool) : ∀ n, n ≤ P.S → P.used T n ≤ n * 64
  | 0, _ => Nat.le_refl _
  | n + 1, h => by
    have a := used_bd ok T n (by omega)
    have b := sz_le ok (show n < P.S by omega)
    show P.used T n + (if T n = true then P.sz n else 0) ≤ _
    split <;> omega
theorem set_same {n i : Nat} {f : Nat → Bool} {is : Bool} (h : i < n) : bt.setF n f (i : Int) is = upd f i is := by
  unfold bt.setF
  rw [if_pos (show bt.there n (i : Int) = true from decide_eq_true ⟨by omega, by omega⟩), Int.toNat_natCast]
  rfl

/-- a slot turned, and what is used told anew -/
theorem turn_fin {w w1 w2 : World} {b rb g ca pb pg off cap pl lo hi U : Nat} {P : Pl} {T T' : Nat → Bool} (hb : Own lo hi b) (hrb : Own lo hi rb) (hg : Own lo hi g) (hp0 : 0 < pl) (hpl : pl ≤ lo) (hpb : pb < pl) (hpg : pg < pl)
    (h7 : w.heap[b]? = some (.cells #[.pointer (some ⟨pb, 0, none⟩), .pointer (some ⟨rb, 0, none⟩), .int .i64 (P.used T P.S : Nat)] 60 (0, 0))) (h8 : PlanAt w pb pg off cap P) (h10 : PlOk P) (nb : b ≠ g)
    (k : Bel w w1) (r : bt.RowIs w2 rb g ca P.S T') (kk : bt.But g w1 w2) (eU : U = P.used T' P.S) :
    IsA (w2.setCell ⟨b, 2, none⟩ (.int .i64 (U : Nat))) (.pointer (some ⟨b, 0, none⟩)) pl lo hi P T' ∧ Exc (Own lo hi) w (w2.setCell ⟨b, 2, none⟩ (.int .i64 (U : Nat))) := by
  have h7' : w2.heap[b]? = _ := (kk.2.2.2.2 b (Nat.lt_of_lt_of_le (heap_lt h7) k.size) nb).trans (heap_bel k h7)
  have nr : rb ≠ b := by
    rintro rfl
    have := r.2.2.2.1
    rw [h7'] at this
    cases this
  have ex : Exc (Own lo hi) w (w2.setCell ⟨b, 2, none⟩ (.int .i64 (U : Nat))) := by
    have e1 : Exc (Own lo hi) w1 w2 := ⟨kk.1, kk.2.1, kk.2.2.1, kk.2.2.2.1, fun j hj hx => kk.2.2.2.2 j hj fun e => hx (e ▸ hg)⟩
    have e2 := (Below.refl 0 w2).setCell (p := ⟨b, 2, none⟩) (Nat.zero_le _) (.int .i64 (U : Nat))
    have e3 : Exc (Own lo hi) w2 (w2.setCell ⟨b, 2, none⟩ (.int .i64 (U : Nat))) := ⟨e2.os, e2.tape, e2.output, e2.size, fun j hj hx => heap_setCell_other w2 ⟨b, 2, none⟩ j _ fun e => hx (e ▸ hb)⟩
    exact (k.exc.trans e1).trans e3
  have hlt := heap_lt h7
  have pB := h8.below (ex.below (B := pl) (fun j hj => Nat.le_trans hpl hj.1) (by have := hb.1; omega)) hpb hpg
  have h7n : (w2.setCell ⟨b, 2, none⟩ (.int .i64 (U : Nat))).heap[b]? = some (.cells #[.pointer (some ⟨pb, 0, none⟩), .pointer (some ⟨rb, 0, none⟩), .int .i64 (U : Nat)] 60 (0, 0)) := heap_setCell_same w2 b 2 _ 60 (.int .i64 (U : Nat)) h7'
  obtain ⟨r1, r2, r3, r4, cs, r5, r6⟩ := r
  refine ⟨⟨b, rb, g, ca, pb, pg, off, cap, rfl, hb, hrb, hg, hp0, hpl, hpb, hpg, ?_, pB, ⟨r1, r2, r3, heap_set_other _ nr r4, cs, heap_set_other _ (fun e => nb e.symm) r5, r6⟩, h10⟩, ex⟩
  rw [← eU]
  exact h7n

theorem take1_at (w : World) (b B u s : Nat) (x y : Value) (hB : w.cell? ⟨B, 0, none⟩ = some (.pointer (some ⟨b, 0, none⟩))) (hb : w.heap[b]? = some (.cells #[x, y, .int .i64 (u : Nat)] 60 (0, 0))) (hu : u ≤ 4294967296) (hs : s ≤ 4294967296) :
    Calls Tryd.prog 42 #[.int .i64 (s : Nat), .pointer (some ⟨B, 0, none⟩)] w fun e w' => e = .returned (.tuple #[]) ∧ w' = w.setCell ⟨b, 2, none⟩ (.int .i64 (u + s : Nat)) := by
  have c2 := blk_cell hb 2
  have f2 := frozen_of_row w b 2 _ _ hb
  have e1 : (u : Int) + (s : Int) = ((u + s : Nat) : Int) := by omega
  have l1 : u + s ≤ 8589934592 := by omega
  clear hb
  generalize u + s = t at *
  go_enter Tryd.func42, Tryd.ntmps42
  go_wp2
  go_end0
  exact ⟨rfl, rfl⟩

theorem free1_at (w : World) (b B u s : Nat) (x y : Value) (hB : w.cell? ⟨B, 0, none⟩ = some (.pointer (some ⟨b, 0, none⟩))) (hb : w.heap[b]? = some (.cells #[x, y, .int .i64 (u : Nat)] 60 (0, 0))) (hu : u ≤ 4294967296) (hs : s ≤ 4294967296) (hus : s ≤ u) :
    Calls Tryd.prog 69 #[.int .i64 (s : Nat), .pointer (some ⟨B, 0, none⟩)] w fun e w' => e = .returned (.tuple #[]) ∧ w' = w.setCell ⟨b, 2, none⟩ (.int .i64 (u - s : Nat)) := by
  have c2 := blk_cell hb 2
  have f2 := frozen_of_row w b 2 _ _ hb
  have e1 : (u : Int) - (s : Int) = ((u - s : Nat) : Int) := by omega
  have l1 : u - s ≤ 8589934592 := by omega
  clear hb
  generalize u - s = t at *
  go_enter Tryd.func69, Tryd.ntmps69
  go_wp2
  go_end0
  exact ⟨rfl, rfl⟩

set_option maxHeartbeats 2000000 in
theorem set_take (w : World) (v : Value) (pl lo hi B i : Nat) (P : Pl) (T : Nat → Bool) (h : IsA w v pl lo hi P T) (hh : hi ≤ w.heap.size) (hB : w.cell? ⟨B, 0, none⟩ = some v) (hBo : hi ≤ B) (his : i < P.S) (hT : T i = false) :
    Calls Tryd.prog 41 #[v, .int .i64 (i : Nat), .bool true, .func (.func 42) #[] #[.pointer (some ⟨B, 0, none⟩)]] w fun e w' => e = .returned (.tuple #[]) ∧ IsA w' v pl lo hi P (upd T i true) ∧ Exc (Own lo hi) w w' := by
  have hA := h
  obtain ⟨b, rb, g, ca, pb, pg, off, cap, rfl, hb, hrb, hg, hp0, hpl, hpb, hpg, h7, h8, h9, h10⟩ := h
  have c0 := blk_cell h7 0
  have c1 := blk_cell h7 1
  have sz := psize_at w h8 h10 (i : Int)
  rw [Pl.slR_ok his] at sz
  have hsz := sz_le h10 his
  have hu := used_bd h10 T P.S (Nat.le_refl _)
  have hS := h10.2.1
  have eU : P.used T P.S + P.sz i = P.used (upd T i true) P.S := by rw [Pl.used_take hT, if_pos his]
  have nb : b ≠ g := by
    rintro rfl
    obtain ⟨cs, q, _⟩ := h9.2.2.2.2
    rw [h7] at q
    cases q
  have k1 : ∀ W, Bel w W → W.cell? ⟨b, 1, none⟩ = some (.pointer (some ⟨rb, 0, none⟩)) := fun W k => cell_bel k c1
  have st : ∀ W, Bel w W → Calls Tryd.prog 49 #[.pointer (some ⟨rb, 0, none⟩), .int .i64 (i : Nat), .bool true] W fun e w' => (∃ z : Int, e = .returned (.int .i64 z)) ∧ (bt.RowIs w' rb g ca P.S (upd T i true) ∧ bt.But g W w') ∧ w'.heap[b]? = some (.cells #[.pointer (some ⟨pb, 0, none⟩), .pointer (some ⟨rb, 0, none⟩), .int .i64 (P.used T P.S : Nat)] 60 (0, 0)) ∧ w'.cell? ⟨B, 0, none⟩ = some (.pointer (some ⟨b, 0, none⟩)) := fun W k =>
    (bt.set_any (i : Int) true W (h9.bel k)).mono fun e w' ⟨e1, r, kk⟩ => ⟨⟨_, e1⟩, ⟨by rw [set_same his] at r; exact r, kk⟩, (kk.2.2.2.2 b (Nat.lt_of_lt_of_le (heap_lt h7) k.size) nb).trans (heap_bel k h7), bt.cell_but kk (cell_bel k hB) (by show B ≠ g; have := hg.2; omega)⟩
  have fin := fun (W w2 : World) (k : Bel w W) (r : bt.RowIs w2 rb g ca P.S (upd T i true)) (kk : bt.But g W w2) => turn_fin hb hrb hg hp0 hpl hpb hpg h7 h8 h10 nb k r kk eU
  have st := Lib.hid st
  have fin := Lib.hid fin
  have nc := Lib.hid hA
  clear h7 h8 h9 h10 hA hB hT eU
  generalize P.used T P.S = U at *
  generalize P.sz i = Z at *
  go_enter Tryd.func41, Tryd.ntmps41
  go_wp2_with (first
    | (go_at_call 67; (with_reducible refine sz.mono ?_); rintro e w1 ⟨rfl, g1⟩; have m1 := k1 _ g1)
    | (go_at_call 49; (with_reducible refine (st.out _ (by assumption)).mono ?_); rintro e w2 ⟨⟨z, rfl⟩, r2, hb2, hB2⟩)
    | (go_at_call 42; (with_reducible refine (take1_at _ _ _ _ _ _ _ hB2 hb2 (by omega) (by omega)).mono ?_); rintro e w3 ⟨rfl, hw3⟩; rw [hw3]; clear hw3))
  go_end0
  exact ⟨rfl, fin.out _ _ (by assumption) r2.1 r2.2⟩

set_option maxHeartbeats 2000000 in
theorem set_free (w : World) (v : Value) (pl lo hi B i : Nat) (P : Pl) (T : Nat → Bool) (h : IsA w v pl lo hi P T) (hh : hi ≤ w.heap.size) (hB : w.cell? ⟨B, 0, none⟩ = some v) (hBo : hi ≤ B) (his : i < P.S) (hT : T i = true) :
    Calls Tryd.prog 41 #[v, .int .i64 (i : Nat), .bool false, .func (.func 69) #[] #[.pointer (some ⟨B, 0, none⟩)]] w fun e w' => e = .returned (.tuple #[]) ∧ IsA w' v pl lo hi P (upd T i false) ∧ Exc (Own lo hi) w w' := by
  have hA := h
  obtain ⟨b, rb, g, ca, pb, pg, off, cap, rfl, hb, hrb, hg, hp0, hpl, hpb, hpg, h7, h8, h9, h10⟩ := h
  have c0 := blk_cell h7 0
  have c1 := blk_cell h7 1
  have sz := psize_at w h8 h10 (i : Int)
  rw [Pl.slR_ok his] at sz
  have hsz := sz_le h10 his
  have hu := used_bd h10 T P.S (Nat.le_refl _)
  have hS := h10.2.1
  have eU : P.used T P.S - P.sz i = P.used (upd T i false) P.S := by
    have := Pl.used_give (P := P) hT his
    omega
  have hge : P.sz i ≤ P.used T P.S := by
    have := Pl.used_give (P := P) hT his
    omega
  have nb : b ≠ g := by
    rintro rfl
    obtain ⟨cs, q, _⟩ := h9.2.2.2.2
    rw [h7] at q
    cases q
  have k1 : ∀ W, Bel w W → W.cell? ⟨b, 1, none⟩ = some (.pointer (some ⟨rb, 0, none⟩)) := fun W k => cell_bel k c1
  have st : ∀ W, Bel w W → Calls Tryd.prog 49 #[.pointer (some ⟨rb, 0, none⟩), .int .i64 (i : Nat), .bool false] W fun e w' => (∃ z : Int, e = .returned (.int .i64 z)) ∧ (bt.RowIs w' rb g ca P.S (upd T i false) ∧ bt.But g W w') ∧ w'.heap[b]? = some (.cells #[.pointer (some ⟨pb, 0, none⟩), .pointer (some ⟨rb, 0, none⟩), .int .i64 (P.used T P.S : Nat)] 60 (0, 0)) ∧ w'.cell? ⟨B, 0, none⟩ = some (.pointer (some ⟨b, 0, none⟩)) := fun W k =>
    (bt.set_any (i : Int) false W (h9.bel k)).mono fun e w' ⟨e1, r, kk⟩ => ⟨⟨_, e1⟩, ⟨by rw [set_same his] at r; exact r, kk⟩, (kk.2.2.2.2 b (Nat.lt_of_lt_of_le (heap_lt h7) k.size) nb).trans (heap_bel k h7), bt.cell_but kk (cell_bel k hB) (by show B ≠ g; have := hg.2; omega)⟩
  have fin := fun (W w2 : World) (k : Bel w W) (r : bt.RowIs w2 rb g ca P.S (upd T i false)) (kk : bt.But g W w2) => turn_fin hb hrb hg hp0 hpl hpb hpg h7 h8 h10 nb k r kk eU
  have st := Lib.hid st
  have fin := Lib.hid fin
  have nc := Lib.hid hA
  clear h7 h8 h9 h10 hA hB hT eU
  generalize P.used T P.S = U at *
  generalize P.sz i = Z at *
  go_enter Tryd.func41, Tryd.ntmps41
  go_wp2_with (first
    | (go_at_call 67; (with_reducible refine sz.mono ?_); rintro e w1 ⟨rfl, g1⟩; have m1 := k1 _ g1)
    | (go_at_call 49; (with_reducible refine (st.out _ (by assumption)).mono ?_); rintro e w2 ⟨⟨z, rfl⟩, r2, hb2, hB2⟩)
    | (go_at_call 69; (with_reducible refine (free1_at _ _ _ _ _ _ _ hB2 hb2 (by omega) (by omega) hge).mono ?_); rintro e w3 ⟨rfl, hw3⟩; rw [hw3]; clear hw3))
  go_end0
  exact ⟨rfl, fin.out _ _ (by assumption) r2.1 r2.2⟩

/-- free: a slot that is taken -/
theorem free_at (w : World) (v : Value) (pl lo hi i : Nat) (P : Pl) (T : Nat → Bool) (h : IsA w v pl lo hi P T) (hh : hi ≤ w.heap.size) (his : i < P.S) (hT : T i = true) :
    Calls Tryd.prog 46 #[v, .int .i64 (i : Nat)] w fun e w' => e = .returned (.tuple #[]) ∧ IsA w' v pl lo hi P (upd T i false) ∧ Exc (Own lo hi) w w' := by
  obtain ⟨p, rfl⟩ := h.ptr
  have ka := (Bel.refl w).alloc (.cells #[.pointer (some p)] 27)
  have sz := size_al w (.cells #[.pointer (some p)] 27)
  have cB : (w.alloc (.cells #[.pointer (some p)] 27)).cell? ⟨w.heap.size, 0, none⟩ = some (.pointer (some p)) := blk_cell (World.alloc_heap_new w (.cells #[.pointer (some p)] 27)) 0
  have st := set_free (w.alloc (.cells #[.pointer (some p)] 27)) (.pointer (some p)) pl lo hi w.heap.size i P T (h.bel ka) (by omega) cB hh his hT
  have fin : ∀ w', Exc (Own lo hi) (w.alloc (.cells #[.pointer (some p)] 27)) w' → Exc (Own lo hi) w w' := fun w' k => ka.exc.trans k
  clear h ka cB sz hT his hh
  have fin := Lib.hid fin
  go_enter Tryd.func46, Tryd.ntmps46
  go_wp2_with (go_at_call 41; (with_reducible refine st.mono ?_); rintro e w3 ⟨rfl, a3, x3⟩)
  go_end0
  exact ⟨rfl, a3, fin.out _ x3⟩

end Go.Proofs.YtjgjomojcocegaaDoor

/- Take and Give of the program's arenas. -/
namespace Go.Proofs.YtjgjomojcocegaaDoor
open Go.ChangeShapes Go.WideShapes Go.ChangeAt Go.RowKit Go.Deep
set_option linter.unusedVariables false

theorem getB_in {n i : Nat} {f : Nat → Bool} (h : i < n) : bt.getB n f (i : Int) = f i := by
  unfold bt.getB
  rw [show bt.there n (i : Int) = true from decide_eq_true ⟨by omega, by omega⟩, Int.toNat_natCast, Bool.true_and]

/-- what Next finds in a class -/
theorem next_class {P : Pl} {T : Nat → Bool} {K : Nat} (hK : K < P.n) :
    (bt.nxt T P.S (bt.start (P.fo K : Nat)) false = none ∧ ∀ j, j < P.S → (P.cls j : Int) = (K : Int) → T j = true) ∨
    ∃ j, bt.nxt T P.S (bt.start (P.fo K : Nat)) false = some j ∧ j < P.S ∧
      ((P.fo K + P.s K ≤ j ∧ ∀ j, j < P.S → (P.cls j : Int) = (K : Int) → T j = true) ∨
       (j < P.fo K + P.s K ∧ P.cls j = K ∧ T j = false ∧ ∀ i, i < j → (P.cls i : Int) = (K : Int) → T i = true)) := by
  have e0 : bt.start (P.fo K : Nat) = P.fo K := by unfold bt.start; omega
  rw [e0]
  unfold bt.nxt
  have no : ∀ i, bt.sel T P.S false i = false → i < P.S → T i = true := fun i h hi => by
    unfold bt.sel at h
    rw [decide_eq_true hi, Bool.true_and] at h
    cases c : T i
    · rw [c] at h; simp at h
    · rfl
  have cl : ∀ i, i < P.S → (P.cls i : Int) = (K : Int) → P.fo K ≤ i ∧ i < P.fo K + P.s K := fun i hi hc => (Pl.cls_iff hi hK).1 (by omega)
  rcases bt.first_cases (bt.sel T P.S false) (P.S - P.fo K) (P.fo K) with ⟨h1, h2⟩ | ⟨a, h1, h2, h3, h4, h5⟩
  · exact Or.inl ⟨h1, fun j hj hc => no j (h2 j (cl j hj hc).1 (by omega)) hj⟩
  · have ha : a < P.S := by omega
    have hTa : T a = false := by
      unfold bt.sel at h4
      rw [decide_eq_true ha, Bool.true_and] at h4
      cases c : T a
      · rfl
      · rw [c] at h4; simp at h4
    refine Or.inr ⟨a, h1, ha, ?_⟩
    by_cases c : P.fo K + P.s K ≤ a
    · exact Or.inl ⟨c, fun j hj hc => no j (h5 j (cl j hj hc).1 (by have := (cl j hj hc).2; omega)) hj⟩
    · exact Or.inr ⟨by omega, (Pl.cls_iff ha hK).2 ⟨h2, by omega⟩, hTa, fun i hi hc => no i (h5 i (cl i (by omega) hc).1 hi) (by omega)⟩

theorem qa_give (v : Value) (pl lo hi : Nat) (P : Pl) (T : Nat → Bool) (w : World) (h : IsA w v pl lo hi P T) (hh : hi ≤ w.heap.size) (ht : Tb w) (k : Int) (hk : i64b' k) : Calls Tryd.prog 24 #[v, .int .i64 k] w fun e w' => (∃ c T', e = .returned (.int .i64 c) ∧ GiveR P T k c T' ∧ IsA w' v pl lo hi P T') ∧ Exc (Own lo hi) w w' := by
  have hA := h
  have hs := has_same v pl lo hi P T w h hh ht k
  obtain ⟨b, rb, g, ca, pb, pg, off, cap, rfl, hb, hrb, hg, hp0, hpl, hpb, hpg, h7, h8, h9, h10⟩ := h
  have c0 := blk_cell h7 0
  have c1 := blk_cell h7 1
  have he := aex_yes c0
  have hl := bt.len_any w h9.hdr
  have hS := h10.2.1
  have rx := Exc.refl (Own lo hi) w
  by_cases k0 : k < 0
  · have d0 : decide (k < 0) = true := decide_eq_true k0
    have fin := Lib.hid (And.intro hA rx)
    clear hs hA h7 h8 h9 h10 rx
    go_enter Tryd.func24, Tryd.ntmps24
    go_wp2_with (go_at_call 37; (with_reducible refine he.mono ?_); rintro e w' ⟨rfl, hw⟩; rw [hw]; clear hw)
    go_ret
    exact ⟨⟨2, T, rfl, Or.inl ⟨by omega, rfl, rfl⟩, fin.out.1⟩, fin.out.2⟩
  · have d0 : decide (k < 0) = false := decide_eq_false k0
    by_cases kS : (P.S : Int) ≤ k
    · have d1 : decide ((P.S : Int) ≤ k) = true := decide_eq_true kS
      have fin := Lib.hid (And.intro hA rx)
      clear hs hA h7 h8 h9 h10 rx
      generalize hN : P.S = N at *
      go_enter Tryd.func24, Tryd.ntmps24
      go_wp2_with (first
        | (go_at_call 37; (with_reducible refine he.mono ?_); rintro e w' ⟨rfl, hw⟩; rw [hw]; clear hw)
        | (go_at_call 21; (with_reducible refine hl.mono ?_); rintro e w' ⟨rfl, hw⟩; rw [hw]; clear hw))
      go_ret
      exact ⟨⟨2, T, rfl, Or.inl ⟨by omega, rfl, rfl⟩, fin.out.1⟩, fin.out.2⟩
    · have d1 : decide ((P.S : Int) ≤ k) = false := decide_eq_false kS
      obtain ⟨I, rfl⟩ : ∃ I : Nat, k = I := ⟨k.toNat, by omega⟩
      have hI : I < P.S := by omega
      rw [getB_in hI] at hs
      cases hT : T I
      · rw [hT] at hs
        have fin := Lib.hid (And.intro hA (And.intro rx hT))
        clear hA h7 h8 h9 h10 rx hT
        generalize hN : P.S = N at *
        go_enter Tryd.func24, Tryd.ntmps24
        go_wp2_with (first
          | (go_at_call 37; (with_reducible refine he.mono ?_); rintro e w' ⟨rfl, hw⟩; rw [hw]; clear hw)
          | (go_at_call 21; (with_reducible refine hl.mono ?_); rintro e w' ⟨rfl, hw⟩; rw [hw]; clear hw)
          | (go_at_call 16; (with_reducible refine hs.mono ?_); rintro e w' ⟨rfl, hw⟩; rw [hw]; clear hw))
        go_ret
        exact ⟨⟨9, T, rfl, Or.inr (Or.inl ⟨I, rfl, by omega, fin.out.2.2, rfl, rfl⟩), fin.out.1⟩, fin.out.2.1⟩
      · rw [hT] at hs
        have fr := free_at w _ pl lo hi I P T hA hh hI hT
        have fin := Lib.hid hT
        clear hA h7 h8 h9 h10 rx hT
        generalize hN : P.S = N at *
        go_enter Tryd.func24, Tryd.ntmps24
        go_wp2_with (first
          | (go_at_call 37; (with_reducible refine he.mono ?_); rintro e w' ⟨rfl, hw⟩; rw [hw]; clear hw)
          | (go_at_call 21; (with_reducible refine hl.mono ?_); rintro e w' ⟨rfl, hw⟩; rw [hw]; clear hw)
          | (go_at_call 16; (with_reducible refine hs.mono ?_); rintro e w' ⟨rfl, hw⟩; rw [hw]; clear hw)
          | (go_at_call 46; (with_reducible refine fr.mono ?_); rintro e w3 ⟨rfl, a3, x3⟩))
        go_ret
        exact ⟨⟨0, _, rfl, Or.inr (Or.inr ⟨I, rfl, by omega, fin.out, rfl, rfl⟩), a3⟩, x3⟩

set_option maxHeartbeats 2000000 in
theorem qa_take (v : Value) (pl lo hi : Nat) (P : Pl) (T : Nat → Bool) (w : World) (h : IsA w v pl lo hi P T) (hh : hi ≤ w.heap.size) (ht : Tb w) (k : Int) (hk : i64b' k) : Calls Tryd.prog 14 #[v, .int .i64 k] w fun e w' => (∃ r c T', e = .returned (.tuple #[.int .i64 r, .int .i64 c]) ∧ TakeR P T k r c T' ∧ IsA w' v pl lo hi P T') ∧ Exc (Own lo hi) w w' := by
  have hA := h
  obtain ⟨b, rb, g, ca, pb, pg, off, cap, rfl, hb, hrb, hg, hp0, hpl, hpb, hpg, h7, h8, h9, h10⟩ := h
  have ka := (Bel.refl w).alloc (.cells #[.pointer (some ⟨b, 0, none⟩)] 27)
  have szW := size_al w (.cells #[.pointer (some ⟨b, 0, none⟩)] 27)
  have cB : (w.alloc (.cells #[.pointer (some ⟨b, 0, none⟩)] 27)).cell? ⟨w.heap.size, 0, none⟩ = some (.pointer (some ⟨b, 0, none⟩)) := blk_cell (World.alloc_heap_new w (.cells #[.pointer (some ⟨b, 0, none⟩)] 27)) 0
  have hbl := heap_lt h7
  have c0 := blk_cell (heap_bel ka h7) 0
  have he := aex_yes c0
  have ho := pof_at (w.alloc (.cells #[.pointer (some ⟨b, 0, none⟩)] 27)) (h8.bel ka) h10 k
  have fs := fun W (g : Bel (w.alloc (.cells #[.pointer (some ⟨b, 0, none⟩)] 27)) W) => And.intro (cell_bel g cB) (blk_cell (heap_bel g (heap_bel ka h7)) 1)
  have fin := fun W (g : Bel (w.alloc (.cells #[.pointer (some ⟨b, 0, none⟩)] 27)) W) => And.intro ((hA.bel ka).bel g) (Bel.exc (X := Own lo hi) (ka.trans g))
  have hlow : ∀ (W : World), Bel w W → w.heap.size ≤ W.heap.size := fun W g => g.size
  by_cases hK : P.hasK k
  · obtain ⟨K, rfl⟩ : ∃ K : Nat, k = K := ⟨k.toNat, by have := hK.1; omega⟩
    have hKn : K < P.n := by have := hK.2; omega
    obtain ⟨o1, o2, o3⟩ := Pl.of_ok (P := P) hKn
    rw [o1, o2, o3] at ho
    obtain ⟨bf, bs⟩ := h10.fo K hKn
    have hS := h10.2.1
    have nx := fun W (g : Bel (w.alloc (.cells #[.pointer (some ⟨b, 0, none⟩)] 27)) W) => bt.next_row (P.fo K : Nat) false W ((h9.bel ka).bel g) ((ht.bel ka).bel g) (by omega)
    rcases next_class (P := P) (T := T) hKn with ⟨n1, full⟩ | ⟨j, n1, hj, ⟨hbeyond, full⟩ | ⟨hin, hcl, hTj, hfirst⟩⟩
    · rw [n1] at nx
      have nx : ∀ W, Bel (w.alloc (.cells #[.pointer (some ⟨b, 0, none⟩)] 27)) W → Calls Tryd.prog 40 #[.pointer (some ⟨rb, 0, none⟩), .int .i64 (P.fo K : Nat), .bool false] W fun e w' => e = .returned (.tuple #[.int .i64 0, .bool false]) ∧ Bel W w' := nx
      have fin := Lib.hid (And.intro fin full)
      have fs := Lib.hid fs
      clear hA h7 h8 h9 h10 full o1 o2 o3 n1 hK
      generalize hF : P.fo K = F at *
      generalize hM : P.s K = M at *
      go_enter Tryd.func14, Tryd.ntmps14
      go_wp2_with (first
        | (go_at_call 37; (with_reducible refine he.mono ?_); rintro e w' ⟨rfl, hw⟩; rw [hw]; clear hw)
        | (go_at_call 39; (with_reducible refine ho.mono ?_); rintro e w1 ⟨rfl, g1⟩; obtain ⟨m1, m2⟩ := fs.out _ g1)
        | (go_at_call 40; (with_reducible refine (nx _ (by assumption)).mono ?_); rintro e w2 ⟨rfl, g2⟩))
      go_ret2
      exact ⟨⟨0, 6, T, rfl, Or.inr (Or.inr ⟨⟨by omega, by omega⟩, fin.out.2, rfl, rfl, rfl⟩), (fin.out.1 _ (Bel.trans g1 g2)).1⟩, (fin.out.1 _ (Bel.trans g1 g2)).2⟩
    · rw [n1] at nx
      have nx : ∀ W, Bel (w.alloc (.cells #[.pointer (some ⟨b, 0, none⟩)] 27)) W → Calls Tryd.prog 40 #[.pointer (some ⟨rb, 0, none⟩), .int .i64 (P.fo K : Nat), .bool false] W fun e w' => e = .returned (.tuple #[.int .i64 (j : Nat), .bool true]) ∧ Bel W w' := nx
      have d1 : decide ((P.fo K : Int) + (P.s K : Int) ≤ (j : Int)) = true := decide_eq_true (by omega)
      have fin := Lib.hid (And.intro fin full)
      have fs := Lib.hid fs
      clear hA h7 h8 h9 h10 full o1 o2 o3 n1 hK
      generalize hF : P.fo K = F at *
      generalize hM : P.s K = M at *
      go_enter Tryd.func14, Tryd.ntmps14
      go_wp2_with (first
        | (go_at_call 37; (with_reducible refine he.mono ?_); rintro e w' ⟨rfl, hw⟩; rw [hw]; clear hw)
        | (go_at_call 39; (with_reducible refine ho.mono ?_); rintro e w1 ⟨rfl, g1⟩; obtain ⟨m1, m2⟩ := fs.out _ g1)
        | (go_at_call 40; (with_reducible refine (nx _ (by assumption)).mono ?_); rintro e w2 ⟨rfl, g2⟩))
      go_ret2
      exact ⟨⟨0, 6, T, rfl, Or.inr (Or.inr ⟨⟨by omega, by omega⟩, fin.out.2, rfl, rfl, rfl⟩), (fin.out.1 _ (Bel.trans g1 g2)).1⟩, (fin.out.1 _ (Bel.trans g1 g2)).2⟩
    · rw [n1] at nx
      have nx : ∀ W, Bel (w.alloc (.cells #[.pointer (some ⟨b, 0, none⟩)] 27)) W → Calls Tryd.prog 40 #[.pointer (some ⟨rb, 0, none⟩), .int .i64 (P.fo K : Nat), .bool false] W fun e w' => e = .returned (.tuple #[.int .i64 (j : Nat), .bool true]) ∧ Bel W w' := nx
      have d1 : decide ((P.fo K : Int) + (P.s K : Int) ≤ (j : Int)) = false := decide_eq_false (by omega)
      have st := fun W (g : Bel (w.alloc (.cells #[.pointer (some ⟨b, 0, none⟩)] 27)) W) => set_take W (.pointer (some ⟨b, 0, none⟩)) pl lo hi w.heap.size j P T (fin W g).1 (by have := g.size; omega) (fs W g).1 hh hj hTj
      have fin := Lib.hid (And.intro fin (And.intro hcl (And.intro hTj hfirst)))
      have fs := Lib.hid fs
      clear hA h7 h8 h9 h10 o1 o2 o3 n1 hK hcl hTj hfirst
      generalize hF : P.fo K = F at *
      generalize hM : P.s K = M at *
      go_enter Tryd.func14, Tryd.ntmps14
      go_wp2_with (first
        | (go_at_call 37; (with_reducible refine he.mono ?_); rintro e w' ⟨rfl, hw⟩; rw [hw]; clear hw)
        | (go_at_call 39; (with_reducible refine ho.mono ?_); rintro e w1 ⟨rfl, g1⟩; obtain ⟨m1, m2⟩ := fs.out _ g1)
        | (go_at_call 40; (with_reducible refine (nx _ (by assumption)).mono ?_); rintro e w2 ⟨rfl, g2⟩; have g3 := Bel.trans g1 g2; obtain ⟨m3, m4⟩ := fs.out _ g3)
        | (go_at_call 41; (with_reducible refine (st _ g3).mono ?_); rintro e w4 ⟨rfl, a4, x4⟩))
      go_ret2
      exact ⟨⟨j, 0, _, rfl, Or.inr (Or.inl ⟨j, hj, by rw [fin.out.2.1], fin.out.2.2.1, fin.out.2.2.2, rfl, rfl, rfl⟩), a4⟩, (fin.out.1 _ g3).2.trans x4⟩
  · obtain ⟨o1, o2, o3⟩ := Pl.of_not (P := P) hK
    rw [o1, o2, o3] at ho
    have fin := Lib.hid fin
    have fs := Lib.hid fs
    clear hA h7 h8 h9 h10 o1 o2 o3
    go_enter Tryd.func14, Tryd.ntmps14
    go_wp2_with (first
      | (go_at_call 37; (with_reducible refine he.mono ?_); rintro e w' ⟨rfl, hw⟩; rw [hw]; clear hw)
      | (go_at_call 39; (with_reducible refine ho.mono ?_); rintro e w1 ⟨rfl, g1⟩; obtain ⟨m1, m2⟩ := fs.out _ g1))
    go_ret2
    exact ⟨⟨0, 2, T, rfl, Or.inl ⟨hK, rfl, rfl, rfl⟩, (fin.out _ g1).1⟩, (fin.out _ g1).2⟩
end Go.Proofs.YtjgjomojcocegaaDoor
