/- One word turned, of the document's memories: with, Store. -/
import Derived.Test.YteipadpifmjnmaaRap
import Derived.Test.YteipadpifmjnmaaRin
namespace Go.Proofs.Yteipadpifmjnmaa
open Go.ChangeShapes Go.WideShapes Go.ChangeAt Go.RowKit Go.Deep
set_option linter.unusedVariables false

theorem info_rm : (Try.prog.info? 36).map (·.size) = some 1 := by kernel_rfl

/-- a box of one cell, turned -/
theorem box_store {w : World} {b : Nat} {ov x : Value} {t : TypeId} (h : w.heap[b]? = some (.cells #[ov] t (0, 0))) :
    w.frozen? ⟨b, 0, none⟩ = false ∧ w.cell? ⟨b, 0, none⟩ = some ov ∧ ∃ W, w.setCell ⟨b, 0, none⟩ x = W ∧ W.heap[b]? = some (.cells #[x] t (0, 0)) ∧ W.cell? ⟨b, 0, none⟩ = some x ∧ Exc (fun k => k = b) w W := by
  have s := heap_setCell_same w b 0 _ t x h
  refine ⟨frozen_of_row _ _ 0 _ t h, cell_of_row w b 0 _ t (0, 0) h, _, rfl, s, cell_of_row _ b 0 _ t (0, 0) s, ⟨rfl, rfl, rfl, ?_, fun k _ hk => heap_setCell_other w _ k x hk⟩⟩
  exact (Below.setCell (Below.refl 0 w) (Nat.zero_le _) _).size
theorem box_at {w W : World} {o : Obj} (h : Bel (w.alloc o) W) : W.heap[w.heap.size]? = some o := by
  rw [h.block _ (by rw [size_alloc1]; omega)]
  exact heap_alloc_new w o

/-- what lay there lies below what is made -/
theorem Ws.old {X : Nat → Prop} {w : World} {v : Value} {l : List Nat} (h : Ws X w v l) : Ws (fun b => X b ∨ w.heap.size ≤ b) w v l := by
  rcases h with h | ⟨b, off, cap, h1, h2, h3, h4, h5, h6⟩
  · exact Or.inl h
  · refine Or.inr ⟨b, off, cap, h1, h2, h3, h4, ?_, h6⟩
    have hb := (cell_block (h6 0 l[0] (List.getElem?_eq_getElem (by omega)))).1
    rintro (x | x)
    · exact h5 x
    · dsimp at hb; omega
theorem Rs.old {X : Nat → Prop} {w : World} {v : Value} {R : List (List Nat)} (h : Rs X w v R) : Rs (fun b => X b ∨ w.heap.size ≤ b) w v R := by
  rcases h with h | ⟨b, off, cap, h1, h2, h3, h4, h5, h6⟩
  · exact Or.inl h
  · refine Or.inr ⟨b, off, cap, h1, h2, h3, h4, ?_, fun j l hj => ?_⟩
    · obtain ⟨lv, c, _⟩ := h6 0 R[0] (List.getElem?_eq_getElem (by omega))
      have hb := (cell_block c).1
      rintro (x | x)
      · exact h5 x
      · dsimp at hb; omega
    · obtain ⟨lv, c, hw⟩ := h6 j l hj
      exact ⟨lv, c, hw.old⟩
theorem Below.exc {B : Nat} {w w' : World} (h : Below B w w') {X : Nat → Prop} : Exc (fun b => X b ∨ B ≤ b) w w' := ⟨h.os, h.tape, h.output, h.size, fun k _ hx => h.block k (by
  rcases Nat.lt_or_ge k B with c | c
  · exact c
  · exact absurd (Or.inr c) hx)⟩

theorem setR_at {R : List (List Nat)} {t a u k : Nat} {l : List Nat} (h : R[k]? = some l) (hk : k ≠ t) : (setR R t a u)[k]? = some l := by
  unfold setR; rw [List.getElem?_set, if_neg (fun e => hk e.symm)]; exact h
theorem setR_here {R : List (List Nat)} {t a u : Nat} {l : List Nat} (h : R[t]? = some l) : (setR R t a u)[t]? = some (l.set a u) := by
  have e : R.getD t [] = l := by rw [List.getD_eq_getElem?_getD, h]; rfl
  unfold setR; rw [List.getElem?_set, if_pos rfl, if_pos (List.getElem?_eq_some_iff.1 h).1, e]
theorem take_more {R : List (List Nat)} {k : Nat} {l : List Nat} (h : R[k]? = some l) : R.take (k + 1) = R.take k ++ [l] := by rw [List.take_add_one, h]; rfl

/-- three boxes of a memory each, made -/
theorem three_made (w : World) (a b c : Obj) : (((w.alloc a).alloc b).alloc c).heap[w.heap.size]? = some a ∧ (((w.alloc a).alloc b).alloc c).heap[w.heap.size + 1]? = some b ∧ (((w.alloc a).alloc b).alloc c).heap[w.heap.size + 2]? = some c ∧ (((w.alloc a).alloc b).alloc c).heap.size = w.heap.size + 3 := by
  have s1 := size_alloc1 w a
  have s2 := size_alloc1 (w.alloc a) b
  have s3 := size_alloc1 ((w.alloc a).alloc b) c
  have g3 := (Bel.refl ((w.alloc a).alloc b)).alloc c
  have g2 := ((Bel.refl (w.alloc a)).alloc b).alloc c
  have e1 := box_at (w := w) (o := a) g2
  have e2 := box_at (w := w.alloc a) (o := b) g3
  have e3 := box_at (w := (w.alloc a).alloc b) (o := c) (Bel.refl _)
  rw [s1] at e2
  rw [s2, s1] at e3
  exact ⟨e1, e2, e3, by omega⟩

set_option maxRecDepth 100000 in
set_option maxHeartbeats 2000000 in
theorem with_any (X : Nat → Prop) (rv : Value) (R : List (List Nat)) (t a u : Nat) (l : List Nat) (w : World) (hR : Rs X w rv R) (hX : Till X w) (h1 : R[t]? = some l) (h2 : a < l.length) (hm : R.length ≤ 1000) (hl : l.length ≤ 100000) :
    Calls Try.prog 50 #[.agg #[rv], .int .i64 (t : Nat), .int .i64 (a : Nat), .int .u64 (u : Nat)] w fun e w' => (∃ v', e = .returned v' ∧ IsRm X w' v' (setR R t a u)) ∧ Bel w w' := by
  obtain ⟨m0, m1, m2, m3⟩ := three_made w (.cells #[rv] 36) (.cells #[.slice none 0 0] 36) (.cells #[.slice none 0 0] 36)
  have g3 := (((Bel.refl w).alloc (.cells #[rv] 36)).alloc (.cells #[.slice none 0 0] 36)).alloc (.cells #[.slice none 0 0] 36)
  have ht := (List.getElem?_eq_some_iff.1 h1).1
  have hid := Lib.hid (And.intro hR.old (And.intro hX (And.intro h1 (And.intro hm (And.intro hl g3)))))
  have hidm := Lib.hid (And.intro m0 (And.intro m1 (And.intro m2 m3)))
  obtain ⟨p, cap, rfl, bd⟩ := hR.slice
  obtain ⟨m, hmm⟩ : ∃ m, R.length = m := ⟨_, rfl⟩
  rw [hmm] at hid hidm bd ht
  clear hR hX h1 hm hl g3 m0 m1 m2 m3
  rw [hmm]
  go_enter Try.func50, Try.ntmps50
  go_wp2
  go_loopw [10] (fun i wr => ∃ (k : Nat) (ov : Value), k ≤ m ∧ i = .int .i64 (k : Nat) ∧ Below (w.heap.size + 2) (((w.alloc (.cells #[.slice p m cap] 36)).alloc (.cells #[.slice none 0 0] 36)).alloc (.cells #[.slice none 0 0] 36)) wr ∧ wr.heap[w.heap.size + 2]? = some (.cells #[ov] 36 (0, 0)) ∧ Orow (fun b => X b ∨ b = w.heap.size + 1 ∨ b = w.heap.size + 2) (w.heap.size + 3) wr ov ((setR R t a u).take k)) (fun i _ => m - (intOf i).toNat)
  case atStart => exact ⟨0, _, Nat.zero_le _, rfl, Below.refl _ _, hidm.out.2.2.1, Orow.nil _ _ _⟩
  case round =>
    obtain ⟨k, ov, hk, rfl, hbw, hbx, hO⟩ := hrel
    have hs := hidm.out.2.2.2
    have sz := hbw.size
    have c0 : wr.cell? ⟨w.heap.size, 0, none⟩ = some (.slice p m cap) := cell_of_row _ _ 0 _ _ (0, 0) ((hbw.block _ (by omega)).trans hidm.out.1)
    have e0 : Below w.heap.size w wr := Below.trans hid.out.2.2.2.2.2 (hbw.mono (by omega))
    by_cases ck : k < m
    · have hRs := hid.out.1.exc (Below.exc (X := X) e0)
      obtain ⟨lk, hlk⟩ : ∃ lk, R[k]? = some lk := ⟨R[k], List.getElem?_eq_getElem (by omega)⟩
      obtain ⟨b, off, cap', lv, ev, j1, j2, j3, j4, c, hw⟩ := hRs.at hlk
      injection ev with ev1 ev2 ev3
      clear ev2
      subst ev1; subst ev3
      obtain ⟨pl, cl, rfl, bdl⟩ := hw.slice
      have kI : (k : Int) < (m : Int) := by omega
      have kz : (0 : Int) ≤ (k : Int) := by omega
      have hlt := hO.lt
      have hwY : Ws (fun b => (X b ∨ b = w.heap.size + 1 ∨ b = w.heap.size + 2) ∨ ov.ownBlock = some b) wr (.slice pl lk.length cl) lk := hw.less fun x hx => by
        rcases hx with (hx | hx | hx) | hx
        · exact Or.inl hx
        · exact Or.inr (by omega)
        · exact Or.inr (by omega)
        · exact Or.inr (by have := (hlt x hx).1; omega)
      have hQ : ((setR R t a u).take k).length ≤ 1000 := by rw [List.length_take]; have := hid.out.2.2.2.1; omega
      by_cases e : k = t
      · subst e
        have el : lk = l := Option.some.inj (hlk.symm.trans hid.out.2.2.1)
        subst el
        have aI : (a : Int) < (lk.length : Int) := by omega
        have az : (0 : Int) ≤ (a : Int) := by omega
        have hst := setR_here (a := a) (u := u) hlk
        have hidO := Lib.hid (And.intro hO (And.intro hw (And.intro hQ hlt)))
        have hidT := Lib.hid (take_more hst)
        obtain ⟨x0, hx0⟩ : ∃ x0, lk[a]? = some x0 := ⟨lk[a], List.getElem?_eq_getElem h2⟩
        have hidx := Lib.hid (And.intro hx0 h2)
        clear hO hwY hQ hst hRs hw hlk hlt hx0
        have cx := cell_of_row _ _ 0 _ _ (0, 0) hbx
        go_wp2_with (first
          | (at_builtin
             refine wpList_appW rfl (.tmp 27) (.tmp 28) rfl wr.heap.size _ [] rfl (World.ownsRow_made wr #[] 0 (Nat.le_refl _) (Nat.zero_le _) rfl) _ lk rfl (hidO.out.2.1.bel ((Bel.refl wr).alloc _)) (by have := hidx.out.2; omega) (by have := hid.out.2.2.2.2.1; simp; omega) (by rw [size_alloc1]; omega) ?_
             intro g n1 cap2 w1 hn1 hO1 hg1 hat1
             obtain rfl : n1 = lk.length := by simpa using hn1
             have hO2 : Own64 wr.heap.size w1 (.slice (some ⟨g, 0, none⟩) lk.length cap2) lk := by simpa using hO1
             have hge : wr.heap.size ≤ g := (hO2.lt g rfl).1
             have hB1 : Bel wr w1 := Below.grown ((Bel.refl wr).alloc (.cells #[] 40)) hg1 (by rw [size_alloc1]; omega) (fun k hk => Nat.le_of_eq (Option.some.inj hk))
             have cga : w1.cell? ⟨g, a, none⟩ = some (.int .u64 (x0 : Nat)) := (World.ownsRow.cellAt hO2 a (by have := hidx.out.2; omega)).trans (uL_get hidx.out.1)
             have fga : w1.frozen? ⟨g, a, none⟩ = false := World.ownsRow.frozenAt hO2 a
             obtain ⟨W2, hW2⟩ : ∃ W2, w1.setCell ⟨g, a, none⟩ (.int .u64 (u : Nat)) = W2 := ⟨_, rfl⟩
             have hO3 : Own64 wr.heap.size W2 (.slice (some ⟨g, 0, none⟩) lk.length cap2) (lk.set a u) := by
               have := (World.ownsRow.stored hO2 a (.int .u64 (u : Nat))).1
               rw [uL_set, hW2] at this
               unfold Own64
               rw [List.length_set]
               exact this
             have hB2 : Bel wr W2 := by rw [← hW2]; exact Below.trans hB1 (Below.setCell (Below.refl _ _) hge _)
             have cx2 := cell_bel hB2 cx
             have c02 := cell_bel hB2 c0
             have hid3 := Lib.hid (And.intro hO3 (And.intro hB2 hge))
             clear hn1 hO1 hO2 hg1 hat1 hB1 hO3 hB2 hge)
          | (at_builtin
             refine wpList_push rfl (.tmp 35) (.tmp 37) rfl (w.heap.size + 3) ov _ _ (lk.set a u) rfl (hidO.out.1.bel hid3.out.2.1) rfl
               (hid3.out.1.ws fun x hx _ => by
                 have q0 := hidO.out.2.2.2 x
                 rintro ((y | y | y) | y)
                 · have := hid.out.2.1 x y; omega
                 · omega
                 · omega
                 · have := q0 y; omega) hidO.out.2.2.1 (by have := hid3.out.2.1.size; omega) ?_
             intro p' n' cap' w3 hO3 hB3
             obtain ⟨fz, cx3, W4, hW4, hbx4, cx4, hE4⟩ := box_store (x := .slice p' n' cap') ((hB3.block _ (by omega)).trans (heap_bel hid3.out.2.1 hbx))
             have hid4 := Lib.hid (And.intro hO3 (And.intro hB3 (And.intro hbx4 hE4)))
             clear hO3 hB3 hbx4 hE4))
        go_roundw
        case rel =>
          obtain ⟨hO3, hB3, hbx4, hE4⟩ := hid4.out
          have hB2 := hid3.out.2.1
          refine ⟨k + 1, _, by omega, by go_num, Below.trans hbw (Below.trans (hB2.mono (by omega)) (Below.trans (hB3.mono (by omega)) (hE4.below (fun x hx => by omega) (by have := hB3.size; have := hB2.size; omega)))), hbx4, ?_⟩
          rw [hidT.out]
          exact hO3.exc hE4 (fun x hx => Or.inr (Or.inr hx)) (fun x hx => by omega)
        case measure => simp only [intOf]; omega
      · have hne : ((k : Int) == (t : Int)) = false := by rw [beq_eq_false_iff_ne]; omega
        have hne2 : ¬ ((k : Int) = (t : Int)) := by omega
        have hst := setR_at (t := t) (a := a) (u := u) hlk e
        have hidO := Lib.hid (And.intro hO (And.intro hwY hQ))
        have hidT := Lib.hid (take_more hst)
        clear hO hwY hQ hst hRs hw hlk hlt
        have cx := cell_of_row _ _ 0 _ _ (0, 0) hbx
        go_wp2_with (at_builtin
                     refine wpList_push rfl (.tmp 35) (.tmp 37) rfl (w.heap.size + 3) ov _ _ _ rfl hidO.out.1 rfl hidO.out.2.1 hidO.out.2.2 (by omega) ?_
                     intro p' n' cap' w3 hO3 hB3
                     obtain ⟨fz, cx3, W4, hW4, hbx4, cx4, hE4⟩ := box_store (x := .slice p' n' cap') ((hB3.block _ (by omega)).trans hbx)
                     have hid4 := Lib.hid (And.intro hO3 (And.intro hB3 (And.intro hbx4 hE4)))
                     clear hO3 hB3 hbx4 hE4)
        go_roundw
        case rel =>
          obtain ⟨hO3, hB3, hbx4, hE4⟩ := hid4.out
          refine ⟨k + 1, _, by omega, by go_num, Below.trans hbw (Below.trans (hB3.mono (by omega)) (hE4.below (fun x hx => by omega) (by have := hB3.size; omega))), hbx4, ?_⟩
          rw [hidT.out]
          exact hO3.exc hE4 (fun x hx => Or.inr (Or.inr hx)) (fun x hx => by omega)
        case measure => simp only [intOf]; omega
    · obtain rfl : k = m := by omega
      have eT : (setR R t a u).take k = setR R t a u := List.take_of_length_le (by rw [setR_len]; omega)
      rw [eT] at hO
      have hidO := Lib.hid hO
      have hb1 := (hbw.block (w.heap.size + 1) (by omega)).trans hidm.out.2.1
      have cx := cell_of_row _ _ 0 _ _ (0, 0) hbx
      obtain ⟨p', cap', rfl⟩ := hO.shape
      obtain ⟨fz, cx3, W4, hW4, hbx4, cx4, hE4⟩ := box_store (x := .slice p' (setR R t a u).length cap') hb1
      have hid4 := Lib.hid (And.intro hbx4 hE4)
      clear hO eT hb1 hE4
      go_wp2
      (try simp only [Exit.inBlock, Exit.then])
      refine bodyPost_ret (results_cell_row rfl _ _ _ 36 _ (0, 0) _ rfl hid4.out.1 Try.underlying36 rfl info_rm) rfl ?_
      have hE4 := hid4.out.2
      have O4 := hidO.out.exc hE4 (fun x hx => Or.inr (Or.inl hx)) (fun x hx => by omega)
      exact ⟨⟨_, rfl, _, rfl, O4.rs (fun x hx hX => by have := hid.out.2.1 x hX; omega) (fun x hx => Or.inl hx)⟩, Below.trans e0 (hE4.below (fun x hx => by omega) (by have := hbw.size; omega))⟩

end Go.Proofs.Yteipadpifmjnmaa
