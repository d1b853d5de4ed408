/- The contracts of the program's arenas, one for each call. -/
import Derived.Test.YtjgjomojcocegaaDoorQz
import Derived.Deep.QuietTactic
import Derived.BigQuiet
namespace Go.Proofs.YtjgjomojcocegaaDoor
open Go.ChangeShapes Go.WideShapes Go.ChangeAt Go.RowKit Go.Deep
set_option linter.unusedVariables false


set_option maxRecDepth 100000 in
set_option maxHeartbeats 2000000 in
theorem all_other (v : Value) (pl lo hi : Nat) (P : Pl) (T : Nat → Bool) (w : World) (h : IsA w v pl lo hi P T) (q : Value) (m : Nat) (s : Value) (mm : Bool) (hq : bt.Hdr w q m s mm) (hm : m ≠ P.S) :
    Calls Tryd.prog 22 #[v, q] w fun e w' => e = .returned (.int .i64 2) ∧ Bel w w' := by
  obtain ⟨q, rfl⟩ : ∃ p, q = .pointer p := by
    rcases hq with ⟨rfl, _⟩ | ⟨b, rfl, _⟩
    · exact ⟨_, rfl⟩
    · exact ⟨_, rfl⟩
  obtain ⟨b0, rb, g0, ca0, pb, pg, off, cap, rfl, hb0, hrb, hg0, hp0, hpl, hpb, hpg, h7, h8, h9, h10⟩ := h
  obtain ⟨hs, hB, x0, x1⟩ := two_at (w := w) (a := .cells #[.pointer (some ⟨b0, 0, none⟩)] 27) (c := .cells #[.int .i64 0] 48) rfl
  obtain ⟨W0, hW0⟩ : ∃ W0, (w.alloc (.cells #[.pointer (some ⟨b0, 0, none⟩)] 27)).alloc (.cells #[.int .i64 0] 48) = W0 := ⟨_, rfl⟩
  have he : Calls Tryd.prog 37 #[.pointer (some ⟨b0, 0, none⟩)] ((w.alloc (.cells #[.pointer (some ⟨b0, 0, none⟩)] 27)).alloc (.cells #[.int .i64 0] 48)) fun e w' => e = .returned (.bool true) ∧ w' = W0 :=
    (aex_yes (blk_cell (heap_bel hB h7) 0)).mono fun e w' ⟨a, c⟩ => ⟨a, c.trans hW0⟩
  rw [hW0] at hs hB x0 x1
  clear hW0
  have d0 : W0.cell? ⟨w.heap.size, 0, none⟩ = some (.pointer (some ⟨b0, 0, none⟩)) := blk_cell x0 0
  have d1 : W0.cell? ⟨b0, 1, none⟩ = some (.pointer (some ⟨rb, 0, none⟩)) := blk_cell (heap_bel hB h7) 1
  have d2 : W0.cell? ⟨w.heap.size + 1, 0, none⟩ = some (.int .i64 0) := blk_cell x1 0
  have d3 := frozen_of_row _ _ 0 _ _ x1
  have l1 := fun k => bt.len_any (W0.drewN k) (((hq.bel hB).bel (Bel.drewN W0 k)))
  have l2 := fun k => bt.len_any (W0.drewN k) (((h9.bel hB).bel (Bel.drewN W0 k)).hdr)
  have e0 : decide ((m : Int) = (P.S : Int)) = false := decide_eq_false (by omega)
  have e1 : ((m : Int) == (P.S : Int)) = false := by simp; omega
  have e2 : (m == P.S) = false := by simp; omega
  have e3 : decide (m = P.S) = false := decide_eq_false hm
  have keep := Lib.hid (And.intro hB (And.intro hs x1))
  clear h7 h8 h9 h10 hB hs x0 x1 hm hq
  generalize P.S = N at *
  go_enter Tryd.func22, Tryd.ntmps22
  go_wp2_with (go_at_call 37; ((with_reducible refine he.mono ?_); rintro e w' ⟨rfl, hw⟩; rw [hw]))
  clear he hw
  go_quiet (first | (go_at_call 21; refine Calls.quiet_of_same (l1 _)) | (go_at_call 21; refine Calls.quiet_of_same (l2 _)))
  go_wp2
  obtain ⟨hB, hs, x1⟩ := keep.out
  have xE : ((W0.drewN nq).setCell ⟨w.heap.size + 1, 0, none⟩ (.int .i64 2)).heap[w.heap.size + 1]? = some (.cells #[.int .i64 2] 48) := heap_setCell_same (W0.drewN nq) (w.heap.size + 1) 0 _ 48 (.int .i64 2) x1
  refine bodyPost_ret (results_one rfl _ _ (w.heap.size + 1) (.int .i64 2) rfl (load_errno (blk_cell xE 0))) rfl ⟨rfl, ?_⟩
  exact Below.setCell (Bel.then_drewN hB nq) (p := ⟨w.heap.size + 1, 0, none⟩) (by show w.heap.size ≤ w.heap.size + 1; omega) _

theorem qa_all (v : Value) (pl lo hi : Nat) (P : Pl) (T : Nat → Bool) (w : World) (h : IsA w v pl lo hi P T) (hh : hi ≤ w.heap.size) (ht : Tb w) (b g ca m : Nat) (R : Nat → Bool) (hR : bt.RowIs w b g ca m R) (hb : ¬ Own lo hi b) (hg : ¬ Own lo hi g) :
    Calls Tryd.prog 22 #[v, .pointer (some ⟨b, 0, none⟩)] w fun e w' => (∃ c T', e = .returned (.int .i64 c) ∧ GiveAllR P T R m c T' ∧ IsA w' v pl lo hi P T') ∧ Exc (Own lo hi) w w' := by
  by_cases c : m = P.S
  · subst c
    exact all_same v pl lo hi P T w h hh ht b g ca R hR hb hg
  · exact (all_other v pl lo hi P T w h _ m _ _ hR.hdr c).mono fun e w' ⟨a, k⟩ => ⟨⟨2, T, a, Or.inl ⟨c, rfl, rfl⟩, h.bel k⟩, Bel.exc k⟩
theorem qa_all_nil (v : Value) (pl lo hi : Nat) (P : Pl) (T : Nat → Bool) (w : World) (h : IsA w v pl lo hi P T) (hh : hi ≤ w.heap.size) (ht : Tb w) : Calls Tryd.prog 22 #[v, .pointer none] w fun e w' => e = .returned (.int .i64 2) ∧ Bel w w' :=
  all_other v pl lo hi P T w h _ 0 _ _ (bt.hdr_nil w) (by have := h.ok.T1.1; omega)
end Go.Proofs.YtjgjomojcocegaaDoor
