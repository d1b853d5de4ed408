/- Words of the program's plans; plans that are none. -/
import Derived.Test.YthokalcibjjihaaGreatDoorPk
namespace Go.Proofs.YthokalcibjjihaaGreatDoor
open Go.ChangeShapes Go.WideShapes Go.ChangeAt Go.RowKit Go.Deep Go.Shelf
attribute [local go_sem] Oper.semAt_some

theorem keep1 {w W : World} {b : Nat} {y : Value} (hp : w.cell? ⟨b, 0, none⟩ = some y) (g : Bel w W) : Bel w W ∧ W.cell? ⟨b, 0, none⟩ = some y := ⟨g, cell_bel g hp⟩

theorem pwords_at {b g off cap : Nat} {P : Pl} (w : World) (h : PlanAt w b g off cap P) (ok : PlOk P) :
    Calls Tryz.prog 74 #[.pointer (some ⟨b, 0, none⟩)] w fun e w' => e = .returned (.int .i64 (P.W : Nat)) ∧ Bel w w' := by
  have ex := exists_yes h ok.1.one
  have kp := fun W (k : Bel w W) => keep1 h.2.2.1 k
  have c0 := h.2.2.1
  have pg := fun W (k : Bel w W) => (ppages_at W (h.bel k) ok.1.one ok.2.2.2.2.1 (fun k hk => (ok.2.2.2.2.2 k hk).2.2.1)).mono fun e w' ⟨x, y⟩ => (⟨x, k.trans y⟩ : _ ∧ Bel w w')
  have e0 : (P.T : Int) * (P.g : Int) = (P.W : Int) := (Int.natCast_mul P.T P.g).symm
  have e1 : IntKind.i64.wrap ((P.T : Int) * (P.g : Int)) = (P.W : Int) := by rw [e0, IntKind.wrap_i64]; have := ok.2.2.2.1; omega
  have e2 : IntKind.i64.wrap (P.W : Int) = (P.W : Int) := by rw [IntKind.wrap_i64]; have := ok.2.2.2.1; omega
  clear h ok
  generalize P.W = V at *
  generalize P.T = T at *
  generalize P.g = g at *
  go_enter Tryz.func74, Tryz.ntmps74
  go_wp2_with (go_at_call 111; refine ex.mono ?_; rintro e w' ⟨rfl, rfl⟩)
  go_region_held3 (fun W => Bel w' W ∧ W.cell? ⟨b, 0, none⟩ = some (.int .i64 g))
    (first | with_reducible exact kp _ (by assumption) | with_reducible exact kp _ (Bel.drew (by assumption)) | with_reducible exact kp _ (Bel.trans (by assumption) (by assumption)) | with_reducible exact kp _ (Bel.trans (Bel.drew (by assumption)) (by assumption)) | exact kp _ (Bel.refl _) | exact kp _ ((Bel.refl _).drew))
    (first | (go_at_call 112; refine (pg _ (by first | assumption | exact Bel.drew (by assumption) | exact Bel.refl _ | exact (Bel.refl _).drew)).mono ?_; rintro e w2 ⟨rfl, hg2⟩))
  go_wp2
  go_ret
  exact ⟨by simp, hg2⟩

/-- no plan -/
abbrev NoPlan (w : World) (p : Option Addr) : Prop := ∀ W, Bel w W → Calls Tryz.prog 111 #[.pointer p] W fun e w' => e = .returned (.bool false) ∧ w' = W
theorem noPlan_nil (w : World) : NoPlan w none := fun W _ => exists_nil W
/-- the box of a plan of zeros -/
def ZeroAt (w : World) (b : Nat) : Prop := w.heap[b]? = some (.cells #[.int .i64 0, .slice none 0 0] 130 (0, 0))
theorem noPlan_zero {w : World} {b : Nat} (h : ZeroAt w b) : NoPlan w (some ⟨b, 0, none⟩) := fun W g => exists_zero W b (blk_cell (heap_bel g h) 1)

theorem pwords_none (p : Option Addr) (w : World) (h : NoPlan w p) :
    Calls Tryz.prog 74 #[.pointer p] w fun e w' => e = .returned (.int .i64 0) ∧ Bel w w' := by
  have ex := h w (Bel.refl w)
  clear h
  go_enter Tryz.func74, Tryz.ntmps74
  go_wp2_with (go_at_call 111; refine ex.mono ?_; rintro e w' ⟨rfl, rfl⟩)
  go_ret
  exact ⟨rfl, Bel.refl _⟩
theorem three_at {w W : World} {a c d : Obj} (h : W = ((w.alloc a).alloc c).alloc d) : W.heap.size = w.heap.size + 3 ∧ Bel w W ∧ W.heap[w.heap.size]? = some a ∧ W.heap[w.heap.size + 1]? = some c ∧ W.heap[w.heap.size + 1 + 1]? = some d := by
  obtain ⟨h1, h2, h3, h4⟩ := two_at (w := w) (W := (w.alloc a).alloc c) rfl
  subst h
  have g := (Bel.refl ((w.alloc a).alloc c)).alloc d
  have s : (((w.alloc a).alloc c).alloc d).heap.size = ((w.alloc a).alloc c).heap.size + 1 := World.size_alloc ..
  refine ⟨by omega, h2.trans g, heap_bel g h3, heap_bel g h4, ?_⟩
  have := World.alloc_heap_new ((w.alloc a).alloc c) d
  rw [h1] at this
  exact this

set_option maxHeartbeats 1000000 in
theorem find_none_sl (p : Option Addr) (bc : Nat) (w : World) (h : NoPlan w p) :
    Calls Tryz.prog 123 #[.pointer p, .func (.func 124) #[] #[.pointer (some ⟨bc, 0, none⟩)]] w fun e w' => e = .returned (.tuple #[pv 0 0 0 0 0 0 0, .int .i64 1]) ∧ Bel w w' := by
  obtain ⟨hs, hB, b0, b1, b2⟩ := three_at (w := w) (a := .cells #[.func (.func 124) #[] #[.pointer (some ⟨bc, 0, none⟩)]] 179) (c := pblk 0 0 0 0 0 0 0) (d := .cells #[.int .i64 0] 53) rfl
  have ex := h _ hB
  clear h
  obtain ⟨W, hW⟩ : ∃ W, ((w.alloc (.cells #[.func (.func 124) #[] #[.pointer (some ⟨bc, 0, none⟩)]] 179)).alloc (pblk 0 0 0 0 0 0 0)).alloc (.cells #[.int .i64 0] 53) = W := ⟨_, rfl⟩
  rw [hW] at hs hB b0 b1 b2
  have ex : Calls Tryz.prog 111 #[.pointer p] (((w.alloc (.cells #[.func (.func 124) #[] #[.pointer (some ⟨bc, 0, none⟩)]] 179)).alloc (pblk 0 0 0 0 0 0 0)).alloc (.cells #[.int .i64 0] 53)) fun e w' => e = .returned (.bool false) ∧ w' = W := ex.mono fun e w' ⟨x, y⟩ => ⟨x, y.trans hW⟩
  clear hW
  obtain ⟨⟨z0, z1, z2, z3, z4, z5, z6⟩, f0, f1, f2, f3, f4, f5, f6⟩ := box7 b1
  have v0 := cell_of_row _ _ 0 _ _ (0, 0) b2
  have u0 := frozen_of_row _ _ 0 _ _ b2
  dsimp only [pblk] at ex
  go_enter Tryz.func123, Tryz.ntmps123
  go_wp2_with (go_at_call 111; refine ex.mono ?_; rintro e w' ⟨rfl, rfl⟩)
  have r1 := heap_set_other (p := ⟨w.heap.size + 1 + 1, 0, none⟩) (.int .i64 1) (show w.heap.size + 1 ≠ w.heap.size + 1 + 1 by omega) (seven_row b1 (.int .i64 0) (.int .i64 0) (.int .i64 0) (.int .i64 0) (.int .i64 0) (.int .i64 0) (.int .i64 0))
  have r2 := heap_setCell_same _ (w.heap.size + 1 + 1) 0 _ 53 (.int .i64 1) (set7_other (g := w.heap.size + 1) (.int .i64 0) (.int .i64 0) (.int .i64 0) (.int .i64 0) (.int .i64 0) (.int .i64 0) (.int .i64 0) (show w.heap.size + 1 + 1 ≠ w.heap.size + 1 by omega) b2)
  refine bodyPost_ret (results_row_one rfl _ _ (w.heap.size + 1) (w.heap.size + 1 + 1) 136 _ (0, 0) _ _ rfl r1 Tryz.underlying136 rfl info_pt rfl (cell_of_row _ _ 0 _ _ (0, 0) r2) (fun W hW => by simp [loadVar, go_sem, hW])) rfl ?_
  have q2 := (set7_below (show Below w.heap.size w w' from hB) (show w.heap.size ≤ w.heap.size + 1 by omega) (.int .i64 0) (.int .i64 0) (.int .i64 0) (.int .i64 0) (.int .i64 0) (.int .i64 0) (.int .i64 0)).setCell (p := ⟨w.heap.size + 1 + 1, 0, none⟩) (by show w.heap.size ≤ w.heap.size + 1 + 1; omega) (.int .i64 1)
  exact ⟨rfl, q2⟩

theorem partof_none (p : Option Addr) (i : Int) (w : World) (h : NoPlan w p) :
    Calls Tryz.prog 93 #[.pointer p, .int .i64 i] w fun e w' => e = .returned (.tuple #[pv 0 0 0 0 0 0 0, .int .i64 1]) ∧ Bel w w' := by
  have hb := ((Bel.refl w).alloc (.cells #[.int .i64 i] 3)).alloc (pblk 0 0 0 0 0 0 0)
  have tw := two_at (w := w) (W := (w.alloc (.cells #[.int .i64 i] 3)).alloc (pblk 0 0 0 0 0 0 0)) rfl
  have fd := find_none_sl p w.heap.size ((w.alloc (.cells #[.int .i64 i] 3)).alloc (pblk 0 0 0 0 0 0 0)) (fun W g => h W (hb.trans g))
  have hz := tw.2.2.2
  dsimp only [pv] at fd ⊢
  clear h tw
  go_enter Tryz.func93, Tryz.ntmps93
  go_wp2_with (go_at_call 123; refine fd.mono ?_; rintro e w' ⟨rfl, hg⟩; have hx := heap_bel hg hz; obtain ⟨⟨z0, z1, z2, z3, z4, z5, z6⟩, f0, f1, f2, f3, f4, f5, f6⟩ := box7 hx)
  (try simp only [Exit.inBlock, Exit.then])
  refine bodyPost_ret (results_cell_row2 rfl _ _ _ 136 _ (0, 0) _ rfl (seven_row hx _ _ _ _ _ _ _) Tryz.underlying136 rfl info_pt) rfl ?_
  exact ⟨rfl, set7_below (show Below w.heap.size w w' from hb.trans hg) (Nat.le_succ _) _ _ _ _ _ _ _⟩
theorem paddr_none (p : Option Addr) (i : Int) (w : World) (h : NoPlan w p) :
    Calls Tryz.prog 92 #[.pointer p, .int .i64 i] w fun e w' => e = .returned (.tuple #[.int .i64 0, .int .i64 1]) ∧ Bel w w' := by
  have pt := partof_none p i w h
  dsimp only [pv] at pt
  have hbb : ∀ {W : World} (o : Obj), Bel w W → Bel w (W.alloc o) := fun o g => g.alloc o
  clear h
  go_enter Tryz.func92, Tryz.ntmps92
  go_wp2_with (go_at_call 93; refine pt.mono ?_; rintro e w' ⟨rfl, hg⟩)
  go_ret2
  exact ⟨rfl, hbb _ hg⟩

set_option maxRecDepth 100000 in
set_option maxHeartbeats 4000000 in
theorem slots_none (p : Option Addr) (w : World) (h : NoPlan w p) :
    Calls Tryz.prog 73 #[.pointer p] w fun e w' => e = .returned (.int .i64 0) ∧ Bel w w' := by
  refine (callsIn_wide (n := 3)).1 ?_
  refine callsIn_of_wp_marks Tryz.func73 rfl trivial ?_ rfl
  simp only [Tryz.ntmps73, List.size_toArray, List.length_cons, List.length_nil, Nat.reduceAdd, Nat.reduceSub, Array.replicate_succ, Array.replicate_zero, List.push_toArray, List.append_toArray, List.nil_append, List.cons_append]
  gi_wp2_with (refine ⟨trivial, ?_⟩; gi_at_call 110; refine (callsIn_wide.2 (all_any _ _)).mono ?_; rintro e w' ⟨rfl, hw⟩)
  obtain ⟨hs, hB, b0, b1⟩ := two_at hw
  rw [← hw]
  clear hw
  have b0 : Boxed w' w.heap.size 3 (.int .i64 0) := b0
  refine wpIn_rangeFunc_ownH (α := Nat) rfl (by omega) (gf := 131) (lb := #[.pointer (some ⟨w.heap.size + 1, 0, none⟩)]) rfl trivial (enters_of Tryz.func131 (by kernel_rfl) rfl)
    (encs := fun x => #[pv 0 0 0 0 0 0 0]) (Kp := Below w.heap.size) (S := fun ys => ys = []) (Sp := fun pre => pre = []) (N := 0) (w0 := w')
    (fun l J Jx W hW hJ _ hY h0 => all1_none 2 (by omega) l _ p J Jx W (cell_below hW (show w.heap.size + 1 < _ by omega) (blk_cell b1 0)) (h W (Below.trans hB (hW.mono (by omega)))) h0)
    belowK_t (belowK_b (by omega)) (Below.refl _ _) (fun _ => rfl)
    (fun pre W => Boxed W w.heap.size 3 (.int .i64 0) ∧ Below w.heap.size w' W)
    (fun c pre W => False)
    (OwnFrom.and (Own.from (boxed_own _ _ _) _) (ownFrom_below (by omega) (by omega)))
    (fun c => fun s A B row hs hg hr => hs)
    ⟨b0, Below.refl _ _⟩
    (fun x a' W => True)
    (fun x a' => fun s A B row hs hg hr => trivial) ?assign ?body ?done ?stop
  case assign =>
    rintro l pre x W K ⟨hI, hBW⟩ hK
    have hsz := hBW.size
    gi_wp2
    exact hK _ _ ((KeepsOthers.alloc _ _).from _) ((Below.refl _ W).alloc (by omega) _) ⟨hI.alloc _, hBW.alloc (by omega) _⟩ trivial
  case body =>
    intro l pre x a' W _ _ _ _ hlt
    omega
  case done =>
    rintro D ys W1 hD rfl ⟨hI, hBW⟩ hKD
    have c0 := hI.cell
    have hBs : Below w.heap.size w W1 := Below.trans hB hBW
    gi_wp2
    refine ⟨by simp, .inl ⟨_, _, rfl, run_takeDeferred hKD, ?_⟩⟩
    exact ⟨_, results_tmp rfl _ _ _, rfl, Below.trans hBs (belowK_b (w := w) (Nat.le_refl _) _ D _ _ (by omega) hKD rfl rfl)⟩
  case stop =>
    intro D c pre W1 _ _ hf
    exact hf.elim

set_option maxRecDepth 100000 in
set_option maxHeartbeats 4000000 in
theorem pages_none (p : Option Addr) (w : World) (h : NoPlan w p) :
    Calls Tryz.prog 112 #[.pointer p] w fun e w' => e = .returned (.int .i64 0) ∧ Bel w w' := by
  refine (callsIn_wide (n := 3)).1 ?_
  refine callsIn_of_wp_marks Tryz.func112 rfl trivial ?_ rfl
  simp only [Tryz.ntmps112, List.size_toArray, List.length_cons, List.length_nil, Nat.reduceAdd, Nat.reduceSub, Array.replicate_succ, Array.replicate_zero, List.push_toArray, List.append_toArray, List.nil_append, List.cons_append]
  gi_wp2_with (refine ⟨trivial, ?_⟩; gi_at_call 110; refine (callsIn_wide.2 (all_any _ _)).mono ?_; rintro e w' ⟨rfl, hw⟩)
  obtain ⟨hs, hB, b0, b1⟩ := two_at hw
  rw [← hw]
  clear hw
  have b0 : Boxed w' w.heap.size 3 (.int .i64 0) := b0
  refine wpIn_rangeFunc_ownH (α := Nat) rfl (by omega) (gf := 131) (lb := #[.pointer (some ⟨w.heap.size + 1, 0, none⟩)]) rfl trivial (enters_of Tryz.func131 (by kernel_rfl) rfl)
    (encs := fun x => #[pv 0 0 0 0 0 0 0]) (Kp := Below w.heap.size) (S := fun ys => ys = []) (Sp := fun pre => pre = []) (N := 0) (w0 := w')
    (fun l J Jx W hW hJ _ hY h0 => all1_none 2 (by omega) l _ p J Jx W (cell_below hW (show w.heap.size + 1 < _ by omega) (blk_cell b1 0)) (h W (Below.trans hB (hW.mono (by omega)))) h0)
    belowK_t (belowK_b (by omega)) (Below.refl _ _) (fun _ => rfl)
    (fun pre W => Boxed W w.heap.size 3 (.int .i64 0) ∧ Below w.heap.size w' W)
    (fun c pre W => False)
    (OwnFrom.and (Own.from (boxed_own _ _ _) _) (ownFrom_below (by omega) (by omega)))
    (fun c => fun s A B row hs hg hr => hs)
    ⟨b0, Below.refl _ _⟩
    (fun x a' W => True)
    (fun x a' => fun s A B row hs hg hr => trivial) ?assign ?body ?done ?stop
  case assign =>
    rintro l pre x W K ⟨hI, hBW⟩ hK
    have hsz := hBW.size
    gi_wp2
    exact hK _ _ ((KeepsOthers.alloc _ _).from _) ((Below.refl _ W).alloc (by omega) _) ⟨hI.alloc _, hBW.alloc (by omega) _⟩ trivial
  case body =>
    intro l pre x a' W _ _ _ _ hlt
    omega
  case done =>
    rintro D ys W1 hD rfl ⟨hI, hBW⟩ hKD
    have c0 := hI.cell
    have hBs : Below w.heap.size w W1 := Below.trans hB hBW
    gi_wp2
    refine ⟨by simp, .inl ⟨_, _, rfl, run_takeDeferred hKD, ?_⟩⟩
    exact ⟨_, results_tmp rfl _ _ _, rfl, Below.trans hBs (belowK_b (w := w) (Nat.le_refl _) _ D _ _ (by omega) hKD rfl rfl)⟩
  case stop =>
    intro D c pre W1 _ _ hf
    exact hf.elim

end Go.Proofs.YthokalcibjjihaaGreatDoor
