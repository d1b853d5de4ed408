/- The document's example, and the calls whose answers the document fixes (awake). -/
import Derived.Test.YtlodgbpjeklhpaaPg
namespace Go.Proofs.Ytlodgbpjeklhpaa
open Go.ChangeShapes Go.WideShapes Go.ChangeAt Go.RowKit

/-- the document's example, with a page -/
def exC (pg : Int) : Cf := { n := 2, F := fun j => ([2, 4] : List Int).getD j 0, page := pg, m := 2, Q := fun j => ([20, 4] : List Int).getD j 0, Tr := fun j => ([8, 1] : List Int).getD j 0, Cp := fun j => ([4, 1] : List Int).getD j 0, As := fun j => ([1, 0] : List Int).getD j 0, wk := 1, gr := 2, gn := 3 }

theorem nat_two {j : Nat} (h : j < 2) : j = 0 ∨ j = 1 := by omega

/-- the example's slices, made -/
theorem ex_made (w : World) (pg : Int) {W : World} (g : Bel ((w.alloc (.cells #[.int .i64 2, .int .i64 4] 3)).alloc (.cells #[.int .i64 20, .int .i64 8, .int .i64 4, .int .i64 1, .int .i64 4, .int .i64 1, .int .i64 1, .int .i64 0] 43)) W) :
    IsCf W (.agg #[.slice (some ⟨w.heap.size, 0, none⟩) 2 2, .int .i64 pg, .slice (some ⟨w.heap.size + 1, 0, none⟩) 2 2, .int .i64 1, .int .i64 2, .int .i64 3]) (exC pg) := by
  have s1 : (w.alloc (.cells #[.int .i64 2, .int .i64 4] 3)).heap.size = w.heap.size + 1 := by show (w.heap.push _).size = _; simp
  have a0 := fun j => agg_at (w := w) (((Bel.refl _).alloc _).trans g) j
  have a1 := fun j => agg_at (w := w.alloc (.cells #[.int .i64 2, .int .i64 4] 3)) g j
  rw [s1] at a1
  refine ⟨_, _, rfl, Or.inr ⟨_, 0, 2, rfl, (by decide : 1 ≤ 2), (by decide : 2 ≤ 2), by decide, fun j hj => ?_⟩, Or.inr ⟨_, 0, 2, rfl, (by decide : 1 ≤ 2), (by decide : 2 ≤ 2), by decide, fun j hj => ?_⟩⟩
  · rcases nat_two hj with rfl | rfl
    · exact a0 0
    · exact a0 1
  · rcases nat_two hj with rfl | rfl
    · exact ⟨a1 0, a1 1, a1 2, a1 3⟩
    · exact ⟨a1 4, a1 5, a1 6, a1 7⟩

/-- a block that was made lies -/
theorem row_at {w W : World} {o : Obj} (h : Bel (w.alloc o) W) : W.heap[w.heap.size]? = some o := by
  rw [h.block _ (by show w.heap.size < (w.heap.push o).size; simp)]
  exact heap_alloc_new w o
theorem info_cf : (Try.prog.info? 25).map (·.size) = some 6 := by kernel_rfl

theorem example_any (w : World) : Calls Try.prog 24 #[] w fun e w' =>
    (∃ b, e = .returned (.agg #[.slice (some ⟨b, 0, none⟩) 2 2, .int .i64 8, .slice (some ⟨b + 1, 0, none⟩) 2 2, .int .i64 1, .int .i64 2, .int .i64 3]) ∧ ∀ pg W, Bel w' W → IsCf W (.agg #[.slice (some ⟨b, 0, none⟩) 2 2, .int .i64 pg, .slice (some ⟨b + 1, 0, none⟩) 2 2, .int .i64 1, .int .i64 2, .int .i64 3]) (exC pg)) ∧ Bel w w' := by
  go_enter Try.func24, Try.ntmps24
  go_wp2
  (try simp only [Exit.inBlock, Exit.then])
  refine bodyPost_ret (results_cell_row rfl _ _ _ 25 _ (0, 0) _ rfl (row_at (((Bel.refl _).alloc _).alloc _)) Try.underlying25 rfl info_cf) rfl ?_
  have s1 : ∀ o : Obj, (w.alloc o).heap.size = w.heap.size + 1 := fun o => by show (w.heap.push o).size = _; simp
  refine ⟨⟨w.heap.size + 1, rfl, fun pg W g => ?_⟩, ((Bel.refl _).alloc _).alloc _ |>.alloc _⟩
  have := ex_made _ pg g
  rwa [s1] at this

def exV (b : Nat) (pg : Int) : Value := .agg #[.slice (some ⟨b, 0, none⟩) 2 2, .int .i64 pg, .slice (some ⟨b + 1, 0, none⟩) 2 2, .int .i64 1, .int .i64 2, .int .i64 3]

theorem ex_s01 : (exC 8).slotsR 0 1 = 5 ∧ (exC 8).hasE 0 1 = 0 := ⟨by kernel_rfl, by kernel_rfl⟩
theorem ex_s20 : (exC 8).slotsR 2 0 = 0 ∧ (exC 8).hasE 2 0 = 2 := ⟨by kernel_rfl, by kernel_rfl⟩
theorem ex_p00 : (exC 8).pagesR 0 0 = 3 ∧ (exC 8).hasE 0 0 = 0 := ⟨by kernel_rfl, by kernel_rfl⟩
theorem ex_r0 : (exC 8).regR 0 = 48 ∧ (exC 8).hasE 0 0 = 0 := ⟨by kernel_rfl, by kernel_rfl⟩
theorem ex_b1 : (exC 8).baseR 1 = 48 ∧ (exC 8).hasE 1 0 = 0 := ⟨by kernel_rfl, by kernel_rfl⟩
theorem ex_t : (exC 8).totR = 64 ∧ (exC 8).checkC = 0 := ⟨by kernel_rfl, by kernel_rfl⟩
theorem ex_3 : (exC 3).checkC = 2 := by kernel_rfl

theorem aw_slots {w1 W : World} {v : Value} (hI : ∀ W, Bel w1 W → IsCf W v (exC 8)) (g : Bel w1 W) {t k r e : Int} (h : (exC 8).slotsR t k = r ∧ (exC 8).hasE t k = e) :
    Calls Try.prog 10 #[v, .int .i64 t, .int .i64 k] W fun x W' => x = .returned (.tuple #[.int .i64 r, .int .i64 e]) ∧ Bel w1 W' := by
  have := pslots_any v _ t k W (hI _ g)
  rw [h.1, h.2] at this
  exact this.mono fun x W' ⟨a, b⟩ => ⟨a, g.trans b⟩
theorem aw_pages {w1 W : World} {v : Value} (hI : ∀ W, Bel w1 W → IsCf W v (exC 8)) (g : Bel w1 W) {t k r e : Int} (h : (exC 8).pagesR t k = r ∧ (exC 8).hasE t k = e) :
    Calls Try.prog 12 #[v, .int .i64 t, .int .i64 k] W fun x W' => x = .returned (.tuple #[.int .i64 r, .int .i64 e]) ∧ Bel w1 W' := by
  have := ppages_any v _ t k W (hI _ g)
  rw [h.1, h.2] at this
  exact this.mono fun x W' ⟨a, b⟩ => ⟨a, g.trans b⟩
theorem aw_reg {w1 W : World} {v : Value} (hI : ∀ W, Bel w1 W → IsCf W v (exC 8)) (g : Bel w1 W) {t r e : Int} (h : (exC 8).regR t = r ∧ (exC 8).hasE t 0 = e) :
    Calls Try.prog 18 #[v, .int .i64 t] W fun x W' => x = .returned (.tuple #[.int .i64 r, .int .i64 e]) ∧ Bel w1 W' := by
  have := preg_any v _ t W (hI _ g)
  rw [h.1, h.2] at this
  exact this.mono fun x W' ⟨a, b⟩ => ⟨a, g.trans b⟩
theorem aw_base {w1 W : World} {v : Value} (hI : ∀ W, Bel w1 W → IsCf W v (exC 8)) (g : Bel w1 W) {t r e : Int} (h : (exC 8).baseR t = r ∧ (exC 8).hasE t 0 = e) :
    Calls Try.prog 20 #[v, .int .i64 t] W fun x W' => x = .returned (.tuple #[.int .i64 r, .int .i64 e]) ∧ Bel w1 W' := by
  have := pbase_any v _ t W (hI _ g)
  rw [h.1, h.2] at this
  exact this.mono fun x W' ⟨a, b⟩ => ⟨a, g.trans b⟩
theorem aw_tot {w1 W : World} {v : Value} (hI : ∀ W, Bel w1 W → IsCf W v (exC 8)) (g : Bel w1 W) {r e : Int} (h : (exC 8).totR = r ∧ (exC 8).checkC = e) :
    Calls Try.prog 22 #[v] W fun x W' => x = .returned (.tuple #[.int .i64 r, .int .i64 e]) ∧ Bel w1 W' := by
  have := ptot_any v _ W (hI _ g)
  rw [h.1, h.2] at this
  exact this.mono fun x W' ⟨a, b⟩ => ⟨a, g.trans b⟩

theorem aw_chk {w1 W : World} {V : Int → Value} (hI : ∀ pg W, Bel w1 W → IsCf W (V pg) (exC pg)) (g : Bel w1 W) :
    Calls Try.prog 14 #[V 3] W fun x W' => x = .returned (.int .i64 2) ∧ Bel W W' := by
  have := pcheck_any (V 3) _ W (hI 3 _ g)
  rwa [ex_3] at this

theorem Bel.trans' {a b c : World} (h : Bel a b) (k : Below a.heap.size b c) : Bel a c := Below.trans h k

/-- a store into a configuration that was boxed -/
theorem cf_store {w1 W : World} {a b c d e f x : Value} {t : TypeId} (h : Bel (w1.alloc (.cells #[a, b, c, d, e, f] t)) W) :
    W.frozen? ⟨w1.heap.size, 1, none⟩ = false ∧ ∃ W2, W.setCell ⟨w1.heap.size, 1, none⟩ x = W2 ∧ Bel w1 W2 ∧
      (W2.cell? ⟨w1.heap.size, 0, none⟩ = some a ∧ W2.cell? ⟨w1.heap.size, 1, none⟩ = some x ∧ W2.cell? ⟨w1.heap.size, 2, none⟩ = some c ∧ W2.cell? ⟨w1.heap.size, 3, none⟩ = some d ∧ W2.cell? ⟨w1.heap.size, 4, none⟩ = some e ∧ W2.cell? ⟨w1.heap.size, 5, none⟩ = some f) := by
  have hr := row_at h
  have hs := heap_setCell_same W _ 1 _ t x hr
  have hb : Below w1.heap.size W (W.setCell ⟨w1.heap.size, 1, none⟩ x) := Below.setCell (Below.refl _ _) (show w1.heap.size ≤ (⟨w1.heap.size, 1, none⟩ : Addr).block from Nat.le_refl _) _
  have at' : ∀ j, (W.setCell ⟨w1.heap.size, 1, none⟩ x).cell? ⟨w1.heap.size, j, none⟩ = (#[a, b, c, d, e, f].setIfInBounds 1 x)[j]? := fun j => cell_of_row _ _ j _ t (0, 0) hs
  exact ⟨frozen_of_row _ _ 1 _ t hr, _, rfl, (((Bel.refl w1).alloc _).trans h).trans' hb, at' 0, at' 1, at' 2, at' 3, at' 4, at' 5⟩

set_option maxRecDepth 100000 in
set_option maxHeartbeats 4000000 in
theorem awake_any (w : World) : Calls Try.prog 9 #[] w fun e w' => e = .returned (.bool true) ∧ Bel w w' := by
  have ex := example_any w
  have x1 := @ex_s01
  have x2 := @ex_s20
  have x3 := @ex_p00
  have x4 := @ex_r0
  have x5 := @ex_b1
  have x6 := @ex_t
  have y1 := Lib.hid x1
  have y2 := Lib.hid x2
  have y3 := Lib.hid x3
  have y4 := Lib.hid x4
  have y5 := Lib.hid x5
  have y6 := Lib.hid x6
  clear x1 x2 x3 x4 x5 x6
  go_enter Try.func9, Try.ntmps9
  go_wp2_with (first
    | (go_at_call 24; refine ex.mono ?_; rintro e w1 ⟨⟨b, rfl, hI⟩, hg⟩
       have hJ := Lib.hid hI
       have hI8 : ∀ W, Bel w1 W → IsCf W _ (exC 8) := fun W g => hI 8 W g
       have hK := Lib.hid hI8
       clear hI hI8
       have g0 := (Bel.refl w1).alloc (.cells #[.slice (some ⟨b, 0, none⟩) 2 2, .int .i64 8, .slice (some ⟨b + 1, 0, none⟩) 2 2, .int .i64 1, .int .i64 2, .int .i64 3] 25)
       have gb := Bel.refl (w1.alloc (.cells #[.slice (some ⟨b, 0, none⟩) 2 2, .int .i64 8, .slice (some ⟨b + 1, 0, none⟩) 2 2, .int .i64 1, .int .i64 2, .int .i64 3] 25)))
    | (go_at_call 10; ((with_reducible refine (aw_slots (fun W g => hK.out W (g0.trans g)) (by assumption) y1.out).mono ?_); rintro e w' ⟨rfl, hg1⟩; obtain ⟨k0, k1, k2, k3, k4, k5⟩ := cf_at hg1))
    | (go_at_call 12; ((with_reducible refine (aw_pages (fun W g => hK.out W (g0.trans g)) (by assumption) y3.out).mono ?_); rintro e w' ⟨rfl, hg2⟩; obtain ⟨k0, k1, k2, k3, k4, k5⟩ := cf_at hg2))
    | (go_at_call 18; ((with_reducible refine (aw_reg (fun W g => hK.out W (g0.trans g)) (by assumption) y4.out).mono ?_); rintro e w' ⟨rfl, hg3⟩; obtain ⟨k0, k1, k2, k3, k4, k5⟩ := cf_at hg3))
    | (go_at_call 20; ((with_reducible refine (aw_base (fun W g => hK.out W (g0.trans g)) (by assumption) y5.out).mono ?_); rintro e w' ⟨rfl, hg4⟩; obtain ⟨k0, k1, k2, k3, k4, k5⟩ := cf_at hg4))
    | (go_at_call 22; ((with_reducible refine (aw_tot (fun W g => hK.out W (g0.trans g)) (by assumption) y6.out).mono ?_); rintro e w' ⟨rfl, hg5⟩; obtain ⟨k0, k1, k2, k3, k4, k5⟩ := cf_at hg5))
    | (go_at_call 10; ((with_reducible refine (aw_slots (fun W g => hK.out W (g0.trans g)) (by assumption) y2.out).mono ?_); rintro e w' ⟨rfl, hg6⟩; obtain ⟨k0, k1, k2, k3, k4, k5⟩ := cf_at hg6; obtain ⟨fz, W2, hW2, G1, l0, l1, l2, l3, l4, l5⟩ := cf_store (x := .int .i64 3) hg6))
    | (go_at_call 14; ((with_reducible refine (aw_chk hJ.out G1).mono ?_); rintro e w' ⟨rfl, hg7⟩)))
  go_ret
  exact ⟨rfl, hg.trans (G1.trans hg7)⟩

end Go.Proofs.Ytlodgbpjeklhpaa
