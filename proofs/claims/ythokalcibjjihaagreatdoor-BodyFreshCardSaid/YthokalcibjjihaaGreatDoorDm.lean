/- The document's example, and the calls whose answers the document fixes (awake). -/
import Derived.Test.YthokalcibjjihaaGreatDoorDt
import Derived.Test.YthokalcibjjihaaGreatDoorPz
import Derived.Test.YthokalcibjjihaaGreatDoorMRsm
namespace Go.Proofs.YthokalcibjjihaaGreatDoor
open Go.ChangeShapes Go.WideShapes Go.ChangeAt Go.RowKit Go.Deep hd
set_option linter.unusedVariables false
variable {X : Nat → Prop} {w w' : World} {v : Value} {lo hi top : Nat} {R : List (List Nat)} {t : Nat} {P : Pl}

theorem wdAt_zeros (c : Cf) (s a : Nat) : wdAt c.zeros s a = 0 := by
  unfold wdAt
  by_cases h : s < c.m
  · rw [List.getD_eq_getElem?_getD (l := c.zeros), c.zeros_at h]
    show (List.replicate (c.region s).toNat 0).getD a 0 = 0
    rw [List.getD_eq_getElem?_getD, List.getElem?_replicate]
    by_cases k : a < (c.region s).toNat
    · rw [if_pos k]; rfl
    · rw [if_neg k]; rfl
  · rw [List.getD_eq_getElem?_getD (l := c.zeros), List.getElem?_eq_none (by rw [c.zeros_len]; omega)]
    rfl
/-- a fresh memory's body may be -/
theorem bok_zeros {c : Cf} {t : Nat} (ok : c.ok) (ht : t < c.m) (h : c.base c.m ≤ 4000) : Bok (c.pl t) c.zeros t := by
  have pw := Cf.pl_W ok ht
  refine ⟨Cf.pl_ok ok ht, ⟨by rw [c.zeros_len]; exact ht, ?_⟩, fun s a => by rw [wdAt_zeros]; decide, Cf.zeros_full ok h⟩
  rw [List.getD_eq_getElem?_getD, c.zeros_at ht]
  show (List.replicate (c.region t).toNat 0).length = _
  rw [List.length_replicate]
  omega

def exC (pg : Int) : Cf := { n := 2, F := fun j => ([2, 4] : List Int).getD j 0, page := pg, m := 2, Q := fun j => ([20, 4] : List Int).getD j 0, Tr := fun j => ([8, 1] : List Int).getD j 0, Cp := fun j => ([4, 1] : List Int).getD j 0, As := fun j => ([1, 0] : List Int).getD j 0, wk := 1, gr := 2, gn := 3 }
theorem nat_two {j : Nat} (h : j < 2) : j = 0 ∨ j = 1 := by omega
theorem ex_made (w : World) (pg : Int) {W : World} (g : Bel ((w.alloc (.cells #[.int .i64 2, .int .i64 4] 3)).alloc (.cells #[.int .i64 20, .int .i64 8, .int .i64 4, .int .i64 1, .int .i64 4, .int .i64 1, .int .i64 1, .int .i64 0] 93)) W) :
    IsCf W (.agg #[.slice (some ⟨w.heap.size, 0, none⟩) 2 2, .int .i64 pg, .slice (some ⟨w.heap.size + 1, 0, none⟩) 2 2, .int .i64 1, .int .i64 2, .int .i64 3]) (exC pg) := by
  have s1 : (w.alloc (.cells #[.int .i64 2, .int .i64 4] 3)).heap.size = w.heap.size + 1 := mm.size_alloc1 _ _
  have a0 := fun j => agg_at (w := w) (((Bel.refl _).alloc _).trans g) j
  have a1 := fun j => agg_at (w := w.alloc (.cells #[.int .i64 2, .int .i64 4] 3)) g j
  rw [s1] at a1
  refine ⟨_, _, rfl, Or.inr ⟨_, 0, 2, rfl, (by decide : 1 ≤ 2), (by decide : 2 ≤ 2), by decide, fun j hj => ?_⟩, Or.inr ⟨_, 0, 2, rfl, (by decide : 1 ≤ 2), (by decide : 2 ≤ 2), by decide, fun j hj => ?_⟩⟩
  · rcases nat_two hj with rfl | rfl
    · exact a0 0
    · exact a0 1
  · rcases nat_two hj with rfl | rfl
    · exact ⟨a1 0, a1 1, a1 2, a1 3⟩
    · exact ⟨a1 4, a1 5, a1 6, a1 7⟩
theorem ex_ok : (exC 8).ok := by decide
/-- the example's plan, and its memory, step by step -/
def exP : Pl := (exC 8).pl 0
def xR0 : List (List Nat) := (exC 8).zeros
def xR1 : List (List Nat) := exP.mkM xR0 0 10 1 1 2
def xR2 : List (List Nat) := exP.srM xR1 0 10 0 3
def xR3 : List (List Nat) := exP.swM xR2 0 10 1 7

section
theorem aw1 (h : IsD w v lo hi top xR0 0 exP) : Calls Tryz.prog 20 #[v, .int .i64 10, .agg #[.int .i64 1, .int .i64 1, .int .i64 2]] w fun e w' => e = .returned (.int .i64 0) ∧ IsD w' v lo hi top xR1 0 exP ∧ Exc (Own lo hi) w w' := by
  have k := pb_make 10 1 1 2 ⟨by decide, by decide⟩ ⟨by decide, by decide⟩ ⟨by decide, by decide⟩ ⟨by decide, by decide⟩ h
  rw [show exP.mkE xR0 0 10 1 1 2 = 0 by kernel_rfl] at k
  exact k
theorem aw2 (h : IsD w v lo hi top xR1 0 exP) : Calls Tryz.prog 20 #[v, .int .i64 10, .agg #[.int .i64 1, .int .i64 0, .int .i64 0]] w fun e w' => e = .returned (.int .i64 8) ∧ IsD w' v lo hi top xR1 0 exP ∧ Exc (Own lo hi) w w' := by
  have k := pb_make 10 1 0 0 ⟨by decide, by decide⟩ ⟨by decide, by decide⟩ ⟨by decide, by decide⟩ ⟨by decide, by decide⟩ h
  have e : exP.mkE xR1 0 10 1 0 0 = 8 := by kernel_rfl
  rw [show exP.mkM xR1 0 10 1 0 0 = xR1 by unfold Pl.mkM; rw [e]; rfl, e] at k
  exact k
theorem aw3 (h : IsD w v lo hi top xR1 0 exP) : Calls Tryz.prog 20 #[v, .int .i64 11, .agg #[.int .i64 0, .int .i64 0, .int .i64 0]] w fun e w' => e = .returned (.int .i64 2) ∧ IsD w' v lo hi top xR1 0 exP ∧ Exc (Own lo hi) w w' := by
  have k := pb_make 11 0 0 0 ⟨by decide, by decide⟩ ⟨by decide, by decide⟩ ⟨by decide, by decide⟩ ⟨by decide, by decide⟩ h
  have e : exP.mkE xR1 0 11 0 0 0 = 2 := by kernel_rfl
  rw [show exP.mkM xR1 0 11 0 0 0 = xR1 by unfold Pl.mkM; rw [e]; rfl, e] at k
  exact k
theorem aw4 (h : IsD w v lo hi top xR1 0 exP) : Calls Tryz.prog 20 #[v, .int .i64 0, .agg #[.int .i64 0, .int .i64 1, .int .i64 1]] w fun e w' => e = .returned (.int .i64 2) ∧ IsD w' v lo hi top xR1 0 exP ∧ Exc (Own lo hi) w w' := by
  have k := pb_make 0 0 1 1 ⟨by decide, by decide⟩ ⟨by decide, by decide⟩ ⟨by decide, by decide⟩ ⟨by decide, by decide⟩ h
  have e : exP.mkE xR1 0 0 0 1 1 = 2 := by kernel_rfl
  rw [show exP.mkM xR1 0 0 0 1 1 = xR1 by unfold Pl.mkM; rw [e]; rfl, e] at k
  exact k
theorem aw5 (h : IsD w v lo hi top xR1 0 exP) : Calls Tryz.prog 23 #[v, .int .i64 10, .int .i64 0, .int .i64 3] w fun e w' => e = .returned (.int .i64 0) ∧ IsD w' v lo hi top xR2 0 exP ∧ Exc (Own lo hi) w w' := by
  have k := pb_setref 10 0 3 ⟨by decide, by decide⟩ ⟨by decide, by decide⟩ h
  rw [show exP.srE xR1 0 10 0 3 = 0 by kernel_rfl] at k
  exact k
theorem aw6 (h : IsD w v lo hi top xR2 0 exP) : Calls Tryz.prog 23 #[v, .int .i64 10, .int .i64 0, .int .i64 15] w fun e w' => e = .returned (.int .i64 2) ∧ IsD w' v lo hi top xR2 0 exP ∧ Exc (Own lo hi) w w' := by
  have k := pb_setref 10 0 15 ⟨by decide, by decide⟩ ⟨by decide, by decide⟩ h
  have e : exP.srE xR2 0 10 0 15 = 2 := by kernel_rfl
  rw [show exP.srM xR2 0 10 0 15 = xR2 by unfold Pl.srM; rw [e]; rfl, e] at k
  exact k
theorem aw7 (h : IsD w v lo hi top xR2 0 exP) : Calls Tryz.prog 23 #[v, .int .i64 10, .int .i64 1, .int .i64 3] w fun e w' => e = .returned (.int .i64 110) ∧ IsD w' v lo hi top xR2 0 exP ∧ Exc (Own lo hi) w w' := by
  have k := pb_setref 10 1 3 ⟨by decide, by decide⟩ ⟨by decide, by decide⟩ h
  have e : exP.srE xR2 0 10 1 3 = 110 := by kernel_rfl
  rw [show exP.srM xR2 0 10 1 3 = xR2 by unfold Pl.srM; rw [e]; rfl, e] at k
  exact k
theorem aw8 (h : IsD w v lo hi top xR2 0 exP) : Calls Tryz.prog 24 #[v, .int .i64 10, .int .i64 1, .int .u64 7] w fun e w' => e = .returned (.int .i64 0) ∧ IsD w' v lo hi top xR3 0 exP ∧ Exc (Own lo hi) w w' := by
  have k := pb_setword 10 1 7 ⟨by decide, by decide⟩ h (by decide)
  rw [show exP.wdE xR2 0 10 1 = 0 by kernel_rfl] at k
  exact k
theorem aw9 (h : IsD w v lo hi top xR3 0 exP) : Calls Tryz.prog 24 #[v, .int .i64 10, .int .i64 3, .int .u64 7] w fun e w' => e = .returned (.int .i64 110) ∧ IsD w' v lo hi top xR3 0 exP ∧ Exc (Own lo hi) w w' := by
  have k := pb_setword 10 3 7 ⟨by decide, by decide⟩ h (by decide)
  have e : exP.wdE xR3 0 10 3 = 110 := by kernel_rfl
  rw [show exP.swM xR3 0 10 3 7 = xR3 by unfold Pl.swM; rw [e]; rfl, e] at k
  exact k
theorem awA (h : IsD w v lo hi top xR3 0 exP) : Calls Tryz.prog 25 #[v, .int .i64 10, .int .i64 0] w fun e w' => e = .returned (.tuple #[.int .i64 3, .int .i64 0]) ∧ Bel w w' := by
  have k := pb_ref 10 0 ⟨by decide, by decide⟩ h
  rw [show exP.rfR xR3 0 10 0 = 3 by kernel_rfl, show exP.rfE xR3 0 10 0 = 0 by kernel_rfl] at k
  exact k
theorem awB (h : IsD w v lo hi top xR3 0 exP) : Calls Tryz.prog 26 #[v, .int .i64 10, .int .i64 1] w fun e w' => e = .returned (.tuple #[.int .u64 7, .int .i64 0]) ∧ Bel w w' := by
  have k := pb_word 10 1 ⟨by decide, by decide⟩ h
  rw [show exP.wdR xR3 0 10 1 = 7 by kernel_rfl, show exP.wdE xR3 0 10 1 = 0 by kernel_rfl] at k
  exact k
theorem awC (h : IsD w v lo hi top xR3 0 exP) : Calls Tryz.prog 21 #[v, .int .i64 10] w fun e w' => (∃ p c, e = .returned (.tuple #[.slice p 1 c, .int .i64 0]) ∧ Is (fun _ => False) w' (.slice p 1 c) [3]) ∧ Bel w w' := by
  have k := pb_refs' 10 ⟨by decide, by decide⟩ h
  rw [show exP.refsE xR3 0 10 = 0 by kernel_rfl, show exP.refsL xR3 0 10 = [3] by kernel_rfl] at k
  refine k.mono ?_
  rintro e w' ⟨⟨p, n, c, rfl, rfl, hI⟩, g⟩
  exact ⟨⟨p, c, rfl, hI⟩, g⟩
theorem awD (h : IsD w v lo hi top xR3 0 exP) : Calls Tryz.prog 22 #[v, .int .i64 10] w fun e w' => (∃ p c, e = .returned (.tuple #[.slice p 2 c, .int .i64 0]) ∧ mm.Ws (fun _ => False) w' (.slice p 2 c) [7, 0]) ∧ Bel w w' := by
  have k := pb_words' 10 ⟨by decide, by decide⟩ h
  rw [show exP.hdE xR3 0 10 = 0 by kernel_rfl, show exP.wordsL xR3 0 10 = [7, 0] by kernel_rfl] at k
  refine k.mono ?_
  rintro e w' ⟨⟨p, n, c, rfl, rfl, hI⟩, g⟩
  exact ⟨⟨p, c, rfl, hI⟩, g⟩
theorem awE (h : IsD w v lo hi top xR3 0 exP) : Calls Tryz.prog 29 #[v, .int .i64 0] w fun e w' => e = .returned (.tuple #[.agg #[.int .i64 0, .int .i64 0, .int .i64 0], .int .i64 5]) ∧ Bel w w' := by
  have k := pb_head 0 ⟨by decide, by decide⟩ h
  rw [show exP.hdC xR3 0 0 = 0 by kernel_rfl, show exP.hdR xR3 0 0 = 0 by kernel_rfl, show exP.hdN xR3 0 0 = 0 by kernel_rfl, show exP.hdE xR3 0 0 = 5 by kernel_rfl] at k
  exact k
theorem cfb {w : World} {b : Nat} {x0 x1 x2 x3 x4 x5 : Value} {t : TypeId} (h : w.heap[b]? = some (.cells #[x0, x1, x2, x3, x4, x5] t (0, 0))) :
    w.cell? ⟨b, 0, none⟩ = some x0 ∧ w.cell? ⟨b, 1, none⟩ = some x1 ∧ w.cell? ⟨b, 2, none⟩ = some x2 ∧ w.cell? ⟨b, 3, none⟩ = some x3 ∧ w.cell? ⟨b, 4, none⟩ = some x4 ∧ w.cell? ⟨b, 5, none⟩ = some x5 :=
  ⟨cell_of_row w b 0 _ _ (0, 0) h, cell_of_row w b 1 _ _ (0, 0) h, cell_of_row w b 2 _ _ (0, 0) h, cell_of_row w b 3 _ _ (0, 0) h, cell_of_row w b 4 _ _ (0, 0) h, cell_of_row w b 5 _ _ (0, 0) h⟩
theorem is_one (w : World) : Is (fun _ => False) (w.alloc (.cells #[.int .i64 3] 3)) (.slice (some ⟨w.heap.size, 0, none⟩) 1 1) [3] := by
  refine Or.inr ⟨w.heap.size, 0, 1, rfl, by decide, by decide, by decide, fun x => x, fun j u hj => ?_⟩
  match j, hj with
  | 0, hj => cases hj; exact cell_of_row _ _ 0 _ _ (0, 0) (heap_alloc_new w _)
theorem ws_two (w : World) : mm.Ws (fun _ => False) (w.alloc (.cells #[.int .u64 7, .int .u64 0] 42)) (.slice (some ⟨w.heap.size, 0, none⟩) 2 2) [7, 0] := by
  refine Or.inr ⟨w.heap.size, 0, 2, rfl, by decide, by decide, by decide, fun x => x, fun j u hj => ?_⟩
  match j, hj with
  | 0, hj => cases hj; exact cell_of_row _ _ 0 _ _ (0, 0) (heap_alloc_new w _)
  | 1, hj => cases hj; exact cell_of_row _ _ 1 _ _ (0, 0) (heap_alloc_new w _)
end

set_option maxRecDepth 100000 in
set_option maxHeartbeats 4000000 in
theorem awake_any (w : World) (hT : TabW w) : Calls Tryz.prog 10 #[] w fun e w' => e = .returned (.bool true) ∧ Bel w w' := by
  have g0 := ((Bel.refl w).alloc (.cells #[.int .i64 2, .int .i64 4] 3)).alloc (.cells #[.int .i64 20, .int .i64 8, .int .i64 4, .int .i64 1, .int .i64 4, .int .i64 1, .int .i64 1, .int .i64 0] 93)
  have g1 := (Bel.refl ((w.alloc (.cells #[.int .i64 2, .int .i64 4] 3)).alloc (.cells #[.int .i64 20, .int .i64 8, .int .i64 4, .int .i64 1, .int .i64 4, .int .i64 1, .int .i64 1, .int .i64 0] 93))).alloc (.cells #[.slice (some ⟨w.heap.size, 0, none⟩) 2 2, .int .i64 8, .slice (some ⟨w.heap.size + 1, 0, none⟩) 2 2, .int .i64 1, .int .i64 2, .int .i64 3] 25)
  have b1 := heap_alloc_new ((w.alloc (.cells #[.int .i64 2, .int .i64 4] 3)).alloc (.cells #[.int .i64 20, .int .i64 8, .int .i64 4, .int .i64 1, .int .i64 4, .int .i64 1, .int .i64 1, .int .i64 0] 93)) (.cells #[.slice (some ⟨w.heap.size, 0, none⟩) 2 2, .int .i64 8, .slice (some ⟨w.heap.size + 1, 0, none⟩) 2 2, .int .i64 1, .int .i64 2, .int .i64 3] 25)
  have s2 : ((w.alloc (.cells #[.int .i64 2, .int .i64 4] 3)).alloc (.cells #[.int .i64 20, .int .i64 8, .int .i64 4, .int .i64 1, .int .i64 4, .int .i64 1, .int .i64 1, .int .i64 0] 93)).heap.size = w.heap.size + 1 + 1 := by rw [mm.size_alloc1, mm.size_alloc1]
  rw [s2] at b1
  have ex := fun W g => ex_made w 8 (W := W) g
  obtain ⟨W0, hW0⟩ : ∃ W0, ((w.alloc (.cells #[.int .i64 2, .int .i64 4] 3)).alloc (.cells #[.int .i64 20, .int .i64 8, .int .i64 4, .int .i64 1, .int .i64 4, .int .i64 1, .int .i64 1, .int .i64 0] 93)).alloc (.cells #[.slice (some ⟨w.heap.size, 0, none⟩) 2 2, .int .i64 8, .slice (some ⟨w.heap.size + 1, 0, none⟩) 2 2, .int .i64 1, .int .i64 2, .int .i64 3] 25) = W0 := ⟨_, rfl⟩
  rw [hW0] at g1 b1
  have gW : Bel w W0 := g0.trans g1
  have mn := mm.pm_new_ok _ (exC 8) W0 (ex _ g1) ex_ok (by decide)
  have sn := fun W (g : Bel W0 W) => pnew_fresh _ (exC 8) 0 W (ex _ (g1.trans g)) ex_ok (by decide)
  have kk := fun W (g : Bel W0 W) => cfb (heap_bel g b1)
  have pos : 0 < w.heap.size := (cell_block (hT 0 (by decide))).1
  have hid := Lib.hid (And.intro gW (And.intro hT (And.intro pos (And.intro sn kk))))
  obtain ⟨k0, k1, k2, k3, k4, k5⟩ := kk _ (Bel.refl _)
  clear g0 g1 b1 s2 ex gW hT pos sn kk
  rw [show ((0 : Nat) : Int) = 0 from rfl] at *
  go_enter Tryz.func10, Tryz.ntmps10
  go_upto_region 2 with fail
  (try rw [hW0])
  clear hW0
  go_wp2_with (first
    | (go_at_call 33; refine mn.mono ?_; rintro e w1 ⟨⟨p1, rfl, hM⟩, h1⟩; obtain ⟨k0, k1, k2, k3, k4, k5⟩ := hid.out.2.2.2.2 _ h1; have hidM := Lib.hid hM; clear hM)
    | (go_at_call 27; refine (hid.out.2.2.2.1 _ h1).mono ?_; rintro e w2 ⟨⟨b2, g2, c2, rfl, hP, l1, l2⟩, h2⟩
       have nb := pb_new (t := 0) (mem_bel hidM.out h2 (Nat.le_refl _)) h2.size hP (fun x => by have := x.2; omega) (fun x => by have := x.2; omega) (by have := hid.out.2.2.1; have := hid.out.1.size; omega) ((hid.out.2.1.bel hid.out.1).bel (h1.trans h2)) (bok_zeros ex_ok (by decide) (by decide))
       rw [show ((0 : Nat) : Int) = 0 from rfl] at nb
       clear hP l1 l2)
    | (go_at_call 28; refine nb.mono ?_; rintro e w3 ⟨⟨p3, rfl, hDD⟩, h3⟩; have hD := (hDD (fun _ => False) w3 (Exc.refl _ _) (fun _ x => x.elim)).1
       have hD3 : IsD w3 (.pointer (some p3)) W0.heap.size w1.heap.size w3.heap.size xR0 0 exP := hD
       have D3 := Lib.hid (And.intro hD3 (Exc.refl (Own W0.heap.size w1.heap.size) w3))
       have gW3 := Lib.hid (hid.out.1.trans (h1.trans (h2.trans h3)))
       clear hD hDD hD3 nb mn k0 k1 k2 k3 k4 k5)
    | (go_at_call 20; (with_reducible refine (aw1 D3.out.1).mono ?_); rintro e w4 ⟨rfl, hD4, hE4⟩; have D4 := Lib.hid (And.intro hD4 (Exc.trans D3.out.2 hE4)); clear hD4 hE4)
    | (go_at_call 20; (with_reducible refine (aw2 D4.out.1).mono ?_); rintro e w5 ⟨rfl, hD5, hE5⟩; have D5 := Lib.hid (And.intro hD5 (Exc.trans D4.out.2 hE5)); clear hD5 hE5)
    | (go_at_call 20; (with_reducible refine (aw3 D5.out.1).mono ?_); rintro e w6 ⟨rfl, hD6, hE6⟩; have D6 := Lib.hid (And.intro hD6 (Exc.trans D5.out.2 hE6)); clear hD6 hE6)
    | (go_at_call 20; (with_reducible refine (aw4 D6.out.1).mono ?_); rintro e w7 ⟨rfl, hD7, hE7⟩; have D7 := Lib.hid (And.intro hD7 (Exc.trans D6.out.2 hE7)); clear hD7 hE7)
    | (go_at_call 23; (with_reducible refine (aw5 D7.out.1).mono ?_); rintro e w8 ⟨rfl, hD8, hE8⟩; have D8 := Lib.hid (And.intro hD8 (Exc.trans D7.out.2 hE8)); clear hD8 hE8)
    | (go_at_call 23; (with_reducible refine (aw6 D8.out.1).mono ?_); rintro e w9 ⟨rfl, hD9, hE9⟩; have D9 := Lib.hid (And.intro hD9 (Exc.trans D8.out.2 hE9)); clear hD9 hE9)
    | (go_at_call 23; (with_reducible refine (aw7 D9.out.1).mono ?_); rintro e wA ⟨rfl, hDA, hEA⟩; have DA := Lib.hid (And.intro hDA (Exc.trans D9.out.2 hEA)); clear hDA hEA)
    | (go_at_call 24; (with_reducible refine (aw8 DA.out.1).mono ?_); rintro e wB ⟨rfl, hDB, hEB⟩; have DB := Lib.hid (And.intro hDB (Exc.trans DA.out.2 hEB)); clear hDB hEB)
    | (go_at_call 24; (with_reducible refine (aw9 DB.out.1).mono ?_); rintro e wC ⟨rfl, hDC, hEC⟩; have DC := Lib.hid (And.intro hDC (Exc.trans DB.out.2 hEC)); clear hDC hEC)
    | (go_at_call 25; (with_reducible refine (awA DC.out.1).mono ?_); rintro e wD ⟨rfl, hD⟩; have DD := Lib.hid (And.intro (DC.out.1.bel hD) (Exc.trans DC.out.2 (Bel.exc hD))))
    | (go_at_call 26; (with_reducible refine (awB DD.out.1).mono ?_); rintro e wE ⟨rfl, hE⟩; have DE := Lib.hid (And.intro (DD.out.1.bel hE) (Exc.trans DD.out.2 (Bel.exc hE))))
    | (go_at_call 21; (with_reducible refine (awC DE.out.1).mono ?_); rintro e wF ⟨⟨pF, cF, rfl, hIF⟩, hF⟩; have DF := Lib.hid (And.intro (DE.out.1.bel hF) (Exc.trans DE.out.2 (Bel.exc hF))); have hidF := Lib.hid hIF; clear hIF)
    | (go_at_call 22; (with_reducible refine (awD DF.out.1).mono ?_); rintro e wG ⟨⟨pG, cG, rfl, hIG⟩, hG⟩; have DG := Lib.hid (And.intro (DF.out.1.bel hG) (Exc.trans DF.out.2 (Bel.exc hG))); have hidG := Lib.hid (And.intro hIG (hidF.out.bel hG)); clear hIG)
    | (go_at_call 29; (with_reducible refine (awE DG.out.1).mono ?_); rintro e wH ⟨rfl, hH⟩
       have gH := hH.alloc (.cells #[.int .i64 0, .int .i64 0, .int .i64 0] 44)
       have sH := mm.size_alloc1 wH (.cells #[.int .i64 0, .int .i64 0, .int .i64 0] 44)
       have gI := gH.alloc (.cells #[.int .i64 3] 3)
       have s1 := isame_yes (hidG.out.2.bel gI) (is_one _)
       rw [sH] at s1)
    | (go_at_call 36; refine s1.mono ?_; rintro e wJ ⟨rfl, hJ⟩
       have gJ := gI.trans hJ
       have gK := gJ.alloc (.cells #[.int .u64 7, .int .u64 0] 42)
       have s2 := wsame_yes (hidG.out.1.bel gK) (ws_two _))
    | (go_at_call 13; refine s2.mono ?_; rintro e wL ⟨rfl, hL⟩))
  go_ret
  exact ⟨rfl, (bel_exc gW3.out DG.out.2 fun k hk => by have := hk.1; have := hid.out.1.size; omega).trans (gK.trans hL)⟩

end Go.Proofs.YthokalcibjjihaaGreatDoor

/- made: a body of a tenant, its memory, and the document's. -/
namespace Go.Proofs.YthokalcibjjihaaGreatDoor
open Go.ChangeShapes Go.WideShapes Go.ChangeAt Go.RowKit Go.Deep hd
set_option linter.unusedVariables false
variable {X : Nat → Prop} {w w' : World} {v : Value} {lo hi top : Nat} {R : List (List Nat)} {t : Nat} {P : Pl}

theorem results_tmp2_row {P : Program} {fn : Func} {p u u2 : Tmp} {ty : TypeId} (h : fn.results = #[.tmp u, .tmp u2, .cell p ty]) (tmps : Array Value) (w : World) (g : Nat) (t : TypeId) (cs : Array Value) (fr : Nat × Nat) (d : TypeDesc)
    (hp : tmps.getD p undef = .pointer (some ⟨g, 0, none⟩)) (hg : w.heap[g]? = some (.cells cs t fr))
    (hu : P.underlying ty = some d) (hd : (match d with | .struct _ | .array _ _ => true | _ => false) = true) (hi : (P.info? ty).map (·.size) = some cs.size) :
    (results fn tmps).run P w = .ok (.tuple #[tmps.getD u undef, tmps.getD u2 undef, .agg cs]) w := by
  have hp' : tmps[p]?.getD undef = .pointer (some ⟨g, 0, none⟩) := by simpa using hp
  simp [results, h, hp', asAddr, run_loadVar_row w g t ty cs fr d hg hu hd hi]

def Cf.great11 (c : Cf) : Prop := ¬ (c.n ≤ 50 ∧ c.m ≤ 50) ∨ 2000 < c.totR
instance (c : Cf) : Decidable c.great11 := by unfold Cf.great11; infer_instance

set_option maxRecDepth 100000 in
set_option maxHeartbeats 4000000 in
theorem made_no (v : Value) (c : Cf) (tn : Nat) (w : World) (h : IsCf w v c) (hno : c.great11 ∨ ¬ c.ok) :
    Calls Tryz.prog 9 #[v, .int .u8 (tn : Nat)] w fun e w' => e = .returned (.tuple #[.pointer none, .pointer none, .agg #[.slice none 0 0, .int .i64 0, .slice none 0 0, .slice none 0 0, .slice none 0 0, .int .i64 0, .slice none 0 0]]) ∧ Bel w w' := by
  have hI := h
  obtain ⟨vc, vt, rfl, hN, hT⟩ := h
  obtain ⟨p1, c1, rfl, _⟩ := nums_slice hN
  obtain ⟨p2, c2, rfl, _⟩ := tens_slice hT
  clear hN hT
  obtain ⟨m0, m1⟩ := two w (.cells #[.slice p1 c.n c1, .int .i64 c.page, .slice p2 c.m c2, .int .i64 c.wk, .int .i64 c.gr, .int .i64 c.gn] 25) (.cells #[.slice none 0 0, .int .i64 0, .slice none 0 0, .slice none 0 0, .slice none 0 0, .int .i64 0, .slice none 0 0] 36)
  have hb : Bel w _ := bel_two w (.cells #[.slice p1 c.n c1, .int .i64 c.page, .slice p2 c.m c2, .int .i64 c.wk, .int .i64 c.gr, .int .i64 c.gn] 25) (.cells #[.slice none 0 0, .int .i64 0, .slice none 0 0, .slice none 0 0, .slice none 0 0, .int .i64 0, .slice none 0 0] 36)
  obtain ⟨W0, hW0⟩ : ∃ W, (w.alloc (.cells #[.slice p1 c.n c1, .int .i64 c.page, .slice p2 c.m c2, .int .i64 c.wk, .int .i64 c.gr, .int .i64 c.gn] 25)).alloc (.cells #[.slice none 0 0, .int .i64 0, .slice none 0 0, .slice none 0 0, .slice none 0 0, .int .i64 0, .slice none 0 0] 36) = W := ⟨_, rfl⟩
  rw [hW0] at hb m0 m1
  have tt := rtot_any _ c W0 (hI.bel hb)
  have sm := fun W (g : Bel W0 W) => (small_any _ c W (hI.bel (hb.trans g))).mono fun e w' ⟨x, y⟩ => (⟨x, g.trans y⟩ : _ ∧ Bel W0 w')
  have ck := fun W (g : Bel W0 W) => (rck_any _ c W (hI.bel (hb.trans g))).mono fun e w' ⟨x, y⟩ => (⟨x, g.trans y⟩ : _ ∧ Bel W0 w')
  have kk := fun W (g : Bel W0 W) => And.intro (cfb (heap_bel g m0)) (box7 (heap_bel g m1))
  have hid := Lib.hid (And.intro m1 (And.intro hb kk))
  obtain ⟨⟨k0, k1, k2, k3, k4, k5⟩, _⟩ := kk _ (Bel.refl _)
  by_cases s : c.n ≤ 50 ∧ c.m ≤ 50
  · simp only [decide_eq_true s] at sm
    by_cases g2 : 2000 < c.totR
    · have d1 : decide (2000 < c.totR) = true := decide_eq_true g2
      clear hI s hno ck kk m0 m1 hb
      generalize c.totR = T at *
      generalize c.checkC = E at *
      go_enter Tryz.func9, Tryz.ntmps9
      go_upto_region 1 with fail
      (try rw [hW0])
      clear hW0
      go_wp2_with (first
        | (go_at_call 30; refine tt.mono ?_; rintro e w1 ⟨rfl, h1⟩; obtain ⟨⟨k0, k1, k2, k3, k4, k5⟩, _⟩ := hid.out.2.2 _ h1)
        | (go_at_call 31; refine (sm _ h1).mono ?_; rintro e w2 ⟨rfl, h2⟩; obtain ⟨⟨k0, k1, k2, k3, k4, k5⟩, ⟨z0, z1, z2, z3, z4, z5, z6⟩, f0, f1, f2, f3, f4, f5, f6⟩ := hid.out.2.2 _ h2))
      (try simp only [Exit.inBlock, Exit.then])
      refine bodyPost_ret (results_tmp2_row rfl _ _ _ 36 _ (0, 0) _ rfl (seven_row (heap_bel h2 hid.out.1) _ _ _ _ _ _ _) Tryz.underlying36 rfl info_b) rfl ?_
      exact ⟨by simp, set7_below (hid.out.2.1.trans h2) (Nat.le_succ _) _ _ _ _ _ _ _⟩
    · have hno := hno.resolve_left (fun x => x.elim (fun y => y s) g2)
      simp only [Cf.checkC_no hno] at ck
      have d1 : decide (2000 < c.totR) = false := decide_eq_false g2
      clear hI s hno kk m0 m1 hb
      generalize c.totR = T at *
      generalize c.checkC = E at *
      go_enter Tryz.func9, Tryz.ntmps9
      go_upto_region 1 with fail
      (try rw [hW0])
      clear hW0
      go_wp2_with (first
        | (go_at_call 30; refine tt.mono ?_; rintro e w1 ⟨rfl, h1⟩; obtain ⟨⟨k0, k1, k2, k3, k4, k5⟩, _⟩ := hid.out.2.2 _ h1)
        | (go_at_call 31; refine (sm _ h1).mono ?_; rintro e w2 ⟨rfl, h2⟩; obtain ⟨⟨k0, k1, k2, k3, k4, k5⟩, _⟩ := hid.out.2.2 _ h2)
        | (go_at_call 32; refine (ck _ h2).mono ?_; rintro e w3 ⟨rfl, h3⟩; obtain ⟨⟨k0, k1, k2, k3, k4, k5⟩, ⟨z0, z1, z2, z3, z4, z5, z6⟩, f0, f1, f2, f3, f4, f5, f6⟩ := hid.out.2.2 _ h3))
      (try simp only [Exit.inBlock, Exit.then])
      refine bodyPost_ret (results_tmp2_row rfl _ _ _ 36 _ (0, 0) _ rfl (seven_row (heap_bel h3 hid.out.1) _ _ _ _ _ _ _) Tryz.underlying36 rfl info_b) rfl ?_
      exact ⟨by simp, set7_below (hid.out.2.1.trans h3) (Nat.le_succ _) _ _ _ _ _ _ _⟩
  · simp only [decide_eq_false s] at sm
    clear hI s hno ck kk m0 m1 hb
    generalize c.totR = T at *
    generalize c.checkC = E at *
    go_enter Tryz.func9, Tryz.ntmps9
    go_upto_region 1 with fail
    (try rw [hW0])
    clear hW0
    go_wp2_with (first
      | (go_at_call 30; refine tt.mono ?_; rintro e w1 ⟨rfl, h1⟩; obtain ⟨⟨k0, k1, k2, k3, k4, k5⟩, _⟩ := hid.out.2.2 _ h1)
      | (go_at_call 31; refine (sm _ h1).mono ?_; rintro e w2 ⟨rfl, h2⟩; obtain ⟨⟨k0, k1, k2, k3, k4, k5⟩, ⟨z0, z1, z2, z3, z4, z5, z6⟩, f0, f1, f2, f3, f4, f5, f6⟩ := hid.out.2.2 _ h2))
    (try simp only [Exit.inBlock, Exit.then])
    refine bodyPost_ret (results_tmp2_row rfl _ _ _ 36 _ (0, 0) _ rfl (seven_row (heap_bel h2 hid.out.1) _ _ _ _ _ _ _) Tryz.underlying36 rfl info_b) rfl ?_
    exact ⟨by simp, set7_below (hid.out.2.1.trans h2) (Nat.le_succ _) _ _ _ _ _ _ _⟩

theorem avoid_less {X Y : Nat → Prop} {v : Value} (h : Avoid X v) (s : ∀ k, Y k → X k) : Avoid Y v := h.less s

/-- what made hands out: the program's body and memory, the document's body -/
structure Made (w w' : World) (v mv q : Value) (lo hi top : Nat) (R : List (List Nat)) (t : Nat) (P : Pl) : Prop where
  d : IsD w' v lo hi top R t P
  m : ∃ p, v = .pointer (some p) ∧ w'.cell? p = some mv
  b : IsB (Own lo hi) w' q R t P
  lo : w.heap.size ≤ lo

set_option maxRecDepth 100000 in
set_option maxHeartbeats 8000000 in
theorem made_yes (v : Value) (c : Cf) (tn : Nat) (w : World) (h : IsCf w v c) (hg : ¬ c.great11) (ok : c.ok) (h8 : tn ≤ 255) (hT : TabW w) :
    Calls Tryz.prog 9 #[v, .int .u8 (tn : Nat)] w fun e w' => (∃ pa pm q lo hi top, e = .returned (.tuple #[.pointer (some pa), .pointer (some pm), q]) ∧ Made w w' (.pointer (some pa)) (.pointer (some pm)) q lo hi top c.zeros (tn % c.m) (c.pl (tn % c.m))) ∧ Bel w w' := by
  have hI := h
  have m1' := Cf.ok_m ok
  obtain ⟨t, htd⟩ : ∃ t, tn % c.m = t := ⟨_, rfl⟩
  have htm : t < c.m := by rw [← htd]; exact Nat.mod_lt _ (by omega)
  rw [htd]
  obtain ⟨vc, vt, rfl, hN, hTn⟩ := h
  obtain ⟨p1, c1, rfl, _⟩ := nums_slice hN
  obtain ⟨p2, c2, rfl, _⟩ := tens_slice hTn
  clear hN hTn
  obtain ⟨m0, m1⟩ := two w (.cells #[.slice p1 c.n c1, .int .i64 c.page, .slice p2 c.m c2, .int .i64 c.wk, .int .i64 c.gr, .int .i64 c.gn] 25) (.cells #[.slice none 0 0, .int .i64 0, .slice none 0 0, .slice none 0 0, .slice none 0 0, .int .i64 0, .slice none 0 0] 36)
  have hb : Bel w _ := bel_two w (.cells #[.slice p1 c.n c1, .int .i64 c.page, .slice p2 c.m c2, .int .i64 c.wk, .int .i64 c.gr, .int .i64 c.gn] 25) (.cells #[.slice none 0 0, .int .i64 0, .slice none 0 0, .slice none 0 0, .slice none 0 0, .int .i64 0, .slice none 0 0] 36)
  obtain ⟨W0, hW0⟩ : ∃ W, (w.alloc (.cells #[.slice p1 c.n c1, .int .i64 c.page, .slice p2 c.m c2, .int .i64 c.wk, .int .i64 c.gr, .int .i64 c.gn] 25)).alloc (.cells #[.slice none 0 0, .int .i64 0, .slice none 0 0, .slice none 0 0, .slice none 0 0, .int .i64 0, .slice none 0 0] 36) = W := ⟨_, rfl⟩
  rw [hW0] at hb m0 m1
  have hto : c.totR ≤ 2000 := by
    unfold Cf.great11 at hg
    omega
  have hsm : c.n ≤ 50 ∧ c.m ≤ 50 := by
    unfold Cf.great11 at hg
    exact Classical.byContradiction fun x => hg (Or.inl x)
  have hbs : c.base c.m ≤ 4000 := by rw [Cf.totR_ok ok] at hto; omega
  have tt := rtot_any _ c W0 (hI.bel hb)
  have sm := fun W (g : Bel W0 W) => (small_any _ c W (hI.bel (hb.trans g))).mono fun e w' ⟨x, y⟩ => (⟨x, g.trans y⟩ : _ ∧ Bel W0 w')
  have ck := fun W (g : Bel W0 W) => (rck_any _ c W (hI.bel (hb.trans g))).mono fun e w' ⟨x, y⟩ => (⟨x, g.trans y⟩ : _ ∧ Bel W0 w')
  simp only [decide_eq_true hsm] at sm
  simp only [Cf.checkC_ok ok] at ck
  have mn := fun W (g : Bel W0 W) => mm.pm_new_ok _ c W (hI.bel (hb.trans g)) ok hbs
  have sn := fun W (g : Bel W0 W) => pnew_fresh _ c t W (hI.bel (hb.trans g)) ok htm
  have rn := fun W (g : Bel W0 W) => rnewp_new _ c t W (hI.bel (hb.trans g)) ok htm
  have rm := fun (X : Nat → Prop) W (g : Bel W0 W) (hX : Till X W) => mm.rnew_any X _ c W (hI.bel (hb.trans g)) ok hX
  have bk := bok_zeros ok htm hbs
  have kk := fun W (g : Bel W0 W) => And.intro (cfb (heap_bel g m0)) (box7 (heap_bel g m1))
  have tb : TabW W0 := hT.bel hb
  have pos : 0 < w.heap.size := (cell_block (hT 0 (by decide))).1
  have sz0 := hb.size
  have m1l := heap_lt m1
  have d1 : decide (2000 < c.totR) = false := decide_eq_false (by omega)
  have q1 : IntKind.i64.wrap (tn : Int) = (tn : Int) := by rw [IntKind.wrap_i64]; omega
  have q2 : (tn : Int) % (c.m : Int) = (t : Int) := by rw [← htd]; exact (Int.natCast_emod tn c.m).symm
  have q3 : (tn : Int).tmod (c.m : Int) = (t : Int) := by rw [← q2]; exact Int.tmod_eq_emod_of_nonneg (by omega)
  have q4 : ¬ c.m = 0 := by omega
  have q5 : (c.m : Int) ≠ 0 := by omega
  have q6 : (0 : Int) ≤ (tn : Int) := by omega
  have hid := Lib.hid (And.intro m1 (And.intro hb (And.intro kk (And.intro tb (And.intro pos (And.intro m1l (And.intro bk (And.intro sn (And.intro rn rm)))))))))
  obtain ⟨⟨k0, k1, k2, k3, k4, k5⟩, _⟩ := kk _ (Bel.refl _)
  generalize c.totR = TR at *
  generalize c.pl t = P at *
  obtain ⟨R, hR⟩ : ∃ R, c.zeros = R := ⟨_, rfl⟩
  rw [hR] at mn hid ⊢
  clear hI hg ok m0 m1 hb kk tb pos hto hsm hbs hT htd htm bk sn rn rm sz0 m1l hR
  go_enter Tryz.func9, Tryz.ntmps9
  go_upto_region 1 with fail
  (try rw [hW0])
  clear hW0
  go_upto_region 9 with (first
    | (go_at_call 30; refine tt.mono ?_; rintro e w1 ⟨rfl, h1⟩; obtain ⟨⟨k0, k1, k2, k3, k4, k5⟩, _⟩ := hid.out.2.2.1 _ h1)
    | (go_at_call 31; refine (sm _ h1).mono ?_; rintro e w2 ⟨rfl, h2⟩; obtain ⟨⟨k0, k1, k2, k3, k4, k5⟩, _⟩ := hid.out.2.2.1 _ h2)
    | (go_at_call 32; refine (ck _ h2).mono ?_; rintro e w3 ⟨rfl, h3⟩; obtain ⟨⟨k0, k1, k2, k3, k4, k5⟩, _⟩ := hid.out.2.2.1 _ h3)
    | (go_at_call 33; refine (mn _ h3).mono ?_; rintro e w4 ⟨⟨p4, rfl, hM⟩, h4⟩; have G4 := h3.trans h4; obtain ⟨⟨k0, k1, k2, k3, k4, k5⟩, _⟩ := hid.out.2.2.1 _ G4; have hidM := Lib.hid hM; clear hM)
    | (go_at_call 27; refine (hid.out.2.2.2.2.2.2.2.1 _ G4).mono ?_; rintro e w5 ⟨⟨b5, g5, c5, rfl, hP, l1, l2⟩, h5⟩; have G5 := G4.trans h5; obtain ⟨⟨k0, k1, k2, k3, k4, k5⟩, _⟩ := hid.out.2.2.1 _ G5; have hidP := Lib.hid (And.intro hP (And.intro l1 l2)); clear hP l1 l2)
    | (go_at_call 34; refine (hid.out.2.2.2.2.2.2.2.2.1 _ G5).mono ?_; rintro e w6 ⟨⟨q6', rfl, hQ, hV⟩, h6⟩
       have hQ0 := hQ
       obtain ⟨_, _, _, p, cap, rfl, ⟨bl, ol, cl, rfl, hL⟩, hF, hMn⟩ := hQ
       obtain ⟨pf, cf, rfl, _⟩ := nums_slice hF
       obtain ⟨pm, cm, rfl, _⟩ := nums_slice hMn
       clear hL hF hMn
       have al := (Bel.refl w6).alloc (.cells #[.slice (some ⟨bl, ol, none⟩) P.S cl, .slice pf P.T cf, .slice pm P.T cm, .int .i64 (P.W : Nat), .slice p P.n cap] 34)
       have b9 := heap_alloc_new w6 (.cells #[.slice (some ⟨bl, ol, none⟩) P.S cl, .slice pf P.T cf, .slice pm P.T cm, .int .i64 (P.W : Nat), .slice p P.n cap] 34)
       have G7 := (G5.trans h6).trans al
       have hP7 := hidP.out.1.bel (h6.trans al)
       have hM7 := mem_bel hidM.out ((h5.trans h6).trans al) (Nat.le_refl _)
       have hh7 := ((h5.trans h6).trans al).size
       have nb := pb_new hM7 hh7 hP7 (fun x => by have := x.2; have := hidP.out.2.1; omega) (fun x => by have := x.2; have := hidP.out.2.2; omega) (by have := hid.out.2.2.2.2.1; have := hid.out.2.1.size; have := h3.size; omega) (hid.out.2.2.2.1.bel G7) hid.out.2.2.2.2.2.2.1
       have hidQ := Lib.hid (And.intro (hQ0.bel al) hV)
       clear hP7 hM7 hh7 hQ0 hV)
    | (go_at_call 28; refine nb.mono ?_; rintro e w8 ⟨⟨pa, rfl, hDD⟩, h8⟩
       have G8 := G7.trans h8
       have b9 := heap_bel h8 b9
       have hidD := Lib.hid (And.intro (hDD (fun _ => False) w8 (Exc.refl _ _) (fun _ x => x.elim)).1 (And.intro hDD (hidQ.out.1.bel h8)))
       clear hDD))
  have s6 := (al.trans h8).size
  have s4 := h3.size
  have s34 := h4.size
  have s45 := h5.size
  have s56 := h6.size
  have sb := hid.out.2.1.size
  have ml := hid.out.2.2.2.2.2.1
  have sal : (w6.alloc (.cells #[.slice (some ⟨bl, ol, none⟩) P.S cl, .slice pf P.T cf, .slice pm P.T cm, .int .i64 (P.W : Nat), .slice p P.n cap] 34)).heap.size = w6.heap.size + 1 := mm.size_alloc1 _ _
  obtain ⟨tp1, tp2, tp3, tp4⟩ := hidD.out.1.lims
  have rm9 := hid.out.2.2.2.2.2.2.2.2.2 (fun k => Own w3.heap.size w4.heap.size k ∨ k = w.heap.size + 1) w8.drew (G8.drew) (fun k hk => by
    show k < w8.heap.size
    rcases hk with hk | hk
    · have := hk.2; omega
    · have := G8.size; omega)
  have hvv := hidQ.out.2
  have hAv : AvoidQ (fun k => Own w3.heap.size w4.heap.size k ∨ k = w.heap.size + 1) (.agg #[.slice (some ⟨bl, ol, none⟩) P.S cl, .slice pf P.T cf, .slice pm P.T cm, .int .i64 (P.W : Nat), .slice p P.n cap]) := fun L F M a b e => by
    obtain ⟨x1, x2, x3⟩ := hvv L F M a b e
    have ss : ∀ k, (Own w3.heap.size w4.heap.size k ∨ k = w.heap.size + 1) → k < w5.heap.size := fun k hk => by
      rcases hk with hk | hk
      · have := hk.2; omega
      · have := h3.size; omega
    exact ⟨x1.less ss, x2.less ss, x3.less ss⟩
  have b1 := heap_bel G8 hid.out.1
  have l8 := heap_lt b9
  have n9 : w6.heap.size ≠ w.heap.size + 1 := by have := G8.size; have := h1.size; omega
  have kx : ∀ W, Exc (fun k => k = w.heap.size + 1) w8 W → Exc (fun k => k = w.heap.size + 1) w8 W ∧ (W.cell? ⟨w.heap.size, 0, none⟩ = some (.slice p1 c.n c1) ∧ W.cell? ⟨w.heap.size, 1, none⟩ = some (.int .i64 c.page) ∧ W.cell? ⟨w.heap.size, 2, none⟩ = some (.slice p2 c.m c2) ∧ W.cell? ⟨w.heap.size, 3, none⟩ = some (.int .i64 c.wk) ∧ W.cell? ⟨w.heap.size, 4, none⟩ = some (.int .i64 c.gr) ∧ W.cell? ⟨w.heap.size, 5, none⟩ = some (.int .i64 c.gn)) ∧
      (W.cell? ⟨w6.heap.size, 0, none⟩ = some (.slice (some ⟨bl, ol, none⟩) P.S cl) ∧ W.cell? ⟨w6.heap.size, 1, none⟩ = some (.slice pf P.T cf) ∧ W.cell? ⟨w6.heap.size, 2, none⟩ = some (.slice pm P.T cm) ∧ W.cell? ⟨w6.heap.size, 3, none⟩ = some (.int .i64 (P.W : Nat)) ∧ W.cell? ⟨w6.heap.size, 4, none⟩ = some (.slice p P.n cap)) := fun W g => by
    have c0 := (hid.out.2.2.1 _ G8).1
    have nw : w.heap.size ≠ w.heap.size + 1 := by omega
    exact ⟨g, ⟨cell_exc g c0.1 nw, cell_exc g c0.2.1 nw, cell_exc g c0.2.2.1 nw, cell_exc g c0.2.2.2.1 nw, cell_exc g c0.2.2.2.2.1 nw, cell_exc g c0.2.2.2.2.2 nw⟩, (box5 (blk_exc g b9 n9)).1⟩
  have hidE := Lib.hid (And.intro hAv (And.intro b1 (And.intro G8 (And.intro s4 (And.intro s34 (And.intro sb (And.intro ml (And.intro tp1 s45))))))))
  have gx0 : Exc (fun k => k = w.heap.size + 1) w8 w8 := Exc.refl _ _
  obtain ⟨_, ⟨k0, k1, k2, k3, k4, k5⟩, x0, x1, x2, x3, x4⟩ := kx _ gx0
  have gw8 := Bel.refl w8
  have kd := kx _ (Bel.exc gw8.drew)
  have l9 := hidD.out.1.lims
  have hidl := Lib.hid (And.intro l9 (show w.heap.size + 1 < (w6.alloc (.cells #[.slice (some ⟨bl, ol, none⟩) P.S cl, .slice pf P.T cf, .slice pm P.T cm, .int .i64 (P.W : Nat), .slice p P.n cap] 34)).heap.size by omega))
  clear hAv b1 hvv G7 G5 G4 b9 nb mn sm ck tt s6 s4 s34 s45 s56 sb ml sal tp1 tp2 tp3 tp4 h1 h2 h4 h5 h6 l8 n9 l9
  go_region_held3 (fun W => Exc (fun k => k = w.heap.size + 1) w8 W ∧ (W.cell? ⟨w.heap.size, 0, none⟩ = some (.slice p1 c.n c1) ∧ W.cell? ⟨w.heap.size, 1, none⟩ = some (.int .i64 c.page) ∧ W.cell? ⟨w.heap.size, 2, none⟩ = some (.slice p2 c.m c2) ∧ W.cell? ⟨w.heap.size, 3, none⟩ = some (.int .i64 c.wk) ∧ W.cell? ⟨w.heap.size, 4, none⟩ = some (.int .i64 c.gr) ∧ W.cell? ⟨w.heap.size, 5, none⟩ = some (.int .i64 c.gn)) ∧
      (W.cell? ⟨w6.heap.size, 0, none⟩ = some (.slice (some ⟨bl, ol, none⟩) P.S cl) ∧ W.cell? ⟨w6.heap.size, 1, none⟩ = some (.slice pf P.T cf) ∧ W.cell? ⟨w6.heap.size, 2, none⟩ = some (.slice pm P.T cm) ∧ W.cell? ⟨w6.heap.size, 3, none⟩ = some (.int .i64 (P.W : Nat)) ∧ W.cell? ⟨w6.heap.size, 4, none⟩ = some (.slice p P.n cap)))
    (first | with_reducible exact kd | with_reducible exact kx _ (by assumption))
    (first | (go_at_call 35; (with_reducible refine rm9.mono ?_); rintro e w10 ⟨⟨v10, rfl, hR10⟩, h10⟩
              obtain ⟨pr, cr, rfl⟩ := rm_shape hR10
              have g10 : Exc (fun k => k = w.heap.size + 1) w8 w10 := Bel.exc (gw8.drew.trans h10)
              have b10 := heap_bel (gw8.drew.trans h10) hidE.out.2.1
              obtain ⟨⟨z0, z1, z2, z3, z4, z5, z6⟩, f0, f1, f2, f3, f4, f5, f6⟩ := box7 b10
              obtain ⟨W11, hW11, hb11, hE11⟩ := seven_store b10 (.slice pr R.length cr) (.int .i64 (t : Nat)) (.slice (some ⟨bl, ol, none⟩) P.S cl) (.slice pf P.T cf) (.slice pm P.T cm) (.int .i64 (P.W : Nat)) (.slice p P.n cap)
              have g11 : Exc (fun k => k = w.heap.size + 1) w8 W11 := g10.trans hE11
              have hid10 := Lib.hid (And.intro hR10 (And.intro hb11 (And.intro hE11 (gw8.drew.trans h10))))
              clear hR10 b10 hb11 hE11))
  go_wp2
  (try simp only [Exit.inBlock, Exit.then])
  refine bodyPost_ret (results_tmp2_row rfl _ _ _ 36 _ (0, 0) _ rfl hid10.out.2.1 Tryz.underlying36 rfl info_b) rfl ?_
  obtain ⟨hR10, hb11, hE11, h10⟩ := hid10.out
  obtain ⟨hAv, b1, G8, s4, s34, sb, ml, tp1, s45⟩ := hidE.out
  obtain ⟨⟨tq1, tq2, tq3, tq4⟩, hlt7⟩ := hidl.out
  have hlow : w.heap.size + 2 ≤ w3.heap.size := by have := h3.size; omega
  have hl := hidP.out.2
  obtain ⟨f1, f2⟩ := hidD.out.2.1 (fun k => k = w.heap.size + 1) W11 ((hE11.mono fun k hk => hk) |> fun g => Exc.trans (Bel.exc h10) g) (fun k hk => by
    subst hk
    refine ⟨hlt7, by omega, fun x => by have := x.1; omega, by omega, by omega⟩)
  refine ⟨⟨pa, p4, .agg #[.slice pr R.length cr, .int .i64 (t : Nat), .slice (some ⟨bl, ol, none⟩) P.S cl, .slice pf P.T cf, .slice pm P.T cm, .int .i64 (P.W : Nat), .slice p P.n cap], w3.heap.size, w4.heap.size, w8.heap.size, by simp, ⟨f1, ⟨pa, rfl, f2⟩, ?_, by omega⟩⟩, ?_⟩
  · obtain ⟨v1, v2, v3⟩ := hAv _ _ _ _ _ rfl
    refine IsB.less (X := fun k => Own w3.heap.size w4.heap.size k ∨ k = w.heap.size + 1) ?_ fun k hk => Or.inl hk
    refine IsB.exc ?_ (hE11.mono fun k hk => Or.inr hk)
    exact ⟨_, _, _, _, _, _, rfl, hR10, hidD.out.2.2.bel h10, v1, v2, v3⟩
  · exact bel_exc (hid.out.2.1.trans (G8.trans h10)) hE11 fun k hk => by omega

end Go.Proofs.YthokalcibjjihaaGreatDoor
