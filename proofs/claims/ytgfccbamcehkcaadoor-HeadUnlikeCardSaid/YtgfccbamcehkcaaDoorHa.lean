/- The calls whose answers the document fixes (awake) answer true. -/
import Derived.Test.YtgfccbamcehkcaaDoorHf
namespace Go.Proofs.YtgfccbamcehkcaaDoor
open Go.ChangeShapes Go.WideShapes Go.ChangeAt Go.RowKit

section
variable {w W : World} (hT : TabW w) (g : Bel w W)
include hT g
theorem aw_p1 : Calls Tryd.prog 6 #[.agg #[.int .i64 1, .int .i64 2, .int .i64 3]] W fun e w' => e = .returned (.tuple #[.int .u64 14339742697114501120, .int .i64 0]) ∧ Bel W w' := by
  have h := put_h 1 2 3 W (hT.bel g) ⟨by decide, by decide⟩ ⟨by decide, by decide⟩ ⟨by decide, by decide⟩
  rw [show putR 1 2 3 = 14339742697114501120 by kernel_rfl, show putE 1 2 3 = 0 by kernel_rfl] at h
  exact h
theorem aw_p2 : Calls Tryd.prog 6 #[.agg #[.int .i64 0, .int .i64 40, .int .i64 24]] W fun e w' => e = .returned (.tuple #[.int .u64 0, .int .i64 2]) ∧ Bel W w' := by
  have h := put_h 0 40 24 W (hT.bel g) ⟨by decide, by decide⟩ ⟨by decide, by decide⟩ ⟨by decide, by decide⟩
  rw [show putR 0 40 24 = 0 by kernel_rfl, show putE 0 40 24 = 2 by kernel_rfl] at h
  exact h
theorem aw_g1 : Calls Tryd.prog 8 #[.int .u64 14339742697114501120] W fun e w' => e = .returned (.tuple #[.agg #[.int .i64 1, .int .i64 2, .int .i64 3], .int .i64 0]) ∧ Bel W w' := by
  have h := get_h 14339742697114501120 W (hT.bel g) (by decide)
  rw [show gC 14339742697114501120 = 1 by kernel_rfl, show gR 14339742697114501120 = 2 by kernel_rfl, show gN 14339742697114501120 = 3 by kernel_rfl, show gE 14339742697114501120 = 0 by kernel_rfl] at h
  exact h
theorem aw_g2 : Calls Tryd.prog 8 #[.int .u64 0] W fun e w' => e = .returned (.tuple #[.agg #[.int .i64 0, .int .i64 0, .int .i64 0], .int .i64 5]) ∧ Bel W w' := by
  have h := get_h 0 W (hT.bel g) (by decide)
  rw [show gC 0 = 0 by kernel_rfl, show gR 0 = 0 by kernel_rfl, show gN 0 = 0 by kernel_rfl, show gE 0 = 5 by kernel_rfl] at h
  exact h
end
section
variable {W : World}
theorem aw_n : Calls Tryd.prog 10 #[.agg #[.int .i64 1, .int .i64 2, .int .i64 3]] W fun e w' => e = .returned (.tuple #[.int .i64 6, .int .i64 0]) ∧ Bel W w' := by
  have h := need_h 1 2 3 W ⟨by decide, by decide⟩ ⟨by decide, by decide⟩ ⟨by decide, by decide⟩
  rw [show needR 1 2 3 = 6 by kernel_rfl, show putE 1 2 3 = 0 by kernel_rfl] at h
  exact h
theorem aw_f1 : Calls Tryd.prog 12 #[.agg #[.int .i64 1, .int .i64 2, .int .i64 3], .int .i64 1] W fun e w' => e = .returned (.tuple #[.bool true, .int .i64 0]) ∧ Bel W w' := by
  have h := field_h 1 2 3 1 W ⟨by decide, by decide⟩ ⟨by decide, by decide⟩ ⟨by decide, by decide⟩
  rw [show fieldR 1 2 3 1 = true by kernel_rfl, show fieldE 1 2 3 1 = 0 by kernel_rfl] at h
  exact h
theorem aw_f2 : Calls Tryd.prog 12 #[.agg #[.int .i64 1, .int .i64 2, .int .i64 3], .int .i64 2] W fun e w' => e = .returned (.tuple #[.bool false, .int .i64 0]) ∧ Bel W w' := by
  have h := field_h 1 2 3 2 W ⟨by decide, by decide⟩ ⟨by decide, by decide⟩ ⟨by decide, by decide⟩
  rw [show fieldR 1 2 3 2 = false by kernel_rfl, show fieldE 1 2 3 2 = 0 by kernel_rfl] at h
  exact h
theorem aw_f5 : Calls Tryd.prog 12 #[.agg #[.int .i64 1, .int .i64 2, .int .i64 3], .int .i64 5] W fun e w' => e = .returned (.tuple #[.bool false, .int .i64 110]) ∧ Bel W w' := by
  have h := field_h 1 2 3 5 W ⟨by decide, by decide⟩ ⟨by decide, by decide⟩ ⟨by decide, by decide⟩
  rw [show fieldR 1 2 3 5 = false by kernel_rfl, show fieldE 1 2 3 5 = 110 by kernel_rfl] at h
  exact h
end

set_option maxHeartbeats 1000000 in
set_option maxRecDepth 100000 in
theorem awake_h (w : World) (hT : TabW w) : Calls Tryd.prog 14 #[] w fun e w' => e = .returned (.bool true) ∧ Bel w w' := by
  have hb := (Bel.refl w).alloc (.cells #[.int .i64 1, .int .i64 2, .int .i64 3] 23)
  have hidT := Lib.hid hT
  clear hT
  go_enter Tryd.func14, Tryd.ntmps14
  go_wp2_with (first
    | (go_at_call 6; ((with_reducible refine (aw_p1 hidT.out hb).mono ?_); rintro e w2 ⟨rfl, h2⟩))
    | (go_at_call 8; ((with_reducible refine (aw_g1 hidT.out (hb.trans h2)).mono ?_); rintro e w3 ⟨rfl, h3⟩; have g3 := (h2.trans h3).alloc (.cells #[.int .i64 1, .int .i64 2, .int .i64 3] 23)))
    | (go_at_call 8; ((with_reducible refine (aw_g2 hidT.out (hb.trans g3)).mono ?_); rintro e w4 ⟨rfl, h4⟩; have g4 := (g3.trans h4).alloc (.cells #[.int .i64 0, .int .i64 0, .int .i64 0] 23)))
    | (go_at_call 6; ((with_reducible refine (aw_p2 hidT.out (hb.trans g4)).mono ?_); rintro e w5 ⟨rfl, h5⟩; have g5 := g4.trans h5; obtain ⟨k0, k1, k2, _, _, _⟩ := box3 (box_at g5)))
    | (go_at_call 10; ((with_reducible refine (aw_n (W := w5)).mono ?_); rintro e w6 ⟨rfl, h6⟩; have g6 := g5.trans h6; obtain ⟨l0, l1, l2, _, _, _⟩ := box3 (box_at g6)))
    | (go_at_call 12; ((with_reducible refine (aw_f1 (W := w6)).mono ?_); rintro e w7 ⟨rfl, h7⟩; have g7 := g6.trans h7; obtain ⟨m0, m1, m2, _, _, _⟩ := box3 (box_at g7)))
    | (go_at_call 12; ((with_reducible refine (aw_f2 (W := w7)).mono ?_); rintro e w8 ⟨rfl, h8⟩; have g8 := g7.trans h8; obtain ⟨n0, n1, n2, _, _, _⟩ := box3 (box_at g8)))
    | (go_at_call 12; ((with_reducible refine (aw_f5 (W := w8)).mono ?_); rintro e w9 ⟨rfl, h9⟩; have g9 := g8.trans h9; obtain ⟨o0, o1, o2, _, _, _⟩ := box3 (box_at g9); obtain ⟨p0, p1, p2, _, _, _⟩ := box3 (heap_bel (((Bel.refl _).trans (h4.alloc (.cells #[.int .i64 0, .int .i64 0, .int .i64 0] 23))).trans (h5.trans (h6.trans (h7.trans (h8.trans h9))))) (MapKept.heap_alloc w3 (.cells #[.int .i64 1, .int .i64 2, .int .i64 3] 23)).1))))
  go_ret
  exact ⟨rfl, hb.trans g9⟩

end Go.Proofs.YtgfccbamcehkcaaDoor
