/- Get of Put is the head, Put of Get the word; a head's word with one of the lowest sixteen, or the highest eight, bits turned is none's; fields, references ahead; for every input; the table of widths holds what the program lays in it (the card ties that), no other condition. -/
import Derived.Test.YtgfccbamcehkcaaDoorOpn
namespace Go.Proofs.YtgfccbamcehkcaaDoor.headBack
open Go.ChangeShapes Go.WideShapes Go.ChangeAt Go.RowKit Go.Joins
set_option linter.unusedVariables false

/-! The walk. -/
/-- how the first word may stand: none's, or a head's that is put again -/
def First (w : World) (u : Nat) (c r n : Nat) (E : Int) : Prop :=
  (∀ W, Bel w W → Calls Tryd.prog 8 #[.int .u64 (u : Nat)] W fun e w' => e = .returned (.tuple #[.agg #[.int .i64 (c : Nat), .int .i64 (r : Nat), .int .i64 (n : Nat)], .int .i64 E]) ∧ Bel W w') ∧
  (E = 5 ∨ (E = 0 ∧ ∀ W, Bel w W → Calls Tryd.prog 6 #[.agg #[.int .i64 (c : Nat), .int .i64 (r : Nat), .int .i64 (n : Nat)]] W fun e w' => e = .returned (.tuple #[.int .u64 (u : Nat), .int .i64 0]) ∧ Bel W w'))
theorem first (w : World) (u : Nat) (hT : TabW w) (hu : u < 18446744073709551616) : First w u (gC u) (gR u) (gN u) (gE u) := by
  refine ⟨fun W g => get_h u W (hT.bel g) hu, ?_⟩
  cases h : isW u
  · exact Or.inl (g_no h).2.2.2
  · obtain ⟨e1, e2, e3, e4⟩ := g_yes h
    rw [e1, e2, e3, e4]
    obtain ⟨h1, h2, h3⟩ := isW_true h
    refine Or.inr ⟨rfl, fun W g => ?_⟩
    have k := put_h (cOf u) (rOf u) (nOf u) W (hT.bel g) ⟨by omega, by omega⟩ ⟨by omega, by omega⟩ ⟨by omega, by omega⟩
    rw [putR_ok h1 h2, h3, putE_ok (okH_nat h1 h2)] at k
    exact k

set_option maxRecDepth 100000 in
set_option maxHeartbeats 4000000 in
theorem no (x y z : Int) (u c r n : Nat) (E : Int) (b : Nat) (w : World) (hT : TabW w) (hF : First w u c r n E)
    (p1 : ∀ W, Bel w W → Calls Tryd.prog 6 #[.agg #[.int .i64 x, .int .i64 y, .int .i64 z]] W fun e w' => e = .returned (.tuple #[.int .u64 0, .int .i64 2]) ∧ Bel W w') :
    Calls Tryd.prog 4 #[.agg #[.int .i64 x, .int .i64 y, .int .i64 z], .int .u64 (u : Nat), .int .u8 (b : Nat)] w fun e w' => e = .returned (.bool true) ∧ Below w.heap.size w w' := by
  have hb0 : ∀ o, Bel w (w.alloc o) := fun o => (Bel.refl w).alloc o
  have hb := hb0 (.cells #[.int .i64 x, .int .i64 y, .int .i64 z] 23)
  clear hb0
  have aw := fun W (g : Bel w W) => awake_h W (hT.bel g)
  obtain ⟨q0, hE⟩ := hF
  have q1 := q0 _ hb
  clear hT q0
  rcases hE with rfl | ⟨rfl, p0⟩
  · go_enter Tryd.func4, Tryd.ntmps4
    go_wp2_with (first
      | (go_at_call 8; ((with_reducible refine q1.mono ?_); rintro e w2 ⟨rfl, h2⟩; have g2 := h2.alloc (.cells #[.int .i64 (c : Nat), .int .i64 (r : Nat), .int .i64 (n : Nat)] 23); obtain ⟨a0, a1, a2, _, _, _⟩ := box3 (box_at g2)))
      | (go_at_call 6; ((with_reducible refine (p1 _ (hb.trans g2)).mono ?_); rintro e w3 ⟨rfl, h3⟩))
      | (go_at_call 14; refine (aw _ (hb.trans (g2.trans h3))).mono ?_; rintro e w4 ⟨rfl, h4⟩))
    go_ret
    exact ⟨rfl, hb.trans (g2.trans (h3.trans h4))⟩
  · go_enter Tryd.func4, Tryd.ntmps4
    go_wp2_with (first
      | (go_at_call 8; ((with_reducible refine q1.mono ?_); rintro e w2 ⟨rfl, h2⟩; have g2 := h2.alloc (.cells #[.int .i64 (c : Nat), .int .i64 (r : Nat), .int .i64 (n : Nat)] 23)))
      | (go_at_call 6; ((with_reducible refine (p0 _ (hb.trans g2)).mono ?_); rintro e w3 ⟨rfl, h3⟩; have g3 := g2.trans h3; obtain ⟨a0, a1, a2, _, _, _⟩ := box3 (box_at g3)))
      | (go_at_call 6; ((with_reducible refine (p1 _ (hb.trans g3)).mono ?_); rintro e w4 ⟨rfl, h4⟩))
      | (go_at_call 14; refine (aw _ (hb.trans (g3.trans h4))).mono ?_; rintro e w5 ⟨rfl, h5⟩))
    go_ret
    exact ⟨rfl, hb.trans (g3.trans (h4.trans h5))⟩

set_option maxRecDepth 100000 in
set_option maxHeartbeats 4000000 in
theorem yes (C R N A X T K k b u c r n : Nat) (E : Int) (w : World) (hT : TabW w) (hF : First w u c r n E) (h7 : C ≤ 7) (hRN : R + N = T) (h63 : T ≤ 63) (r63 : R ≤ 63)
    (hk : (b : Int) % 24 = (k : Int)) (hK : (k < 16 ∧ K = k) ∨ (16 ≤ k ∧ k < 24 ∧ K = k + 40)) (hx : bits .xor .u64 (A : Int) (IntKind.u64.wrap (2 ^ K)) = (X : Int))
    (p1 : ∀ W, Bel w W → Calls Tryd.prog 6 #[.agg #[.int .i64 (C : Nat), .int .i64 (R : Nat), .int .i64 (N : Nat)]] W fun e w' => e = .returned (.tuple #[.int .u64 (A : Nat), .int .i64 0]) ∧ Bel W w')
    (q1 : ∀ W, Bel w W → Calls Tryd.prog 8 #[.int .u64 (A : Nat)] W fun e w' => e = .returned (.tuple #[.agg #[.int .i64 (C : Nat), .int .i64 (R : Nat), .int .i64 (N : Nat)], .int .i64 0]) ∧ Bel W w')
    (q2 : ∀ W, Bel w W → Calls Tryd.prog 8 #[.int .u64 (X : Nat)] W fun e w' => e = .returned (.tuple #[.agg #[.int .i64 0, .int .i64 0, .int .i64 0], .int .i64 5]) ∧ Bel W w')
    (n1 : ∀ W, Bel w W → Calls Tryd.prog 10 #[.agg #[.int .i64 (C : Nat), .int .i64 (R : Nat), .int .i64 (N : Nat)]] W fun e w' => e = .returned (.tuple #[.int .i64 ((T : Int) + 1), .int .i64 0]) ∧ Bel W w')
    (f1 : ∀ (i : Nat) (W : World), Bel w W → Calls Tryd.prog 12 #[.agg #[.int .i64 (C : Nat), .int .i64 (R : Nat), .int .i64 (N : Nat)], .int .i64 (i : Nat)] W fun e w' => e = .returned (.tuple #[.bool (decide (i < R)), .int .i64 (if i < T then 0 else 110)]) ∧ Bel W w') :
    Calls Tryd.prog 4 #[.agg #[.int .i64 (C : Nat), .int .i64 (R : Nat), .int .i64 (N : Nat)], .int .u64 (u : Nat), .int .u8 (b : Nat)] w fun e w' => e = .returned (.bool true) ∧ Below w.heap.size w w' := by
  have hb0 : ∀ o, Bel w (w.alloc o) := fun o => (Bel.refl w).alloc o
  have hb := hb0 (.cells #[.int .i64 (C : Nat), .int .i64 (R : Nat), .int .i64 (N : Nat)] 23)
  clear hb0
  have aw := fun W (g : Bel w W) => awake_h W (hT.bel g)
  obtain ⟨q0', hE⟩ := hF
  have q0 := q0' _ hb
  have hidf := Lib.hid f1
  have hids := Lib.hid hRN
  clear hT q0' f1 hRN
  rcases hK with ⟨k1, rfl⟩ | ⟨k1, k2, rfl⟩
  · rcases hE with rfl | ⟨rfl, p0⟩
    · go_enter Tryd.func4, Tryd.ntmps4
      go_wp2_with (first
        | (go_at_call 8; ((with_reducible refine q0.mono ?_); rintro e w2 ⟨rfl, h2⟩; have g3 := h2.alloc (.cells #[.int .i64 (c : Nat), .int .i64 (r : Nat), .int .i64 (n : Nat)] 23); obtain ⟨a0, a1, a2, _, _, _⟩ := box3 (box_at g3)))
        | (go_at_call 6; ((with_reducible refine (p1 _ (hb.trans g3)).mono ?_); rintro e w4 ⟨rfl, h4⟩; have g4 := g3.trans h4))
        | (go_at_call 8; ((with_reducible refine (q1 _ (hb.trans g4)).mono ?_); rintro e w5 ⟨rfl, h5⟩; have m5 := (Bel.refl w5).alloc (.cells #[.int .i64 (C : Nat), .int .i64 (R : Nat), .int .i64 (N : Nat)] 23); have g5 := (g4.trans h5).trans m5))
        | (go_at_call 8; ((with_reducible refine (q2 _ (hb.trans g5)).mono ?_); rintro e w6 ⟨rfl, h6⟩; have m6 := (m5.trans h6).alloc (.cells #[.int .i64 0, .int .i64 0, .int .i64 0] 23); have g6 := (g5.trans h6).alloc (.cells #[.int .i64 0, .int .i64 0, .int .i64 0] 23); obtain ⟨b0, b1, b2, _, _, _⟩ := box3 (box_at g6); obtain ⟨c0, c1, c2, _, _, _⟩ := box3 (heap_bel (h6.alloc (.cells #[.int .i64 0, .int .i64 0, .int .i64 0] 23)) (MapKept.heap_alloc w5 (.cells #[.int .i64 (C : Nat), .int .i64 (R : Nat), .int .i64 (N : Nat)] 23)).1)))
        | (go_at_call 10; ((with_reducible refine (n1 _ (hb.trans g6)).mono ?_); rintro e w7 ⟨rfl, h7'⟩; have g7 := g6.trans h7')))
      clear q0 q2 n1 p1 q1 hx 
      clear a0 a1 a2 b0 b1 b2 c0 c1 c2
      go_loopw [20, 21] (fun a i wr => ∃ l m : Nat, l ≤ 64 ∧ (l ≤ R → m = l) ∧ (R ≤ l → m = R) ∧ a = .int .i64 (m : Nat) ∧ i = .int .i64 (l : Nat) ∧ Bel (w.alloc (.cells #[.int .i64 (C : Nat), .int .i64 (R : Nat), .int .i64 (N : Nat)] 23)) wr) (fun _ i _ => 64 - (intOf i).toNat)
      case atStart => exact ⟨0, 0, by omega, fun _ => rfl, fun h => by omega, rfl, rfl, g7⟩
      case round =>
        obtain ⟨l, m, hl, hm1, hm2, rfl, rfl, hbr⟩ := hrel
        obtain ⟨x0, x1, x2, _, _, _⟩ := box3 (box_at hbr)
        have hRT := hids.out
        by_cases c64 : l < 64
        · have ff := hidf.out l wr (hb.trans hbr)
          by_cases cT : l < T
          · rw [if_pos cT] at ff
            have d3 : decide ((l : Int) < (T : Int)) = true := decide_eq_true (by omega)
            have d4 : decide (l < T) = true := decide_eq_true cT
            by_cases cR : l < R
            · obtain rfl := hm1 (by omega)
              have hid := Lib.hid (And.intro hbr (And.intro cR hRT))
              rw [decide_eq_true cR] at ff
              have d1 : decide ((m : Int) < (R : Int)) = true := decide_eq_true (by omega)
              have d2 : decide (m < R) = true := decide_eq_true cR
              clear hm1 hm2 hRT
              go_wp2_with (go_at_call 12; refine ff.mono ?_; rintro e w' ⟨rfl, h⟩; obtain ⟨y0, y1, y2, _, _, _⟩ := box3 (box_at (hbr.trans h)))
              go_roundw
              case rel => exact ⟨m + 1, m + 1, by omega, fun _ => rfl, fun h => by omega, by go_num, by go_num, hbr.trans h⟩
              case measure => simp only [intOf]; omega
            · obtain rfl := hm2 (by omega)
              rw [decide_eq_false cR] at ff
              have d1 : decide ((l : Int) < (m : Int)) = false := decide_eq_false (by omega)
              have d2 : decide (l < m) = false := decide_eq_false cR
              clear hm1 hm2 hRT
              go_wp2_with (go_at_call 12; refine ff.mono ?_; rintro e w' ⟨rfl, h⟩; obtain ⟨y0, y1, y2, _, _, _⟩ := box3 (box_at (hbr.trans h)))
              go_roundw
              case rel => exact ⟨l + 1, m, by omega, fun h => by omega, fun _ => rfl, rfl, by go_num, hbr.trans h⟩
              case measure => simp only [intOf]; omega
          · have cR : ¬ l < R := by omega
            obtain rfl := hm2 (by omega)
            rw [if_neg cT, decide_eq_false cR] at ff
            have d1 : decide ((l : Int) < (m : Int)) = false := decide_eq_false (by omega)
            have d2 : decide (l < m) = false := decide_eq_false cR
            have d3 : decide ((l : Int) < (T : Int)) = false := decide_eq_false (by omega)
            have d4 : decide (l < T) = false := decide_eq_false cT
            clear hm1 hm2 hRT
            go_wp2_with (go_at_call 12; refine ff.mono ?_; rintro e w' ⟨rfl, h⟩; obtain ⟨y0, y1, y2, _, _, _⟩ := box3 (box_at (hbr.trans h)))
            go_roundw
            case rel => exact ⟨l + 1, m, by omega, fun h => by omega, fun _ => rfl, rfl, by go_num, hbr.trans h⟩
            case measure => simp only [intOf]; omega
        · obtain rfl : l = 64 := by omega
          obtain rfl := hm2 (by omega)
          clear hm1 hm2 hRT
          go_wp2_with (go_at_call 14; refine (aw _ (hb.trans hbr)).mono ?_; rintro e w' ⟨rfl, h⟩)
          go_ret
          exact ⟨rfl, hb.trans (hbr.trans h)⟩
    · go_enter Tryd.func4, Tryd.ntmps4
      go_wp2_with (first
        | (go_at_call 8; ((with_reducible refine q0.mono ?_); rintro e w2 ⟨rfl, h2⟩; have g2 := h2.alloc (.cells #[.int .i64 (c : Nat), .int .i64 (r : Nat), .int .i64 (n : Nat)] 23)))
        | (go_at_call 6; ((with_reducible refine (p0 _ (hb.trans g2)).mono ?_); rintro e w3 ⟨rfl, h3⟩; have g3 := g2.trans h3; obtain ⟨a0, a1, a2, _, _, _⟩ := box3 (box_at g3)))
        | (go_at_call 6; ((with_reducible refine (p1 _ (hb.trans g3)).mono ?_); rintro e w4 ⟨rfl, h4⟩; have g4 := g3.trans h4))
        | (go_at_call 8; ((with_reducible refine (q1 _ (hb.trans g4)).mono ?_); rintro e w5 ⟨rfl, h5⟩; have m5 := (Bel.refl w5).alloc (.cells #[.int .i64 (C : Nat), .int .i64 (R : Nat), .int .i64 (N : Nat)] 23); have g5 := (g4.trans h5).trans m5))
        | (go_at_call 8; ((with_reducible refine (q2 _ (hb.trans g5)).mono ?_); rintro e w6 ⟨rfl, h6⟩; have m6 := (m5.trans h6).alloc (.cells #[.int .i64 0, .int .i64 0, .int .i64 0] 23); have g6 := (g5.trans h6).alloc (.cells #[.int .i64 0, .int .i64 0, .int .i64 0] 23); obtain ⟨b0, b1, b2, _, _, _⟩ := box3 (box_at g6); obtain ⟨c0, c1, c2, _, _, _⟩ := box3 (heap_bel (h6.alloc (.cells #[.int .i64 0, .int .i64 0, .int .i64 0] 23)) (MapKept.heap_alloc w5 (.cells #[.int .i64 (C : Nat), .int .i64 (R : Nat), .int .i64 (N : Nat)] 23)).1)))
        | (go_at_call 10; ((with_reducible refine (n1 _ (hb.trans g6)).mono ?_); rintro e w7 ⟨rfl, h7'⟩; have g7 := g6.trans h7')))
      clear q0 q2 n1 p1 q1 hx p0
      clear a0 a1 a2 b0 b1 b2 c0 c1 c2
      go_loopw [20, 21] (fun a i wr => ∃ l m : Nat, l ≤ 64 ∧ (l ≤ R → m = l) ∧ (R ≤ l → m = R) ∧ a = .int .i64 (m : Nat) ∧ i = .int .i64 (l : Nat) ∧ Bel (w.alloc (.cells #[.int .i64 (C : Nat), .int .i64 (R : Nat), .int .i64 (N : Nat)] 23)) wr) (fun _ i _ => 64 - (intOf i).toNat)
      case atStart => exact ⟨0, 0, by omega, fun _ => rfl, fun h => by omega, rfl, rfl, g7⟩
      case round =>
        obtain ⟨l, m, hl, hm1, hm2, rfl, rfl, hbr⟩ := hrel
        obtain ⟨x0, x1, x2, _, _, _⟩ := box3 (box_at hbr)
        have hRT := hids.out
        by_cases c64 : l < 64
        · have ff := hidf.out l wr (hb.trans hbr)
          by_cases cT : l < T
          · rw [if_pos cT] at ff
            have d3 : decide ((l : Int) < (T : Int)) = true := decide_eq_true (by omega)
            have d4 : decide (l < T) = true := decide_eq_true cT
            by_cases cR : l < R
            · obtain rfl := hm1 (by omega)
              have hid := Lib.hid (And.intro hbr (And.intro cR hRT))
              rw [decide_eq_true cR] at ff
              have d1 : decide ((m : Int) < (R : Int)) = true := decide_eq_true (by omega)
              have d2 : decide (m < R) = true := decide_eq_true cR
              clear hm1 hm2 hRT
              go_wp2_with (go_at_call 12; refine ff.mono ?_; rintro e w' ⟨rfl, h⟩; obtain ⟨y0, y1, y2, _, _, _⟩ := box3 (box_at (hbr.trans h)))
              go_roundw
              case rel => exact ⟨m + 1, m + 1, by omega, fun _ => rfl, fun h => by omega, by go_num, by go_num, hbr.trans h⟩
              case measure => simp only [intOf]; omega
            · obtain rfl := hm2 (by omega)
              rw [decide_eq_false cR] at ff
              have d1 : decide ((l : Int) < (m : Int)) = false := decide_eq_false (by omega)
              have d2 : decide (l < m) = false := decide_eq_false cR
              clear hm1 hm2 hRT
              go_wp2_with (go_at_call 12; refine ff.mono ?_; rintro e w' ⟨rfl, h⟩; obtain ⟨y0, y1, y2, _, _, _⟩ := box3 (box_at (hbr.trans h)))
              go_roundw
              case rel => exact ⟨l + 1, m, by omega, fun h => by omega, fun _ => rfl, rfl, by go_num, hbr.trans h⟩
              case measure => simp only [intOf]; omega
          · have cR : ¬ l < R := by omega
            obtain rfl := hm2 (by omega)
            rw [if_neg cT, decide_eq_false cR] at ff
            have d1 : decide ((l : Int) < (m : Int)) = false := decide_eq_false (by omega)
            have d2 : decide (l < m) = false := decide_eq_false cR
            have d3 : decide ((l : Int) < (T : Int)) = false := decide_eq_false (by omega)
            have d4 : decide (l < T) = false := decide_eq_false cT
            clear hm1 hm2 hRT
            go_wp2_with (go_at_call 12; refine ff.mono ?_; rintro e w' ⟨rfl, h⟩; obtain ⟨y0, y1, y2, _, _, _⟩ := box3 (box_at (hbr.trans h)))
            go_roundw
            case rel => exact ⟨l + 1, m, by omega, fun h => by omega, fun _ => rfl, rfl, by go_num, hbr.trans h⟩
            case measure => simp only [intOf]; omega
        · obtain rfl : l = 64 := by omega
          obtain rfl := hm2 (by omega)
          clear hm1 hm2 hRT
          go_wp2_with (go_at_call 14; refine (aw _ (hb.trans hbr)).mono ?_; rintro e w' ⟨rfl, h⟩)
          go_ret
          exact ⟨rfl, hb.trans (hbr.trans h)⟩
  · rcases hE with rfl | ⟨rfl, p0⟩
    · go_enter Tryd.func4, Tryd.ntmps4
      go_wp2_with (first
        | (go_at_call 8; ((with_reducible refine q0.mono ?_); rintro e w2 ⟨rfl, h2⟩; have g3 := h2.alloc (.cells #[.int .i64 (c : Nat), .int .i64 (r : Nat), .int .i64 (n : Nat)] 23); obtain ⟨a0, a1, a2, _, _, _⟩ := box3 (box_at g3)))
        | (go_at_call 6; ((with_reducible refine (p1 _ (hb.trans g3)).mono ?_); rintro e w4 ⟨rfl, h4⟩; have g4 := g3.trans h4))
        | (go_at_call 8; ((with_reducible refine (q1 _ (hb.trans g4)).mono ?_); rintro e w5 ⟨rfl, h5⟩; have m5 := (Bel.refl w5).alloc (.cells #[.int .i64 (C : Nat), .int .i64 (R : Nat), .int .i64 (N : Nat)] 23); have g5 := (g4.trans h5).trans m5))
        | (go_at_call 8; ((with_reducible refine (q2 _ (hb.trans g5)).mono ?_); rintro e w6 ⟨rfl, h6⟩; have m6 := (m5.trans h6).alloc (.cells #[.int .i64 0, .int .i64 0, .int .i64 0] 23); have g6 := (g5.trans h6).alloc (.cells #[.int .i64 0, .int .i64 0, .int .i64 0] 23); obtain ⟨b0, b1, b2, _, _, _⟩ := box3 (box_at g6); obtain ⟨c0, c1, c2, _, _, _⟩ := box3 (heap_bel (h6.alloc (.cells #[.int .i64 0, .int .i64 0, .int .i64 0] 23)) (MapKept.heap_alloc w5 (.cells #[.int .i64 (C : Nat), .int .i64 (R : Nat), .int .i64 (N : Nat)] 23)).1)))
        | (go_at_call 10; ((with_reducible refine (n1 _ (hb.trans g6)).mono ?_); rintro e w7 ⟨rfl, h7'⟩; have g7 := g6.trans h7')))
      clear q0 q2 n1 p1 q1 hx 
      clear a0 a1 a2 b0 b1 b2 c0 c1 c2
      go_loopw [20, 21] (fun a i wr => ∃ l m : Nat, l ≤ 64 ∧ (l ≤ R → m = l) ∧ (R ≤ l → m = R) ∧ a = .int .i64 (m : Nat) ∧ i = .int .i64 (l : Nat) ∧ Bel (w.alloc (.cells #[.int .i64 (C : Nat), .int .i64 (R : Nat), .int .i64 (N : Nat)] 23)) wr) (fun _ i _ => 64 - (intOf i).toNat)
      case atStart => exact ⟨0, 0, by omega, fun _ => rfl, fun h => by omega, rfl, rfl, g7⟩
      case round =>
        obtain ⟨l, m, hl, hm1, hm2, rfl, rfl, hbr⟩ := hrel
        obtain ⟨x0, x1, x2, _, _, _⟩ := box3 (box_at hbr)
        have hRT := hids.out
        by_cases c64 : l < 64
        · have ff := hidf.out l wr (hb.trans hbr)
          by_cases cT : l < T
          · rw [if_pos cT] at ff
            have d3 : decide ((l : Int) < (T : Int)) = true := decide_eq_true (by omega)
            have d4 : decide (l < T) = true := decide_eq_true cT
            by_cases cR : l < R
            · obtain rfl := hm1 (by omega)
              have hid := Lib.hid (And.intro hbr (And.intro cR hRT))
              rw [decide_eq_true cR] at ff
              have d1 : decide ((m : Int) < (R : Int)) = true := decide_eq_true (by omega)
              have d2 : decide (m < R) = true := decide_eq_true cR
              clear hm1 hm2 hRT
              go_wp2_with (go_at_call 12; refine ff.mono ?_; rintro e w' ⟨rfl, h⟩; obtain ⟨y0, y1, y2, _, _, _⟩ := box3 (box_at (hbr.trans h)))
              go_roundw
              case rel => exact ⟨m + 1, m + 1, by omega, fun _ => rfl, fun h => by omega, by go_num, by go_num, hbr.trans h⟩
              case measure => simp only [intOf]; omega
            · obtain rfl := hm2 (by omega)
              rw [decide_eq_false cR] at ff
              have d1 : decide ((l : Int) < (m : Int)) = false := decide_eq_false (by omega)
              have d2 : decide (l < m) = false := decide_eq_false cR
              clear hm1 hm2 hRT
              go_wp2_with (go_at_call 12; refine ff.mono ?_; rintro e w' ⟨rfl, h⟩; obtain ⟨y0, y1, y2, _, _, _⟩ := box3 (box_at (hbr.trans h)))
              go_roundw
              case rel => exact ⟨l + 1, m, by omega, fun h => by omega, fun _ => rfl, rfl, by go_num, hbr.trans h⟩
              case measure => simp only [intOf]; omega
          · have cR : ¬ l < R := by omega
            obtain rfl := hm2 (by omega)
            rw [if_neg cT, decide_eq_false cR] at ff
            have d1 : decide ((l : Int) < (m : Int)) = false := decide_eq_false (by omega)
            have d2 : decide (l < m) = false := decide_eq_false cR
            have d3 : decide ((l : Int) < (T : Int)) = false := decide_eq_false (by omega)
            have d4 : decide (l < T) = false := decide_eq_false cT
            clear hm1 hm2 hRT
            go_wp2_with (go_at_call 12; refine ff.mono ?_; rintro e w' ⟨rfl, h⟩; obtain ⟨y0, y1, y2, _, _, _⟩ := box3 (box_at (hbr.trans h)))
            go_roundw
            case rel => exact ⟨l + 1, m, by omega, fun h => by omega, fun _ => rfl, rfl, by go_num, hbr.trans h⟩
            case measure => simp only [intOf]; omega
        · obtain rfl : l = 64 := by omega
          obtain rfl := hm2 (by omega)
          clear hm1 hm2 hRT
          go_wp2_with (go_at_call 14; refine (aw _ (hb.trans hbr)).mono ?_; rintro e w' ⟨rfl, h⟩)
          go_ret
          exact ⟨rfl, hb.trans (hbr.trans h)⟩
    · go_enter Tryd.func4, Tryd.ntmps4
      go_wp2_with (first
        | (go_at_call 8; ((with_reducible refine q0.mono ?_); rintro e w2 ⟨rfl, h2⟩; have g2 := h2.alloc (.cells #[.int .i64 (c : Nat), .int .i64 (r : Nat), .int .i64 (n : Nat)] 23)))
        | (go_at_call 6; ((with_reducible refine (p0 _ (hb.trans g2)).mono ?_); rintro e w3 ⟨rfl, h3⟩; have g3 := g2.trans h3; obtain ⟨a0, a1, a2, _, _, _⟩ := box3 (box_at g3)))
        | (go_at_call 6; ((with_reducible refine (p1 _ (hb.trans g3)).mono ?_); rintro e w4 ⟨rfl, h4⟩; have g4 := g3.trans h4))
        | (go_at_call 8; ((with_reducible refine (q1 _ (hb.trans g4)).mono ?_); rintro e w5 ⟨rfl, h5⟩; have m5 := (Bel.refl w5).alloc (.cells #[.int .i64 (C : Nat), .int .i64 (R : Nat), .int .i64 (N : Nat)] 23); have g5 := (g4.trans h5).trans m5))
        | (go_at_call 8; ((with_reducible refine (q2 _ (hb.trans g5)).mono ?_); rintro e w6 ⟨rfl, h6⟩; have m6 := (m5.trans h6).alloc (.cells #[.int .i64 0, .int .i64 0, .int .i64 0] 23); have g6 := (g5.trans h6).alloc (.cells #[.int .i64 0, .int .i64 0, .int .i64 0] 23); obtain ⟨b0, b1, b2, _, _, _⟩ := box3 (box_at g6); obtain ⟨c0, c1, c2, _, _, _⟩ := box3 (heap_bel (h6.alloc (.cells #[.int .i64 0, .int .i64 0, .int .i64 0] 23)) (MapKept.heap_alloc w5 (.cells #[.int .i64 (C : Nat), .int .i64 (R : Nat), .int .i64 (N : Nat)] 23)).1)))
        | (go_at_call 10; ((with_reducible refine (n1 _ (hb.trans g6)).mono ?_); rintro e w7 ⟨rfl, h7'⟩; have g7 := g6.trans h7')))
      clear q0 q2 n1 p1 q1 hx p0
      clear a0 a1 a2 b0 b1 b2 c0 c1 c2
      go_loopw [20, 21] (fun a i wr => ∃ l m : Nat, l ≤ 64 ∧ (l ≤ R → m = l) ∧ (R ≤ l → m = R) ∧ a = .int .i64 (m : Nat) ∧ i = .int .i64 (l : Nat) ∧ Bel (w.alloc (.cells #[.int .i64 (C : Nat), .int .i64 (R : Nat), .int .i64 (N : Nat)] 23)) wr) (fun _ i _ => 64 - (intOf i).toNat)
      case atStart => exact ⟨0, 0, by omega, fun _ => rfl, fun h => by omega, rfl, rfl, g7⟩
      case round =>
        obtain ⟨l, m, hl, hm1, hm2, rfl, rfl, hbr⟩ := hrel
        obtain ⟨x0, x1, x2, _, _, _⟩ := box3 (box_at hbr)
        have hRT := hids.out
        by_cases c64 : l < 64
        · have ff := hidf.out l wr (hb.trans hbr)
          by_cases cT : l < T
          · rw [if_pos cT] at ff
            have d3 : decide ((l : Int) < (T : Int)) = true := decide_eq_true (by omega)
            have d4 : decide (l < T) = true := decide_eq_true cT
            by_cases cR : l < R
            · obtain rfl := hm1 (by omega)
              have hid := Lib.hid (And.intro hbr (And.intro cR hRT))
              rw [decide_eq_true cR] at ff
              have d1 : decide ((m : Int) < (R : Int)) = true := decide_eq_true (by omega)
              have d2 : decide (m < R) = true := decide_eq_true cR
              clear hm1 hm2 hRT
              go_wp2_with (go_at_call 12; refine ff.mono ?_; rintro e w' ⟨rfl, h⟩; obtain ⟨y0, y1, y2, _, _, _⟩ := box3 (box_at (hbr.trans h)))
              go_roundw
              case rel => exact ⟨m + 1, m + 1, by omega, fun _ => rfl, fun h => by omega, by go_num, by go_num, hbr.trans h⟩
              case measure => simp only [intOf]; omega
            · obtain rfl := hm2 (by omega)
              rw [decide_eq_false cR] at ff
              have d1 : decide ((l : Int) < (m : Int)) = false := decide_eq_false (by omega)
              have d2 : decide (l < m) = false := decide_eq_false cR
              clear hm1 hm2 hRT
              go_wp2_with (go_at_call 12; refine ff.mono ?_; rintro e w' ⟨rfl, h⟩; obtain ⟨y0, y1, y2, _, _, _⟩ := box3 (box_at (hbr.trans h)))
              go_roundw
              case rel => exact ⟨l + 1, m, by omega, fun h => by omega, fun _ => rfl, rfl, by go_num, hbr.trans h⟩
              case measure => simp only [intOf]; omega
          · have cR : ¬ l < R := by omega
            obtain rfl := hm2 (by omega)
            rw [if_neg cT, decide_eq_false cR] at ff
            have d1 : decide ((l : Int) < (m : Int)) = false := decide_eq_false (by omega)
            have d2 : decide (l < m) = false := decide_eq_false cR
            have d3 : decide ((l : Int) < (T : Int)) = false := decide_eq_false (by omega)
            have d4 : decide (l < T) = false := decide_eq_false cT
            clear hm1 hm2 hRT
            go_wp2_with (go_at_call 12; refine ff.mono ?_; rintro e w' ⟨rfl, h⟩; obtain ⟨y0, y1, y2, _, _, _⟩ := box3 (box_at (hbr.trans h)))
            go_roundw
            case rel => exact ⟨l + 1, m, by omega, fun h => by omega, fun _ => rfl, rfl, by go_num, hbr.trans h⟩
            case measure => simp only [intOf]; omega
        · obtain rfl : l = 64 := by omega
          obtain rfl := hm2 (by omega)
          clear hm1 hm2 hRT
          go_wp2_with (go_at_call 14; refine (aw _ (hb.trans hbr)).mono ?_; rintro e w' ⟨rfl, h⟩)
          go_ret
          exact ⟨rfl, hb.trans (hbr.trans h)⟩

theorem walk (c r n : Int) (u b : Nat) (w : World) (hT : TabW w) (hc : i64b c) (hr : i64b r) (hn : i64b n) (hu : u < 18446744073709551616) :
    Calls Tryd.prog 4 #[.agg #[.int .i64 c, .int .i64 r, .int .i64 n], .int .u64 (u : Nat), .int .u8 (b : Nat)] w fun e w' => e = .returned (.bool true) ∧ Below w.heap.size w w' := by
  have p1 := fun W (g : Bel w W) => put_h c r n W (hT.bel g) hc hr hn
  have hF := first w u hT hu
  cases a : okH c r n
  · rw [putR_no a, putE_no a] at p1
    exact no c r n u _ _ _ _ b w hT hF p1
  · have n1 := fun W (g : Bel w W) => need_h c r n W hc hr hn
    have f1 := fun (i : Nat) W (g : Bel w W) => field_h c r n i W hc hr hn
    have e1 : needR c r n = r + n + 1 := by unfold needR; rw [a]; rfl
    have e2 : ∀ i : Nat, fieldR c r n i = decide ((i : Int) < r) ∧ fieldE c r n i = if (i : Int) < r + n then 0 else 110 := fun i => by
      by_cases k : (i : Int) < r + n
      · obtain ⟨x1, x2⟩ := field_in a (by omega) k
        rw [x1, x2, if_pos k]; exact ⟨rfl, rfl⟩
      · obtain ⟨x1, x2⟩ := field_out (i := (i : Int)) a (Or.inr (by omega))
        have := of_decide_eq_true a
        rw [x1, x2, if_neg k, decide_eq_false (by omega : ¬ (i : Int) < r)]; exact ⟨rfl, rfl⟩
    rw [e1, putE_ok a] at n1
    obtain ⟨C, R, N, rfl, rfl, rfl, h1, h2⟩ := okH_true a
    rw [putR_ok h1 h2, putE_ok a] at p1
    have hA := word_lt h1 h2
    have hW := isW_word h1 h2
    have q1 := fun W (g : Bel w W) => get_h (wordN C R N) W (hT.bel g) hA
    obtain ⟨y1, y2, y3, y4⟩ := g_yes hW
    rw [y1, y2, y3, y4, cOf_word h1 h2, rOf_word h1 h2, nOf_word h1 h2] at q1
    obtain ⟨K, hK⟩ : ∃ K, (b % 24 < 16 ∧ K = b % 24) ∨ (16 ≤ b % 24 ∧ b % 24 < 24 ∧ K = b % 24 + 40) := by
      by_cases k : b % 24 < 16
      · exact ⟨_, Or.inl ⟨k, rfl⟩⟩
      · exact ⟨_, Or.inr ⟨by omega, by omega, rfl⟩⟩
    have K64 : K < 64 := by omega
    have hX := flip_no (k := K) hW (by omega)
    obtain ⟨z1, z2, z3, z4⟩ := g_no hX
    have lX : wordN C R N ^^^ 2 ^ K < 18446744073709551616 := Nat.xor_lt_two_pow (n := 64) hA (pow_lt64 K64)
    have q2 := fun W (g : Bel w W) => get_h (wordN C R N ^^^ 2 ^ K) W (hT.bel g) lX
    rw [z1, z2, z3, z4] at q2
    have hx : bits .xor .u64 ((wordN C R N : Nat) : Int) (IntKind.u64.wrap (2 ^ K)) = ((wordN C R N ^^^ 2 ^ K : Nat) : Int) := by rw [wrap_pow K64, u64_xor_nat _ _ hA (pow_lt64 K64)]
    refine yes C R N _ _ (R + N) K (b % 24) b u _ _ _ _ w hT hF h1 rfl h2 (by omega) (by omega) hK hx p1 q1 q2 (fun W g => ?_) (fun i W g => ?_)
    · have := n1 W g
      rw [← Int.natCast_add] at this
      exact this
    · have := f1 i W g
      rw [(e2 i).1, (e2 i).2, show decide ((i : Int) < (R : Int)) = decide (i < R) from decide_eq_decide.2 (by omega), show (if (i : Int) < (R : Int) + (N : Int) then (0 : Int) else 110) = if i < R + N then 0 else 110 by
        by_cases k : i < R + N
        · rw [if_pos k, if_pos (by omega)]
        · rw [if_neg k, if_neg (by omega)]] at this
      exact this

/-! The row. -/
set_option maxRecDepth 100000 in
theorem lifted (os : Os) (started : os.Started) (H : Type) (enc : TypeId × Value → H) :
    ReturnsInHanded {} Tryd.checked os 4 .any (fun w args => (Rows.headBackSpec.pre enc Tryd.prog Tryd.f4 [] false w args ∧ laidMetH Tryd.prog theLaid w) ∧ sizedMet enc Tryd.prog Tryd.f4 (OpenSpec.ofChange Rows.headBackSpec) false w args)
      (Rows.headBackSpec.post enc Tryd.prog Tryd.f4 false true false false) := by
  refine lift_laid (C := Tryd.checked) (X := Met) own started (by kernel_rfl) Tryd.func4 (fun _ _ h => Met.heap h) laidout rowed full (by rw [Tryd.params4]; decide) rfl (by kernel_rfl) Tryd.underlying4
    (fun ds h => by rw [Tryd.params4] at h; match ds, h with | [_, _, _], _ => rfl)
    (ChangeSpec.witness_shaped (enc := enc) (C := Tryd.checked) (os := os) (X := fun w _ => Met w) false (World.doorLaid Tryd.prog 400 os) #[.agg #[.int .i64 0, .int .i64 0, .int .i64 0], .int .u64 0, .int .u8 0] 8 rfl (World.shaped_of_RefB (by kernel_rfl) (by kernel_rfl)) (by kernel_rfl) (by kernel_rfl) (by kernel_rfl) (door_met os _)) ?_
  intro W base args ds p hval hA hM
  have hT := hM.tab
  change ∀ (j : Nat) t v, Tryd.f4.params[j]? = some t → args[j]? = some v → Value.okWide Tryd.prog W .any base t v at hval
  change DataW.TrodAll enc Tryd.prog W 0 (fun _ => true) true Tryd.f4.params.toList args.toList ds p at hA
  rw [Tryd.params4] at hA hval
  obtain ⟨v0, vs0, d0, ds0, p0, q0, hargs, rfl, rfl, h0, r0⟩ := trodAll_cons hA
  obtain ⟨v1, vs1, d1, ds1, p1, q1, hargs1, rfl, rfl, h1, r1⟩ := trodAll_cons r0
  obtain ⟨v2, vs2, d2, ds2, p2, q2, hargs2, rfl, rfl, h2, r2⟩ := trodAll_cons r1
  obtain ⟨rfl, rfl, rfl⟩ := trodAll_nil r2
  subst hargs2
  subst hargs1
  obtain rfl : args = #[v0, v1, v2] := by cases args; simp_all
  obtain ⟨c, r, n, rfl, bc, br, bn⟩ := get_head (hval 0 23 v0 rfl rfl) h0
  obtain ⟨u, rfl, hu⟩ := get_u64 (hval 1 24 v1 rfl rfl) h1
  obtain ⟨b, rfl, _⟩ := get_u8 (hval 2 5 v2 rfl rfl) h2
  exact walk c r n u b W hT bc br bn hu

theorem over : Rows.headBackRow.holds Tryd.pinned (OpenSpec.ofChange Rows.headBackSpec) :=
  OpenClaim.holds_of_wide 4 Tryd.f4 rfl rfl rfl rfl rfl rfl rfl ⟨rfl, rfl, rfl, rfl, rfl⟩ rfl rfl rfl rfl rfl (by kernel_rfl) Tryd.func4 (by kernel_rfl)
    (of_decide_eq_true (by kernel_rfl)) (by unfold Func.isWrapper; first | (rw [if_pos (by decide +kernel)]; kernel_rfl) | (rw [if_neg (by decide +kernel)]; exact ⟨rfl, rfl⟩))
    (fun os started H enc _ => lifted os started H enc)

/-- The statement. -/
theorem proved : Rows.HeadBackCardSaid :=
  Claim7.holds_tied_plain_at .later [] [.data] true (true, "8d0bd550655fbf2d1de6bf4a12756287b168fdfe59c4454121e308b2ccf30d29") false
    over (fun _ h => by cases h) (by kernel_rfl) (fun _ h => by cases h) headBack_row_tie rfl ⟨rfl, rfl⟩ (by kernel_rfl) rfl
    (fun f fn hf hfn => by
      obtain rfl : f = 4 := Option.some.inj ((show Tryd.prog.funcNamed "commonage/commonagelaw08.HeadBack" = some 4 by kernel_rfl).symm.trans hf) |>.symm
      obtain rfl : fn = Tryd.f4 := (Option.some.inj (Tryd.func4.symm.trans hfn)).symm
      exact ⟨by kernel_rfl, fun j t ht => by
        rw [Tryd.params4] at ht
        have hm : t ∈ [23, 24, 5] := by simpa using Array.mem_of_getElem? ht
        have hall : ([23, 24, 5].all fun u => !Tryd.prog.wantsStandIn u) = true := by kernel_rfl
        exact (show Tryd.prog.wantsStandIn t = false by simpa using List.all_eq_true.1 hall t hm)⟩)
    (by kernel_rfl)
#print axioms proved
end Go.Proofs.YtgfccbamcehkcaaDoor.headBack
