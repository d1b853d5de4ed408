/- The calls that the document fixes. -/
import Derived.Test.YtebcmfggmlapdaaDoorMk
namespace Go.Proofs.YtebcmfggmlapdaaDoor
open Go.ChangeShapes Go.WideShapes Go.ChangeAt Go.RowKit

theorem But.grown {g : Nat} {w w' : World} (h : But g w w') : w.grownBy w' (some g) := ⟨h.1, h.2.1, h.2.2.1, h.2.2.2.1, fun k hk hne => h.2.2.2.2 k hk (fun e => hne (by rw [e]))⟩
theorem OwnWords.but {w w' : World} {v : Value} {B n g : Nat} {x : Nat → Nat} (h : OwnWords w v B n x) (k : But g w w') (hg : g < B) : OwnWords w' v B n x := by
  refine World.ownsRow.kept h k.grown ?_
  rcases hv : v.ownBlock with _ | j
  · exact Or.inl rfl
  · have := (World.ownsRow.lt h j hv).1
    exact Or.inr fun e => by cases e; omega
theorem OwnWords.bel {w w' : World} {v : Value} {B n : Nat} {x : Nat → Nat} (h : OwnWords w v B n x) (k : Bel w w') : OwnWords w' v B n x := by
  rcases h.2 with ⟨rfl, rfl⟩ | ⟨G, cap, cur, rfl, h1, hg, h3⟩
  · exact ⟨h.1, Or.inl ⟨rfl, rfl⟩⟩
  · exact ⟨h.1, Or.inr ⟨G, cap, cur, rfl, h1, (k.block _ (block_lt hg)).trans hg, h3⟩⟩

theorem RowIs.glt {w : World} {b g ca n : Nat} {f : Nat → Bool} (h : RowIs w b g ca n f) : g < w.heap.size := by
  obtain ⟨_, _, _, _, cs, hc, _⟩ := h
  exact block_lt hc

/-- the rows of the fixed calls -/
def aF : Nat → Bool := upd (upd (fun _ => false) 3 true) 69 true
def aO : Nat → Bool := upd (fun _ => false) 3 true
def aW (j : Nat) : Nat := if j = 0 then 8 else 32

theorem aN1 : nxt aF 70 (start 4) true = some 69 := by decide +kernel
theorem aN2 : nxt aF 70 (start 70) true = none := by decide +kernel
theorem aN3 : nxt aF 70 (start 3) false = some 4 := by decide +kernel
theorem aC : cnt (fun i => aF i && !aO i) 70 = 1 := by decide +kernel
theorem aS : sameB (nw 70) (W aF) 2 aW = true := by decide +kernel

theorem lit_words (w : World) : Words (w.alloc (.cells #[.int .u64 8, .int .u64 32] 53)) (.slice (some ⟨w.heap.size, 0, none⟩) 2 2) 2 aW := by
  refine Or.inr ⟨w.heap.size, 0, 2, rfl, by omega, by omega, by omega, fun j hj => ?_⟩
  rw [Nat.zero_add, cell_of_row _ _ _ _ _ _ (heap_alloc_new w _)]
  match j, hj with
  | 0, _ => rfl
  | 1, _ => rfl

set_option maxRecDepth 100000 in
set_option maxHeartbeats 8000000 in
theorem awake_any (w : World) (hT : TabAt w) : Calls Tryd.prog 11 #[] w fun e w' => e = .returned (.bool true) ∧ Bel w w' := by
  have n70 : ∀ w, Calls Tryd.prog 10 #[.int .i64 70] w fun e w' => ∃ b g ca, e = .returned (.tuple #[.pointer (some ⟨b, 0, none⟩), .int .i64 0]) ∧ RowIs w' b g ca 70 (fun _ => false) ∧ w.heap.size ≤ g ∧ w.heap.size ≤ b ∧ Bel w w' := fun w => new_ok 70 (by decide) w
  have n69 : ∀ w, Calls Tryd.prog 10 #[.int .i64 69] w fun e w' => ∃ b g ca, e = .returned (.tuple #[.pointer (some ⟨b, 0, none⟩), .int .i64 0]) ∧ RowIs w' b g ca 69 (fun _ => false) ∧ w.heap.size ≤ g ∧ w.heap.size ≤ b ∧ Bel w w' := fun w => new_ok 69 (by decide) w
  have s3 : ∀ {w b g ca f}, RowIs w b g ca 70 f → Calls Tryd.prog 18 #[.pointer (some ⟨b, 0, none⟩), .int .i64 3, .bool true] w fun e w' => e = .returned (.int .i64 0) ∧ RowIs w' b g ca 70 (upd f 3 true) ∧ But g w w' := fun h => set_any 3 true _ h
  have s69 : ∀ {w b g ca f}, RowIs w b g ca 70 f → Calls Tryd.prog 18 #[.pointer (some ⟨b, 0, none⟩), .int .i64 69, .bool true] w fun e w' => e = .returned (.int .i64 0) ∧ RowIs w' b g ca 70 (upd f 69 true) ∧ But g w w' := fun h => set_any 69 true _ h
  have s70 : ∀ {w b g ca f}, RowIs w b g ca 70 f → Calls Tryd.prog 18 #[.pointer (some ⟨b, 0, none⟩), .int .i64 70, .bool true] w fun e w' => e = .returned (.int .i64 2) ∧ RowIs w' b g ca 70 f ∧ But g w w' := fun h => set_any 70 true _ h
  have x1 : ∀ {w b g ca}, RowIs w b g ca 70 aF → TabAt w → Calls Tryd.prog 14 #[.pointer (some ⟨b, 0, none⟩), .int .i64 4, .bool true] w fun e w' => e = .returned (.tuple #[.int .i64 69, .bool true]) ∧ Bel w w' := fun h t => by
    have := next_row 4 true _ h t (by decide); rw [aN1] at this; exact this
  have x2 : ∀ {w b g ca}, RowIs w b g ca 70 aF → TabAt w → Calls Tryd.prog 14 #[.pointer (some ⟨b, 0, none⟩), .int .i64 70, .bool true] w fun e w' => e = .returned (.tuple #[.int .i64 0, .bool false]) ∧ Bel w w' := fun h t => by
    have := next_row 70 true _ h t (by decide); rw [aN2] at this; exact this
  have x3 : ∀ {w b g ca}, RowIs w b g ca 70 aF → TabAt w → Calls Tryd.prog 14 #[.pointer (some ⟨b, 0, none⟩), .int .i64 3, .bool false] w fun e w' => e = .returned (.tuple #[.int .i64 4, .bool true]) ∧ Bel w w' := fun h t => by
    have := next_row 3 false _ h t (by decide); rw [aN3] at this; exact this
  have cn : ∀ {w b g ca}, RowIs w b g ca 70 (fun i => aF i && !aO i) → Calls Tryd.prog 24 #[.pointer (some ⟨b, 0, none⟩)] w fun e w' => e = .returned (.int .i64 1) ∧ w' = w := fun h => by
    have := count_any _ h; rw [aC] at this; exact this
  have sm : ∀ {w a b}, Words w a (nw 70) (W aF) → Words w b 2 aW → Calls Tryd.prog 27 #[a, b] w fun e w' => e = .returned (.bool true) ∧ Bel w w' := fun h k => by
    have := same_any _ _ _ _ _ _ _ h k; rw [aS] at this; exact this
  have wo : ∀ {w b g ca}, RowIs w b g ca 70 aF → _ := fun {w b g ca} h => words_any w h
  have lo : ∀ {w b g ca b' g' ca'}, RowIs w b g ca 70 aF → RowIs w b' g' ca' 70 aO → g' ≠ g → _ := fun {w b g ca b' g' ca'} h h' hne => less_ok w h h' hne
  have lx : ∀ {w b g ca f b' g' ca'}, RowIs w b g ca 70 f → RowIs w b' g' ca' 69 (fun _ => false) → _ := fun {w b g ca f b' g' ca'} h h' => less_other w h h' (by decide)
  have hp := hT.pos
  have wlit := lit_words
  go_enter Tryd.func11, Tryd.ntmps11
  go_wp2_with (first
    | (go_at_call 10; have hh := O2; clear hh; (with_reducible refine (n69 _).mono ?_); rintro e w3 ⟨b3, g3, ca3, rfl, P3, G3, B3, K3⟩; have R3 := R1.bel (K2.trans K3); have O3 := O2.bel K3; have z1 := R1.glt; have z2 := O2.glt; have n12 : g2 ≠ g1 := (by omega); have n21 : g1 ≠ g2 := (by omega); have z3 := K2.size; have n31 : g3 ≠ g1 := (by omega); have n32 : g3 ≠ g2 := (by omega); have g10 : g1 ≠ 0 := (by omega); have W3 := K1.trans (K2.trans K3); have T3 := hT.bel W3; have g1w : w.heap.size ≤ g1 := (by omega); have y1 := K1.size; have g2w : w.heap.size ≤ g2 := (by omega))
    | (go_at_call 10; have hh := R1; clear hh; (with_reducible refine (n70 _).mono ?_); rintro e w2 ⟨b2, g2, ca2, rfl, O2, G2, B2, K2⟩)
    | (go_at_call 10; (with_reducible refine (n70 _).mono ?_); rintro e w1 ⟨b1, g1, ca1, rfl, R1, G1, B1, K1⟩)
    | (go_at_call 18; (with_reducible refine (s3 O10).mono ?_); rintro e w11 ⟨rfl, O11, U11⟩; have R11 := R10.but U11 O10.at n21; have P11 := P10.but U11 O10.at n32; have W11 := U11.below W10 g2w W10.size; have V11 := V10.but U11 g2lt)
    | (go_at_call 18; (with_reducible refine (s70 R5).mono ?_); rintro e w6 ⟨rfl, R6, U6⟩; have R6 : RowIs w6 b1 g1 ca1 70 aF := R6; have T6 := T5.but U6 g10; have O6 := O5.but U6 R5.at n12; have P6 := P5.but U6 R5.at n31; have W6 := U6.below W5 g1w W5.size; have l6 := U6.2.2.2.1)
    | (go_at_call 18; (with_reducible refine (s69 R4).mono ?_); rintro e w5 ⟨rfl, R5, U5⟩; have T5 := T4.but U5 g10; have O5 := O4.but U5 R4.at n12; have P5 := P4.but U5 R4.at n31; have W5 := U5.below W4 g1w W4.size; have l5 := U5.2.2.2.1)
    | (go_at_call 18; (with_reducible refine (s3 R3).mono ?_); rintro e w4 ⟨rfl, R4, U4⟩; have T4 := T3.but U4 g10; have O4 := O3.but U4 R3.at n12; have P4 := P3.but U4 R3.at n31; have W4 := U4.below W3 g1w W3.size; have l4 := U4.2.2.2.1)
    | (go_at_call 14; (with_reducible refine (x1 R6 T6).mono ?_); rintro e w7 ⟨rfl, K7⟩; have R7 := R6.bel K7; have T7 := T6.bel K7)
    | (go_at_call 14; (with_reducible refine (x2 R7 T7).mono ?_); rintro e w8 ⟨rfl, K8⟩; have R8 := R7.bel K8; have T8 := T7.bel K8)
    | (go_at_call 14; (with_reducible refine (x3 R8 T8).mono ?_); rintro e w9 ⟨rfl, K9⟩; have R9 := R8.bel K9)
    | (go_at_call 26; (with_reducible refine (wo R9).mono ?_); rintro e w10 ⟨v, rfl, V10, vn, K10⟩; clear vn; have K610 := K7.trans (K8.trans (K9.trans K10)); have R10 := R6.bel K610; have O10 := O6.bel K610; have P10 := P6.bel K610; have W10 := Bel.below W6 K610 W6.size; have l9 := (K7.trans (K8.trans K9)).size; have z5 := K3.size; have g1lt : g1 < w9.heap.size := (by omega); have g2lt : g2 < w9.heap.size := (by omega))
    | (go_at_call 21; (with_reducible refine (lo R11 O11 n12).mono ?_); rintro e w12 ⟨rfl, R12, O12, U12⟩; have P12 := P11.but U12 R11.at n31; have W12 := U12.below W11 g1w W11.size; have V12 := V11.but U12 g1lt)
    | (go_at_call 21; (with_reducible refine (lx R12 P12).mono ?_); rintro e w13 ⟨rfl, K13⟩; have R13 := R12.bel K13; have W13 := Bel.below W12 K13 W12.size; have V13 := (V12.bel K13).bel ((Bel.refl w13).alloc (.cells #[.int .u64 8, .int .u64 32] 53)); have A13 := (Bel.refl w13).alloc (.cells #[.int .u64 8, .int .u64 32] 53); have L13 := wlit w13)
    | (go_at_call 27; (with_reducible refine (sm V13.words L13).mono ?_); rintro e w15 ⟨rfl, K15⟩; have R15 := (R13.bel A13).bel K15; have W15 := Bel.below W13 (A13.trans K15) W13.size)
    | (go_at_call 24; (with_reducible refine (cn R15).mono ?_); rintro e w' ⟨rfl, hw⟩; rw [hw]))
  go_ret
  exact ⟨rfl, W15⟩

end Go.Proofs.YtebcmfggmlapdaaDoor
