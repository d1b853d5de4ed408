/- Less twice is Less once, Less of itself clears, and bits that are set are those that are told, whatever the order; conditions: the arguments are of bulk at most 1048576. -/
import Derived.Test.YtebcmfggmlapdaaDoorAg
namespace Go.Proofs.YtebcmfggmlapdaaDoor.bitsAgain
open Go.ChangeShapes Go.WideShapes Go.ChangeAt Go.RowKit
set_option linter.unusedVariables false

/-! The walk. -/
theorem src_slice {w : World} {v : Value} {n : Nat} {x : Nat → Nat} (h : Src w v n x) : ∃ p cap, v = .slice p n cap := by
  rcases h with ⟨rfl, rfl⟩ | ⟨ad, cap, rfl, _⟩ <;> exact ⟨_, _, rfl⟩
theorem less_twice (f o : Nat → Bool) : (fun i => (f i && !o i) && !o i) = fun i => f i && !o i := by
  funext i; cases f i <;> cases o i <;> rfl
theorem less_self (f : Nat → Bool) : (fun i => f i && !f i) = fun _ => false := by
  funext i; cases f i <;> rfl

set_option maxRecDepth 100000 in
set_option maxHeartbeats 8000000 in
theorem walk (m : Nat) (v v2 : Value) (c c2 : Nat) (y y2 : Nat → Nat) (w : World) (hT : TabAt w) (hm : m < 65536) (hy : ∀ j, y j < 65536) (hy2 : ∀ j, y2 j < 65536) (h : Src w v c y) (h2 : Src w v2 c2 y2) (hc : c ≤ 1048576) (hc2 : c2 ≤ 1048576) :
    Calls Tryd.prog 8 #[.int .u16 (m : Nat), v, v2] w fun e w' => e = .returned (.bool true) ∧ Below w.heap.size w w' := by
  have mad := made_any m v c y w hm hy h.u16s
  have mad2 := fun w1 (K : Bel w w1) => made_any m v2 c2 y2 w1 hm hy2 (h2.bel K).u16s
  have jb : ∀ j, join y c y2 j < 65536 := fun j => by unfold join; split; exact hy _; exact hy2 _
  have jb2 : ∀ j, join y2 c2 y j < 65536 := fun j => by unfold join; split; exact hy2 _; exact hy _
  have mad3 := fun w1 u (hu : U16s w1 u (c + c2) (join y c y2)) => made_any m u (c + c2) (join y c y2) w1 hm jb hu
  have mad4 := fun w1 u (hu : U16s w1 u (c2 + c) (join y2 c2 y)) => made_any m u (c2 + c) (join y2 c2 y) w1 hm jb2 hu
  have turn : c + c2 ≤ 300 → mk (m % 301) (join y c y2) (min (c + c2) 300) = mk (m % 301) (join y2 c2 y) (min (c2 + c) 300) := fun hh => by
    rw [show min (c + c2) 300 = c + c2 by omega, show min (c2 + c) 300 = c2 + c by omega]
    exact mk_turn _ _ _ _ _
  unfold MadeAt at mad mad2 mad3 mad4
  have hn : m % 301 ≤ 300 := by omega
  have hsum : decide (300 < (c : Int) + (c2 : Int)) = decide (300 < c + c2) := decide_eq_decide.2 (by omega)
  have hb1 : c + c2 ≤ maxLen ∧ (c + c2) * 2 ≤ 140737488355328 ∧ c ≤ maxLen ∧ c * 2 ≤ 140737488355328 ∧ c2 ≤ maxLen ∧ c2 * 2 ≤ 140737488355328 ∧ c2 + c ≤ maxLen ∧ (c2 + c) * 2 ≤ 140737488355328 := by unfold maxLen; omega
  generalize m % 301 = n at *
  generalize mk n y (min c 300) = f at *
  generalize mk n y2 (min c2 300) = o at *
  generalize mk n (join y c y2) (min (c + c2) 300) = f3 at *
  generalize mk n (join y2 c2 y) (min (c2 + c) 300) = f4 at *
  have hp := hT.pos
  obtain ⟨p1, cap1, rfl⟩ := src_slice h
  obtain ⟨p2, cap2, rfl⟩ := src_slice h2
  have hb1 := Lib.hid hb1
  have hh := Lib.hid h
  have hh2 := Lib.hid h2
  by_cases big : 300 < c + c2
  · have d1 : decide (300 < (c : Int) + (c2 : Int)) = true := decide_eq_true (by omega)
    have d2 : (300 : Int) < (c : Int) + (c2 : Int) := by omega
    clear turn hsum
    go_enter Tryd.func8, Tryd.ntmps8
    go_wp2_with (first
      | (go_at_call 20; have hx := U14; clear hx; (with_reducible refine (mad4 _ _ U14).mono ?_); rintro e w15 ⟨b6, g6, ca6, q6, rfl, S15, _, _, _, K15⟩; have P15 := (P12.bel K14).bel K15; have R15 := ((R9.bel K11).bel K12).bel (K14.trans K15); have T15 := ((T9.bel K11).bel K12).bel (K14.trans K15); have W15 := Bel.below W9 (K11.trans (K12.trans (K14.trans K15))) W9.size; have co := count_any _ R15; rw [cnt_none] at co)
      | (go_at_call 20; have hx := U11; clear hx; (with_reducible refine (mad3 _ _ U11).mono ?_); rintro e w12 ⟨b5, g5, ca5, q5, rfl, P12, _, _, _, K12⟩; have B12 := B9'.trans (K11.trans K12); have hv3 := hh.out.bel (B12.alloc (.cells #[] 41)); have hmd2 := World.ownsRow_made (base := w12.heap.size) (e := 41) (size := 1) w12 #[] 0 (Nat.le_refl _) (Nat.zero_le _) rfl)
      | (go_at_call 20; have hx := K1; clear hx; (with_reducible refine (mad2 _ K1).mono ?_); rintro e w2 ⟨b2, g2, ca2, q2, rfl, O2, B2, G2, H2, K2⟩; have R2 := R1.bel K2; have z1 := R1.glt; have z2 := O2.glt; have n12 : g2 ≠ g1 := (by omega); have W2 := K1.trans K2; have T2 := hT.bel W2; have g10 : g1 ≠ 0 := (by omega))
      | (go_at_call 20; (with_reducible refine mad.mono ?_); rintro e w1 ⟨b1, g1, ca1, q1, rfl, R1, B1, G1, H1, K1⟩)
      | (go_at_call 21; have hx := C8; clear hx; (with_reducible refine (less_ok _ R8 C8 n31).mono ?_); rintro e w9 ⟨rfl, R9, C9, U9⟩; rw [less_self] at R9; have W9 := U9.below W8 G1 W8.size; have T9 := T8.but U9 g10; have B9' : Bel w w9 := W9; have hv1 := hh.out.bel (B9'.alloc (.cells #[] 41)); have hmd := World.ownsRow_made (base := w9.heap.size) (e := 41) (size := 1) w9 #[] 0 (Nat.le_refl _) (Nat.zero_le _) rfl)
      | (go_at_call 21; have hx := V4; clear hx; (with_reducible refine (less_ok _ R4 O4 n12).mono ?_); rintro e w5 ⟨rfl, R5, O5, U5⟩; rw [less_twice] at R5; have W5 := U5.below W4 G1 W4.size; have T5 := T4.but U5 g10; have V5 := V4.but U5 l3)
      | (go_at_call 21; (with_reducible refine (less_ok _ R2 O2 n12).mono ?_); rintro e w3 ⟨rfl, R3, O3, U3⟩; have W3 := U3.below W2 G1 W2.size; have T3 := T2.but U3 g10; have l3 := R3.glt; have wo := words_any _ R3)
      | (go_at_call 25; (with_reducible refine cp.mono ?_); rintro e w8 ⟨b3, g3, ca3, rfl, C8, G8, H8, K8⟩; have R8 := R7.bel K8; have T8 := T7.bel K8; have W8 := Bel.below W7 K8 W7.size; have z7 := R7.glt; have n31 : g3 ≠ g1 := (by omega))
      | (at_builtin; refine wpList_app16 rfl (.tmp 47) (.tmp 48) rfl w9.heap.size _ 0 [] rfl hmd _ c y rfl hv1 (by have := hb1.out; omega) (by have := hb1.out; omega) (by rw [size_alloc1]; omega) ?_; intro u10 w10 own10 grow10; have K10 : Bel w9 w10 := ((Bel.refl w9).alloc _).grown grow10 (by rw [size_alloc1]; omega) (fun x hx => Nat.le_of_eq (Option.some.inj hx)); have hv2 := hh2.out.bel (B9'.trans K10))
      | (at_builtin; refine wpList_app16 rfl (.tmp 49) (.tmp 50) rfl w9.heap.size u10 (0 + c) _ rfl own10 _ c2 y2 rfl hv2 (by have := hb1.out; omega) (by have := hb1.out; omega) (by exact K10.size) ?_; intro u11 w11 own11 grow11; have K11 : Bel w9 w11 := K10.grown grow11 K10.size (fun x hx => (own10.lt x hx).1); have own11' : w11.ownsRow w9.heap.size 41 1 u11 (c + c2) (l16 (join y c y2) (c + c2)) := (by simpa [l16_join] using own11); have U11 := own_u16s own11'; clear own10 own11 own11' grow10 grow11)
      | (at_builtin; refine wpList_app16 rfl (.tmp 57) (.tmp 58) rfl w12.heap.size _ 0 [] rfl hmd2 _ c2 y2 rfl (hh2.out.bel (B12.alloc (.cells #[] 41))) (by have := hb1.out; omega) (by have := hb1.out; omega) (by rw [size_alloc1]; omega) ?_; intro u13 w13 own13 grow13; have K13 : Bel w12 w13 := ((Bel.refl w12).alloc _).grown grow13 (by rw [size_alloc1]; omega) (fun x hx => Nat.le_of_eq (Option.some.inj hx)); have hv4 := hh.out.bel (B12.trans K13))
      | (at_builtin; refine wpList_app16 rfl (.tmp 59) (.tmp 60) rfl w12.heap.size u13 (0 + c2) _ rfl own13 _ c y rfl hv4 (by have := hb1.out; omega) (by have := hb1.out; omega) (by exact K13.size) ?_; intro u14 w14 own14 grow14; have K14 : Bel w12 w14 := K13.grown grow14 K13.size (fun x hx => (own13.lt x hx).1); have own14' : w14.ownsRow w12.heap.size 41 1 u14 (c2 + c) (l16 (join y2 c2 y) (c2 + c)) := (by simpa [l16_join] using own14); have U14 := own_u16s own14'; clear own13 own14 own14' grow13 grow14)
      | (go_at_call 24; (with_reducible refine co.mono ?_); rintro e w' ⟨rfl, hw⟩; rw [hw]; clear hw)
      | (go_at_call 26; have hx := V16; clear hx; (with_reducible refine (words_any _ S16).mono ?_); rintro e w17 ⟨u17, rfl, V17, _, K17⟩; have T17 := T16.bel K17; have sa2 := same_any _ _ _ _ _ _ _ (V16.bel K17).words V17.words; rw [sameB_refl] at sa2)
      | (go_at_call 26; have hx := S15; clear hx; (with_reducible refine (words_any _ P15).mono ?_); rintro e w16 ⟨u16, rfl, V16, _, K16⟩; have S16 := S15.bel K16; have T16 := T15.bel K16)
      | (go_at_call 26; have hx := V5; clear hx; (with_reducible refine (words_any _ R5).mono ?_); rintro e w6 ⟨u6, rfl, V6, _, K6⟩; have sa := same_any _ _ _ _ _ _ _ V6.words (V5.bel K6).words; rw [sameB_refl] at sa)
      | (go_at_call 26; (with_reducible refine wo.mono ?_); rintro e w4 ⟨u4, rfl, V4, _, K4⟩; have R4 := R3.bel K4; have O4 := O3.bel K4; have T4 := T3.bel K4; have W4 := Bel.below W3 K4 W3.size)
      | (go_at_call 27; have hx := sa2; clear hx; (with_reducible refine sa2.mono ?_); rintro e w18 ⟨rfl, K18⟩; have T18 := T17.bel K18)
      | (go_at_call 27; (with_reducible refine sa.mono ?_); rintro e w7 ⟨rfl, K7⟩; have R7 := (R5.bel K6).bel K7; have T7 := (T5.bel K6).bel K7; have W7 := Bel.below W5 (K6.trans K7) W5.size; have cp := copy_any _ R7)
      | (go_at_call 11; have hx := T18; clear hx; (with_reducible refine (awake_any _ T18).mono ?_); rintro e w19 ⟨rfl, K19⟩)
      | (go_at_call 11; (with_reducible refine (awake_any _ T15).mono ?_); rintro e w19 ⟨rfl, K19⟩))
    go_ret
    exact ⟨rfl, W15.trans (K19.mono W15.size)⟩
  · have d1 : decide (300 < (c : Int) + (c2 : Int)) = false := decide_eq_false (by omega)
    have d2 : ¬ (300 : Int) < (c : Int) + (c2 : Int) := by omega
    have tt := turn (by omega)
    subst tt
    clear turn hsum
    go_enter Tryd.func8, Tryd.ntmps8
    go_wp2_with (first
      | (go_at_call 20; have hx := U14; clear hx; (with_reducible refine (mad4 _ _ U14).mono ?_); rintro e w15 ⟨b6, g6, ca6, q6, rfl, S15, _, _, _, K15⟩; have P15 := (P12.bel K14).bel K15; have R15 := ((R9.bel K11).bel K12).bel (K14.trans K15); have T15 := ((T9.bel K11).bel K12).bel (K14.trans K15); have W15 := Bel.below W9 (K11.trans (K12.trans (K14.trans K15))) W9.size; have co := count_any _ R15; rw [cnt_none] at co)
      | (go_at_call 20; have hx := U11; clear hx; (with_reducible refine (mad3 _ _ U11).mono ?_); rintro e w12 ⟨b5, g5, ca5, q5, rfl, P12, _, _, _, K12⟩; have B12 := B9'.trans (K11.trans K12); have hv3 := hh.out.bel (B12.alloc (.cells #[] 41)); have hmd2 := World.ownsRow_made (base := w12.heap.size) (e := 41) (size := 1) w12 #[] 0 (Nat.le_refl _) (Nat.zero_le _) rfl)
      | (go_at_call 20; have hx := K1; clear hx; (with_reducible refine (mad2 _ K1).mono ?_); rintro e w2 ⟨b2, g2, ca2, q2, rfl, O2, B2, G2, H2, K2⟩; have R2 := R1.bel K2; have z1 := R1.glt; have z2 := O2.glt; have n12 : g2 ≠ g1 := (by omega); have W2 := K1.trans K2; have T2 := hT.bel W2; have g10 : g1 ≠ 0 := (by omega))
      | (go_at_call 20; (with_reducible refine mad.mono ?_); rintro e w1 ⟨b1, g1, ca1, q1, rfl, R1, B1, G1, H1, K1⟩)
      | (go_at_call 21; have hx := C8; clear hx; (with_reducible refine (less_ok _ R8 C8 n31).mono ?_); rintro e w9 ⟨rfl, R9, C9, U9⟩; rw [less_self] at R9; have W9 := U9.below W8 G1 W8.size; have T9 := T8.but U9 g10; have B9' : Bel w w9 := W9; have hv1 := hh.out.bel (B9'.alloc (.cells #[] 41)); have hmd := World.ownsRow_made (base := w9.heap.size) (e := 41) (size := 1) w9 #[] 0 (Nat.le_refl _) (Nat.zero_le _) rfl)
      | (go_at_call 21; have hx := V4; clear hx; (with_reducible refine (less_ok _ R4 O4 n12).mono ?_); rintro e w5 ⟨rfl, R5, O5, U5⟩; rw [less_twice] at R5; have W5 := U5.below W4 G1 W4.size; have T5 := T4.but U5 g10; have V5 := V4.but U5 l3)
      | (go_at_call 21; (with_reducible refine (less_ok _ R2 O2 n12).mono ?_); rintro e w3 ⟨rfl, R3, O3, U3⟩; have W3 := U3.below W2 G1 W2.size; have T3 := T2.but U3 g10; have l3 := R3.glt; have wo := words_any _ R3)
      | (go_at_call 25; (with_reducible refine cp.mono ?_); rintro e w8 ⟨b3, g3, ca3, rfl, C8, G8, H8, K8⟩; have R8 := R7.bel K8; have T8 := T7.bel K8; have W8 := Bel.below W7 K8 W7.size; have z7 := R7.glt; have n31 : g3 ≠ g1 := (by omega))
      | (at_builtin; refine wpList_app16 rfl (.tmp 47) (.tmp 48) rfl w9.heap.size _ 0 [] rfl hmd _ c y rfl hv1 (by have := hb1.out; omega) (by have := hb1.out; omega) (by rw [size_alloc1]; omega) ?_; intro u10 w10 own10 grow10; have K10 : Bel w9 w10 := ((Bel.refl w9).alloc _).grown grow10 (by rw [size_alloc1]; omega) (fun x hx => Nat.le_of_eq (Option.some.inj hx)); have hv2 := hh2.out.bel (B9'.trans K10))
      | (at_builtin; refine wpList_app16 rfl (.tmp 49) (.tmp 50) rfl w9.heap.size u10 (0 + c) _ rfl own10 _ c2 y2 rfl hv2 (by have := hb1.out; omega) (by have := hb1.out; omega) (by exact K10.size) ?_; intro u11 w11 own11 grow11; have K11 : Bel w9 w11 := K10.grown grow11 K10.size (fun x hx => (own10.lt x hx).1); have own11' : w11.ownsRow w9.heap.size 41 1 u11 (c + c2) (l16 (join y c y2) (c + c2)) := (by simpa [l16_join] using own11); have U11 := own_u16s own11'; clear own10 own11 own11' grow10 grow11)
      | (at_builtin; refine wpList_app16 rfl (.tmp 57) (.tmp 58) rfl w12.heap.size _ 0 [] rfl hmd2 _ c2 y2 rfl (hh2.out.bel (B12.alloc (.cells #[] 41))) (by have := hb1.out; omega) (by have := hb1.out; omega) (by rw [size_alloc1]; omega) ?_; intro u13 w13 own13 grow13; have K13 : Bel w12 w13 := ((Bel.refl w12).alloc _).grown grow13 (by rw [size_alloc1]; omega) (fun x hx => Nat.le_of_eq (Option.some.inj hx)); have hv4 := hh.out.bel (B12.trans K13))
      | (at_builtin; refine wpList_app16 rfl (.tmp 59) (.tmp 60) rfl w12.heap.size u13 (0 + c2) _ rfl own13 _ c y rfl hv4 (by have := hb1.out; omega) (by have := hb1.out; omega) (by exact K13.size) ?_; intro u14 w14 own14 grow14; have K14 : Bel w12 w14 := K13.grown grow14 K13.size (fun x hx => (own13.lt x hx).1); have own14' : w14.ownsRow w12.heap.size 41 1 u14 (c2 + c) (l16 (join y2 c2 y) (c2 + c)) := (by simpa [l16_join] using own14); have U14 := own_u16s own14'; clear own13 own14 own14' grow13 grow14)
      | (go_at_call 24; (with_reducible refine co.mono ?_); rintro e w' ⟨rfl, hw⟩; rw [hw]; clear hw)
      | (go_at_call 26; have hx := V16; clear hx; (with_reducible refine (words_any _ S16).mono ?_); rintro e w17 ⟨u17, rfl, V17, _, K17⟩; have T17 := T16.bel K17; have sa2 := same_any _ _ _ _ _ _ _ (V16.bel K17).words V17.words; rw [sameB_refl] at sa2)
      | (go_at_call 26; have hx := S15; clear hx; (with_reducible refine (words_any _ P15).mono ?_); rintro e w16 ⟨u16, rfl, V16, _, K16⟩; have S16 := S15.bel K16; have T16 := T15.bel K16)
      | (go_at_call 26; have hx := V5; clear hx; (with_reducible refine (words_any _ R5).mono ?_); rintro e w6 ⟨u6, rfl, V6, _, K6⟩; have sa := same_any _ _ _ _ _ _ _ V6.words (V5.bel K6).words; rw [sameB_refl] at sa)
      | (go_at_call 26; (with_reducible refine wo.mono ?_); rintro e w4 ⟨u4, rfl, V4, _, K4⟩; have R4 := R3.bel K4; have O4 := O3.bel K4; have T4 := T3.bel K4; have W4 := Bel.below W3 K4 W3.size)
      | (go_at_call 27; have hx := sa2; clear hx; (with_reducible refine sa2.mono ?_); rintro e w18 ⟨rfl, K18⟩; have T18 := T17.bel K18)
      | (go_at_call 27; (with_reducible refine sa.mono ?_); rintro e w7 ⟨rfl, K7⟩; have R7 := (R5.bel K6).bel K7; have T7 := (T5.bel K6).bel K7; have W7 := Bel.below W5 (K6.trans K7) W5.size; have cp := copy_any _ R7)
      | (go_at_call 11; have hx := T18; clear hx; (with_reducible refine (awake_any _ T18).mono ?_); rintro e w19 ⟨rfl, K19⟩)
      | (go_at_call 11; (with_reducible refine (awake_any _ T15).mono ?_); rintro e w19 ⟨rfl, K19⟩))
    go_ret
    exact ⟨rfl, W15.trans ((K16.trans (K17.trans (K18.trans K19))).mono W15.size)⟩

/-! The row. -/
theorem contract (H : Type) (enc : TypeId × Value → H) (W : World) (base : Nat) (args : Array Value) (ds gs : List (DataW H)) (before : List MemPlace)
    (hval : ∀ (j : Nat) t v, Tryd.f8.params[j]? = some t → args[j]? = some v → Value.okWide Tryd.prog W .any base t v)
    (hW : DataW.Whole enc Tryd.prog Tryd.f8.params.toList Rows.bitsAgainSpec.vars false W args.toList ds gs before) (hL : Met W) (hk : Rows.uptoBulkAll (ds ++ gs) ≤ 1048576) :
    Calls Tryd.prog 8 args W fun e W' => ∃ v, e = .returned v ∧ Rows.bitsAgainSpec.post enc Tryd.prog Tryd.f8 false true false false W args v W' := by
  have hT := hL.tab
  have hW' := hW
  obtain ⟨p, q, hA0, hV, hbf, hfz, hnd⟩ := hW
  have hA : DataW.TrodAll enc Tryd.prog W 0 (fun _ => true) true Tryd.f8.params.toList args.toList ds p := hA0
  clear hA0
  rw [Tryd.params8] at hA hval
  obtain ⟨v0, vs0, d0, ds0, p0, q0, hargs, rfl, rfl, h0, r0⟩ := trodAll_cons hA
  obtain ⟨v1, vs1, d1, ds1, p1, q1, hargs1, rfl, rfl, h1, r1⟩ := trodAll_cons r0
  obtain ⟨v2, vs2, d2, ds2, p2, q2, hargs2, rfl, rfl, h2, r2⟩ := trodAll_cons r1
  obtain ⟨rfl, rfl, rfl⟩ := trodAll_nil r2
  subst hargs2
  subst hargs1
  obtain rfl : args = #[v0, v1, v2] := by cases args; simp_all
  have hgs : gs = [] := by
    have hV' : DataW.TrodVars enc Tryd.prog W (fun _ => true) [] gs q := hV
    obtain ⟨rfl, _⟩ := trodVars_none hV'
    rfl
  subst hgs
  have hbulk : Rows.uptoBulkAll [d0, d1, d2] ≤ 1048576 := by simpa using hk
  have walked : Calls Tryd.prog 8 #[v0, v1, v2] W fun e w' => e = .returned (.bool true) ∧ Below W.heap.size W w' := by
    obtain ⟨m, rfl, hm⟩ := get_u16 (hval 0 41 v0 rfl rfl) h0
    obtain ⟨c, y, hU, hy, hc⟩ := get_src (hval 1 42 v1 rfl rfl) h1
    obtain ⟨c2, y2, hU2, hy2, hc2⟩ := get_src (hval 2 42 v2 rfl rfl) h2
    simp only [Rows.uptoBulkAll] at hbulk
    exact walk m v1 v2 c c2 y y2 W hT hm hy hy2 hU hU2 (by omega) (by omega)
  refine walked.mono fun e W' ⟨he, hg⟩ => ⟨_, he, post_law (kids_rows laidout rowed) full hW' (by rw [Tryd.params8]; decide) rfl (by kernel_rfl) Tryd.underlying4 ?_ hg⟩
  rfl

/-- A world for the witness: the settled one, the table holding what its initialiser lays. -/
noncomputable def laidWorld (os : Os) : World :=
  { World.holding Tryd.prog os ⟨#[], #[], []⟩ with heap := (World.holding Tryd.prog os ⟨#[], #[], []⟩).heap.modify 0 fun
      | .cells _ t frozen => .cells (Lib.deBruijn64tab.map fun (n : Nat) => Value.int .u8 (n : Int)).toArray t frozen
      | o => o }
theorem laid_met (os : Os) : laidMet Tryd.prog Rows.bitsAgainUptoRow.laid ((laidWorld os).forCall (fun _ _ => 0) ⟨#[], #[.int .u16 0, .slice none 0 0, .slice none 0 0], []⟩).memory :=
  laidMet_of_run' 8 (by kernel_rfl) (by kernel_rfl)
theorem reads (os : Os) {H : Type} (enc : TypeId × Value → H) : ∃ places, DataW.whole enc Tryd.prog ((laidWorld os).forCall (fun _ _ => 0) ⟨#[], #[.int .u16 0, .slice none 0 0, .slice none 0 0], []⟩).memory Tryd.f8.params.toList Rows.bitsAgainSpec.vars false (#[.int .u16 0, .slice none 0 0, .slice none 0 0] : Array Value).toList 8 = some ([.lit (.int .u16 0), .nil, .nil], [], places) :=
  ⟨[], by kernel_rfl⟩

set_option maxRecDepth 100000 in
theorem lifted (os : Os) (started : os.Started) (H : Type) (enc : TypeId × Value → H) (F : Stop.Interp) :
    ReturnsInHanded {} Tryd.checked os 8 .any ((Rows.OpenSpec.upto Rows.bitsAgainSpec).preRow enc Tryd.prog Tryd.f8 Rows.bitsAgainUptoRow.domain false Rows.bitsAgainUptoRow.laid) (((Rows.OpenSpec.upto Rows.bitsAgainSpec).at F).post enc Tryd.prog Tryd.f8 false true false false) := by
  obtain ⟨places, hx⟩ := reads os enc
  refine returnsInHanded_of_row (C := Tryd.checked) (s := Rows.OpenSpec.upto Rows.bitsAgainSpec) own started (by kernel_rfl) Tryd.func8
    (witness_row_at (enc := enc) (C := Tryd.checked) false (laidWorld os) #[.int .u16 0, .slice none 0 0, .slice none 0 0] rfl (by kernel_rfl) (by kernel_rfl) (by kernel_rfl)
      (OpenSpec.preRow_of_cond 8 hx (by kernel_rfl) (fun k hk => by cases hk; kernel_rfl) (by kernel_rfl) (laid_met os))) ?_
  intro W base args ds gs before hval hW _ hcond _ hL _ _
  exact contract H enc W base args ds gs before hval hW hL (of_decide_eq_true (hcond _ rfl))

theorem over : Rows.BitsAgainUptoSaid :=
  OpenClaim.holds_of_cond 8 Tryd.f8 rfl rfl rfl rfl rfl rfl rfl ⟨rfl, rfl, rfl, rfl, rfl⟩ rfl rfl rfl rfl rfl (by kernel_rfl) Tryd.func8 (by kernel_rfl)
    (of_decide_eq_true (by kernel_rfl)) (by unfold Func.isWrapper; first | (rw [if_pos (by decide +kernel)]; kernel_rfl) | (rw [if_neg (by decide +kernel)]; exact ⟨rfl, rfl⟩))
    (fun os started H enc _ F => by rw [OpenClaim.pre_eq_preRow]; exact lifted os started H enc F)

/-- The statement. -/
theorem proved : Rows.BitsAgainUptoCardSaid :=
  Claim7.holds_tied_plain_at .later [] _ _ _ _ over (fun _ h => by cases h) (by kernel_rfl) (fun _ h => by cases h) bitsAgainUpto_row_tie rfl ⟨rfl, rfl⟩ (by kernel_rfl) rfl
    (fun f fn hf hfn => by
      obtain rfl : f = 8 := Option.some.inj ((show Tryd.prog.funcNamed "commonage/commonagelaw04.BitsAgain" = some 8 by kernel_rfl).symm.trans hf) |>.symm
      obtain rfl : fn = Tryd.f8 := (Option.some.inj (Tryd.func8.symm.trans hfn)).symm
      exact ⟨by kernel_rfl, fun j t ht => by
        rw [Tryd.params8] at ht
        have hm : t ∈ [41, 42, 42] := by simpa using Array.mem_of_getElem? ht
        have hall : ([41, 42, 42].all fun u => !Tryd.prog.wantsStandIn u) = true := by kernel_rfl
        exact (show Tryd.prog.wantsStandIn t = false by simpa using List.all_eq_true.1 hall t hm)⟩)
    (by kernel_rfl)
#print axioms proved
end Go.Proofs.YtebcmfggmlapdaaDoor.bitsAgain
