/- told: what is told of a slot is the document's. -/
import Derived.Test.YthokalcibjjihaaGreatDoorDo
import Derived.Test.YthokalcibjjihaaGreatDoorMRsm
namespace Go.Proofs.YthokalcibjjihaaGreatDoor
open Go.ChangeShapes Go.WideShapes Go.ChangeAt Go.RowKit Go.Deep hd
set_option linter.unusedVariables false
variable {X : Nat → Prop} {w w' : World} {v : Value} {lo hi top : Nat} {R : List (List Nat)} {t : Nat} {P : Pl}

theorem isame_yes {a b : Value} {l : List Int} {w : World} (ha : Is (fun _ => False) w a l) (hb : Is (fun _ => False) w b l) :
    Calls Tryz.prog 36 #[a, b] w fun e w' => e = .returned (.bool true) ∧ Bel w w' := by
  have h := isame_any _ _ a b l l w ha hb
  rw [decide_eq_true rfl] at h
  exact h
theorem wsame_yes {a b : Value} {l : List Nat} {w : World} (ha : mm.Ws (fun _ => False) w a l) (hb : mm.Ws (fun _ => False) w b l) :
    Calls Tryz.prog 13 #[a, b] w fun e w' => e = .returned (.bool true) ∧ Bel w w' := by
  have h := mm.wsame_any _ _ a b l l w ha hb
  rw [decide_eq_true rfl] at h
  exact h
theorem pb_refs' (s : Int) (hs : i64b' s) (h : IsD w v lo hi top R t P) :
    Calls Tryz.prog 21 #[v, .int .i64 s] w fun e w' => (∃ p n c, e = .returned (.tuple #[.slice p n c, .int .i64 (P.refsE R t s)]) ∧ n = (P.refsL R t s).length ∧ Is (fun _ => False) w' (.slice p n c) (P.refsL R t s)) ∧ Bel w w' := by
  refine (pb_refs s hs h).mono ?_
  rintro e w' ⟨⟨lv, rfl, hO⟩, g⟩
  obtain ⟨p, c, rfl⟩ := hO.shape
  exact ⟨⟨_, _, _, rfl, rfl, hO.is fun _ _ _ x => x⟩, g⟩
theorem rb_refs' (q : Value) (s : Int) (h : IsB X w q R t P) (ok : Bok P R t) :
    Calls Tryz.prog 44 #[q, .int .i64 s] w fun e w' => (∃ p n c, e = .returned (.tuple #[.slice p n c, .int .i64 (P.refsE R t s)]) ∧ n = (P.refsL R t s).length ∧ Is (fun _ => False) w' (.slice p n c) (P.refsL R t s)) ∧ Bel w w' := by
  refine (rb_refs q R t P s w h ok).mono ?_
  rintro e w' ⟨⟨lv, rfl, hO⟩, g⟩
  obtain ⟨p, c, rfl⟩ := hO.shape
  exact ⟨⟨_, _, _, rfl, rfl, hO.is fun _ _ _ x => x⟩, g⟩
theorem pb_words' (s : Int) (hs : i64b' s) (h : IsD w v lo hi top R t P) :
    Calls Tryz.prog 22 #[v, .int .i64 s] w fun e w' => (∃ p n c, e = .returned (.tuple #[.slice p n c, .int .i64 (P.hdE R t s)]) ∧ n = (P.wordsL R t s).length ∧ mm.Ws (fun _ => False) w' (.slice p n c) (P.wordsL R t s)) ∧ Bel w w' := by
  refine (pb_words s hs h).mono ?_
  rintro e w' ⟨⟨lv, rfl, hO⟩, g⟩
  obtain ⟨p, c, rfl⟩ := own64_shape hO
  exact ⟨⟨_, _, _, rfl, rfl, hO.ws fun _ _ _ x => x⟩, g⟩
theorem rb_words' (q : Value) (s : Int) (h : IsB X w q R t P) (ok : Bok P R t) :
    Calls Tryz.prog 45 #[q, .int .i64 s] w fun e w' => (∃ p n c, e = .returned (.tuple #[.slice p n c, .int .i64 (P.hdE R t s)]) ∧ n = (P.wordsL R t s).length ∧ mm.Ws (fun _ => False) w' (.slice p n c) (P.wordsL R t s)) ∧ Bel w w' := by
  refine (rb_words q R t P s w h ok).mono ?_
  rintro e w' ⟨⟨lv, rfl, hO⟩, g⟩
  obtain ⟨p, c, rfl⟩ := own64_shape hO
  exact ⟨⟨_, _, _, rfl, rfl, hO.ws fun _ _ _ x => x⟩, g⟩

set_option maxRecDepth 100000 in
set_option maxHeartbeats 4000000 in
theorem told_any (q : Value) (s : Int) (hs : i64b' s) (hD : IsD w v lo hi top R t P) (hq : IsB X w q R t P) :
    Calls Tryz.prog 12 #[v, q, .int .i64 s] w fun e w' => e = .returned (.bool true) ∧ Bel w w' := by
  have ok := hD.ok
  have hq0 := hq
  obtain ⟨pr, cr, bl, ol, cl, pf, cf, pm, cm, p, cap, rfl, _, _, _⟩ := hq.shape
  obtain ⟨pa, rfl⟩ := hD.ptr
  have hb := (Bel.refl w).alloc (.cells #[.slice pr R.length cr, .int .i64 (t : Nat), .slice (some ⟨bl, ol, none⟩) P.S cl, .slice pf P.T cf, .slice pm P.T cm, .int .i64 (P.W : Nat), .slice p P.n cap] 36)
  have m0 := heap_alloc_new w (.cells #[.slice pr R.length cr, .int .i64 (t : Nat), .slice (some ⟨bl, ol, none⟩) P.S cl, .slice pf P.T cf, .slice pm P.T cm, .int .i64 (P.W : Nat), .slice p P.n cap] 36)
  obtain ⟨W, hW⟩ : ∃ W, w.alloc (.cells #[.slice pr R.length cr, .int .i64 (t : Nat), .slice (some ⟨bl, ol, none⟩) P.S cl, .slice pf P.T cf, .slice pm P.T cm, .int .i64 (P.W : Nat), .slice p P.n cap] 36) = W := ⟨_, rfl⟩
  rw [hW] at hb m0
  have kk := fun W1 (g : Bel W W1) => (box7 (heap_bel g m0)).1
  obtain ⟨k0, k1, k2, k3, k4, k5, k6⟩ := kk _ (Bel.refl _)
  have c1 := pb_head s hs (hD.bel hb)
  have c2 := fun W1 (g : Bel W W1) => rb_head _ R t P s W1 (hq.bel (hb.trans g)) ok
  have c3 := fun W1 (g : Bel W W1) => pb_refs' s hs (hD.bel (hb.trans g))
  have c4 := fun W1 (g : Bel W W1) => rb_refs' _ s (hq.bel (hb.trans g)) ok
  have c5 := fun W1 (g : Bel W W1) => pb_words' s hs (hD.bel (hb.trans g))
  have c6 := fun W1 (g : Bel W W1) => rb_words' _ s (hq.bel (hb.trans g)) ok
  have hid := Lib.hid hb
  clear hq hq0 hD ok m0 hb hs
  generalize P.refsL R t s = RL at *
  generalize P.refsE R t s = RE at *
  generalize P.wordsL R t s = WL at *
  generalize P.hdE R t s = HE at *
  generalize P.hdC R t s = HC at *
  generalize P.hdR R t s = HR at *
  generalize P.hdN R t s = HN at *
  generalize P.S = S at *
  generalize P.T = TT at *
  generalize P.n = nn at *
  generalize R.length = rl at *
  generalize (P.W : Int) = V at *
  go_enter Tryz.func12, Tryz.ntmps12
  go_upto_region 1 with fail
  (try rw [hW])
  clear hW
  go_upto_region 7 with (first
    | (go_at_call 29; refine c1.mono ?_; rintro e w1 ⟨rfl, h1⟩
       have g1 := h1.alloc (.cells #[.int .i64 (HC : Nat), .int .i64 (HR : Nat), .int .i64 (HN : Nat)] 44)
       have b1 := heap_alloc_new w1 (.cells #[.int .i64 (HC : Nat), .int .i64 (HR : Nat), .int .i64 (HN : Nat)] 44)
       obtain ⟨k0, k1, k2, k3, k4, k5, k6⟩ := kk _ g1)
    | (go_at_call 43; refine (c2 _ g1).mono ?_; rintro e w2 ⟨rfl, h2⟩
       have g2 := (g1.trans h2).alloc (.cells #[.int .i64 (HC : Nat), .int .i64 (HR : Nat), .int .i64 (HN : Nat)] 44)
       have b2 := heap_alloc_new w2 (.cells #[.int .i64 (HC : Nat), .int .i64 (HR : Nat), .int .i64 (HN : Nat)] 44)
       have b1 := heap_bel (h2.alloc (.cells #[.int .i64 (HC : Nat), .int .i64 (HR : Nat), .int .i64 (HN : Nat)] 44)) b1)
    | (go_at_call 21; refine (c3 _ g2).mono ?_; rintro e w3 ⟨⟨p3, n3, c3', rfl, -, hI3⟩, h3⟩
       have g3 := g2.trans h3
       have b1 := heap_bel h3 b1
       have b2 := heap_bel h3 b2
       have hid3 := Lib.hid (And.intro hI3 h3)
       obtain ⟨k0, k1, k2, k3, k4, k5, k6⟩ := kk _ g3
       clear hI3)
    | (go_at_call 44; refine (c4 _ g3).mono ?_; rintro e w4 ⟨⟨p4, n4, c4', rfl, -, hI4⟩, h4⟩
       have g4 := g3.trans h4
       have b1 := heap_bel h4 b1
       have b2 := heap_bel h4 b2
       have hid4 := Lib.hid (And.intro hI4 (hid3.out.1.bel h4))
       clear hI4)
    | (go_at_call 22; refine (c5 _ g4).mono ?_; rintro e w5 ⟨⟨p5, n5, c5', rfl, -, hI5⟩, h5⟩
       have g5 := g4.trans h5
       have b1 := heap_bel h5 b1
       have b2 := heap_bel h5 b2
       have hid5 := Lib.hid (And.intro hI5 h5)
       obtain ⟨k0, k1, k2, k3, k4, k5, k6⟩ := kk _ g5
       clear hI5)
    | (go_at_call 45; refine (c6 _ g5).mono ?_; rintro e w6 ⟨⟨p6, n6, c6', rfl, -, hI6⟩, h6⟩
       have g6 := g5.trans h6
       obtain ⟨x0, x1, x2, _, _, _⟩ := box3 (heap_bel h6 b1)
       obtain ⟨y0, y1, y2, _, _, _⟩ := box3 (heap_bel h6 b2)
       have s1 := isame_yes (hid4.out.2.bel (h5.trans h6)) (hid4.out.1.bel (h5.trans h6))
       have hid6 := Lib.hid (And.intro hI6 (hid5.out.1.bel h6))
       clear hI6))
  clear c1 c2 c3 c4 c5 c6 kk k0 k1 k2 k3 k4 k5 k6 b1 b2 h1 h2 h3 h4 h5 h6 g1 g2 g3 g4 g5
  go_wp2_with (first
    | (go_at_call 36; refine s1.mono ?_; rintro e w7 ⟨rfl, h7⟩
       have s2 := wsame_yes (hid6.out.2.bel h7) (hid6.out.1.bel h7))
    | (go_at_call 13; refine s2.mono ?_; rintro e w8 ⟨rfl, h8⟩))
  go_ret
  exact ⟨rfl, hid.out.trans (g6.trans (h7.trans h8))⟩

end Go.Proofs.YthokalcibjjihaaGreatDoor
