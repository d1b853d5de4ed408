/- THE DOCUMENT'S BODIES: Make; which field; Ref, SetRef, Word, SetWord. -/
import Derived.Test.YthokalcibjjihaaGreatDoorRd
import Derived.Test.YthokalcibjjihaaGreatDoorMPm
namespace Go.Proofs.YthokalcibjjihaaGreatDoor
open Go.ChangeShapes Go.WideShapes Go.ChangeAt Go.RowKit Go.Deep hd
set_option linter.unusedVariables false
variable {X : Nat → Prop}

theorem seven_store {w : World} {g : Nat} {x0 x1 x2 x3 x4 x5 x6 : Value} {t : TypeId} (h : w.heap[g]? = some (.cells #[x0, x1, x2, x3, x4, x5, x6] t (0, 0))) (a b c d e f i : Value) :
    ∃ W, ((((((w.setCell ⟨g, 0, none⟩ a).setCell ⟨g, 1, none⟩ b).setCell ⟨g, 2, none⟩ c).setCell ⟨g, 3, none⟩ d).setCell ⟨g, 4, none⟩ e).setCell ⟨g, 5, none⟩ f).setCell ⟨g, 6, none⟩ i = W ∧
      W.heap[g]? = some (.cells #[a, b, c, d, e, f, i] t (0, 0)) ∧ Exc (fun k => k = g) w W :=
  ⟨_, rfl, seven_row h _ _ _ _ _ _ _, set7_exc w g a b c d e f i⟩
theorem blk_of_exc {Z : Nat → Prop} {w w' : World} (g : Exc Z w w') {k : Nat} {o : Obj} (h : w.heap[k]? = some o) (hk : ¬ Z k) : w'.heap[k]? = some o := (g.block k (heap_lt h) hk).trans h

namespace Pl
variable {P : Pl} {R : List (List Nat)} {t : Nat}
theorem mk_cases (s c r n : Int) : (P.isS s = false ∧ P.mkE R t s c r n = 2 ∧ P.mkM R t s c r n = R) ∨ (∃ s' : Nat, s = s' ∧ s' < P.S ∧ ((P.liesB s' c r n = false ∧ P.mkE R t s c r n = 2 ∧ P.mkM R t s c r n = R) ∨
    (P.liesB s' c r n = true ∧ P.hdE R t s = 0 ∧ P.mkE R t s c r n = 8 ∧ P.mkM R t s c r n = R) ∨
    (P.liesB s' c r n = true ∧ P.hdE R t s ≠ 0 ∧ P.mkE R t s c r n = 0 ∧ P.mkM R t s c r n = setR (wipe R t (P.ad s') (P.sz s')) t (P.ad s' + 0) (putR c r n)))) := by
  have no : ∀ x : Int, P.mkE R t s c r n = x → x ≠ 0 → P.mkM R t s c r n = R := fun x h k => by unfold mkM; rw [h, if_neg k]
  cases a : P.isS s
  · have e : P.mkE R t s c r n = 2 := by unfold mkE; rw [a]; rfl
    exact Or.inl ⟨rfl, e, no 2 e (by decide)⟩
  · obtain ⟨s', rfl, hs⟩ := isS_of a
    refine Or.inr ⟨s', rfl, hs, ?_⟩
    cases b : P.liesB s' c r n
    · have e : P.mkE R t s' c r n = 2 := by unfold mkE; rw [Int.toNat_natCast, b]; simp
      exact Or.inl ⟨rfl, e, no 2 e (by decide)⟩
    · by_cases z : P.hdE R t s' = 0
      · have e : P.mkE R t s' c r n = 8 := by unfold mkE; rw [Int.toNat_natCast, b, a, if_pos ⟨rfl, rfl⟩, if_pos z]
        exact Or.inr (Or.inl ⟨rfl, z, e, no 8 e (by decide)⟩)
      · have e : P.mkE R t s' c r n = 0 := by unfold mkE; rw [Int.toNat_natCast, b, a, if_pos ⟨rfl, rfl⟩, if_neg z]
        exact Or.inr (Or.inr ⟨rfl, z, e, by unfold mkM; rw [if_pos e, Int.toNat_natCast, Nat.add_zero]⟩)
theorem hd_okH {s : Int} (h : P.hdE R t s = 0) : okH (P.hdC R t s : Nat) (P.hdR R t s : Nat) (P.hdN R t s : Nat) = true := by
  obtain ⟨a, b⟩ := hd_ok h
  obtain ⟨s', rfl, hs⟩ := isS_of a
  rw [Int.toNat_natCast] at b
  obtain ⟨_, e1, e2, e3⟩ := hd_yes (R := R) (t := t) hs b
  rw [e1, e2, e3]
  unfold hasO liesB at b
  simp only [Bool.and_eq_true] at b
  exact b.2.1.1
/-- what Field says of the object's head, and what field answers -/
theorem fd_field {s i : Int} (h : P.hdE R t s = 0) (ref : Bool) :
    (∃ b, fieldR (P.hdC R t s : Nat) (P.hdR R t s : Nat) (P.hdN R t s : Nat) i = b ∧ fieldE (P.hdC R t s : Nat) (P.hdR R t s : Nat) (P.hdN R t s : Nat) i = 110 ∧ P.fdE R t s i ref = 110) ∨
    (fieldR (P.hdC R t s : Nat) (P.hdR R t s : Nat) (P.hdN R t s : Nat) i = ref ∧ fieldE (P.hdC R t s : Nat) (P.hdR R t s : Nat) (P.hdN R t s : Nat) i = 0 ∧ P.fdE R t s i ref = 0) ∨
    (fieldR (P.hdC R t s : Nat) (P.hdR R t s : Nat) (P.hdN R t s : Nat) i = !ref ∧ fieldE (P.hdC R t s : Nat) (P.hdR R t s : Nat) (P.hdN R t s : Nat) i = 0 ∧ P.fdE R t s i ref = 110) := by
  have ok := hd_okH h
  by_cases a : 0 ≤ i ∧ i < P.hdR R t s + P.hdN R t s
  · obtain ⟨e1, e2⟩ := field_in ok a.1 a.2
    rw [e1, e2]
    by_cases b : decide (i < P.hdR R t s) = ref
    · exact Or.inr (Or.inl ⟨b, rfl, by unfold fdE; rw [if_pos h, decide_eq_true a, b]; simp⟩)
    · refine Or.inr (Or.inr ⟨by cases ref <;> simp_all, rfl, ?_⟩)
      unfold fdE
      rw [if_pos h, if_neg]
      intro x
      rw [Bool.and_eq_true] at x
      exact b (by simpa using x.2)
  · obtain ⟨e1, e2⟩ := field_out (i := i) ok (by omega)
    refine Or.inl ⟨_, e1, e2, ?_⟩
    unfold fdE
    rw [if_pos h, if_neg]
    intro x
    rw [Bool.and_eq_true] at x
    exact a (of_decide_eq_true x.1)
end Pl

set_option maxHeartbeats 4000000 in
set_option maxRecDepth 10000 in
/-- Make -/
theorem rb_make (v : Value) (R : List (List Nat)) (t : Nat) (P : Pl) (s c r n : Int) (w : World) (h : IsB X w v R t P) (ok : Bok P R t) (hX : Till X w) (hc : i64b c) (hr : i64b r) (hn : i64b n) :
    Calls Tryz.prog 42 #[v, .int .i64 s, .agg #[.int .i64 c, .int .i64 r, .int .i64 n]] w fun e w' => (∃ v', e = .returned (.tuple #[v', .int .i64 (P.mkE R t s c r n)]) ∧ IsB X w' v' (P.mkM R t s c r n) t P) ∧ Bel w w' := by
  have hI := h
  obtain ⟨pr, cr, bl, ol, cl, pf, cf, pm, cm, p, cap, rfl, hL, hR, hQ⟩ := h.shape
  obtain ⟨t0, t1, t2, sW⟩ := mm.three_made w (.cells #[.slice pr R.length cr, .int .i64 (t : Nat), .slice (some ⟨bl, ol, none⟩) P.S cl, .slice pf P.T cf, .slice pm P.T cm, .int .i64 (P.W : Nat), .slice p P.n cap] 36) (.cells #[.int .i64 c, .int .i64 r, .int .i64 n] 44) (.cells #[.slice none 0 0, .int .i64 0, .slice none 0 0, .slice none 0 0, .slice none 0 0, .int .i64 0, .slice none 0 0] 36)
  have bt := (bel_two w (.cells #[.slice pr R.length cr, .int .i64 (t : Nat), .slice (some ⟨bl, ol, none⟩) P.S cl, .slice pf P.T cf, .slice pm P.T cm, .int .i64 (P.W : Nat), .slice p P.n cap] 36) (.cells #[.int .i64 c, .int .i64 r, .int .i64 n] 44)).alloc (.cells #[.slice none 0 0, .int .i64 0, .slice none 0 0, .slice none 0 0, .slice none 0 0, .int .i64 0, .slice none 0 0] 36)
  obtain ⟨W, hW⟩ : ∃ W, ((w.alloc (.cells #[.slice pr R.length cr, .int .i64 (t : Nat), .slice (some ⟨bl, ol, none⟩) P.S cl, .slice pf P.T cf, .slice pm P.T cm, .int .i64 (P.W : Nat), .slice p P.n cap] 36)).alloc (.cells #[.int .i64 c, .int .i64 r, .int .i64 n] 44)).alloc (.cells #[.slice none 0 0, .int .i64 0, .slice none 0 0, .slice none 0 0, .slice none 0 0, .int .i64 0, .slice none 0 0] 36) = W := ⟨_, rfl⟩
  rw [hW] at t0 t1 t2 bt sW
  have hs := has_any _ P s W (hQ.bel bt)
  change Calls _ _ _ _ fun e w' => e = .returned (.bool (P.isS s)) ∧ Bel W w' at hs
  have kk := fun W1 (g : Bel W W1) => And.intro (box7 (heap_bel g t0)).1 (And.intro (box3 (heap_bel g t1)) (box7 (heap_bel g t2)))
  obtain ⟨⟨k0, k1, k2, k3, k4, k5, k6⟩, ⟨u0, u1, u2, _, _, _⟩, ⟨z0, z1, z2, z3, z4, z5, z6⟩, f0, f1, f2, f3, f4, f5, f6⟩ := kk _ (Bel.refl _)
  rcases Pl.mk_cases (P := P) (R := R) (t := t) s c r n with ⟨a, e1, e2⟩ | ⟨s', rfl, hs', hm⟩
  · rw [a] at hs
    rw [e1, e2]
    have hid := Lib.hid (And.intro t2 (And.intro bt (And.intro kk hI)))
    clear t0 t1 t2 bt kk h hI hQ ok e1 e2 a hL hR sW hX hc hr hn
    generalize P.S = S at *
    generalize P.T = TT at *
    generalize P.n = nn at *
    generalize R.length = rl at *
    generalize (P.W : Int) = V at *
    go_enter Tryz.func42, Tryz.ntmps42
    go_upto_region 1 with fail
    (try rw [hW])
    clear hW
    go_wp2_with (go_at_call 18; refine hs.mono ?_; rintro e w1 ⟨rfl, h1⟩; obtain ⟨⟨k0, k1, k2, k3, k4, k5, k6⟩, ⟨u0, u1, u2, _, _, _⟩, ⟨z0, z1, z2, z3, z4, z5, z6⟩, f0, f1, f2, f3, f4, f5, f6⟩ := hid.out.2.2.1 _ h1)
    (try simp only [Exit.inBlock, Exit.then])
    refine bodyPost_ret (results_cell_row2 rfl _ _ _ 36 _ (0, 0) _ rfl (seven_row (heap_bel h1 hid.out.1) _ _ _ _ _ _ _) Tryz.underlying36 rfl info_b) rfl ?_
    obtain ⟨f1, f2⟩ := IsB.same (D := w.heap.size + 2) hid.out.2.2.2 (hid.out.2.1.trans h1) (by omega)
    exact ⟨⟨_, rfl, f1⟩, f2⟩
  · rw [Pl.isS_nat hs'] at hs
    have li := fun W1 (g : Bel W W1) => (rb_lies _ R t P s' c r n W1 (hI.bel (bt.trans g)) hs' hc hr hn).mono fun e w' ⟨x, y⟩ => (⟨x, g.trans y⟩ : _ ∧ Bel W w')
    have hd := fun W1 (g : Bel W W1) => (rb_head _ R t P s' W1 (hI.bel (bt.trans g)) ok).mono fun e w' ⟨x, y⟩ => (⟨x, g.trans y⟩ : _ ∧ Bel W w')
    rcases hm with ⟨a, e1, e2⟩ | ⟨a, z, e1, e2⟩ | ⟨a, z, e1, e2⟩
    · rw [a] at li
      rw [e1, e2]
      have hid := Lib.hid (And.intro t2 (And.intro bt (And.intro kk hI)))
      clear t0 t1 t2 bt kk h hI hQ ok e1 e2 a hL hR sW hX hc hr hn hs' hd
      generalize P.S = S at *
      generalize P.T = TT at *
      generalize P.n = nn at *
      generalize R.length = rl at *
      generalize (P.W : Int) = V at *
      go_enter Tryz.func42, Tryz.ntmps42
      go_upto_region 1 with fail
      (try rw [hW])
      clear hW
      go_wp2_with (first
        | (go_at_call 18; refine hs.mono ?_; rintro e w1 ⟨rfl, h1⟩; obtain ⟨⟨k0, k1, k2, k3, k4, k5, k6⟩, ⟨u0, u1, u2, _, _, _⟩, ⟨z0, z1, z2, z3, z4, z5, z6⟩, f0, f1, f2, f3, f4, f5, f6⟩ := hid.out.2.2.1 _ h1)
        | (go_at_call 87; refine (li _ h1).mono ?_; rintro e w2 ⟨rfl, h2⟩; obtain ⟨⟨k0, k1, k2, k3, k4, k5, k6⟩, ⟨u0, u1, u2, _, _, _⟩, ⟨z0, z1, z2, z3, z4, z5, z6⟩, f0, f1, f2, f3, f4, f5, f6⟩ := hid.out.2.2.1 _ h2))
      (try simp only [Exit.inBlock, Exit.then])
      refine bodyPost_ret (results_cell_row2 rfl _ _ _ 36 _ (0, 0) _ rfl (seven_row (heap_bel h2 hid.out.1) _ _ _ _ _ _ _) Tryz.underlying36 rfl info_b) rfl ?_
      obtain ⟨f1, f2⟩ := IsB.same (D := w.heap.size + 2) hid.out.2.2.2 (hid.out.2.1.trans h2) (by omega)
      exact ⟨⟨_, rfl, f1⟩, f2⟩
    · rw [a] at li
      rw [z] at hd
      rw [e1, e2]
      have hid := Lib.hid (And.intro t2 (And.intro bt (And.intro kk hI)))
      clear t0 t1 t2 bt kk h hI hQ ok e1 e2 a hL hR sW hX hc hr hn hs' z
      generalize P.hdC R t s' = HC at *
      generalize P.hdR R t s' = HR at *
      generalize P.hdN R t s' = HN at *
      generalize P.S = S at *
      generalize P.T = TT at *
      generalize P.n = nn at *
      generalize R.length = rl at *
      generalize (P.W : Int) = V at *
      go_enter Tryz.func42, Tryz.ntmps42
      go_upto_region 1 with fail
      (try rw [hW])
      clear hW
      go_wp2_with (first
        | (go_at_call 18; refine hs.mono ?_; rintro e w1 ⟨rfl, h1⟩; obtain ⟨⟨k0, k1, k2, k3, k4, k5, k6⟩, ⟨u0, u1, u2, _, _, _⟩, ⟨z0, z1, z2, z3, z4, z5, z6⟩, f0, f1, f2, f3, f4, f5, f6⟩ := hid.out.2.2.1 _ h1)
        | (go_at_call 87; refine (li _ h1).mono ?_; rintro e w2 ⟨rfl, h2⟩; obtain ⟨⟨k0, k1, k2, k3, k4, k5, k6⟩, ⟨u0, u1, u2, _, _, _⟩, ⟨z0, z1, z2, z3, z4, z5, z6⟩, f0, f1, f2, f3, f4, f5, f6⟩ := hid.out.2.2.1 _ h2)
        | (go_at_call 43; refine (hd _ h2).mono ?_; rintro e w3 ⟨rfl, h3⟩; have h4 := h3.alloc (.cells #[.int .i64 (HC : Nat), .int .i64 (HR : Nat), .int .i64 (HN : Nat)] 44); obtain ⟨⟨k0, k1, k2, k3, k4, k5, k6⟩, ⟨u0, u1, u2, _, _, _⟩, ⟨z0, z1, z2, z3, z4, z5, z6⟩, f0, f1, f2, f3, f4, f5, f6⟩ := hid.out.2.2.1 _ h4))
      (try simp only [Exit.inBlock, Exit.then])
      refine bodyPost_ret (results_cell_row2 rfl _ _ _ 36 _ (0, 0) _ rfl (seven_row (heap_bel h4 hid.out.1) _ _ _ _ _ _ _) Tryz.underlying36 rfl info_b) rfl ?_
      obtain ⟨f1, f2⟩ := IsB.same (D := w.heap.size + 2) hid.out.2.2.2 (hid.out.2.1.trans h4) (by omega)
      exact ⟨⟨_, rfl, f1⟩, f2⟩
    · rw [a] at li
      rw [e1, e2]
      have pt := fun W1 (g : Bel W W1) => (rput_h c r n W1 hc hr hn).mono fun e w' ⟨x, y⟩ => (⟨x, g.trans y⟩ : _ ∧ Bel W w')
      have hIY : IsB (fun k => X k ∨ (w.heap.size ≤ k ∧ k < w.heap.size + 3)) w _ R t P := (hI.old ok).less fun k hk => hk.imp id fun y => y.1
      have tl := fun W1 (g : w.heap.size + 3 ≤ W1.heap.size) => (show Till (fun k => X k ∨ (w.heap.size ≤ k ∧ k < w.heap.size + 3)) W1 from fun k hk => by
        rcases hk with hk | hk
        · have := hX k hk; omega
        · omega)
      have wi := fun W1 (g : Bel W W1) => (rb_wipe (X := fun k => X k ∨ (w.heap.size ≤ k ∧ k < w.heap.size + 3)) _ R t P s' W1 (hIY.bel (bt.trans g)) ok (tl _ (sW ▸ g.size))).mono fun e w' ⟨x, y⟩ => (⟨x, g.trans y⟩ : _ ∧ Bel W w')
      have ew : P.wpM R t s' = wipe R t (P.ad s') (P.sz s') := by unfold Pl.wpM; rw [if_pos (Pl.isS_nat hs'), Int.toNat_natCast]
      have zz := (Pl.ad_bd ok.pl.1 hs').2.2
      have st := fun W1 v6 (hB6 : IsB (fun k => X k ∨ (w.heap.size ≤ k ∧ k < w.heap.size + 3)) W1 v6 (P.wpM R t s') t P) (g : w.heap.size + 3 ≤ W1.heap.size) => rb_store (X := fun k => X k ∨ (w.heap.size ≤ k ∧ k < w.heap.size + 3)) v6 (P.wpM R t s') t P s' 0 (putR c r n) W1 hB6 (ew ▸ ok.wipe _ _) (tl _ g) hs' (by omega)
      rw [show ((0 : Nat) : Int) = 0 from rfl] at st
      rw [← ew]
      have e0 : P.wpE s' = 0 := by unfold Pl.wpE; rw [if_pos (Pl.isS_nat hs')]
      rw [e0] at wi
      generalize P.wpM R t s' = RW at *
      obtain ⟨RS, hRS⟩ : ∃ RS, setR RW t (P.ad s' + 0) (putR c r n) = RS := ⟨_, rfl⟩
      rw [hRS] at st ⊢
      have nz : ((P.hdE R t s' : Int) == 0) = false := by rw [beq_eq_false_iff_ne]; exact z
      have nz2 : decide ((P.hdE R t s' : Int) = 0) = false := decide_eq_false z
      have hid := Lib.hid (And.intro t0 (And.intro t2 (And.intro bt (And.intro kk sW))))
      clear t0 t1 t2 bt kk h hI hIY hQ ok e1 e2 a hL hR sW hX hc hr hn hs' z ew zz e0 hRS tl
      have hst := Lib.hid st
      clear st
      generalize P.hdE R t s' = HE at *
      generalize P.hdC R t s' = HC at *
      generalize P.hdR R t s' = HR at *
      generalize P.hdN R t s' = HN at *
      generalize putR c r n = PR at *
      generalize putE c r n = PE at *
      generalize R.length = rl at *
      go_enter Tryz.func42, Tryz.ntmps42
      go_upto_region 1 with fail
      (try rw [hW])
      clear hW
      go_wp2_with (first
        | (go_at_call 18; refine hs.mono ?_; rintro e w1 ⟨rfl, h1⟩; obtain ⟨⟨k0, k1, k2, k3, k4, k5, k6⟩, ⟨u0, u1, u2, _, _, _⟩, ⟨z0, z1, z2, z3, z4, z5, z6⟩, f0, f1, f2, f3, f4, f5, f6⟩ := hid.out.2.2.2.1 _ h1)
        | (go_at_call 87; refine (li _ h1).mono ?_; rintro e w2 ⟨rfl, h2⟩; obtain ⟨⟨k0, k1, k2, k3, k4, k5, k6⟩, ⟨u0, u1, u2, _, _, _⟩, ⟨z0, z1, z2, z3, z4, z5, z6⟩, f0, f1, f2, f3, f4, f5, f6⟩ := hid.out.2.2.2.1 _ h2)
        | (go_at_call 43; refine (hd _ h2).mono ?_; rintro e w3 ⟨rfl, h3⟩; have h4 := h3.alloc (.cells #[.int .i64 (HC : Nat), .int .i64 (HR : Nat), .int .i64 (HN : Nat)] 44); obtain ⟨⟨k0, k1, k2, k3, k4, k5, k6⟩, ⟨u0, u1, u2, _, _, _⟩, ⟨z0, z1, z2, z3, z4, z5, z6⟩, f0, f1, f2, f3, f4, f5, f6⟩ := hid.out.2.2.2.1 _ h4)
        | (go_at_call 88; refine (pt _ h4).mono ?_; rintro e w5 ⟨rfl, h5⟩; obtain ⟨⟨k0, k1, k2, k3, k4, k5, k6⟩, ⟨u0, u1, u2, _, _, _⟩, ⟨z0, z1, z2, z3, z4, z5, z6⟩, f0, f1, f2, f3, f4, f5, f6⟩ := hid.out.2.2.2.1 _ h5)
        | (go_at_call 41; refine (wi _ h5).mono ?_; rintro e w6 ⟨⟨v6, rfl, hB6⟩, h6⟩
           obtain ⟨pr6, cr6, bl6, ol6, cl6, pf6, cf6, pm6, cm6, p6, cap6, rfl, _, _, _⟩ := hB6.shape
           have q0 := heap_bel h6 hid.out.1
           obtain ⟨⟨k0, k1, k2, k3, k4, k5, k6⟩, g0, g1, g2, g3, g4, g5, g6⟩ := box7 q0
           obtain ⟨W7, hW7, hbx7, hE7⟩ := seven_store q0 (.slice pr6 RW.length cr6) (.int .i64 (t : Nat)) (.slice (some ⟨bl6, ol6, none⟩) P.S cl6) (.slice pf6 P.T cf6) (.slice pm6 P.T cm6) (.int .i64 (P.W : Nat)) (.slice p6 P.n cap6)
           have s6 := Nat.le_trans (hid.out.2.2.2.2 ▸ h6.size) hE7.size
           have b7 : Bel w W7 := Below.trans (hid.out.2.2.1.trans h6) (hE7.below (fun x hx => by omega) (by have := (hid.out.2.2.1.trans h6).size; omega))
           have st7 := hst.out W7 _ (hB6.exc (hE7.mono fun k hk => Or.inr (by omega))) s6
           have q2 := blk_of_exc hE7 (heap_bel h6 hid.out.2.1) (by omega)
           obtain ⟨⟨k0, k1, k2, k3, k4, k5, k6⟩, _⟩ := box7 hbx7
           have hid7 := Lib.hid (And.intro b7 (And.intro q2 s6))
           clear hB6 q0 hbx7 hE7 b7 q2 s6)
        | (go_at_call 84; refine st7.mono ?_; rintro e w8 ⟨⟨v8, rfl, hB8⟩, h8⟩
           obtain ⟨pr8, cr8, bl8, ol8, cl8, pf8, cf8, pm8, cm8, p8, cap8, rfl, _, _, _⟩ := hB8.shape
           have q2 := heap_bel h8 hid7.out.2.1
           obtain ⟨⟨z0, z1, z2, z3, z4, z5, z6⟩, f0, f1, f2, f3, f4, f5, f6⟩ := box7 q2
           have hid8 := Lib.hid (And.intro hB8 (And.intro q2 h8))
           clear hB8 q2 h8))
      (try simp only [Exit.inBlock, Exit.then])
      refine bodyPost_ret (results_cell_row2 rfl _ _ _ 36 _ (0, 0) _ rfl (seven_row hid8.out.2.1 _ _ _ _ _ _ _) Tryz.underlying36 rfl info_b) rfl ?_
      exact ⟨⟨_, rfl, IsB.put hid8.out.1 (Or.inr ⟨by omega, by omega⟩) fun k hk => Or.inl hk⟩, set7_below (hid7.out.1.trans hid8.out.2.2) (by omega) _ _ _ _ _ _ _⟩

end Go.Proofs.YthokalcibjjihaaGreatDoor

/- THE DOCUMENT'S BODIES: which field; Ref, SetRef, Word, SetWord. -/
namespace Go.Proofs.YthokalcibjjihaaGreatDoor
open Go.ChangeShapes Go.WideShapes Go.ChangeAt Go.RowKit Go.Deep hd
set_option linter.unusedVariables false
variable {X : Nat → Prop}

theorem box7_at {w W : World} {a b c d e f i : Value} {t : TypeId} (h : Bel (w.alloc (.cells #[a, b, c, d, e, f, i] t)) W) :
    W.cell? ⟨w.heap.size, 0, none⟩ = some a ∧ W.cell? ⟨w.heap.size, 1, none⟩ = some b ∧ W.cell? ⟨w.heap.size, 2, none⟩ = some c ∧ W.cell? ⟨w.heap.size, 3, none⟩ = some d ∧ W.cell? ⟨w.heap.size, 4, none⟩ = some e ∧ W.cell? ⟨w.heap.size, 5, none⟩ = some f ∧ W.cell? ⟨w.heap.size, 6, none⟩ = some i :=
  ⟨agg_at h 0, agg_at h 1, agg_at h 2, agg_at h 3, agg_at h 4, agg_at h 5, agg_at h 6⟩
theorem hd_lt {P : Pl} {R : List (List Nat)} {t : Nat} (s : Int) : i64b (P.hdC R t s : Nat) ∧ i64b (P.hdR R t s : Nat) ∧ i64b (P.hdN R t s : Nat) := by
  obtain ⟨a, b, c⟩ := parts_lt (P.slW R t s.toNat 0)
  unfold Pl.hdC Pl.hdR Pl.hdN i64b
  by_cases h : P.hdE R t s = 0
  · rw [if_pos h, if_pos h, if_pos h]; omega
  · rw [if_neg h, if_neg h, if_neg h]; omega

set_option maxHeartbeats 2000000 in
/-- which field -/
theorem rb_field (v : Value) (R : List (List Nat)) (t : Nat) (P : Pl) (s i : Int) (ref : Bool) (w : World) (h : IsB X w v R t P) (ok : Bok P R t) :
    Calls Tryz.prog 83 #[v, .int .i64 s, .int .i64 i, .bool ref] w fun e w' => e = .returned (.int .i64 (P.fdE R t s i ref)) ∧ Bel w w' := by
  have hI := h
  obtain ⟨pr, cr, bl, ol, cl, pf, cf, pm, cm, p, cap, rfl, _, _, _⟩ := h.shape
  have hb := (Bel.refl w).alloc (.cells #[.slice pr R.length cr, .int .i64 (t : Nat), .slice (some ⟨bl, ol, none⟩) P.S cl, .slice pf P.T cf, .slice pm P.T cm, .int .i64 (P.W : Nat), .slice p P.n cap] 36)
  have hd := fun W g => rb_head _ R t P s W (hI.bel (hb.trans g)) ok
  have ff := fun z => Pl.fd_field (P := P) (R := R) (t := t) (s := s) (i := i) z ref
  have fn := fun z => Pl.fd_none (P := P) (R := R) (t := t) (s := s) (i := i) (ref := ref) z
  obtain ⟨l1, l2, l3⟩ := hd_lt (P := P) (R := R) (t := t) s
  have fl := fun W => rfield_h (P.hdC R t s : Nat) (P.hdR R t s : Nat) (P.hdN R t s : Nat) i W l1 l2 l3
  obtain ⟨k0, k1, k2, k3, k4, k5, k6⟩ := box7_at (Bel.refl (w.alloc (.cells #[.slice pr R.length cr, .int .i64 (t : Nat), .slice (some ⟨bl, ol, none⟩) P.S cl, .slice pf P.T cf, .slice pm P.T cm, .int .i64 (P.W : Nat), .slice p P.n cap] 36)))
  clear h hI ok l1 l2 l3
  generalize P.fdE R t s i ref = F at *
  generalize P.hdE R t s = HE at *
  generalize fieldR (P.hdC R t s : Nat) (P.hdR R t s : Nat) (P.hdN R t s : Nat) i = FR at *
  generalize fieldE (P.hdC R t s : Nat) (P.hdR R t s : Nat) (P.hdN R t s : Nat) i = FE at *
  generalize P.hdC R t s = HC at *
  generalize P.hdR R t s = HR at *
  generalize P.hdN R t s = HN at *
  generalize P.S = S at *
  generalize P.T = TT at *
  generalize P.n = nn at *
  generalize R.length = rl at *
  generalize (P.W : Int) = V at *
  by_cases z : HE = 0
  · subst z
    have ff := ff rfl
    clear fn
    rcases ff with ⟨b, rfl, rfl, rfl⟩ | ⟨rfl, rfl, rfl⟩ | ⟨rfl, rfl, rfl⟩
    · go_enter Tryz.func83, Tryz.ntmps83
      go_wp2_with (first
        | (go_at_call 43; refine (hd _ (Bel.refl _)).mono ?_; rintro e w1 ⟨rfl, h1⟩; have h2 := (hb.trans h1).alloc (.cells #[.int .i64 (HC : Nat), .int .i64 (HR : Nat), .int .i64 (HN : Nat)] 44))
        | (go_at_call 118; refine (fl _).mono ?_; rintro e w3 ⟨rfl, h3⟩))
      go_ret
      exact ⟨rfl, h2.trans h3⟩
    · go_enter Tryz.func83, Tryz.ntmps83
      go_wp2_with (first
        | (go_at_call 43; refine (hd _ (Bel.refl _)).mono ?_; rintro e w1 ⟨rfl, h1⟩; have h2 := (hb.trans h1).alloc (.cells #[.int .i64 (HC : Nat), .int .i64 (HR : Nat), .int .i64 (HN : Nat)] 44))
        | (go_at_call 118; refine (fl _).mono ?_; rintro e w3 ⟨rfl, h3⟩))
      go_ret
      exact ⟨rfl, h2.trans h3⟩
    · cases ref
      · go_enter Tryz.func83, Tryz.ntmps83
        go_wp2_with (first
          | (go_at_call 43; refine (hd _ (Bel.refl _)).mono ?_; rintro e w1 ⟨rfl, h1⟩; have h2 := (hb.trans h1).alloc (.cells #[.int .i64 (HC : Nat), .int .i64 (HR : Nat), .int .i64 (HN : Nat)] 44))
          | (go_at_call 118; refine (fl _).mono ?_; rintro e w3 ⟨rfl, h3⟩))
        go_ret
        exact ⟨rfl, h2.trans h3⟩
      · go_enter Tryz.func83, Tryz.ntmps83
        go_wp2_with (first
          | (go_at_call 43; refine (hd _ (Bel.refl _)).mono ?_; rintro e w1 ⟨rfl, h1⟩; have h2 := (hb.trans h1).alloc (.cells #[.int .i64 (HC : Nat), .int .i64 (HR : Nat), .int .i64 (HN : Nat)] 44))
          | (go_at_call 118; refine (fl _).mono ?_; rintro e w3 ⟨rfl, h3⟩))
        go_ret
        exact ⟨rfl, h2.trans h3⟩
  · obtain rfl := fn z
    clear ff fn fl
    have nz : decide (F = 0) = false := decide_eq_false z
    have nz2 : (F == 0) = false := by rw [beq_eq_false_iff_ne]; exact z
    have nz3 : (F != 0) = true := by rw [bne_iff_ne]; exact z
    go_enter Tryz.func83, Tryz.ntmps83
    go_wp2_with (go_at_call 43; refine (hd _ (Bel.refl _)).mono ?_; rintro e w1 ⟨rfl, h1⟩; have h2 := (hb.trans h1).alloc (.cells #[.int .i64 (HC : Nat), .int .i64 (HR : Nat), .int .i64 (HN : Nat)] 44))
    go_ret
    exact ⟨rfl, h2⟩

set_option maxHeartbeats 2000000 in
/-- Ref -/
theorem rb_ref (v : Value) (R : List (List Nat)) (t : Nat) (P : Pl) (s i : Int) (w : World) (h : IsB X w v R t P) (ok : Bok P R t) :
    Calls Tryz.prog 39 #[v, .int .i64 s, .int .i64 i] w fun e w' => e = .returned (.tuple #[.int .i64 (P.rfR R t s i), .int .i64 (P.rfE R t s i)]) ∧ Bel w w' := by
  have hI := h
  obtain ⟨pr, cr, bl, ol, cl, pf, cf, pm, cm, p, cap, rfl, _, _, _⟩ := h.shape
  have hb := (Bel.refl w).alloc (.cells #[.slice pr R.length cr, .int .i64 (t : Nat), .slice (some ⟨bl, ol, none⟩) P.S cl, .slice pf P.T cf, .slice pm P.T cm, .int .i64 (P.W : Nat), .slice p P.n cap] 36)
  have kk := fun W g => box7_at (W := W) (w := w) (a := .slice pr R.length cr) (b := .int .i64 (t : Nat)) (c := .slice (some ⟨bl, ol, none⟩) P.S cl) (d := .slice pf P.T cf) (e := .slice pm P.T cm) (f := .int .i64 (P.W : Nat)) (i := .slice p P.n cap) (t := 36) g
  obtain ⟨k0, k1, k2, k3, k4, k5, k6⟩ := kk _ (Bel.refl _)
  have fd := fun W g => rb_field _ R t P s i true W (hI.bel (hb.trans g)) ok
  by_cases z : P.fdE R t s i true = 0
  · obtain ⟨S', I, rfl, rfl, hS, z1, hI2, hsz, _⟩ := Pl.fd_ok z
    have zz := (ok.pl.2.2.2.2.2)
    have h64 : P.sz S' ≤ 64 := by
      obtain ⟨k, j, hk, hj, rfl⟩ := Pl.slot_of hS
      rw [Pl.sz_at hk hj]
      exact (zz k hk).2.2.2.1
    have ld := fun W g => rb_load _ R t P S' (1 + I) W (hI.bel (hb.trans g)) ok hS (by omega)
    have hw := ok.w64 t (P.ad S' + (1 + I))
    have hS3 := ok.pl.2.1
    have e1 : P.rfE R t S' I = if P.S < P.slW R t S' (1 + I) then 5 else 0 := by unfold Pl.rfE; rw [if_pos z, Int.toNat_natCast, Int.toNat_natCast]
    have e2 : P.rfE R t S' I = 0 → P.rfR R t S' I = (P.slW R t S' (1 + I) : Int) - 1 := fun x => by unfold Pl.rfR; rw [if_pos x, Int.toNat_natCast, Int.toNat_natCast]
    have e3 : P.rfE R t S' I ≠ 0 → P.rfR R t S' I = 0 := fun x => by unfold Pl.rfR; rw [if_neg x]
    rw [z] at fd
    change P.slW R t S' (1 + I) < _ at hw
    have cI : ((1 + I : Nat) : Int) = 1 + (I : Int) := by omega
    have bI : (I : Int) ≤ 64 := by omega
    rw [cI] at ld
    clear h hI ok z z1 hI2 hsz zz h64 hS cI
    generalize P.rfR R t S' I = RR at *
    generalize P.rfE R t S' I = RE at *
    generalize P.slW R t S' (1 + I) = u at *
    generalize P.S = S at *
    generalize P.T = TT at *
    generalize P.n = nn at *
    generalize R.length = rl at *
    generalize (P.W : Int) = V at *
    by_cases a : S < u
    · rw [if_pos a] at e1
      subst e1
      obtain rfl := e3 (by decide)
      clear e2 e3
      have d1 : decide ((S : Int) < (u : Int)) = true := decide_eq_true (by omega)
      have d2 : decide (S < u) = true := decide_eq_true a
      go_enter Tryz.func39, Tryz.ntmps39
      go_wp2_with (first
        | (go_at_call 83; refine (fd _ (Bel.refl _)).mono ?_; rintro e w1 ⟨rfl, h1⟩; obtain ⟨k0, k1, k2, k3, k4, k5, k6⟩ := kk _ h1)
        | (go_at_call 85; refine (ld _ h1).mono ?_; rintro e w2 ⟨rfl, h2⟩; obtain ⟨k0, k1, k2, k3, k4, k5, k6⟩ := kk _ (h1.trans h2)))
      go_ret2
      exact ⟨rfl, hb.trans (h1.trans h2)⟩
    · rw [if_neg a] at e1
      subst e1
      obtain rfl := e2 rfl
      clear e2 e3
      have d1 : decide ((S : Int) < (u : Int)) = false := decide_eq_false (by omega)
      have d2 : decide (S < u) = false := decide_eq_false a
      have u3 : u ≤ 32768 := by omega
      go_enter Tryz.func39, Tryz.ntmps39
      go_wp2_with (first
        | (go_at_call 83; refine (fd _ (Bel.refl _)).mono ?_; rintro e w1 ⟨rfl, h1⟩; obtain ⟨k0, k1, k2, k3, k4, k5, k6⟩ := kk _ h1)
        | (go_at_call 85; refine (ld _ h1).mono ?_; rintro e w2 ⟨rfl, h2⟩; obtain ⟨k0, k1, k2, k3, k4, k5, k6⟩ := kk _ (h1.trans h2)))
      go_ret2
      exact ⟨rfl, hb.trans (h1.trans h2)⟩
  · have e1 : P.rfE R t s i = P.fdE R t s i true := by unfold Pl.rfE; rw [if_neg z]
    have e2 : P.rfR R t s i = 0 := by unfold Pl.rfR; rw [e1, if_neg z]
    rw [e1, e2]
    clear h hI ok e1 e2
    generalize P.fdE R t s i true = E at *
    generalize P.S = S at *
    generalize P.T = TT at *
    generalize P.n = nn at *
    generalize R.length = rl at *
    generalize (P.W : Int) = V at *
    have nz : decide (E = 0) = false := decide_eq_false z
    have nz2 : (E == 0) = false := by rw [beq_eq_false_iff_ne]; exact z
    have nz3 : (E != 0) = true := by rw [bne_iff_ne]; exact z
    go_enter Tryz.func39, Tryz.ntmps39
    go_wp2_with (go_at_call 83; refine (fd _ (Bel.refl _)).mono ?_; rintro e w1 ⟨rfl, h1⟩)
    go_ret2
    exact ⟨rfl, hb.trans h1⟩

set_option maxHeartbeats 2000000 in
/-- Word -/
theorem rb_word (v : Value) (R : List (List Nat)) (t : Nat) (P : Pl) (s i : Int) (w : World) (h : IsB X w v R t P) (ok : Bok P R t) :
    Calls Tryz.prog 40 #[v, .int .i64 s, .int .i64 i] w fun e w' => e = .returned (.tuple #[.int .u64 (P.wdR R t s i : Nat), .int .i64 (P.wdE R t s i)]) ∧ Bel w w' := by
  have hI := h
  obtain ⟨pr, cr, bl, ol, cl, pf, cf, pm, cm, p, cap, rfl, _, _, _⟩ := h.shape
  have hb := (Bel.refl w).alloc (.cells #[.slice pr R.length cr, .int .i64 (t : Nat), .slice (some ⟨bl, ol, none⟩) P.S cl, .slice pf P.T cf, .slice pm P.T cm, .int .i64 (P.W : Nat), .slice p P.n cap] 36)
  have kk := fun W g => box7_at (W := W) (w := w) (a := .slice pr R.length cr) (b := .int .i64 (t : Nat)) (c := .slice (some ⟨bl, ol, none⟩) P.S cl) (d := .slice pf P.T cf) (e := .slice pm P.T cm) (f := .int .i64 (P.W : Nat)) (i := .slice p P.n cap) (t := 36) g
  obtain ⟨k0, k1, k2, k3, k4, k5, k6⟩ := kk _ (Bel.refl _)
  have fd := fun W g => rb_field _ R t P s i false W (hI.bel (hb.trans g)) ok
  by_cases z : P.fdE R t s i false = 0
  · have e0 : P.wdE R t s i = 0 := z
    obtain ⟨S', I, rfl, rfl, hS, z1, hI2, hsz, _⟩ := Pl.fd_ok z
    have zz := (ok.pl.2.2.2.2.2)
    have h64 : P.sz S' ≤ 64 := by
      obtain ⟨k, j, hk, hj, rfl⟩ := Pl.slot_of hS
      rw [Pl.sz_at hk hj]
      exact (zz k hk).2.2.2.1
    have ld := fun W g => rb_load _ R t P S' (1 + I) W (hI.bel (hb.trans g)) ok hS (by omega)
    have e2 : P.wdR R t S' I = P.slW R t S' (1 + I) := by unfold Pl.wdR; rw [if_pos e0, Int.toNat_natCast, Int.toNat_natCast]
    rw [e2, e0]
    rw [z] at fd
    have cI : ((1 + I : Nat) : Int) = 1 + (I : Int) := by omega
    have bI : (I : Int) ≤ 64 := by omega
    rw [cI] at ld
    clear h hI ok z z1 hI2 hsz zz h64 hS cI e2 e0
    generalize P.slW R t S' (1 + I) = u at *
    generalize P.S = S at *
    generalize P.T = TT at *
    generalize P.n = nn at *
    generalize R.length = rl at *
    generalize (P.W : Int) = V at *
    go_enter Tryz.func40, Tryz.ntmps40
    go_wp2_with (first
      | (go_at_call 83; refine (fd _ (Bel.refl _)).mono ?_; rintro e w1 ⟨rfl, h1⟩; obtain ⟨k0, k1, k2, k3, k4, k5, k6⟩ := kk _ h1)
      | (go_at_call 85; refine (ld _ h1).mono ?_; rintro e w2 ⟨rfl, h2⟩))
    go_ret2
    exact ⟨rfl, hb.trans (h1.trans h2)⟩
  · have e1 : P.wdE R t s i = P.fdE R t s i false := rfl
    have e2 : P.wdR R t s i = 0 := by unfold Pl.wdR; rw [e1, if_neg z]
    rw [e1, e2]
    clear h hI ok e1 e2
    generalize P.fdE R t s i false = E at *
    generalize P.S = S at *
    generalize P.T = TT at *
    generalize P.n = nn at *
    generalize R.length = rl at *
    generalize (P.W : Int) = V at *
    have nz : decide (E = 0) = false := decide_eq_false z
    have nz2 : (E == 0) = false := by rw [beq_eq_false_iff_ne]; exact z
    have nz3 : (E != 0) = true := by rw [bne_iff_ne]; exact z
    go_enter Tryz.func40, Tryz.ntmps40
    go_wp2_with (go_at_call 83; refine (fd _ (Bel.refl _)).mono ?_; rintro e w1 ⟨rfl, h1⟩)
    go_ret2
    exact ⟨rfl, hb.trans h1⟩

end Go.Proofs.YthokalcibjjihaaGreatDoor

/- THE DOCUMENT'S BODIES: SetRef, SetWord. -/
namespace Go.Proofs.YthokalcibjjihaaGreatDoor
open Go.ChangeShapes Go.WideShapes Go.ChangeAt Go.RowKit Go.Deep hd
set_option linter.unusedVariables false
variable {X : Nat → Prop}

namespace Pl
variable {P : Pl} {R : List (List Nat)} {t : Nat}
theorem sz_le (ok : PlOk P) {s : Nat} (hS : s < P.S) : P.sz s ≤ 64 ∧ P.cls s ≤ 7 := by
  obtain ⟨k, j, hk, hj, rfl⟩ := slot_of hS
  rw [sz_at hk hj, cls_at hk hj]
  have := ok.2.2.2.2.1
  exact ⟨(ok.2.2.2.2.2 k hk).2.2.2.1, by omega⟩
/-- a field that is there, in the words of the walks -/
theorem fd_at (ok : PlOk P) {s i : Int} {ref : Bool} (h : P.fdE R t s i ref = 0) : ∃ S' I : Nat, s = S' ∧ i = I ∧ S' < P.S ∧ 1 + I < P.sz S' ∧ 1 + I ≤ 64 ∧ ((1 + I : Nat) : Int) = 1 + (I : Int) ∧ (I : Int) ≤ 64 := by
  obtain ⟨S', I, e1, e2, hS, _, _, hsz, _⟩ := fd_ok h
  have := (sz_le ok hS).1
  exact ⟨S', I, e1, e2, hS, hsz, by omega, by omega, by omega⟩
end Pl

set_option maxHeartbeats 2000000 in
set_option maxRecDepth 10000 in
/-- SetWord -/
theorem rb_setword (v : Value) (R : List (List Nat)) (t : Nat) (P : Pl) (s i : Int) (u : Nat) (w : World) (h : IsB X w v R t P) (ok : Bok P R t) (hX : Till X w) :
    Calls Tryz.prog 38 #[v, .int .i64 s, .int .i64 i, .int .u64 (u : Nat)] w fun e w' => (∃ v', e = .returned (.tuple #[v', .int .i64 (P.wdE R t s i)]) ∧ IsB X w' v' (P.swM R t s i u) t P) ∧ Bel w w' := by
  have hI := h
  obtain ⟨pr, cr, bl, ol, cl, pf, cf, pm, cm, p, cap, rfl, _, _, _⟩ := h.shape
  have tb := two w (.cells #[.slice pr R.length cr, .int .i64 (t : Nat), .slice (some ⟨bl, ol, none⟩) P.S cl, .slice pf P.T cf, .slice pm P.T cm, .int .i64 (P.W : Nat), .slice p P.n cap] 36) (.cells #[.slice none 0 0, .int .i64 0, .slice none 0 0, .slice none 0 0, .slice none 0 0, .int .i64 0, .slice none 0 0] 36)
  have bt := bel_two w (.cells #[.slice pr R.length cr, .int .i64 (t : Nat), .slice (some ⟨bl, ol, none⟩) P.S cl, .slice pf P.T cf, .slice pm P.T cm, .int .i64 (P.W : Nat), .slice p P.n cap] 36) (.cells #[.slice none 0 0, .int .i64 0, .slice none 0 0, .slice none 0 0, .slice none 0 0, .int .i64 0, .slice none 0 0] 36)
  have sW : ((w.alloc (.cells #[.slice pr R.length cr, .int .i64 (t : Nat), .slice (some ⟨bl, ol, none⟩) P.S cl, .slice pf P.T cf, .slice pm P.T cm, .int .i64 (P.W : Nat), .slice p P.n cap] 36)).alloc (.cells #[.slice none 0 0, .int .i64 0, .slice none 0 0, .slice none 0 0, .slice none 0 0, .int .i64 0, .slice none 0 0] 36)).heap.size = w.heap.size + 2 := by show ((w.heap.push _).push _).size = _; simp
  obtain ⟨W, hW⟩ : ∃ W, (w.alloc (.cells #[.slice pr R.length cr, .int .i64 (t : Nat), .slice (some ⟨bl, ol, none⟩) P.S cl, .slice pf P.T cf, .slice pm P.T cm, .int .i64 (P.W : Nat), .slice p P.n cap] 36)).alloc (.cells #[.slice none 0 0, .int .i64 0, .slice none 0 0, .slice none 0 0, .slice none 0 0, .int .i64 0, .slice none 0 0] 36) = W := ⟨_, rfl⟩
  rw [hW] at tb bt sW
  have kk := fun W1 (g : Bel W W1) => And.intro (box7 (heap_bel g tb.1)).1 (box7 (heap_bel g tb.2))
  obtain ⟨⟨k0, k1, k2, k3, k4, k5, k6⟩, _⟩ := kk _ (Bel.refl _)
  have fd := fun W1 (g : Bel W W1) => (rb_field _ R t P s i false W1 (hI.bel (bt.trans g)) ok).mono fun e w' ⟨x, y⟩ => (⟨x, g.trans y⟩ : _ ∧ Bel W w')
  by_cases z : P.fdE R t s i false = 0
  · have e0 : P.wdE R t s i = 0 := z
    have z0 := z
    obtain ⟨S', I, rfl, rfl, hS, hsz, h64, cI, bI⟩ := Pl.fd_at ok.pl z
    have eM : P.swM R t S' I u = setR R t (P.ad S' + (1 + I)) u := by unfold Pl.swM; rw [if_pos e0, Int.toNat_natCast, Int.toNat_natCast, Nat.add_assoc]
    rw [eM, e0]
    rw [z] at fd
    have hIY : IsB (fun k => X k ∨ (w.heap.size ≤ k ∧ k < w.heap.size + 2)) w _ R t P := (hI.old ok).less fun k hk => hk.imp id fun y => y.1
    have st := fun W1 (g : Bel W W1) => (rb_store (X := fun k => X k ∨ (w.heap.size ≤ k ∧ k < w.heap.size + 2)) _ R t P S' (1 + I) u W1 (hIY.bel (bt.trans g)) ok (fun k hk => by
      have := sW ▸ g.size
      rcases hk with hk | hk
      · have := hX k hk; omega
      · omega) hS hsz).mono fun e w' ⟨x, y⟩ => (⟨x, g.trans y⟩ : _ ∧ Bel W w')
    rw [cI] at st
    have hid := Lib.hid (And.intro tb (And.intro bt kk))
    clear tb bt kk h hI ok z z0 e0 eM hX sW hIY hS hsz h64 cI
    generalize R.length = rl at *
    go_enter Tryz.func38, Tryz.ntmps38
    go_upto_region 1 with fail
    (try rw [hW])
    clear hW
    go_wp2_with (first
      | (go_at_call 83; refine (fd _ (Bel.refl _)).mono ?_; rintro e w1 ⟨rfl, h1⟩; obtain ⟨⟨k0, k1, k2, k3, k4, k5, k6⟩, _⟩ := hid.out.2.2 _ h1)
      | (go_at_call 84; refine (st _ h1).mono ?_; rintro e w8 ⟨⟨v8, rfl, hB8⟩, h8⟩
         obtain ⟨pr8, cr8, bl8, ol8, cl8, pf8, cf8, pm8, cm8, p8, cap8, rfl, _, _, _⟩ := hB8.shape
         obtain ⟨_, ⟨z0, z1, z2, z3, z4, z5, z6⟩, f0, f1, f2, f3, f4, f5, f6⟩ := hid.out.2.2 _ h8
         have hid8 := Lib.hid hB8
         clear hB8))
    (try simp only [Exit.inBlock, Exit.then])
    refine bodyPost_ret (results_cell_row2 rfl _ _ _ 36 _ (0, 0) _ rfl (seven_row (heap_bel h8 hid.out.1.2) _ _ _ _ _ _ _) Tryz.underlying36 rfl info_b) rfl ?_
    exact ⟨⟨_, rfl, IsB.put hid8.out (Or.inr ⟨by omega, by omega⟩) fun k hk => Or.inl hk⟩, set7_below (hid.out.2.1.trans h8) (by omega) _ _ _ _ _ _ _⟩
  · have e1 : P.wdE R t s i = P.fdE R t s i false := rfl
    have eM : P.swM R t s i u = R := by unfold Pl.swM; rw [e1, if_neg z]
    rw [eM, e1]
    have hid := Lib.hid (And.intro tb (And.intro bt (And.intro kk hI)))
    clear tb bt kk h hI ok e1 eM hX sW
    generalize P.fdE R t s i false = E at *
    generalize R.length = rl at *
    have nz : decide (E = 0) = false := decide_eq_false z
    have nz2 : (E == 0) = false := by rw [beq_eq_false_iff_ne]; exact z
    have nz3 : (E != 0) = true := by rw [bne_iff_ne]; exact z
    go_enter Tryz.func38, Tryz.ntmps38
    go_upto_region 1 with fail
    (try rw [hW])
    clear hW
    go_wp2_with (go_at_call 83; refine (fd _ (Bel.refl _)).mono ?_; rintro e w1 ⟨rfl, h1⟩; obtain ⟨⟨k0, k1, k2, k3, k4, k5, k6⟩, ⟨z0, z1, z2, z3, z4, z5, z6⟩, f0, f1, f2, f3, f4, f5, f6⟩ := hid.out.2.2.1 _ h1)
    (try simp only [Exit.inBlock, Exit.then])
    refine bodyPost_ret (results_cell_row2 rfl _ _ _ 36 _ (0, 0) _ rfl (seven_row (heap_bel h1 hid.out.1.2) _ _ _ _ _ _ _) Tryz.underlying36 rfl info_b) rfl ?_
    obtain ⟨f1, f2⟩ := IsB.same (D := w.heap.size + 1) hid.out.2.2.2 (hid.out.2.1.trans h1) (by omega)
    exact ⟨⟨_, rfl, f1⟩, f2⟩

namespace Pl
variable {P : Pl} {R : List (List Nat)} {t : Nat}
/-- which way SetRef goes -/
theorem sr_cases (ok : PlOk P) (s i q : Int) :
    (P.isS s = false ∧ P.srE R t s i q = 2 ∧ P.srM R t s i q = R) ∨ (P.isS s = true ∧ q < -1 ∧ P.srE R t s i q = 2 ∧ P.srM R t s i q = R) ∨ (P.isS s = true ∧ ¬ q < -1 ∧ (P.S : Int) ≤ q ∧ P.srE R t s i q = 2 ∧ P.srM R t s i q = R) ∨
    (P.isS s = true ∧ ¬ q < -1 ∧ ¬ (P.S : Int) ≤ q ∧ ((P.fdE R t s i true ≠ 0 ∧ P.srE R t s i q = P.fdE R t s i true ∧ P.srM R t s i q = R) ∨
      (P.fdE R t s i true = 0 ∧ P.srE R t s i q = 0 ∧ ∃ S' I T : Nat, s = S' ∧ i = I ∧ q + 1 = T ∧ T ≤ 32768 ∧ S' < P.S ∧ 1 + I < P.sz S' ∧ 1 + I ≤ 64 ∧ ((1 + I : Nat) : Int) = 1 + (I : Int) ∧ (I : Int) ≤ 64 ∧ P.srM R t s i q = setR R t (P.ad S' + (1 + I)) T))) := by
  have no : ∀ x : Int, P.srE R t s i q = x → x ≠ 0 → P.srM R t s i q = R := fun x h k => by unfold srM; rw [h, if_neg k]
  cases a : P.isS s
  · have e : P.srE R t s i q = 2 := by unfold srE; rw [a]; rfl
    exact Or.inl ⟨rfl, e, no 2 e (by decide)⟩
  · by_cases b : q < -1
    · have e : P.srE R t s i q = 2 := by unfold srE; rw [if_neg (by omega)]
      exact Or.inr (Or.inl ⟨rfl, b, e, no 2 e (by decide)⟩)
    · by_cases c : (P.S : Int) ≤ q
      · have e : P.srE R t s i q = 2 := by unfold srE; rw [if_neg (by omega)]
        exact Or.inr (Or.inr (Or.inl ⟨rfl, b, c, e, no 2 e (by decide)⟩))
      · have e : P.srE R t s i q = P.fdE R t s i true := by unfold srE; rw [if_pos ⟨a, by omega, by omega⟩]
        refine Or.inr (Or.inr (Or.inr ⟨rfl, b, c, ?_⟩))
        by_cases z : P.fdE R t s i true = 0
        · obtain ⟨S', I, rfl, rfl, hS, hsz, h64, cI, bI⟩ := fd_at ok z
          have := ok.2.1
          exact Or.inr ⟨z, e.trans z, S', I, (q + 1).toNat, rfl, rfl, by omega, by omega, hS, hsz, h64, cI, bI, by unfold srM; rw [if_pos (e.trans z), Int.toNat_natCast, Int.toNat_natCast, Nat.add_assoc]⟩
        · exact Or.inl ⟨z, e, no _ e z⟩
end Pl

set_option maxHeartbeats 2000000 in
set_option maxRecDepth 10000 in
/-- SetRef -/
theorem rb_setref (v : Value) (R : List (List Nat)) (t : Nat) (P : Pl) (s i q : Int) (w : World) (h : IsB X w v R t P) (ok : Bok P R t) (hX : Till X w) :
    Calls Tryz.prog 37 #[v, .int .i64 s, .int .i64 i, .int .i64 q] w fun e w' => (∃ v', e = .returned (.tuple #[v', .int .i64 (P.srE R t s i q)]) ∧ IsB X w' v' (P.srM R t s i q) t P) ∧ Bel w w' := by
  have hI := h
  obtain ⟨pr, cr, bl, ol, cl, pf, cf, pm, cm, p, cap, rfl, _, _, hQ⟩ := h.shape
  have tb := two w (.cells #[.slice pr R.length cr, .int .i64 (t : Nat), .slice (some ⟨bl, ol, none⟩) P.S cl, .slice pf P.T cf, .slice pm P.T cm, .int .i64 (P.W : Nat), .slice p P.n cap] 36) (.cells #[.slice none 0 0, .int .i64 0, .slice none 0 0, .slice none 0 0, .slice none 0 0, .int .i64 0, .slice none 0 0] 36)
  have bt := bel_two w (.cells #[.slice pr R.length cr, .int .i64 (t : Nat), .slice (some ⟨bl, ol, none⟩) P.S cl, .slice pf P.T cf, .slice pm P.T cm, .int .i64 (P.W : Nat), .slice p P.n cap] 36) (.cells #[.slice none 0 0, .int .i64 0, .slice none 0 0, .slice none 0 0, .slice none 0 0, .int .i64 0, .slice none 0 0] 36)
  have sW : ((w.alloc (.cells #[.slice pr R.length cr, .int .i64 (t : Nat), .slice (some ⟨bl, ol, none⟩) P.S cl, .slice pf P.T cf, .slice pm P.T cm, .int .i64 (P.W : Nat), .slice p P.n cap] 36)).alloc (.cells #[.slice none 0 0, .int .i64 0, .slice none 0 0, .slice none 0 0, .slice none 0 0, .int .i64 0, .slice none 0 0] 36)).heap.size = w.heap.size + 2 := by show ((w.heap.push _).push _).size = _; simp
  obtain ⟨W, hW⟩ : ∃ W, (w.alloc (.cells #[.slice pr R.length cr, .int .i64 (t : Nat), .slice (some ⟨bl, ol, none⟩) P.S cl, .slice pf P.T cf, .slice pm P.T cm, .int .i64 (P.W : Nat), .slice p P.n cap] 36)).alloc (.cells #[.slice none 0 0, .int .i64 0, .slice none 0 0, .slice none 0 0, .slice none 0 0, .int .i64 0, .slice none 0 0] 36) = W := ⟨_, rfl⟩
  rw [hW] at tb bt sW
  have kk := fun W1 (g : Bel W W1) => And.intro (box7 (heap_bel g tb.1)).1 (box7 (heap_bel g tb.2))
  obtain ⟨⟨k0, k1, k2, k3, k4, k5, k6⟩, _⟩ := kk _ (Bel.refl _)
  have fd := fun W1 (g : Bel W W1) => (rb_field _ R t P s i true W1 (hI.bel (bt.trans g)) ok).mono fun e w' ⟨x, y⟩ => (⟨x, g.trans y⟩ : _ ∧ Bel W w')
  have hs := has_any _ P s W (hQ.bel bt)
  change Calls _ _ _ _ fun e w' => e = .returned (.bool (P.isS s)) ∧ Bel W w' at hs
  rcases Pl.sr_cases (R := R) (t := t) ok.pl s i q with ⟨a, e1, e2⟩ | ⟨a, b, e1, e2⟩ | ⟨a, b, c, e1, e2⟩ | ⟨a, b, c, ⟨z, e1, e2⟩ | ⟨z, e1, S', I, T, rfl, rfl, hT, bT, hS, hsz, h64, cI, bI, e2⟩⟩
  · rw [a] at hs
    rw [e1, e2]
    have hid := Lib.hid (And.intro tb (And.intro bt (And.intro kk hI)))
    clear tb bt kk h hI ok e1 e2 hX sW a fd hQ
    generalize R.length = rl at *
    go_enter Tryz.func37, Tryz.ntmps37
    go_upto_region 1 with fail
    (try rw [hW])
    clear hW
    go_wp2_with (go_at_call 18; refine hs.mono ?_; rintro e w1 ⟨rfl, h1⟩; obtain ⟨⟨k0, k1, k2, k3, k4, k5, k6⟩, ⟨z0, z1, z2, z3, z4, z5, z6⟩, f0, f1, f2, f3, f4, f5, f6⟩ := hid.out.2.2.1 _ h1)
    (try simp only [Exit.inBlock, Exit.then])
    refine bodyPost_ret (results_cell_row2 rfl _ _ _ 36 _ (0, 0) _ rfl (seven_row (heap_bel h1 hid.out.1.2) _ _ _ _ _ _ _) Tryz.underlying36 rfl info_b) rfl ?_
    obtain ⟨f1, f2⟩ := IsB.same (D := w.heap.size + 1) hid.out.2.2.2 (hid.out.2.1.trans h1) (by omega)
    exact ⟨⟨_, rfl, f1⟩, f2⟩
  · rw [a] at hs
    rw [e1, e2]
    have d1 : decide (q < -1) = true := decide_eq_true b
    have hid := Lib.hid (And.intro tb (And.intro bt (And.intro kk hI)))
    clear tb bt kk h hI ok e1 e2 hX sW a fd hQ
    generalize R.length = rl at *
    go_enter Tryz.func37, Tryz.ntmps37
    go_upto_region 1 with fail
    (try rw [hW])
    clear hW
    go_wp2_with (go_at_call 18; refine hs.mono ?_; rintro e w1 ⟨rfl, h1⟩; obtain ⟨⟨k0, k1, k2, k3, k4, k5, k6⟩, ⟨z0, z1, z2, z3, z4, z5, z6⟩, f0, f1, f2, f3, f4, f5, f6⟩ := hid.out.2.2.1 _ h1)
    (try simp only [Exit.inBlock, Exit.then])
    refine bodyPost_ret (results_cell_row2 rfl _ _ _ 36 _ (0, 0) _ rfl (seven_row (heap_bel h1 hid.out.1.2) _ _ _ _ _ _ _) Tryz.underlying36 rfl info_b) rfl ?_
    obtain ⟨f1, f2⟩ := IsB.same (D := w.heap.size + 1) hid.out.2.2.2 (hid.out.2.1.trans h1) (by omega)
    exact ⟨⟨_, rfl, f1⟩, f2⟩
  · rw [a] at hs
    rw [e1, e2]
    have d1 : decide (q < -1) = false := decide_eq_false b
    have d2 : decide ((P.S : Int) ≤ q) = true := decide_eq_true c
    have hid := Lib.hid (And.intro tb (And.intro bt (And.intro kk hI)))
    clear tb bt kk h hI ok e1 e2 hX sW a fd hQ
    generalize P.S = S at *
    generalize R.length = rl at *
    go_enter Tryz.func37, Tryz.ntmps37
    go_upto_region 1 with fail
    (try rw [hW])
    clear hW
    go_wp2_with (go_at_call 18; refine hs.mono ?_; rintro e w1 ⟨rfl, h1⟩; obtain ⟨⟨k0, k1, k2, k3, k4, k5, k6⟩, ⟨z0, z1, z2, z3, z4, z5, z6⟩, f0, f1, f2, f3, f4, f5, f6⟩ := hid.out.2.2.1 _ h1)
    (try simp only [Exit.inBlock, Exit.then])
    refine bodyPost_ret (results_cell_row2 rfl _ _ _ 36 _ (0, 0) _ rfl (seven_row (heap_bel h1 hid.out.1.2) _ _ _ _ _ _ _) Tryz.underlying36 rfl info_b) rfl ?_
    obtain ⟨f1, f2⟩ := IsB.same (D := w.heap.size + 1) hid.out.2.2.2 (hid.out.2.1.trans h1) (by omega)
    exact ⟨⟨_, rfl, f1⟩, f2⟩
  · rw [a] at hs
    rw [e1, e2]
    have d1 : decide (q < -1) = false := decide_eq_false b
    have d2 : decide ((P.S : Int) ≤ q) = false := decide_eq_false c
    have hid := Lib.hid (And.intro tb (And.intro bt (And.intro kk hI)))
    clear tb bt kk h hI ok e1 e2 hX sW a hQ
    generalize P.fdE R t s i true = E at *
    generalize P.S = S at *
    generalize R.length = rl at *
    have nz : decide (E = 0) = false := decide_eq_false z
    have nz2 : (E == 0) = false := by rw [beq_eq_false_iff_ne]; exact z
    have nz3 : (E != 0) = true := by rw [bne_iff_ne]; exact z
    go_enter Tryz.func37, Tryz.ntmps37
    go_upto_region 1 with fail
    (try rw [hW])
    clear hW
    go_wp2_with (first
      | (go_at_call 18; refine hs.mono ?_; rintro e w1 ⟨rfl, h1⟩; obtain ⟨⟨k0, k1, k2, k3, k4, k5, k6⟩, _⟩ := hid.out.2.2.1 _ h1)
      | (go_at_call 83; refine (fd _ h1).mono ?_; rintro e w2 ⟨rfl, h2⟩; obtain ⟨⟨k0, k1, k2, k3, k4, k5, k6⟩, ⟨z0, z1, z2, z3, z4, z5, z6⟩, f0, f1, f2, f3, f4, f5, f6⟩ := hid.out.2.2.1 _ h2))
    (try simp only [Exit.inBlock, Exit.then])
    refine bodyPost_ret (results_cell_row2 rfl _ _ _ 36 _ (0, 0) _ rfl (seven_row (heap_bel h2 hid.out.1.2) _ _ _ _ _ _ _) Tryz.underlying36 rfl info_b) rfl ?_
    obtain ⟨f1, f2⟩ := IsB.same (D := w.heap.size + 1) hid.out.2.2.2 (hid.out.2.1.trans h2) (by omega)
    exact ⟨⟨_, rfl, f1⟩, f2⟩
  · rw [a] at hs
    rw [z] at fd
    rw [e1, e2]
    have d1 : decide (q < -1) = false := decide_eq_false b
    have d2 : decide ((P.S : Int) ≤ q) = false := decide_eq_false c
    have hIY : IsB (fun k => X k ∨ (w.heap.size ≤ k ∧ k < w.heap.size + 2)) w _ R t P := (hI.old ok).less fun k hk => hk.imp id fun y => y.1
    have st := fun W1 (g : Bel W W1) => (rb_store (X := fun k => X k ∨ (w.heap.size ≤ k ∧ k < w.heap.size + 2)) _ R t P S' (1 + I) T W1 (hIY.bel (bt.trans g)) ok (fun k hk => by
      have := sW ▸ g.size
      rcases hk with hk | hk
      · have := hX k hk; omega
      · omega) hS hsz).mono fun e w' ⟨x, y⟩ => (⟨x, g.trans y⟩ : _ ∧ Bel W w')
    rw [cI] at st
    have hid := Lib.hid (And.intro tb (And.intro bt kk))
    clear tb bt kk h hI ok z e1 e2 hX sW hIY hS hsz h64 cI a hQ
    have hB := Lib.hid st
    have t1 : -1 ≤ q := by omega
    have t2 : q ≤ 32768 := by omega
    generalize R.length = rl at *
    go_enter Tryz.func37, Tryz.ntmps37
    go_upto_region 1 with fail
    (try rw [hW])
    clear hW
    go_wp2_with (first
      | (go_at_call 18; refine hs.mono ?_; rintro e w1 ⟨rfl, h1⟩; obtain ⟨⟨k0, k1, k2, k3, k4, k5, k6⟩, _⟩ := hid.out.2.2 _ h1)
      | (go_at_call 83; refine (fd _ h1).mono ?_; rintro e w2 ⟨rfl, h2⟩; obtain ⟨⟨k0, k1, k2, k3, k4, k5, k6⟩, _⟩ := hid.out.2.2 _ h2)
      | (go_at_call 84; refine (st _ h2).mono ?_; rintro e w8 ⟨⟨v8, rfl, hB8⟩, h8⟩
         obtain ⟨pr8, cr8, bl8, ol8, cl8, pf8, cf8, pm8, cm8, p8, cap8, rfl, _, _, _⟩ := hB8.shape
         obtain ⟨_, ⟨z0, z1, z2, z3, z4, z5, z6⟩, f0, f1, f2, f3, f4, f5, f6⟩ := hid.out.2.2 _ h8
         have hid8 := Lib.hid hB8
         clear hB8))
    (try simp only [Exit.inBlock, Exit.then])
    refine bodyPost_ret (results_cell_row2 rfl _ _ _ 36 _ (0, 0) _ rfl (seven_row (heap_bel h8 hid.out.1.2) _ _ _ _ _ _ _) Tryz.underlying36 rfl info_b) rfl ?_
    exact ⟨⟨_, rfl, IsB.put hid8.out (Or.inr ⟨by omega, by omega⟩) fun k hk => Or.inl hk⟩, set7_below (hid.out.2.1.trans h8) (by omega) _ _ _ _ _ _ _⟩

end Go.Proofs.YthokalcibjjihaaGreatDoor

/- THE DOCUMENT'S BODIES: Refs, Words; rows of numbers that are the same. -/
namespace Go.Proofs.YthokalcibjjihaaGreatDoor
open Go.ChangeShapes Go.WideShapes Go.ChangeAt Go.RowKit Go.Deep hd
set_option linter.unusedVariables false
variable {X : Nat → Prop}

/-- a slice of ints -/
def Is (X : Nat → Prop) (w : World) (v : Value) (l : List Int) : Prop :=
  (l = [] ∧ ∃ p cap, v = .slice p 0 cap) ∨
  ∃ b off cap, v = .slice (some ⟨b, off, none⟩) l.length cap ∧ 1 ≤ l.length ∧ l.length ≤ cap ∧ cap ≤ 9223372036854775807 ∧ ¬ X b ∧ ∀ j u, l[j]? = some u → w.cell? ⟨b, off + j, none⟩ = some (.int .i64 u)
theorem Is.exc {w w' : World} {v : Value} {l : List Int} (h : Is X w v l) (g : Exc X w w') : Is X w' v l := by
  rcases h with h | ⟨b, off, cap, h1, h2, h3, h4, h5, h6⟩
  · exact Or.inl h
  · exact Or.inr ⟨b, off, cap, h1, h2, h3, h4, h5, fun j u hj => cell_exc g (h6 j u hj) h5⟩
theorem Is.bel {w w' : World} {v : Value} {l : List Int} (h : Is X w v l) (g : Bel w w') : Is X w' v l := h.exc g.exc
theorem Is.slice {w : World} {v : Value} {l : List Int} (h : Is X w v l) : ∃ p cap, v = .slice p l.length cap ∧ l.length ≤ 9223372036854775807 := by
  rcases h with ⟨rfl, p, cap, rfl⟩ | ⟨b, off, cap, rfl, h1, h2, h3, _⟩
  · exact ⟨p, cap, rfl, by simp⟩
  · exact ⟨_, cap, rfl, by omega⟩

def iL (l : List Int) : List Value := l.map fun u => .int .i64 u
theorem iL_len (l : List Int) : (iL l).length = l.length := List.length_map _
theorem iL_get {l : List Int} {j : Nat} {u : Int} (h : l[j]? = some u) : (iL l)[j]? = some (.int .i64 u) := by unfold iL; rw [List.getElem?_map, h]; rfl
/-- ints that the call owns -/
def OwnI (B : Nat) (w : World) (v : Value) (l : List Int) : Prop := w.ownsRow B 3 1 v l.length (iL l)
theorem OwnI.bel {B : Nat} {w w' : World} {v : Value} {l : List Int} (h : OwnI B w v l) (g : Bel w w') : OwnI B w' v l := mm.own_exc (Z := fun _ => False) h g.exc fun _ x => x.elim
theorem OwnI.is {B : Nat} {w : World} {v : Value} {l : List Int} (h : OwnI B w v l) (hx : ∀ k, B ≤ k → v.ownBlock = some k → ¬ X k) : Is X w v l := by
  have h' := h
  rcases h.2 with ⟨rfl, h0⟩ | ⟨g, cap, cur, rfl, hb, hg, hn, hm, hsz, _⟩
  · exact Or.inl ⟨List.length_eq_zero_iff.1 h0, _, _, rfl⟩
  · by_cases c : l.length = 0
    · exact Or.inl ⟨List.length_eq_zero_iff.1 c, _, _, by rw [c]⟩
    · refine Or.inr ⟨g, 0, cap, rfl, by omega, hn, by unfold maxLen at hm; omega, hx g hb rfl, fun j u hj => ?_⟩
      have hj' := (List.getElem?_eq_some_iff.1 hj).1
      rw [Nat.zero_add, World.ownsRow.cellAt h' j (by omega), iL_get hj]
theorem OwnI.nil (B : Nat) (w : World) : OwnI B w (.slice none 0 0) [] := World.ownsRow_nil w B _ _
theorem OwnI.shape {B : Nat} {w : World} {v : Value} {l : List Int} (h : OwnI B w v l) : ∃ p cap, v = .slice p l.length cap := own_shape h
theorem own64_shape {B : Nat} {w : World} {v : Value} {l : List Nat} (h : mm.Own64 B w v l) : ∃ p cap, v = .slice p l.length cap := own_shape h

/-- owned from further below -/
theorem own_low {w : World} {B B' n : Nat} {e : TypeId} {v : Value} {xs : List Value} (h : w.ownsRow B e 1 v n xs) (hB : B' ≤ B) : w.ownsRow B' e 1 v n xs := by
  refine ⟨h.1, ?_⟩
  rcases h.2 with x | ⟨g, cap, cur, e, hb, rest⟩
  · exact Or.inl x
  · exact Or.inr ⟨g, cap, cur, e, Nat.le_trans hB hb, rest⟩
/-- one int more -/
theorem wpList_oneI {ops : Array Oper} {rest : List Oper} {o : Oper} {a : Act} {Q : Exit → Act → World → Prop} {w : World} (hgd : o.guard = none) (s x : Operand)
    (ho : o.op = .call { callee := .builtin .append, args := #[s, x], argTypes := #[22, 22] })
    (B : Nat) (v : Value) (l : List Int) (y : Int) (hs : a.eval s = v) (hown : OwnI B w v l) (hx : a.eval x = .slice (some ⟨w.heap.size, 0, none⟩) 1 1) (hn : l.length ≤ 1000) (hB : B ≤ w.heap.size)
    (h : ∀ g n cap w', n = l.length + 1 → OwnI B w' (.slice (some ⟨g, 0, none⟩) n cap) (l ++ [y]) → Below B w w' → wpList Tryz.prog ops Q rest (a.put o.dst (.slice (some ⟨g, 0, none⟩) n cap)) w') :
    wpList Tryz.prog ops Q (o :: rest) a (w.alloc (.cells #[.int .i64 y] 3)) := by
  refine mm.wpList_pushI hgd s x ho B v l.length (iL l) y hs hown hx hn hB ?_
  intro g cap w' h1 h2
  refine h g _ cap w' rfl ?_ h2
  have e : iL l ++ [.int .i64 y] = iL (l ++ [y]) := by unfold iL; rw [List.map_append]; rfl
  unfold OwnI
  rw [← e, List.length_append]
  exact h1
/-- one word more -/
theorem wpList_oneW {ops : Array Oper} {rest : List Oper} {o : Oper} {a : Act} {Q : Exit → Act → World → Prop} {w : World} (hgd : o.guard = none) (s x : Operand)
    (ho : o.op = .call { callee := .builtin .append, args := #[s, x], argTypes := #[49, 49] })
    (B : Nat) (v : Value) (l : List Nat) (y : Nat) (hs : a.eval s = v) (hown : mm.Own64 B w v l) (hx : a.eval x = .slice (some ⟨w.heap.size, 0, none⟩) 1 1) (hn : l.length ≤ 1000) (hB : B ≤ w.heap.size)
    (h : ∀ g n cap w', n = l.length + 1 → mm.Own64 B w' (.slice (some ⟨g, 0, none⟩) n cap) (l ++ [y]) → Below B w w' → wpList Tryz.prog ops Q rest (a.put o.dst (.slice (some ⟨g, 0, none⟩) n cap)) w') :
    wpList Tryz.prog ops Q (o :: rest) a (w.alloc (.cells #[.int .u64 (y : Nat)] 42)) := by
  have g := (Bel.refl w).alloc (.cells #[.int .u64 (y : Nat)] 42)
  have s1 : w.heap.size + 1 = (w.alloc (.cells #[.int .u64 (y : Nat)] 42)).heap.size := (mm.size_alloc1 _ _).symm
  refine mm.wpList_appW (X := fun _ => False) hgd s x ho B v l hs (hown.bel g) _ [y] hx (Or.inr ⟨w.heap.size, 0, 1, rfl, by simp, by simp, by decide, fun x => x, fun j u hj => ?_⟩) (by simp) (by simp; omega) (by omega) ?_
  · match j, hj with
    | 0, hj => cases hj; exact cell_of_row _ _ 0 _ _ (0, 0) (heap_alloc_new w _)
  · intro gg n cap w' hn h1 h2 h3
    exact h gg n cap w' (by rw [hn]; rfl) h1 (Below.trans (g.mono hB) (Below.grown (Below.refl B _) h2 (by omega) fun k hk => (hown.lt k hk).1))

theorem ieq_upto {l k : List Int} (hl : l.length = k.length) (h : ∀ j, j < l.length → l[j]? = k[j]?) : l = k := by
  apply List.ext_getElem?
  intro j
  by_cases c : j < l.length
  · exact h j c
  · rw [List.getElem?_eq_none (by omega), List.getElem?_eq_none (by omega)]

set_option maxHeartbeats 1000000 in
theorem isame_any (X Y : Nat → Prop) (a b : Value) (l k : List Int) (w : World) (ha : Is X w a l) (hb : Is Y w b k) :
    Calls Tryz.prog 36 #[a, b] w fun e w' => e = .returned (.bool (decide (l = k))) ∧ Bel w w' := by
  by_cases c : l.length = k.length
  · rcases ha with ⟨rfl, p, cap, rfl⟩ | ⟨b1, off1, cap1, rfl, hn, hc, hbig, _, hg⟩
    · obtain ⟨q, cap2, rfl, _⟩ := hb.slice
      have e : k = [] := List.length_eq_zero_iff.1 (by simpa using c.symm)
      subst e
      rw [decide_eq_true rfl]
      clear hb
      go_enter Tryz.func36, Tryz.ntmps36
      go_wp2
      go_loop [5] (fun i => i = .int .i64 0) (fun _ => 0)
      case atStart => rfl
      case round =>
        obtain rfl := hrel
        go_wp2
        go_ret
        exact ⟨rfl, Bel.refl _⟩
    · rcases hb with ⟨rfl, _⟩ | ⟨b2, off2, cap2, rfl, _, hc2, hbig2, _, hh⟩
      · exact absurd hn (by rw [c]; simp)
      · obtain ⟨R, hR⟩ : ∃ R, decide (l = k) = R := ⟨_, rfl⟩
        rw [hR]
        have hidR := Lib.hid (And.intro hR c)
        have hidc := Lib.hid (And.intro hg hh)
        obtain ⟨n, hln⟩ : ∃ n, l.length = n := ⟨_, rfl⟩
        rw [hln] at c
        have hidn := Lib.hid (And.intro hln c)
        rw [← c] at hc2 ⊢
        rw [hln] at hn hc ⊢
        clear hR hg hh c hln
        go_enter Tryz.func36, Tryz.ntmps36
        go_wp2
        go_loopw [5] (fun i wr => ∃ j : Nat, j ≤ n ∧ i = .int .i64 (j : Nat) ∧ (∀ q, q < j → l[q]? = k[q]?) ∧ Bel w wr) (fun i _ => n - (intOf i).toNat)
        case atStart => exact ⟨0, Nat.zero_le _, rfl, fun q hq => absurd hq (Nat.not_lt_zero _), Bel.refl _⟩
        case round =>
          obtain ⟨j, hj, rfl, hall, hbr⟩ := hrel
          by_cases cj : j < n
          · obtain ⟨x, hx⟩ : ∃ x, l[j]? = some x := ⟨l[j]'(by rw [hidn.out.1]; exact cj), List.getElem?_eq_getElem _⟩
            obtain ⟨y, hy⟩ : ∃ y, k[j]? = some y := ⟨k[j]'(by rw [← hidn.out.2]; exact cj), List.getElem?_eq_getElem _⟩
            have c1 := cell_bel hbr (hidc.out.1 j x hx)
            have c2 := cell_bel hbr (hidc.out.2 j y hy)
            have kI : (j : Int) < (n : Int) := by omega
            have k0 : (0 : Int) ≤ (j : Int) := by omega
            by_cases e : x = y
            · subst e
              have hid := Lib.hid (And.intro hall (And.intro (hx.trans hy.symm) hbr))
              clear hall hbr hx hy
              go_wp2
              go_quiet (fail)
              go_wp2
              go_roundw
              case rel => exact ⟨j + 1, by omega, by go_num, fun q hq => by
                by_cases d : q = j
                · rw [d]; exact hid.out.2.1
                · exact hid.out.1 q (by omega), hid.out.2.2.then_drewN _⟩
              case measure => simp only [intOf]; omega
            · have no : decide (l = k) = false := decide_eq_false fun z => by
                subst z
                rw [hx] at hy
                exact e (Option.some.inj hy)
              have hR := hidR.out.1
              rw [no] at hR
              subst hR
              have e2 : (x != y) = true := by rw [bne_iff_ne]; omega
              have e3 : ¬ (x = y) := by omega
              have hid := Lib.hid hbr
              clear hall no hx hy e hbr
              go_wp2
              go_quiet (fail)
              go_wp2
              go_ret
              exact ⟨rfl, hid.out.then_drewN _⟩
          · obtain rfl : j = n := by omega
            have hR := hidR.out.1
            rw [decide_eq_true (ieq_upto hidR.out.2 (by rw [hidn.out.1]; exact hall))] at hR
            subst hR
            clear hall
            go_wp2
            go_ret
            exact ⟨rfl, hbr⟩
  · rw [decide_eq_false fun z => c (by rw [z])]
    obtain ⟨p1, c1, rfl, _⟩ := ha.slice
    obtain ⟨p2, c2, rfl, _⟩ := hb.slice
    have e2 : ((l.length : Int) != (k.length : Int)) = true := by rw [bne_iff_ne]; omega
    have e3 : ¬ ((l.length : Int) = (k.length : Int)) := by omega
    clear ha hb c
    generalize l.length = n at *
    generalize k.length = m at *
    go_enter Tryz.func36, Tryz.ntmps36
    go_wp2
    go_ret
    exact ⟨rfl, Bel.refl _⟩


namespace Pl
variable {P : Pl} {R : List (List Nat)} {t : Nat}
/-- the first references, and words -/
def refsTo (P : Pl) (R : List (List Nat)) (t : Nat) (s : Int) (k : Nat) : List Int := (List.range k).map fun (i : Nat) => P.rfR R t s (i : Int)
def wordsTo (P : Pl) (R : List (List Nat)) (t : Nat) (s : Int) (k : Nat) : List Nat := (List.range k).map fun (i : Nat) => P.slW R t s.toNat (1 + P.hdR R t s + i)
theorem refsTo_succ (s : Int) (k : Nat) : P.refsTo R t s (k + 1) = P.refsTo R t s k ++ [P.rfR R t s (k : Int)] := by unfold refsTo; rw [List.range_succ, List.map_append]; rfl
theorem wordsTo_succ (s : Int) (k : Nat) : P.wordsTo R t s (k + 1) = P.wordsTo R t s k ++ [P.slW R t s.toNat (1 + P.hdR R t s + k)] := by unfold wordsTo; rw [List.range_succ, List.map_append]; rfl
theorem refsTo_len (s : Int) (k : Nat) : (P.refsTo R t s k).length = k := by unfold refsTo; simp
theorem wordsTo_len (s : Int) (k : Nat) : (P.wordsTo R t s k).length = k := by unfold wordsTo; simp
/-- the references that are told -/
def refsL (P : Pl) (R : List (List Nat)) (t : Nat) (s : Int) : List Int := if P.refsE R t s = 0 then P.refs R t s else []
/-- is the reference valid? -/
def okR (P : Pl) (R : List (List Nat)) (t : Nat) (s : Int) (i : Nat) : Prop := P.slW R t s.toNat (1 + i) ≤ P.S
/-- one reference of an object -/
theorem rf_at {s : Int} {i : Nat} (a : P.hdE R t s = 0) (h : i < P.hdR R t s) : (P.okR R t s i ∧ P.rfE R t s i = 0) ∨ (¬ P.okR R t s i ∧ P.rfE R t s i = 5) := by
  have f := fd_yes (P := P) (R := R) (t := t) (s := s) (i := (i : Int)) (ref := true) a ⟨by omega, by omega⟩ (decide_eq_true (by omega))
  have e : P.rfE R t s i = if P.S < P.slW R t s.toNat (1 + i) then 5 else 0 := by unfold rfE; rw [if_pos f, Int.toNat_natCast]
  unfold okR
  by_cases c : P.S < P.slW R t s.toNat (1 + i)
  · exact Or.inr ⟨by omega, by rw [e, if_pos c]⟩
  · exact Or.inl ⟨by omega, by rw [e, if_neg c]⟩
theorem refsE_ok {s : Int} (a : P.hdE R t s = 0) (h : ∀ j, j < P.hdR R t s → P.okR R t s j) : P.refsE R t s = 0 := by unfold refsE; rw [if_pos a, if_pos (show ∀ i, i < P.hdR R t s → P.slW R t s.toNat (1 + i) ≤ P.S from h)]
theorem refsE_bad {s : Int} (a : P.hdE R t s = 0) {j : Nat} (hj : j < P.hdR R t s) (h : ¬ P.okR R t s j) : P.refsE R t s = 5 := by unfold refsE; rw [if_pos a, if_neg fun x => h (x j hj)]
theorem refsE_none {s : Int} (a : P.hdE R t s ≠ 0) : P.refsE R t s = P.hdE R t s := by unfold refsE; rw [if_neg a]
theorem hdR_none {s : Int} (a : P.hdE R t s ≠ 0) : P.hdR R t s = 0 := by unfold hdR; rw [if_neg a]
theorem hd_small {s : Int} : P.hdR R t s ≤ 63 ∧ P.hdN R t s ≤ 63 := by
  by_cases a : P.hdE R t s = 0
  · have h := hd_okH a
    obtain ⟨C', R', N', e1, e2, e3, h1, h2⟩ := okH_true h
    omega
  · have e1 : P.hdR R t s = 0 := by unfold hdR; rw [if_neg a]
    have e2 : P.hdN R t s = 0 := by unfold hdN; rw [if_neg a]
    omega
end Pl

set_option maxHeartbeats 4000000 in
set_option maxRecDepth 10000 in
/-- Refs -/
theorem rb_refs (v : Value) (R : List (List Nat)) (t : Nat) (P : Pl) (s : Int) (w : World) (h : IsB X w v R t P) (ok : Bok P R t) :
    Calls Tryz.prog 44 #[v, .int .i64 s] w fun e w' => (∃ lv, e = .returned (.tuple #[lv, .int .i64 (P.refsE R t s)]) ∧ OwnI w.heap.size w' lv (P.refsL R t s)) ∧ Bel w w' := by
  have hI := h
  obtain ⟨pr, cr, bl, ol, cl, pf, cf, pm, cm, p, cap, rfl, _, _, _⟩ := h.shape
  have hb := (Bel.refl w).alloc (.cells #[.slice pr R.length cr, .int .i64 (t : Nat), .slice (some ⟨bl, ol, none⟩) P.S cl, .slice pf P.T cf, .slice pm P.T cm, .int .i64 (P.W : Nat), .slice p P.n cap] 36)
  have kk := fun W g => box7_at (W := W) (w := w) (a := .slice pr R.length cr) (b := .int .i64 (t : Nat)) (c := .slice (some ⟨bl, ol, none⟩) P.S cl) (d := .slice pf P.T cf) (e := .slice pm P.T cm) (f := .int .i64 (P.W : Nat)) (i := .slice p P.n cap) (t := 36) g
  obtain ⟨k0, k1, k2, k3, k4, k5, k6⟩ := kk _ (Bel.refl _)
  have hd := fun W g => rb_head _ R t P s W (hI.bel (hb.trans g)) ok
  have rf := fun (i : Nat) W g => rb_ref _ R t P s i W (hI.bel (hb.trans g)) ok
  have ra := fun i => Pl.rf_at (P := P) (R := R) (t := t) (s := s) (i := i)
  have rs := fun i => Pl.refsTo_succ (P := P) (R := R) (t := t) s i
  have rl := fun i => Pl.refsTo_len (P := P) (R := R) (t := t) s i
  have eok := Pl.refsE_ok (P := P) (R := R) (t := t) (s := s)
  have ebad := fun j => Pl.refsE_bad (P := P) (R := R) (t := t) (s := s) (j := j)
  have eno := Pl.refsE_none (P := P) (R := R) (t := t) (s := s)
  have rno := Pl.hdR_none (P := P) (R := R) (t := t) (s := s)
  have r63 := (Pl.hd_small (P := P) (R := R) (t := t) (s := s)).1
  have eL : P.refsL R t s = if P.refsE R t s = 0 then P.refsTo R t s (P.hdR R t s) else [] := rfl
  have hid := Lib.hid (And.intro ra (And.intro rs (And.intro rl (And.intro eok (And.intro ebad (And.intro eno (And.intro rno eL)))))))
  have sb := hb.size
  have hidb := Lib.hid (And.intro hb sb)
  clear h hI ok ra rs rl eok ebad eno rno eL sb
  generalize P.refsL R t s = RL at *
  generalize P.refsE R t s = RE at *
  generalize P.refsTo R t s = RT at *
  generalize P.rfR R t s = rfr at *
  generalize P.rfE R t s = rfe at *
  generalize P.okR R t s = okr at *
  generalize P.hdE R t s = HE at *
  generalize P.hdC R t s = HC at *
  generalize P.hdR R t s = HR at *
  generalize P.hdN R t s = HN at *
  generalize P.S = S at *
  generalize P.T = TT at *
  generalize P.n = nn at *
  generalize R.length = rlen at *
  generalize (P.W : Int) = V at *
  generalize hW0 : w.alloc (.cells #[.slice pr rlen cr, .int .i64 (t : Nat), .slice (some ⟨bl, ol, none⟩) S cl, .slice pf TT cf, .slice pm TT cm, .int .i64 V, .slice p nn cap] 36) = W0 at *
  clear hb
  go_enter Tryz.func44, Tryz.ntmps44
  go_upto_region 1 with fail
  (try rw [hW0])
  clear hW0
  go_wp2_with (go_at_call 43; refine (hd _ (Bel.refl _)).mono ?_; rintro e w1 ⟨rfl, h1⟩; have h2 := h1.alloc (.cells #[.int .i64 (HC : Nat), .int .i64 (HR : Nat), .int .i64 (HN : Nat)] 44))
  have hx := heap_alloc_new w1 (.cells #[.int .i64 (HC : Nat), .int .i64 (HR : Nat), .int .i64 (HN : Nat)] 44)
  obtain ⟨W2, hW2⟩ : ∃ W2, w1.alloc (.cells #[.int .i64 (HC : Nat), .int .i64 (HR : Nat), .int .i64 (HN : Nat)] 44) = W2 := ⟨_, rfl⟩
  rw [hW2] at h2 hx
  (try rw [hW2])
  clear hW2
  generalize w1.heap.size = hb1 at *
  have hid2 := Lib.hid (And.intro h2 hx)
  clear h1 h2 hx k0 k1 k2 k3 k4 k5 k6
  go_loopw [7, 8, 9] (fun e o i wr => ∃ (k : Nat) (E : Int) (op : Option Addr) (on oc : Nat), k ≤ HR ∧ i = .int .i64 (k : Nat) ∧ e = .int .i64 E ∧ o = .slice op on oc ∧ Bel W2 wr ∧ RowKit.Hid ((E = HE ∧ OwnI W2.heap.size wr o (RT k) ∧ (HE = 0 → ∀ j, j < k → okr j)) ∨ (HE = 0 ∧ E = 5 ∧ ∃ j, j < k ∧ ¬ okr j))) (fun _ _ i _ => HR - (intOf i).toNat)
  case atStart => exact ⟨0, HE, _, _, _, Nat.zero_le _, rfl, rfl, rfl, Bel.refl _, Lib.hid (Or.inl ⟨rfl, by have e : RT 0 = [] := List.length_eq_zero_iff.1 (hid.out.2.2.1 0); rw [e]; exact OwnI.nil _ _, fun _ j hj => by omega⟩)⟩
  case round =>
    obtain ⟨k, E, op, on, oc, hk, rfl, rfl, rfl, hbr, hinv⟩ := hrel
    obtain ⟨x0, x1, x2, _, _, _⟩ := box3 (heap_bel hbr hid2.out.2)
    obtain ⟨k0, k1, k2, k3, k4, k5, k6⟩ := kk _ (hid2.out.1.trans hbr)
    have rf1 := rf k wr (hid2.out.1.trans hbr)
    by_cases ez : E = 0
    · subst ez
      by_cases ck : k < HR
      · have hE0 : HE = 0 := by
          by_cases x : HE = 0
          · exact x
          · have := hid.out.2.2.2.2.2.2.1 x; omega
        have hO : OwnI W2.heap.size wr (.slice op on oc) (RT k) ∧ ∀ j, j < k → okr j := by
          rcases hinv.out with ⟨_, a, b⟩ | ⟨_, a, _⟩
          · exact ⟨a, b hE0⟩
          · omega
        have kI : (k : Int) < (HR : Int) := by omega
        have hk63 : k ≤ 63 := by omega
        have e1 := hid.out.1 k hE0 ck
        have hidk := Lib.hid (And.intro hE0 (And.intro hO e1))
        have hlen := hid.out.2.2.1 k
        clear hE0 hO e1 hinv
        obtain ⟨nr, hrfr⟩ : ∃ x, rfr (k : Int) = x := ⟨_, rfl⟩
        rw [hrfr] at rf1
        have hidn := Lib.hid hrfr
        clear hrfr
        generalize rfe (k : Int) = ne at *
        go_wp2_with (first
          | (go_at_call 39; refine rf1.mono ?_; rintro e w3 ⟨rfl, h3⟩
             have hO3 := hidk.out.2.1.1.bel h3
             have sz3 := (hbr.trans h3).size
             have hid3 := Lib.hid (And.intro hO3 (And.intro h3 sz3))
             clear hO3 h3 sz3)
          | (at_builtin
             refine wpList_oneI rfl (.tmp 35) (.tmp 37) rfl W2.heap.size _ (RT k) nr rfl hid3.out.1 rfl (by omega) hid3.out.2.2 ?_
             intro g n1 cap2 w4 hn1 hO4 hB4
             rw [hlen] at hn1
             subst hn1
             have hid4 := Lib.hid (And.intro hO4 hB4)
             clear hO4 hB4))
        go_roundw
        case rel =>
          obtain ⟨hO4, hB4⟩ := hid4.out
          obtain ⟨hE0, ⟨_, hall⟩, e1⟩ := hidk.out
          have hbr4 : Bel W2 w4 := Below.trans hbr (Below.trans (hid3.out.2.1.mono hbr.size) hB4)
          refine ⟨k + 1, ne, _, _, _, by omega, by go_num, rfl, rfl, hbr4, Lib.hid ?_⟩
          rcases e1 with ⟨o1, o2⟩ | ⟨o1, o2⟩
          · refine Or.inl ⟨by rw [o2, hE0], ?_, fun _ j hj => ?_⟩
            · rw [hid.out.2.1 k, hidn.out]
              exact hO4
            · by_cases c : j = k
              · rw [c]; exact o1
              · exact hall j (by omega)
          · exact Or.inr ⟨hE0, o2, k, by omega, o1⟩
        case measure => simp only [intOf]; omega
      · have kI : decide ((k : Int) < (HR : Int)) = false := decide_eq_false (by omega)
        have kI2 : decide (k < HR) = false := decide_eq_false ck
        have hR : RE = 0 ∧ RL = RT k ∧ OwnI W2.heap.size wr (.slice op on oc) (RT k) := by
          obtain rfl : k = HR := by omega
          rcases hinv.out with ⟨a1, a, b⟩ | ⟨_, a, _⟩
          · have r0 := hid.out.2.2.2.1 a1.symm (b a1.symm)
            exact ⟨r0, by rw [hid.out.2.2.2.2.2.2.2, if_pos r0], a⟩
          · omega
        obtain ⟨rfl, hRL, hOf⟩ := hR
        have hidf := Lib.hid (And.intro hRL (And.intro hOf hbr))
        clear hRL hOf hbr hinv
        go_wp2
        go_ret2
        obtain ⟨hRL, hOf, hbr⟩ := hidf.out
        refine ⟨⟨_, rfl, ?_⟩, hidb.out.1.trans (hid2.out.1.trans hbr)⟩
        rw [hRL]
        exact own_low hOf (Nat.le_trans hidb.out.2 hid2.out.1.size)
    · have nz : decide (E = 0) = false := decide_eq_false ez
      have nz2 : (E == 0) = false := by rw [beq_eq_false_iff_ne]; exact ez
      have nz3 : (E != 0) = true := by rw [bne_iff_ne]; exact ez
      have hR : RE = E ∧ RL = [] := by
        rcases hinv.out with ⟨a1, a, b⟩ | ⟨a1, a, j, hj, b⟩
        · have x : HE ≠ 0 := by omega
          have r0 := hid.out.2.2.2.2.2.1 x
          exact ⟨by omega, by rw [hid.out.2.2.2.2.2.2.2, if_neg (by omega)]⟩
        · have r0 := hid.out.2.2.2.2.1 j a1 (by omega) b
          exact ⟨by omega, by rw [hid.out.2.2.2.2.2.2.2, if_neg (by omega)]⟩
      obtain ⟨rfl, rfl⟩ := hR
      clear hinv
      by_cases ck : k < HR
      · have kI : decide ((k : Int) < (HR : Int)) = true := decide_eq_true (by omega)
        have kI2 : decide (k < HR) = true := decide_eq_true ck
        go_wp2
        go_ret2
        exact ⟨⟨_, rfl, OwnI.nil _ _⟩, hidb.out.1.trans (hid2.out.1.trans hbr)⟩
      · have kI : decide ((k : Int) < (HR : Int)) = false := decide_eq_false (by omega)
        have kI2 : decide (k < HR) = false := decide_eq_false ck
        go_wp2
        go_ret2
        exact ⟨⟨_, rfl, OwnI.nil _ _⟩, hidb.out.1.trans (hid2.out.1.trans hbr)⟩

set_option maxHeartbeats 4000000 in
set_option maxRecDepth 10000 in
/-- Words -/
theorem rb_words (v : Value) (R : List (List Nat)) (t : Nat) (P : Pl) (s : Int) (w : World) (h : IsB X w v R t P) (ok : Bok P R t) :
    Calls Tryz.prog 45 #[v, .int .i64 s] w fun e w' => (∃ lv, e = .returned (.tuple #[lv, .int .i64 (P.hdE R t s)]) ∧ mm.Own64 w.heap.size w' lv (P.wordsL R t s)) ∧ Bel w w' := by
  have hI := h
  obtain ⟨pr, cr, bl, ol, cl, pf, cf, pm, cm, p, cap, rfl, _, _, _⟩ := h.shape
  have hb := (Bel.refl w).alloc (.cells #[.slice pr R.length cr, .int .i64 (t : Nat), .slice (some ⟨bl, ol, none⟩) P.S cl, .slice pf P.T cf, .slice pm P.T cm, .int .i64 (P.W : Nat), .slice p P.n cap] 36)
  have kk := fun W g => box7_at (W := W) (w := w) (a := .slice pr R.length cr) (b := .int .i64 (t : Nat)) (c := .slice (some ⟨bl, ol, none⟩) P.S cl) (d := .slice pf P.T cf) (e := .slice pm P.T cm) (f := .int .i64 (P.W : Nat)) (i := .slice p P.n cap) (t := 36) g
  obtain ⟨k0, k1, k2, k3, k4, k5, k6⟩ := kk _ (Bel.refl _)
  have hd := fun W g => rb_head _ R t P s W (hI.bel (hb.trans g)) ok
  by_cases hz : P.hdE R t s = 0
  · obtain ⟨s', rfl, hs'⟩ := Pl.isS_of (Pl.hd_ok hz).1
    have ld := fun (i : Nat) (hi : i ≤ 64) W g => rb_load _ R t P s' i W (hI.bel (hb.trans g)) ok hs' hi
    have rs := fun i => Pl.wordsTo_succ (P := P) (R := R) (t := t) (s' : Int) i
    have rl := fun i => Pl.wordsTo_len (P := P) (R := R) (t := t) (s' : Int) i
    have bd := Pl.hd_okH hz
    have b63 : P.hdR R t s' + P.hdN R t s' ≤ 63 := by
      obtain ⟨C', R', N', e1, e2, e3, h1, h2⟩ := okH_true bd
      omega
    have eL : P.wordsL R t s' = P.wordsTo R t s' (P.hdN R t s') := rfl
    simp only [Int.toNat_natCast] at rs
    rw [hz] at hd ⊢
    rw [eL]
    have hid := Lib.hid (And.intro rs (And.intro rl ld))
    have sb := hb.size
    have hidb := Lib.hid (And.intro hb sb)
    clear h hI ok rs rl sb hz hs' bd eL ld
    generalize P.wordsTo R t s' = RT at *
    generalize P.slW R t s' = sl at *
    generalize P.hdC R t s' = HC at *
    generalize P.hdR R t s' = HR at *
    generalize P.hdN R t s' = HN at *
    generalize P.S = S at *
    generalize P.T = TT at *
    generalize P.n = nn at *
    generalize R.length = rlen at *
    generalize (P.W : Int) = V at *
    generalize hW0 : w.alloc (.cells #[.slice pr rlen cr, .int .i64 (t : Nat), .slice (some ⟨bl, ol, none⟩) S cl, .slice pf TT cf, .slice pm TT cm, .int .i64 V, .slice p nn cap] 36) = W0 at *
    clear hb
    go_enter Tryz.func45, Tryz.ntmps45
    go_upto_region 1 with fail
    (try rw [hW0])
    clear hW0
    go_wp2_with (go_at_call 43; refine (hd _ (Bel.refl _)).mono ?_; rintro e w1 ⟨rfl, h1⟩; have h2 := h1.alloc (.cells #[.int .i64 (HC : Nat), .int .i64 (HR : Nat), .int .i64 (HN : Nat)] 44))
    have hx := heap_alloc_new w1 (.cells #[.int .i64 (HC : Nat), .int .i64 (HR : Nat), .int .i64 (HN : Nat)] 44)
    obtain ⟨W2, hW2⟩ : ∃ W2, w1.alloc (.cells #[.int .i64 (HC : Nat), .int .i64 (HR : Nat), .int .i64 (HN : Nat)] 44) = W2 := ⟨_, rfl⟩
    rw [hW2] at h2 hx
    (try rw [hW2])
    clear hW2
    generalize w1.heap.size = hb1 at *
    have hid2 := Lib.hid (And.intro h2 hx)
    clear h1 h2 hx k0 k1 k2 k3 k4 k5 k6
    go_loopw [8, 9] (fun o i wr => ∃ (k : Nat) (op : Option Addr) (on oc : Nat), k ≤ HN ∧ i = .int .i64 (k : Nat) ∧ o = .slice op on oc ∧ Bel W2 wr ∧ RowKit.Hid (mm.Own64 W2.heap.size wr o (RT k))) (fun _ i _ => HN - (intOf i).toNat)
    case atStart => exact ⟨0, _, _, _, Nat.zero_le _, rfl, rfl, Bel.refl _, Lib.hid (by have e : RT 0 = [] := List.length_eq_zero_iff.1 (hid.out.2.1 0); rw [e]; exact World.ownsRow_nil _ _ _ _)⟩
    case round =>
      obtain ⟨k, op, on, oc, hk, rfl, rfl, hbr, hinv⟩ := hrel
      obtain ⟨x0, x1, x2, _, _, _⟩ := box3 (heap_bel hbr hid2.out.2)
      obtain ⟨k0, k1, k2, k3, k4, k5, k6⟩ := kk _ (hid2.out.1.trans hbr)
      by_cases ck : k < HN
      · have ld1 := hid.out.2.2 (1 + HR + k) (by omega) wr (hid2.out.1.trans hbr)
        have cI : ((1 + HR + k : Nat) : Int) = 1 + (HR : Int) + (k : Int) := by omega
        rw [cI] at ld1
        have kI : (k : Int) < (HN : Int) := by omega
        have hk63 : k ≤ 63 := by omega
        have hR63 : HR ≤ 63 := by omega
        have hlen := hid.out.2.1 k
        obtain ⟨u, hu⟩ : ∃ x, sl (1 + HR + k) = x := ⟨_, rfl⟩
        rw [hu] at ld1
        have hidn := Lib.hid hu
        clear hu cI
        go_wp2_with (first
          | (go_at_call 85; refine ld1.mono ?_; rintro e w3 ⟨rfl, h3⟩
             have hO3 := mm.Own64.bel hinv.out h3
             have sz3 := (hbr.trans h3).size
             have hid3 := Lib.hid (And.intro hO3 (And.intro h3 sz3))
             clear hO3 h3 sz3)
          | (at_builtin
             refine wpList_oneW rfl (.tmp 25) (.tmp 34) rfl W2.heap.size _ (RT k) u rfl hid3.out.1 rfl (by omega) hid3.out.2.2 ?_
             intro g n1 cap2 w4 hn1 hO4 hB4
             rw [hlen] at hn1
             subst hn1
             have hid4 := Lib.hid (And.intro hO4 hB4)
             clear hO4 hB4))
        go_roundw
        case rel =>
          obtain ⟨hO4, hB4⟩ := hid4.out
          have hbr4 : Bel W2 w4 := Below.trans hbr (Below.trans (hid3.out.2.1.mono hbr.size) hB4)
          refine ⟨k + 1, _, _, _, by omega, by go_num, rfl, hbr4, Lib.hid ?_⟩
          rw [hid.out.1 k, hidn.out]
          exact hO4
        case measure => simp only [intOf]; omega
      · have kI : decide ((k : Int) < (HN : Int)) = false := decide_eq_false (by omega)
        have kI2 : decide (k < HN) = false := decide_eq_false ck
        obtain rfl : k = HN := by omega
        have hidf := Lib.hid hbr
        clear hbr
        go_wp2
        go_ret2
        exact ⟨⟨_, rfl, own_low hinv.out (Nat.le_trans hidb.out.2 hid2.out.1.size)⟩, hidb.out.1.trans (hid2.out.1.trans hidf.out)⟩
  · have eL := (Pl.none_told (P := P) (R := R) (t := t) hz).2.1
    rw [eL]
    clear h hI ok eL
    generalize P.hdE R t s = E at *
    generalize P.hdC R t s = HC at *
    generalize P.hdR R t s = HR at *
    generalize P.hdN R t s = HN at *
    generalize P.S = S at *
    generalize P.T = TT at *
    generalize P.n = nn at *
    generalize R.length = rl at *
    generalize (P.W : Int) = V at *
    have nz : decide (E = 0) = false := decide_eq_false hz
    have nz2 : (E == 0) = false := by rw [beq_eq_false_iff_ne]; exact hz
    have nz3 : (E != 0) = true := by rw [bne_iff_ne]; exact hz
    go_enter Tryz.func45, Tryz.ntmps45
    go_wp2_with (go_at_call 43; refine (hd _ (Bel.refl _)).mono ?_; rintro e w1 ⟨rfl, h1⟩; have h2 := (hb.trans h1).alloc (.cells #[.int .i64 (HC : Nat), .int .i64 (HR : Nat), .int .i64 (HN : Nat)] 44))
    go_ret2
    exact ⟨⟨_, rfl, World.ownsRow_nil _ _ _ _⟩, h2⟩

end Go.Proofs.YthokalcibjjihaaGreatDoor
