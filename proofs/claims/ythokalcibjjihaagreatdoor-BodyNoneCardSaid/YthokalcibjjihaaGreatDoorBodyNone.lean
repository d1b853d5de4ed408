/- A body that is none answers ErrNil; there is none of no memory, of no plan, and of a plan of another region; for every input; the table of the head's widths holds what the program lays in it (the card ties that), no other condition. -/
import Derived.Test.YthokalcibjjihaaGreatDoorDq
import Derived.Test.YthokalcibjjihaaGreatDoorOpn
namespace Go.Proofs.YthokalcibjjihaaGreatDoor.bodyNone
open Go.ChangeShapes Go.WideShapes Go.ChangeAt Go.RowKit Go.Joins Go.Deep hd
set_option linter.unusedVariables false

set_option maxRecDepth 100000 in
set_option maxHeartbeats 8000000 in
theorem walk (v : Value) (c : Cf) (A : Ac) (w : World) (h : IsCf w v c) (hA : A.Ok) (ht : TabW w) :
    Calls Tryz.prog 6 #[v, .agg #[.int .u8 (A.wh : Nat), .int .i64 A.s, .int .i64 A.i, .int .i64 A.q, .int .u64 (A.u : Nat), .int .i64 A.c, .int .i64 A.r, .int .i64 A.n]] w fun e w' => e = .returned (.bool true) ∧ Below w.heap.size w w' := by
  have hI := h
  obtain ⟨vc, vt, rfl, hN, hT⟩ := h
  obtain ⟨p1, c1, rfl, _⟩ := nums_slice hN
  obtain ⟨p2, c2, rfl, _⟩ := tens_slice hT
  clear hN hT
  obtain ⟨m0, m1⟩ := two w (.cells #[.slice p1 c.n c1, .int .i64 c.page, .slice p2 c.m c2, .int .i64 c.wk, .int .i64 c.gr, .int .i64 c.gn] 25) (.cells #[.int .u8 (A.wh : Nat), .int .i64 A.s, .int .i64 A.i, .int .i64 A.q, .int .u64 (A.u : Nat), .int .i64 A.c, .int .i64 A.r, .int .i64 A.n] 46)
  have hb : Bel w _ := bel_two w (.cells #[.slice p1 c.n c1, .int .i64 c.page, .slice p2 c.m c2, .int .i64 c.wk, .int .i64 c.gr, .int .i64 c.gn] 25) (.cells #[.int .u8 (A.wh : Nat), .int .i64 A.s, .int .i64 A.i, .int .i64 A.q, .int .u64 (A.u : Nat), .int .i64 A.c, .int .i64 A.r, .int .i64 A.n] 46)
  obtain ⟨W, hW⟩ : ∃ W, (w.alloc (.cells #[.slice p1 c.n c1, .int .i64 c.page, .slice p2 c.m c2, .int .i64 c.wk, .int .i64 c.gr, .int .i64 c.gn] 25)).alloc (.cells #[.int .u8 (A.wh : Nat), .int .i64 A.s, .int .i64 A.i, .int .i64 A.q, .int .u64 (A.u : Nat), .int .i64 A.c, .int .i64 A.r, .int .i64 A.n] 46) = W := ⟨_, rfl⟩
  rw [hW] at m0 m1 hb
  have htb := ht.bel hb
  have aw := fun w1 (g : Bel W w1) => (awake_any w1 (htb.bel g)).mono fun e w' ⟨x, y⟩ => (⟨x, hb.trans (g.trans y)⟩ : _ ∧ Bel w w')
  have kk := fun w1 (g : Bel W w1) => And.intro (cfb (heap_bel g m0)) (box8 (heap_bel g m1))
  obtain ⟨⟨k0, k1, k2, k3, k4, k5⟩, a0, a1, a2, a3, a4, a5, a6, a7⟩ := kk _ (Bel.refl _)
  by_cases ok : ¬ c.great11 ∧ c.ok
  · have mk := made_yes _ c 0 W (hI.bel hb) ok.1 ok.2 (by omega) htb
    rw [show ((0 : Nat) : Int) = 0 from rfl, Nat.zero_mod] at mk
    have m8 := Cf.ok_m ok.2
    have nn : ∀ W1, NoB W1 (.pointer none) := fun _ => Or.inl rfl
    have sn := fun W1 (g : Bel W W1) => pnew_fresh _ c 0 W1 (hI.bel (hb.trans g)) ok.2 (by omega)
    rw [show ((0 : Nat) : Int) = 0 from rfl] at sn
    have plk := Cf.pl_ok ok.2 (show 0 < c.m by omega)
    have e0 : mm.wordsE c.zeros 0 = 0 := by unfold mm.wordsE; rw [Cf.zeros_len, if_neg (by omega)]
    have e2 : mm.wordsE c.zeros (c.m : Nat) = 2 := by unfold mm.wordsE; rw [Cf.zeros_len, if_pos (by omega)]
    have hid := Lib.hid (And.intro sn (And.intro plk (And.intro e0 (And.intro e2 (And.intro kk aw)))))
    clear hI ok hA htb ht sn plk e0 e2 m0 m1 kk m8 hb aw
    generalize c.pl 0 = P at *
    generalize c.zeros = R at *
    go_enter Tryz.func6, Tryz.ntmps6
    go_upto_region 1 with fail
    (try rw [hW])
    clear hW
    go_wp2_with (first
      | (go_at_call 9; refine mk.mono ?_; rintro e w4 ⟨⟨pa, pm, q, lo, hi, top, rfl, hM⟩, h4⟩
         obtain ⟨pr4, cr4, bl4, ol4, cl4, pf4, cf4, pm4, cm4, p4, cap4, rfl, _, _, _⟩ := hM.b.shape
         obtain ⟨pp, epp, cpp⟩ := hM.m
         have im := (hM.d.memv epp cpp)
         have g4 := h4.alloc (.cells #[.slice pr4 R.length cr4, .int .i64 0, .slice (some ⟨bl4, ol4, none⟩) P.S cl4, .slice pf4 P.T cf4, .slice pm4 P.T cm4, .int .i64 (P.W : Nat), .slice p4 P.n cap4] 36)
         obtain ⟨⟨k0, k1, k2, k3, k4, k5⟩, a0, a1, a2, a3, a4, a5, a6, a7⟩ := hid.out.2.2.2.2.1 _ g4
         have hidm := Lib.hid (mem_bel im.1 ((Bel.refl w4).alloc (.cells #[.slice pr4 R.length cr4, .int .i64 0, .slice (some ⟨bl4, ol4, none⟩) P.S cl4, .slice pf4 P.T cf4, .slice pm4 P.T cm4, .int .i64 (P.W : Nat), .slice p4 P.n cap4] 36)) im.2.1)
         have hidh := Lib.hid (Nat.le_trans im.2.1 ((Bel.refl w4).alloc (.cells #[.slice pr4 R.length cr4, .int .i64 0, .slice (some ⟨bl4, ol4, none⟩) P.S cl4, .slice pf4 P.T cf4, .slice pm4 P.T cm4, .int .i64 (P.W : Nat), .slice p4 P.n cap4] 36)).size)
         clear im hM epp cpp mk)
      | (go_at_call 27; refine (hid.out.1 _ g4).mono ?_; rintro e w5 ⟨⟨b5, g5', c5, rfl, hP, _, _⟩, h5⟩; have g5 := g4.trans h5; have hidP := Lib.hid (And.intro (show IsPlan w5 (.pointer (some ⟨b5, 0, none⟩)) P from ⟨_, _, _, _, rfl, hP⟩) (And.intro (mem_bel hidm.out h5 hidh.out) (Nat.le_trans hidh.out h5.size))); clear hP)
      | (go_at_call 28; (with_reducible refine (pb_new_nomem _ _ _).mono ?_); rintro e w6 ⟨rfl, h6⟩; have g6 := g5.trans h6)
      | (go_at_call 28; (with_reducible refine (pb_new_noplan 0 (mem_bel hidP.out.2.1 h6 hidP.out.2.2) hid.out.2.2.1).mono ?_); rintro e w7 ⟨rfl, h7⟩; have g7 := g6.trans h7; obtain ⟨⟨k0, k1, k2, k3, k4, k5⟩, a0, a1, a2, a3, a4, a5, a6, a7⟩ := hid.out.2.2.2.2.1 _ g7)
      | (go_at_call 28; (with_reducible refine (pb_new_noten (c.m : Nat) (mem_bel hidP.out.2.1 (h6.trans h7) hidP.out.2.2) hid.out.2.2.2.1 (hidP.out.1.bel (h6.trans h7)) hid.out.2.1).mono ?_); rintro e w8 ⟨rfl, h8⟩
         have g9 := (g7.trans h8).alloc (.cells #[.pointer none, .int .i64 0, .pointer none] 78)
         have nz : NoB (w8.alloc (.cells #[.pointer none, .int .i64 0, .pointer none] 78)) (.pointer (some ⟨w8.heap.size, 0, none⟩)) := Or.inr ⟨_, rfl, heap_alloc_new w8 _⟩
         obtain ⟨_, a0, a1, a2, a3, a4, a5, a6, a7⟩ := hid.out.2.2.2.2.1 _ g9)
      | (go_at_call 29; (with_reducible refine (nb_head A.s (nn _)).mono ?_); rintro e w10 ⟨rfl, h10⟩; have n10 := nz.bel (h10.alloc (.cells #[.int .i64 0, .int .i64 0, .int .i64 0] 44)); have g10 := (g9.trans h10).alloc (.cells #[.int .i64 0, .int .i64 0, .int .i64 0] 44); obtain ⟨_, a0, a1, a2, a3, a4, a5, a6, a7⟩ := hid.out.2.2.2.2.1 _ g10)
      | (go_at_call 25; (with_reducible refine (nb_ref A.s A.i n10).mono ?_); rintro e w11 ⟨rfl, h11⟩; have n11 := n10.bel h11; have g11 := g10.trans h11; obtain ⟨_, a0, a1, a2, a3, a4, a5, a6, a7⟩ := hid.out.2.2.2.2.1 _ g11)
      | (go_at_call 22; (with_reducible refine (nb_words A.s (nn _)).mono ?_); rintro e w12 ⟨rfl, h12⟩; have n12 := n11.bel h12; have g12 := g11.trans h12; obtain ⟨_, a0, a1, a2, a3, a4, a5, a6, a7⟩ := hid.out.2.2.2.2.1 _ g12)
      | (go_at_call 21; (with_reducible refine (nb_refs A.s n12).mono ?_); rintro e w13 ⟨rfl, h13⟩; have n13 := n12.bel h13; have g13 := g12.trans h13; obtain ⟨_, a0, a1, a2, a3, a4, a5, a6, a7⟩ := hid.out.2.2.2.2.1 _ g13)
      | (go_at_call 20; (with_reducible refine (nb_make A.s A.c A.r A.n (nn _)).mono ?_); rintro e w14 ⟨rfl, h14⟩; have n14 := n13.bel h14; have g14 := g13.trans h14; obtain ⟨_, a0, a1, a2, a3, a4, a5, a6, a7⟩ := hid.out.2.2.2.2.1 _ g14)
      | (go_at_call 23; (with_reducible refine (nb_setref A.s A.i A.q n14).mono ?_); rintro e w15 ⟨rfl, h15⟩; have n15 := n14.bel h15; have g15 := g14.trans h15; obtain ⟨_, a0, a1, a2, a3, a4, a5, a6, a7⟩ := hid.out.2.2.2.2.1 _ g15)
      | (go_at_call 24; (with_reducible refine (nb_setword A.s A.i A.u (nn _)).mono ?_); rintro e w16 ⟨rfl, h16⟩; have n16 := n15.bel h16; have g16 := g15.trans h16; obtain ⟨_, a0, a1, a2, a3, a4, a5, a6, a7⟩ := hid.out.2.2.2.2.1 _ g16)
      | (go_at_call 19; (with_reducible refine (nb_wipe A.s n16).mono ?_); rintro e w17 ⟨rfl, h17⟩; have g17 := g16.trans h17)
      | (go_at_call 10; refine (hid.out.2.2.2.2.2 _ g17).mono ?_; rintro e w18 ⟨rfl, h18⟩))
    go_ret
    exact ⟨rfl, h18⟩
  · have mk := made_no _ c 0 W (hI.bel hb) (by by_cases x : c.great11; exact Or.inl x; exact Or.inr fun y => ok ⟨x, y⟩)
    rw [show ((0 : Nat) : Int) = 0 from rfl] at mk
    clear hI ok hA htb m0 m1 kk
    go_enter Tryz.func6, Tryz.ntmps6
    go_upto_region 1 with fail
    (try rw [hW])
    clear hW
    go_wp2_with (first
      | (go_at_call 9; refine mk.mono ?_; rintro e w4 ⟨rfl, h4⟩; have aw4 := aw _ (h4.alloc (.cells #[.slice none 0 0, .int .i64 0, .slice none 0 0, .slice none 0 0, .slice none 0 0, .int .i64 0, .slice none 0 0] 36)))
      | (go_at_call 10; refine aw4.mono ?_; rintro e w5 ⟨rfl, h5⟩))
    go_ret
    exact ⟨rfl, h5⟩

/-! The row. -/
set_option maxRecDepth 100000 in
theorem lifted (os : Os) (started : os.Started) (H : Type) (enc : TypeId × Value → H) :
    ReturnsInHanded {} Tryz.checked os 6 .any (fun w args => (Rows.bodyNoneSpec.pre enc Tryz.prog Tryz.f6 [] false w args ∧ laidMetH Tryz.prog theLaid w) ∧ sizedMet enc Tryz.prog Tryz.f6 (OpenSpec.ofChange Rows.bodyNoneSpec) false w args)
      (Rows.bodyNoneSpec.post enc Tryz.prog Tryz.f6 false true false false) := by
  refine lift_laid (C := Tryz.checked) (X := Met) own started (by kernel_rfl) Tryz.func6 (fun _ _ h => Met.heap h) laid rowed full (by rw [Tryz.params6]; decide) rfl (by kernel_rfl) Tryz.underlying4
    (fun ds h => by rw [Tryz.params6] at h; match ds, h with | [_, _], _ => rfl)
    (ChangeSpec.witness_shaped (enc := enc) (C := Tryz.checked) (os := os) (X := fun w _ => Met w) false (World.doorLaid Tryz.prog 400 os) #[.agg #[.slice none 0 0, .int .i64 0, .slice none 0 0, .int .i64 0, .int .i64 0, .int .i64 0], .agg #[.int .u8 0, .int .i64 0, .int .i64 0, .int .i64 0, .int .u64 0, .int .i64 0, .int .i64 0, .int .i64 0]] 8 rfl (World.shaped_of_RefB (by kernel_rfl) (by kernel_rfl)) (by kernel_rfl) (by kernel_rfl) (by kernel_rfl) (door_met os _)) ?_
  intro W base args ds p hval hAll hM
  have hT := hM.tab
  change ∀ (j : Nat) t v, Tryz.f6.params[j]? = some t → args[j]? = some v → Value.okWide Tryz.prog W .any base t v at hval
  change DataW.TrodAll enc Tryz.prog W 0 (fun _ => true) true Tryz.f6.params.toList args.toList ds p at hAll
  rw [Tryz.params6] at hAll hval
  obtain ⟨v0, vs0, d0, ds0, p0, q0, hargs, rfl, rfl, h0, r0⟩ := trodAll_cons hAll
  obtain ⟨v1, vs1, d1, ds1, p1, q1, hargs1, rfl, rfl, h1, r1⟩ := trodAll_cons r0
  obtain ⟨rfl, rfl, rfl⟩ := trodAll_nil r1
  subst hargs1
  obtain rfl : args = #[v0, v1] := by cases args; simp_all
  obtain ⟨c, hI, _⟩ := get_cf (hval 0 25 v0 rfl rfl) h0
  obtain ⟨A, hA, rfl⟩ := get_act (hval 1 46 v1 rfl rfl) h1
  exact walk v0 c A W hI hA hT

theorem over : Rows.bodyNoneRow.holds Tryz.pinned (OpenSpec.ofChange Rows.bodyNoneSpec) :=
  OpenClaim.holds_of_wide 6 Tryz.f6 rfl rfl rfl rfl rfl rfl rfl ⟨rfl, rfl, rfl, rfl, rfl⟩ rfl rfl rfl rfl rfl (by kernel_rfl) Tryz.func6 (by kernel_rfl)
    (of_decide_eq_true (by kernel_rfl)) (by unfold Func.isWrapper; first | (rw [if_pos (by decide +kernel)]; kernel_rfl) | (rw [if_neg (by decide +kernel)]; exact ⟨rfl, rfl⟩))
    (fun os started H enc _ => lifted os started H enc)

/-- The statement. -/
theorem proved : Rows.BodyNoneCardSaid :=
  Claim7.holds_tied_plain_at .later [] [.data] true (true, "4c33b7968f82caf130c1decf41a5dcf18a2cc1dc4bb0104c99295747923900d8") true
    over (fun _ h => by cases h) (by kernel_rfl) (fun _ h => by cases h) bodyNone_row_tie rfl ⟨rfl, rfl⟩ (by kernel_rfl) rfl
    (fun f fn hf hfn => by
      obtain rfl : f = 6 := Option.some.inj ((show Tryz.prog.funcNamed "commonage/commonagelaw11.BodyNone" = some 6 by kernel_rfl).symm.trans hf) |>.symm
      obtain rfl : fn = Tryz.f6 := (Option.some.inj (Tryz.func6.symm.trans hfn)).symm
      exact ⟨by kernel_rfl, fun j t ht => by
        rw [Tryz.params6] at ht
        have hm : t ∈ [25, 46] := by simpa using Array.mem_of_getElem? ht
        have hall : ([25, 46].all fun u => !Tryz.prog.wantsStandIn u) = true := by kernel_rfl
        exact (show Tryz.prog.wantsStandIn t = false by simpa using List.all_eq_true.1 hall t hm)⟩)
    (by kernel_rfl)
#print axioms proved
end Go.Proofs.YthokalcibjjihaaGreatDoor.bodyNone
