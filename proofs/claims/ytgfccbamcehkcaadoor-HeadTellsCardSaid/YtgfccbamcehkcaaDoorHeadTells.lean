/- Put, Get, Need, Field answer as the document says, for every head, word and number; the table of widths holds what the program lays in it (the card ties that), no other condition. -/
import Derived.Test.YtgfccbamcehkcaaDoorOpn
namespace Go.Proofs.YtgfccbamcehkcaaDoor.headTells
open Go.ChangeShapes Go.WideShapes Go.ChangeAt Go.RowKit Go.Joins
set_option linter.unusedVariables false

/-! The walk. -/
set_option maxRecDepth 100000 in
set_option maxHeartbeats 4000000 in
theorem walk (c r n : Int) (u : Nat) (i : Int) (w : World) (hT : TabW w) (hc : i64b c) (hr : i64b r) (hn : i64b n) (hu : u < 18446744073709551616) :
    Calls Tryd.prog 3 #[.agg #[.int .i64 c, .int .i64 r, .int .i64 n], .int .u64 (u : Nat), .int .i64 i] w fun e w' => e = .returned (.bool true) ∧ Below w.heap.size w w' := by
  have hb0 : ∀ o, Bel w (w.alloc o) := fun o => (Bel.refl w).alloc o
  have hb := hb0 (.cells #[.int .i64 c, .int .i64 r, .int .i64 n] 23)
  clear hb0
  have g0 := Bel.refl (w.alloc (.cells #[.int .i64 c, .int .i64 r, .int .i64 n] 23))
  have p1 := fun W (g : Bel w W) => put_h c r n W (hT.bel g) hc hr hn
  have p2 := fun W => rput_h c r n W hc hr hn
  have q1 := fun W (g : Bel w W) => get_h u W (hT.bel g) hu
  have q2 := fun W => rget_h u W hu
  have n1 := fun W => need_h c r n W hc hr hn
  have n2 := fun W => rneed_h c r n W hc hr hn
  have f1 := fun W => field_h c r n i W hc hr hn
  have f2 := fun W => rfield_h c r n i W hc hr hn
  have aw := fun W (g : Bel w W) => awake_h W (hT.bel g)
  clear hT hc hr hn hu
  generalize putR c r n = A at *
  generalize putE c r n = E at *
  generalize gC u = C at *
  generalize gR u = R at *
  generalize gN u = N at *
  generalize gE u = G at *
  generalize needR c r n = D at *
  generalize fieldR c r n i = b at *
  generalize fieldE c r n i = F at *
  go_enter Tryd.func3, Tryd.ntmps3
  go_wp2_with (first
    | (go_at_call 6; refine (p1 _ hb).mono ?_; rintro e w2 ⟨rfl, h2⟩; obtain ⟨a0, a1, a2, _, _, _⟩ := box3 (box_at h2))
    | (go_at_call 7; refine (p2 _).mono ?_; rintro e w3 ⟨rfl, h3⟩; have h3 := h2.trans h3)
    | (go_at_call 8; refine (q1 _ (hb.trans h3)).mono ?_; rintro e w4 ⟨rfl, h4⟩; have h4 := (h3.trans h4).alloc (.cells #[.int .i64 (C : Nat), .int .i64 (R : Nat), .int .i64 (N : Nat)] 23))
    | (go_at_call 9; refine (q2 _).mono ?_; rintro e w5 ⟨rfl, m5⟩; have h5 := (h4.trans m5).alloc (.cells #[.int .i64 (C : Nat), .int .i64 (R : Nat), .int .i64 (N : Nat)] 23); obtain ⟨b0, b1, b2, _, _, _⟩ := box3 (box_at h5))
    | (go_at_call 10; refine (n1 _).mono ?_; rintro e w6 ⟨rfl, m6⟩; have h6 := h5.trans m6; obtain ⟨c0, c1, c2, _, _, _⟩ := box3 (box_at h6))
    | (go_at_call 11; refine (n2 _).mono ?_; rintro e w7 ⟨rfl, m7⟩; have h7 := h6.trans m7; obtain ⟨d0, d1, d2, _, _, _⟩ := box3 (box_at h7))
    | (go_at_call 12; refine (f1 _).mono ?_; rintro e w8 ⟨rfl, m8⟩; have h8 := h7.trans m8; obtain ⟨e0, e1, e2, _, _, _⟩ := box3 (box_at h8))
    | (go_at_call 13; refine (f2 _).mono ?_; rintro e w9 ⟨rfl, m9⟩; have h9 := h8.trans m9; have m := m6.trans (m7.trans (m8.trans m9)); obtain ⟨x0, x1, x2, _, _, _⟩ := box3 (box_at m); obtain ⟨y0, y1, y2, _, _, _⟩ := box3 (box_at ((m5.alloc (.cells #[.int .i64 (C : Nat), .int .i64 (R : Nat), .int .i64 (N : Nat)] 23)).trans m)))
    | (go_at_call 14; refine (aw _ (hb.trans h9)).mono ?_; rintro e w10 ⟨rfl, h10⟩))
  go_ret
  exact ⟨rfl, hb.trans (h9.trans h10)⟩

/-! The row. -/
set_option maxRecDepth 100000 in
theorem lifted (os : Os) (started : os.Started) (H : Type) (enc : TypeId × Value → H) :
    ReturnsInHanded {} Tryd.checked os 3 .any (fun w args => (Rows.headTellsSpec.pre enc Tryd.prog Tryd.f3 [] false w args ∧ laidMetH Tryd.prog theLaid w) ∧ sizedMet enc Tryd.prog Tryd.f3 (OpenSpec.ofChange Rows.headTellsSpec) false w args)
      (Rows.headTellsSpec.post enc Tryd.prog Tryd.f3 false true false false) := by
  refine lift_laid (C := Tryd.checked) (X := Met) own started (by kernel_rfl) Tryd.func3 (fun _ _ h => Met.heap h) laidout rowed full (by rw [Tryd.params3]; decide) rfl (by kernel_rfl) Tryd.underlying4
    (fun ds h => by rw [Tryd.params3] at h; match ds, h with | [_, _, _], _ => rfl)
    (ChangeSpec.witness_shaped (enc := enc) (C := Tryd.checked) (os := os) (X := fun w _ => Met w) false (World.doorLaid Tryd.prog 400 os) #[.agg #[.int .i64 0, .int .i64 0, .int .i64 0], .int .u64 0, .int .i64 0] 8 rfl (World.shaped_of_RefB (by kernel_rfl) (by kernel_rfl)) (by kernel_rfl) (by kernel_rfl) (by kernel_rfl) (door_met os _)) ?_
  intro W base args ds p hval hA hM
  have hT := hM.tab
  change ∀ (j : Nat) t v, Tryd.f3.params[j]? = some t → args[j]? = some v → Value.okWide Tryd.prog W .any base t v at hval
  change DataW.TrodAll enc Tryd.prog W 0 (fun _ => true) true Tryd.f3.params.toList args.toList ds p at hA
  rw [Tryd.params3] at hA hval
  obtain ⟨v0, vs0, d0, ds0, p0, q0, hargs, rfl, rfl, h0, r0⟩ := trodAll_cons hA
  obtain ⟨v1, vs1, d1, ds1, p1, q1, hargs1, rfl, rfl, h1, r1⟩ := trodAll_cons r0
  obtain ⟨v2, vs2, d2, ds2, p2, q2, hargs2, rfl, rfl, h2, r2⟩ := trodAll_cons r1
  obtain ⟨rfl, rfl, rfl⟩ := trodAll_nil r2
  subst hargs2
  subst hargs1
  obtain rfl : args = #[v0, v1, v2] := by cases args; simp_all
  obtain ⟨c, r, n, rfl, bc, br, bn⟩ := get_head (hval 0 23 v0 rfl rfl) h0
  obtain ⟨u, rfl, hu⟩ := get_u64 (hval 1 24 v1 rfl rfl) h1
  obtain ⟨i, rfl, _⟩ := get_i64 (hval 2 3 v2 rfl rfl) h2
  exact walk c r n u i W hT bc br bn hu

theorem over : Rows.headTellsRow.holds Tryd.pinned (OpenSpec.ofChange Rows.headTellsSpec) :=
  OpenClaim.holds_of_wide 3 Tryd.f3 rfl rfl rfl rfl rfl rfl rfl ⟨rfl, rfl, rfl, rfl, rfl⟩ rfl rfl rfl rfl rfl (by kernel_rfl) Tryd.func3 (by kernel_rfl)
    (of_decide_eq_true (by kernel_rfl)) (by unfold Func.isWrapper; first | (rw [if_pos (by decide +kernel)]; kernel_rfl) | (rw [if_neg (by decide +kernel)]; exact ⟨rfl, rfl⟩))
    (fun os started H enc _ => lifted os started H enc)

/-- The statement. -/
theorem proved : Rows.HeadTellsCardSaid :=
  Claim7.holds_tied_plain_at .later [] [.data] true (true, "8d0bd550655fbf2d1de6bf4a12756287b168fdfe59c4454121e308b2ccf30d29") false
    over (fun _ h => by cases h) (by kernel_rfl) (fun _ h => by cases h) headTells_row_tie rfl ⟨rfl, rfl⟩ (by kernel_rfl) rfl
    (fun f fn hf hfn => by
      obtain rfl : f = 3 := Option.some.inj ((show Tryd.prog.funcNamed "commonage/commonagelaw08.HeadTells" = some 3 by kernel_rfl).symm.trans hf) |>.symm
      obtain rfl : fn = Tryd.f3 := (Option.some.inj (Tryd.func3.symm.trans hfn)).symm
      exact ⟨by kernel_rfl, fun j t ht => by
        rw [Tryd.params3] at ht
        have hm : t ∈ [23, 24, 3] := by simpa using Array.mem_of_getElem? ht
        have hall : ([23, 24, 3].all fun u => !Tryd.prog.wantsStandIn u) = true := by kernel_rfl
        exact (show Tryd.prog.wantsStandIn t = false by simpa using List.all_eq_true.1 hall t hm)⟩)
    (by kernel_rfl)
#print axioms proved
end Go.Proofs.YtgfccbamcehkcaaDoor.headTells
