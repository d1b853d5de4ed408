/- New of the document's plans. -/
import Derived.Test.YthokalcibjjihaaGreatDoorRq
import Derived.Test.YthokalcibjjihaaGreatDoorEx
import Derived.Test.YthokalcibjjihaaGreatDoorReg
import Derived.Deep.RegionLaw
import Derived.Laws.MakeOwn
import Derived.Laws.ResultCell
import Derived.Deep.Cut
import Derived.Deep.CutRange
import Derived.Deep.DeepCutAuto
namespace Go.Proofs.YthokalcibjjihaaGreatDoor
open Go.ChangeShapes Go.WideShapes Go.ChangeAt Go.RowKit Go.Deep
set_option linter.unusedVariables false

theorem info_slot : (Tryz.prog.info? 71).map (fun i => (i.zero, i.size, i.bytes)) = some (some (.agg #[.int .i64 0, .int .i64 0, .int .i64 0, .int .i64 0]), 4, 32) := by kernel_rfl
theorem info_q : (Tryz.prog.info? 34).map (·.size) = some 5 := by kernel_rfl
theorem size_alloc1 (w : World) (o : Obj) : (w.alloc o).heap.size = w.heap.size + 1 := by show (w.heap.push o).size = _; simp

theorem results_cell_row2 {P : Program} {fn : Func} {p u : Tmp} {ty : TypeId} (h : fn.results = #[.cell p ty, .tmp u]) (tmps : Array Value) (w : World) (g : Nat) (t : TypeId) (cs : Array Value) (fr : Nat × Nat) (d : TypeDesc)
    (hp : tmps.getD p undef = .pointer (some ⟨g, 0, none⟩)) (hg : w.heap[g]? = some (.cells cs t fr))
    (hu : P.underlying ty = some d) (hd : (match d with | .struct _ | .array _ _ => true | _ => false) = true) (hi : (P.info? ty).map (·.size) = some cs.size) :
    (results fn tmps).run P w = .ok (.tuple #[.agg cs, tmps.getD u undef]) w := by
  rw [results_cell_tmp h, hp]
  simp [asAddr, run_loadVar_row w g t ty cs fr d hg hu hd hi]

set_option maxRecDepth 100000 in
set_option maxHeartbeats 20000000 in
theorem rnewp_new (v : Value) (c : Cf) (t : Nat) (w : World) (h : IsCf w v c) (ok : c.ok) (ht : t < c.m) :
    Calls Tryz.prog 34 #[v, .int .i64 (t : Nat)] w fun e w' => (∃ v', e = .returned (.tuple #[v', .int .i64 0]) ∧ IsQ w' v' (c.pl t) ∧ AvoidQ (fun k => k < w.heap.size) v') ∧ Bel w w' := by
  have hI := h
  obtain ⟨vc, vt, rfl, hN, hT⟩ := h
  obtain ⟨p2, c2, rfl, _⟩ := tens_slice hT
  have n8 := Cf.ok_n ok
  obtain ⟨b1, off1, cap1, hvc, hF⟩ : ∃ b1 off1 cap1, vc = .slice (some ⟨b1, off1, none⟩) c.n cap1 ∧ ∀ j, j < c.n → w.cell? ⟨b1, off1 + j, none⟩ = some (.int .i64 (c.F j)) := by
    rcases hN with ⟨e, _⟩ | ⟨b1, off1, cap1, e, _, _, _, hF⟩
    · omega
    · exact ⟨b1, off1, cap1, e, hF⟩
  subst hvc
  have hb := (Bel.refl w).alloc (.cells #[.slice (some ⟨b1, off1, none⟩) c.n cap1, .int .i64 c.page, .slice p2 c.m c2, .int .i64 c.wk, .int .i64 c.gr, .int .i64 c.gn] 25)
  have hb2 := (Bel.refl (w.alloc (.cells #[.slice (some ⟨b1, off1, none⟩) c.n cap1, .int .i64 c.page, .slice p2 c.m c2, .int .i64 c.wk, .int .i64 c.gr, .int .i64 c.gn] 25))).alloc (.cells #[.slice none 0 0, .slice none 0 0, .slice none 0 0, .int .i64 0, .slice none 0 0] 34)
  have hz := heap_alloc_new (w.alloc (.cells #[.slice (some ⟨b1, off1, none⟩) c.n cap1, .int .i64 c.page, .slice p2 c.m c2, .int .i64 c.wk, .int .i64 c.gr, .int .i64 c.gn] 25)) (.cells #[.slice none 0 0, .slice none 0 0, .slice none 0 0, .int .i64 0, .slice none 0 0] 34)
  rw [size_alloc1] at hz
  have hH := size_alloc1 w (.cells #[.slice (some ⟨b1, off1, none⟩) c.n cap1, .int .i64 c.page, .slice p2 c.m c2, .int .i64 c.wk, .int .i64 c.gr, .int .i64 c.gn] 25)
  have rg := rreg_any _ c t _ (hI.bel (hb.trans hb2))
  rw [Cf.regR_ok (Cf.has_zero ok ht), Cf.hasE_ok (Cf.has_zero ok ht), Int.toNat_natCast, ← Cf.pl_W ok ht] at rg
  have rs := fun (k : Nat) (hk : k < c.n) (W : World) (g : Bel w W) => rslots_any _ c t k W (hI.bel g)
  obtain ⟨P, hP⟩ : ∃ P, c.pl t = P := ⟨_, rfl⟩
  have hG := Cf.pl_good ok ht
  have hn : (c.pl t).n = c.n := rfl
  have hle := Cf.pl_S ok ht
  have hca := fun (k : Nat) (hk : k < c.n) => Cf.pl_cast ok ht hk
  have hlk := fun (k : Nat) (hk : k < c.n) => Cf.pl_le ok ht hk
  rw [hP] at rg hG hn hle hca hlk ⊢
  have hrs := fun (k : Nat) (hk : k < c.n) (W : World) (g : Bel w W) => by
    have := rs k hk W g
    rw [Cf.slotsR_ok (Cf.has_of ok ht hk), Cf.hasE_ok (Cf.has_of ok ht hk), Int.toNat_natCast, Int.toNat_natCast, ← (hca k hk).1] at this
    exact this
  have hpg := Lib.hid (show c.page = (P.g : Nat) from (hca 0 (by omega)).2.2.2.2.symm)
  have hid := Lib.hid (And.intro hG (And.intro hn (And.intro hle (And.intro hca (And.intro hlk (And.intro hrs (And.intro hF (And.intro hb (And.intro hb2 (And.intro hz hH))))))))))
  clear hN hT rs hG hn hle hca hlk hrs hF hb hb2 hz hI hP hH
  go_enter Tryz.func34, Tryz.ntmps34
  go_wp2_with (go_at_call 77; refine rg.mono ?_; rintro e w2 ⟨rfl, hg⟩; have cc := cf_at (hid.out.2.2.2.2.2.2.2.2.1.trans hg); obtain ⟨k0, k1, k2, k3, k4, k5⟩ := cc)
  have hcA := (hid.out.2.2.2.2.2.2.2.2.1.trans hg).alloc (.cells #[.slice none 0 0, .slice none 0 0, .slice none 0 0, .int .i64 (P.W : Nat), .slice (some ⟨b1, off1, none⟩) c.n cap1] 34)
  have hz8 := heap_bel (hg.alloc (.cells #[.slice none 0 0, .slice none 0 0, .slice none 0 0, .int .i64 (P.W : Nat), .slice (some ⟨b1, off1, none⟩) c.n cap1] 34)) hid.out.2.2.2.2.2.2.2.2.2.1
  have hx8 := heap_alloc_new w2 (.cells #[.slice none 0 0, .slice none 0 0, .slice none 0 0, .int .i64 (P.W : Nat), .slice (some ⟨b1, off1, none⟩) c.n cap1] 34)
  have sz8 := size_alloc1 w2 (.cells #[.slice none 0 0, .slice none 0 0, .slice none 0 0, .int .i64 (P.W : Nat), .slice (some ⟨b1, off1, none⟩) c.n cap1] 34)
  have szw := hg.size
  rw [size_alloc1, size_alloc1] at szw
  obtain ⟨W8, hW8⟩ : ∃ W, w2.alloc (.cells #[.slice none 0 0, .slice none 0 0, .slice none 0 0, .int .i64 (P.W : Nat), .slice (some ⟨b1, off1, none⟩) c.n cap1] 34) = W := ⟨_, rfl⟩
  rw [hW8] at hcA hz8 hx8 sz8 ⊢
  clear hW8 hg
  generalize w2.heap.size = b8 at *
  have R0 : R3 (b8 + 1) b8 W8 (P.W : Nat) (.slice (some ⟨b1, off1, none⟩) c.n cap1) P (.slice none 0 0) (.slice none 0 0) (.slice none 0 0) 0 0 0 :=
    ⟨hx8, World.ownsRow_nil _ _ _ _, World.ownsRow_nil _ _ _ _, World.ownsRow_nil _ _ _ _, fun _ h => (by cases h), fun _ h => (by cases h), fun _ h => (by cases h), by omega, by omega⟩
  have hid8 := Lib.hid (And.intro hcA (And.intro hz8 (And.intro R0 (And.intro sz8 szw))))
  clear hcA hz8 R0 hx8 k0 k1 k2 k3 k4 k5 rg
  go_loopw [9] (fun i wr => ∃ (k : Nat) (Lv Fv Mv : Value), k ≤ c.n ∧ i = .int .i64 (k : Nat) ∧ R3 (b8 + 1) b8 wr (P.W : Nat) (.slice (some ⟨b1, off1, none⟩) c.n cap1) P Lv Fv Mv (P.fo k) (P.po k) (P.po k) ∧ Below b8 W8 wr) (fun i _ => c.n - (intOf i).toNat)
  case atStart => exact ⟨0, _, _, _, Nat.zero_le _, rfl, hid8.out.2.2.1, Below.refl _ _⟩
  case round =>
    obtain ⟨k, Lv, Fv, Mv, hk, rfl, R, hbw⟩ := hrel
    have gc := Below.trans hid8.out.1 (hbw.mono (by rw [hid.out.2.2.2.2.2.2.2.2.2.2]; omega))
    have cc := cf_at gc
    obtain ⟨k0, k1, k2, k3, k4, k5⟩ := cc
    by_cases ck : k < c.n
    · have rs := hid.out.2.2.2.2.2.1 k ck wr (hid.out.2.2.2.2.2.2.2.1.trans gc)
      have hidR := Lib.hid (And.intro R hbw)
      have s64 := (hid.out.2.2.2.2.1 k ck).1
      obtain ⟨s, hs⟩ : ∃ s, P.s k = s := ⟨_, rfl⟩
      have hids := Lib.hid hs
      rw [hs] at rs s64
      clear R hbw gc hs
      go_wp2_with (go_at_call 82; refine rs.mono ?_; rintro e w3 ⟨rfl, hg3⟩)
      have R := hidR.out.1.bel hg3
      have hbw := Below.trans hidR.out.2 (Below.mono hg3 (by have := hidR.out.2.size; omega))
      clear hidR rs k0 k1 k2 k3 k4 k5
      obtain ⟨i0, hi, hz0, hz1, hz2⟩ := info_parts info_num
      obtain ⟨i4, hi4, hy0, hy1, hy2⟩ := info_parts info_slot
      go_loopw [10] (fun l wr => ∃ (x j lf : Nat) (Lv Fv Mv : Value), x ≤ P.p k ∧ (x < P.p k → j = x * P.e k) ∧ (x = P.p k → j = P.s k) ∧ j + lf = P.s k ∧ l = .int .i64 (lf : Nat) ∧ R3 (b8 + 1) b8 wr (P.W : Nat) (.slice (some ⟨b1, off1, none⟩) c.n cap1) P Lv Fv Mv (P.fo k + j) (P.po k + x) (P.po k + x) ∧ Below b8 W8 wr) (fun l _ => (intOf l).toNat)
      case atStart =>
        have p1 := hid.out.1.p1 k (by rw [hid.out.2.1]; exact ck)
        exact ⟨0, 0, s, _, _, _, by omega, fun _ => by omega, fun _ => by omega, by rw [hids.out]; omega, rfl, R, hbw⟩
      case round =>
        obtain ⟨x, j, lf, Lv, Fv, Mv, hx, hj1, hj2, hl, rfl, R2, hbw2⟩ := hrel
        obtain ⟨pL, cL, rfl⟩ := own_shape R2.L
        obtain ⟨pF, cF, rfl⟩ := own_shape R2.F
        obtain ⟨pM, cM, rfl⟩ := own_shape R2.M
        have gc := Below.trans hid8.out.1 (hbw2.mono (by rw [hid.out.2.2.2.2.2.2.2.2.2.2]; omega))
        have cc := cf_at gc
        obtain ⟨k0, k1, k2, k3, k4, k5⟩ := cc
        obtain ⟨r0, r1, r2, r3, r4⟩ := R2.at
        have hG := hid.out.1
        have hxp := Lib.hid hx
        have kn : k < P.n := by rw [hid.out.2.1]; exact ck
        have iS : P.fo k + j ≤ 32768 ∧ P.po k + x ≤ 32768 := by
          have a1 := Pl.fo_le (P := P) (show k + 1 ≤ P.n by omega)
          have a2 := Pl.po_le (P := P) (show k + 1 ≤ P.n by omega)
          have a3 := hid.out.2.2.1
          rw [Pl.fo_succ] at a1
          rw [Pl.po_succ] at a2
          unfold Pl.S Pl.T at a3
          omega
        have hfi : x < P.p k → P.fi (P.po k + x) = P.fo k + j := fun h => by rw [Pl.fi_at kn h, hj1 h]
        obtain ⟨I, hI⟩ : ∃ I, P.fo k + j = I := ⟨_, rfl⟩
        obtain ⟨Q, hQ⟩ : ∃ Q, P.po k + x = Q := ⟨_, rfl⟩
        rw [hI, hQ] at R2 iS
        rw [hI] at hfi r0
        rw [hQ] at r1 r2
        obtain ⟨i1, i2⟩ := iS
        by_cases cl : lf = 0
        · have hidR2 := Lib.hid (And.intro R2 (And.intro hbw2 (And.intro hI (And.intro hQ (And.intro hj1 (And.intro hj2 hl))))))
          subst cl
          clear R2 hbw2 gc hI hQ hj1 hj2 hl hfi hx hG
          go_wp2
          go_roundw
          case rel =>
            obtain ⟨R2, hbw2, hI, hQ, hj1, hj2, hl⟩ := hidR2.out
            have xp : x = P.p k := by
              by_cases y : x < P.p k
              · have := Pl.mul_few hid.out.1 kn y
                have := hj1 y
                omega
              · have := hxp.out; omega
            have e1 : P.fo (k + 1) = I := by rw [Pl.fo_succ]; omega
            have e2 : P.po (k + 1) = Q := by rw [Pl.po_succ]; omega
            exact ⟨k + 1, _, _, _, by omega, by go_num, by rw [e1, e2]; exact R2, hbw2⟩
          case measure => simp only [intOf]; omega
        · have hx2 : x < P.p k := by
            by_cases y : x < P.p k
            · exact y
            · have := hj2 (by omega); omega
          have d1 : decide ((0 : Int) < (lf : Int)) = true := decide_eq_true (by omega)
          have d2 : decide (0 < lf) = true := decide_eq_true (by omega)
          have hown := (R2.bel ((Bel.refl wr).alloc (.cells #[.int .i64 (I : Nat)] 3))).F
          have hb1 := (Bel.refl wr).alloc (.cells #[.int .i64 (I : Nat)] 3)
          have hsz : b8 + 1 ≤ (wr.alloc (.cells #[.int .i64 (I : Nat)] 3)).heap.size := by have := R2.Bw; rw [size_alloc1]; omega
          have hfi2 := hfi hx2
          rw [hQ] at hfi2
          have hidR2 := Lib.hid (And.intro R2 (And.intro hbw2 (And.intro hI (And.intro hQ (And.intro hj1 (And.intro hj2 (And.intro hl (And.intro hown (And.intro hb1 (And.intro hsz hfi2))))))))))
          clear R2 hbw2 gc hI hQ hj1 hj2 hl hfi hx hG hown hb1 hsz hfi2
          go_wp2_with (at_builtin
                       refine wpList_append_lies (P := Tryz.prog) _ rfl (.tmp 48) (.tmp 52) 22 rfl (b8 + 1) 3 i0 (.int .i64 0) 1 8 Tryz.underlying22 hi hz0 hz1 hz2 rfl (by decide) (.slice pF Q cF) Q _ rfl hidR2.out.2.2.2.2.2.2.2.1 ⟨wr.heap.size, 0, none⟩ 1 1 [.int .i64 (I : Nat)] rfl rfl (World.news_of_block (cs := #[.int .i64 (I : Nat)]) (t := 3) (fr := (0, 0)) (heap_alloc_new wr _)) (by simp [Value.oneCell']) (by omega) (by unfold maxLen; omega) (by omega) hidR2.out.2.2.2.2.2.2.2.2.2.1 _ rfl ?_
                       intro gg capg w4 hO4 hgrow4 hat4 hlt4
                       obtain ⟨fz, cx, W5, hW5, R5, hB5⟩ := hidR2.out.1.pushF hidR2.out.2.2.2.2.2.2.2.2.1 hgrow4 hat4 (by rw [hidR2.out.2.2.2.2.2.2.2.2.2.2]; exact hO4)
                       have hid5 := Lib.hid (And.intro R5 hB5)
                       clear hO4 hgrow4 hat4 hlt4 R5 hB5)
          clear k0 k1 k2 k3 k4 k5 r0 r1 r2 r3 r4 cx fz
          obtain ⟨wu, rfl⟩ : ∃ wu, wu = wr := ⟨wr, rfl⟩
          go_loopw [10, 13, 14] (fun l n a wr => ∃ (r l2 : Nat) (Lv Fv Mv : Value), r ≤ P.e k ∧ j + r + l2 = P.s k ∧ l = .int .i64 (l2 : Nat) ∧ n = .int .i64 (r : Nat) ∧ a = .int .i64 ((r * P.f k : Nat) : Int) ∧ R3 (b8 + 1) b8 wr (P.W : Nat) (.slice (some ⟨b1, off1, none⟩) c.n cap1) P Lv Fv Mv (I + r) (Q + 1) Q ∧ Below b8 W8 wr) (fun l _ _ _ => (intOf l).toNat)
          case atStart =>
            obtain ⟨R5, hB5⟩ := hid5.out
            exact ⟨0, lf, _, _, _, Nat.zero_le _, by have := hidR2.out.2.2.2.2.2.2.1; omega, rfl, rfl, by rw [Nat.zero_mul]; rfl, R5, Below.trans hidR2.out.2.1 hB5⟩
          case round =>
            obtain ⟨r, l2, Lv6, Fv6, Mv6, hr, hl6, rfl, rfl, rfl, R6, hbw6⟩ := hrel
            obtain ⟨pL6, cL6, rfl⟩ := own_shape R6.L
            obtain ⟨pF6, cF6, rfl⟩ := own_shape R6.F
            obtain ⟨pM6, cM6, rfl⟩ := own_shape R6.M
            have gc := Below.trans hid8.out.1 (hbw6.mono (by rw [hid.out.2.2.2.2.2.2.2.2.2.2]; omega))
            have cc := cf_at gc
            obtain ⟨k0, k1, k2, k3, k4, k5⟩ := cc
            obtain ⟨r0, r1, r2, r3, r4⟩ := R6.at
            have cK := cell_bel (Bel.trans hid.out.2.2.2.2.2.2.2.1 gc) (hid.out.2.2.2.2.2.2.1 k ck)
            rw [← (hid.out.2.2.2.1 k ck).2.2.2.1] at cK
            rw [hpg.out] at k1
            obtain ⟨q1, q2, q3, q4, q5⟩ := hid.out.2.2.2.2.1 k ck
            have rf := Nat.mul_le_mul hr (Nat.le_refl (P.f k))
            have ef := hid.out.1.fit k kn
            have tg := hid.out.1.tight k kn
            have hrf1 : (r + 1) * P.f k = r * P.f k + P.f k := Nat.succ_mul _ _
            have hre := fun (y : r + 1 ≤ P.e k) => Nat.mul_le_mul y (Nat.le_refl (P.f k))
            obtain ⟨a, ha⟩ : ∃ a, r * P.f k = a := ⟨_, rfl⟩
            rw [ha] at rf hrf1 ⊢
            obtain ⟨f, hf⟩ : ∃ f, P.f k = f := ⟨_, rfl⟩
            obtain ⟨g, hg⟩ : ∃ g, P.g = g := ⟨_, rfl⟩
            rw [hf] at cK q4
            rw [hg] at k1 q5
            have kI : (k : Int) < (c.n : Int) := by omega
            have kz : (0 : Int) ≤ (k : Int) := by omega
            have a64 : a ≤ 64 := by omega
            have r64 : r ≤ 64 := by omega
            have l4096 : l2 ≤ 4096 := by omega
            have wA : IntKind.i64.wrap ((a : Int) + (f : Int)) = ((a + f : Nat) : Int) := by rw [IntKind.wrap_i64]; omega
            obtain ⟨af, haf⟩ : ∃ af, a + f = af := ⟨_, rfl⟩
            rw [haf] at wA
            by_cases cl2 : 0 < l2
            · have d1 : decide ((0 : Int) < (l2 : Int)) = true := decide_eq_true (by omega)
              have d2 : decide (0 < l2) = true := decide_eq_true cl2
              by_cases ce : r < P.e k
              · have le : af ≤ g := by have := hre ce; rw [hrf1, hf] at this; omega
                have d3 : decide ((af : Int) ≤ (g : Int)) = true := decide_eq_true (by omega)
                have d4 : decide (af ≤ g) = true := decide_eq_true le
                have hid6 := Lib.hid (And.intro R6 (And.intro hbw6 (And.intro hl6 (And.intro ha (And.intro hf (And.intro hg (And.intro haf hr)))))))
                clear R6 hbw6 hl6 ha hf hg haf hr gc rf ef tg hrf1 hre le q1 q2 q3
                go_wp2
                go_quiet (fail)
                obtain ⟨wd, hwd⟩ : ∃ wd, wr.drewN nq = wd := ⟨_, rfl⟩
                rw [hwd]
                have gd : Bel wr wd := hwd ▸ Bel.drewN wr nq
                clear hwd
                obtain ⟨R6, hbw6, hl6, ha, hf, hg, haf, hr⟩ := hid6.out
                have R7 := R6.bel gd
                have hj := hidR2.out.2.2.2.2.1 hx2
                have sl := Pl.sl_at hid.out.1 kn ce (x := x) (by omega)
                have eI : P.fo k + (x * P.e k + r) = I + r := by have := hidR2.out.2.2.1; omega
                rw [eI, ha, hf, hg, hidR2.out.2.2.2.1] at sl
                have eM : Q * g ≤ 32768 * 64 := Nat.mul_le_mul i2 q5
                obtain ⟨M, hM⟩ : ∃ M, Q * g = M := ⟨_, rfl⟩
                rw [hM] at sl eM
                obtain ⟨A, hA⟩ : ∃ A, M + a = A := ⟨_, rfl⟩
                rw [hA] at sl
                have wM : IntKind.i64.wrap ((Q : Int) * (g : Int)) = (M : Int) := by rw [← Int.natCast_mul, hM, IntKind.wrap_i64]; omega
                have wS : IntKind.i64.wrap ((M : Int) + (a : Int)) = (A : Int) := by rw [IntKind.wrap_i64]; omega
                have gl := (Bel.refl wd).alloc (.cells #[.int .i64 (k : Nat), .int .i64 (f : Nat), .int .i64 (A : Nat), .int .i64 (Q : Nat)] 71)
                have K0 := cell_bel gd k0
                have K1 := cell_bel gd k1
                have KK := cell_bel gd cK
                have KL := cell_bel gd r0
                have L0 := cell_bel gl K0
                have L1 := cell_bel gl K1
                have LK := cell_bel gl KK
                have LL := cell_bel gl KL
                have hIr : I + r ≤ 100000 := by omega
                have news := World.news_of_block (w := (wd.alloc (.cells #[.int .i64 (k : Nat), .int .i64 (f : Nat), .int .i64 (A : Nat), .int .i64 (Q : Nat)] 71)).drew) (cs := #[.int .i64 (k : Nat), .int .i64 (f : Nat), .int .i64 (A : Nat), .int .i64 (Q : Nat)]) (t := 71) (fr := (0, 0)) (heap_alloc_new wd (.cells #[.int .i64 (k : Nat), .int .i64 (f : Nat), .int .i64 (A : Nat), .int .i64 (Q : Nat)] 71))
                have hsz : b8 + 1 ≤ ((wd.alloc (.cells #[.int .i64 (k : Nat), .int .i64 (f : Nat), .int .i64 (A : Nat), .int .i64 (Q : Nat)] 71)).drew).heap.size := Nat.le_trans R7.Bw gl.drew.size
                have hid7 := Lib.hid (And.intro R7 (And.intro (R7.bel gl.drew).L (And.intro gl.drew (And.intro news (And.intro hsz (And.intro sl gd))))))
                clear R7 R6 hbw6 hl6 ha hf hg haf hr gd hj sl eI eM hM hA gl k0 k1 k2 k3 k4 k5 r0 r1 r2 r3 r4 cK news hsz wA d1 d2 d3 d4
                go_upto_region 16 with fail
                go_cut [94] (fun s94 wx => RowKit.Hid (∃ cL7 pL7, R3 (b8 + 1) b8 wx (P.W : Nat) (.slice (some ⟨b1, off1, none⟩) c.n cap1) P (.slice pL7 (I + r + 1) cL7) (.slice pF6 (Q + 1) cF6) (.slice pM6 Q cM6) (I + r + 1) (Q + 1) Q ∧ Below b8 wd wx))
                case first =>
                  go_region_law (first
                    | (refine step_append_lies (P := Tryz.prog) _ (by rfl) (.tmp 77) (.tmp 92) 32 (by rfl) (b8 + 1) 71 i4 (.agg #[.int .i64 0, .int .i64 0, .int .i64 0, .int .i64 0]) 4 32 Tryz.underlying32 hi4 hy0 hy1 hy2 rfl (by decide) (.slice pL6 (I + r) cL6) (I + r) _ (by rfl) hid7.out.2.1 ⟨wd.heap.size, 0, none⟩ 1 1 [.int .i64 (k : Nat), .int .i64 (f : Nat), .int .i64 (A : Nat), .int .i64 (Q : Nat)] (by rfl) (by rfl) hid7.out.2.2.2.1 (by simp [Value.oneCell']) (by omega) (by unfold maxLen; omega) (by omega) hid7.out.2.2.2.2.1 _ rfl ?_
                       intro gg8 cap8 w8 hO8 hgrow8 hat8 hlt8
                       obtain ⟨fz, cx, W9, hW9, R9, hB9⟩ := hid7.out.1.pushL hid7.out.2.2.1 hgrow8 hat8 (by obtain ⟨s1, s2, s3, s4⟩ := hid7.out.2.2.2.2.2.1; rw [s1, s2, s3, s4]; exact hO8)
                       have hid9 := Lib.hid (And.intro R9 hB9)
                       clear hO8 hgrow8 hat8 hlt8 R9 hB9))
                  trace "ENDED"
                  all_goals go_wp2_with fail
                  all_goals go_meet
                  all_goals trace "MET"
                  all_goals exact Lib.hid ⟨_, _, hid9.out.1, hid9.out.2⟩
                case rest =>
                  have hwlt : w.heap.size < b8 := by have := hid8.out.2.2.2.2; omega
                  have M0 := (Below.cell (p := ⟨w.heap.size, 0, none⟩) hcut.out.choose_spec.choose_spec.2 hwlt).trans K0
                  have MK := (Below.cell (p := ⟨b1, off1 + k, none⟩) hcut.out.choose_spec.choose_spec.2 (Nat.lt_trans (cell_block (hid.out.2.2.2.2.2.2.1 k ck)).1 hwlt)).trans KK
                  clear K0 K1 KK KL L0 L1 LK LL
                  go_wp2
                  go_roundw
                  case rel =>
                    obtain ⟨cL7, pL7, R9, hB9⟩ := hcut.out
                    obtain ⟨R6, hbw6, hl6, ha, hf, hg, haf, hr⟩ := hid6.out
                    have hrf : (r + 1) * P.f k = r * P.f k + P.f k := Nat.succ_mul _ _
                    refine ⟨r + 1, l2 - 1, _, _, _, by omega, by omega, by go_num, by go_num, ?_, R9, Below.trans hbw6 (Below.trans (Below.mono hid7.out.2.2.2.2.2.2 (by have := hbw6.size; have := hid8.out.2.2.2.1; omega)) hB9)⟩
                    rw [show (r + 1) * P.f k = a + f by omega]
                    go_num
                  case measure => simp only [intOf]; omega
              · have er : r = P.e k := by omega
                have le : ¬ af ≤ g := by rw [← er, ha, hf] at tg; omega
                have d3 : decide ((af : Int) ≤ (g : Int)) = false := decide_eq_false (by omega)
                have d4 : decide (af ≤ g) = false := decide_eq_false le
                have hj := hidR2.out.2.2.2.2.1 hx2
                have ej : j + r = P.fo k + j + r - P.fo k := by omega
                have pe := Pl.page_end hid.out.1 kn hx2 hr (by omega) (Or.inl er)
                rw [hidR2.out.2.2.2.1] at pe
                have r1' : 1 ≤ r := by have := hid.out.1.e1 k kn; have := hidR2.out.2.2.2.2.2.2.1; omega
                have hid6 := Lib.hid (And.intro R6 (And.intro hbw6 (And.intro hl6 (And.intro hj pe))))
                clear le er R6 hbw6 hl6 ha hf hg haf hr gc rf ef tg hrf1 hre q1 q2 q3 hj ej pe
                go_wp2
                go_quiet (fail)
                obtain ⟨wd, hwd⟩ : ∃ wd, wr.drewN nq = wd := ⟨_, rfl⟩
                rw [hwd]
                have gd : Bel wr wd := hwd ▸ Bel.drewN wr nq
                clear hwd
                have R7 := hid6.out.1.bel gd
                have gl := (Bel.refl wd).alloc (.cells #[.int .i64 (r : Nat)] 3)
                have K2 := cell_bel gd r2
                have hsz : b8 + 1 ≤ (wd.alloc (.cells #[.int .i64 (r : Nat)] 3)).heap.size := Nat.le_trans R7.Bw gl.size
                have hid7 := Lib.hid (And.intro R7 (And.intro (R7.bel gl).M (And.intro gl (And.intro hsz gd))))
                clear R7 gl hsz gd k0 k1 k2 k3 k4 k5 r0 r1 r2 r3 r4 cK wA
                go_wp2_with (at_builtin
                             refine wpList_append_lies (P := Tryz.prog) _ rfl (.tmp 100) (.tmp 102) 22 rfl (b8 + 1) 3 i0 (.int .i64 0) 1 8 Tryz.underlying22 hi hz0 hz1 hz2 rfl (by decide) (.slice pM6 Q cM6) Q _ rfl hid7.out.2.1 ⟨wd.heap.size, 0, none⟩ 1 1 [.int .i64 (r : Nat)] rfl rfl (World.news_of_block (cs := #[.int .i64 (r : Nat)]) (t := 3) (fr := (0, 0)) (heap_alloc_new wd _)) (by simp [Value.oneCell']) (by omega) (by unfold maxLen; omega) (by omega) hid7.out.2.2.2.1 _ rfl ?_
                             intro gg9 capg9 w9 hO9 hgrow9 hat9 hlt9
                             obtain ⟨fz, cx, W9, hW9, R9, hB9⟩ := hid7.out.1.pushM hid7.out.2.2.1 hgrow9 hat9 (by rw [hid6.out.2.2.2.2.1]; exact hO9)
                             have hid9 := Lib.hid (And.intro R9 hB9)
                             clear hO9 hgrow9 hat9 hlt9 R9 hB9)
                go_roundw
                case rel =>
                  obtain ⟨R9, hB9⟩ := hid9.out
                  obtain ⟨R6, hbw6, hl6, hj, e1, e2⟩ := hid6.out
                  have hI := hidR2.out.2.2.1
                  have hQ := hidR2.out.2.2.2.1
                  have hbw9 := Below.trans hbw6 (Below.trans (Below.mono hid7.out.2.2.2.2 (by have := hbw6.size; have := hid8.out.2.2.2.1; omega)) hB9)
                  rw [show I + r = P.fo k + (j + r) by omega, show Q + 1 = P.po k + (x + 1) by omega] at R9
                  exact ⟨x + 1, j + r, l2, _, _, _, by omega, fun h => by omega, fun h => by omega, by omega, rfl, R9, hbw9⟩
                case measure =>
                  have := hid6.out.2.2.1
                  have := hidR2.out.2.2.2.2.2.2.1
                  simp only [intOf]; omega
            · have d1 : decide ((0 : Int) < (l2 : Int)) = false := decide_eq_false (by omega)
              have d2 : decide (0 < l2) = false := decide_eq_false cl2
              have hj := hidR2.out.2.2.2.2.1 hx2
              have ej : j + r = P.fo k + j + r - P.fo k := by omega
              have pe := Pl.page_end hid.out.1 kn hx2 hr (by omega) (Or.inr (by omega))
              rw [hidR2.out.2.2.2.1] at pe
              have r1' : 1 ≤ r := by have := hid.out.1.e1 k kn; have := hidR2.out.2.2.2.2.2.2.1; omega
              have hid6 := Lib.hid (And.intro R6 (And.intro hbw6 (And.intro hl6 (And.intro hj pe))))
              clear R6 hbw6 hl6 ha hf hg haf hr gc rf ef tg hrf1 hre q1 q2 q3 hj ej pe
              go_wp2
              go_quiet (fail)
              obtain ⟨wd, hwd⟩ : ∃ wd, wr.drewN nq = wd := ⟨_, rfl⟩
              rw [hwd]
              have gd : Bel wr wd := hwd ▸ Bel.drewN wr nq
              clear hwd
              have R7 := hid6.out.1.bel gd
              have gl := (Bel.refl wd).alloc (.cells #[.int .i64 (r : Nat)] 3)
              have K2 := cell_bel gd r2
              have hsz : b8 + 1 ≤ (wd.alloc (.cells #[.int .i64 (r : Nat)] 3)).heap.size := Nat.le_trans R7.Bw gl.size
              have hid7 := Lib.hid (And.intro R7 (And.intro (R7.bel gl).M (And.intro gl (And.intro hsz gd))))
              clear R7 gl hsz gd k0 k1 k2 k3 k4 k5 r0 r1 r2 r3 r4 cK wA
              go_wp2_with (at_builtin
                           refine wpList_append_lies (P := Tryz.prog) _ rfl (.tmp 100) (.tmp 102) 22 rfl (b8 + 1) 3 i0 (.int .i64 0) 1 8 Tryz.underlying22 hi hz0 hz1 hz2 rfl (by decide) (.slice pM6 Q cM6) Q _ rfl hid7.out.2.1 ⟨wd.heap.size, 0, none⟩ 1 1 [.int .i64 (r : Nat)] rfl rfl (World.news_of_block (cs := #[.int .i64 (r : Nat)]) (t := 3) (fr := (0, 0)) (heap_alloc_new wd _)) (by simp [Value.oneCell']) (by omega) (by unfold maxLen; omega) (by omega) hid7.out.2.2.2.1 _ rfl ?_
                           intro gg9 capg9 w9 hO9 hgrow9 hat9 hlt9
                           obtain ⟨fz, cx, W9, hW9, R9, hB9⟩ := hid7.out.1.pushM hid7.out.2.2.1 hgrow9 hat9 (by rw [hid6.out.2.2.2.2.1]; exact hO9)
                           have hid9 := Lib.hid (And.intro R9 hB9)
                           clear hO9 hgrow9 hat9 hlt9 R9 hB9)
              go_roundw
              case rel =>
                obtain ⟨R9, hB9⟩ := hid9.out
                obtain ⟨R6, hbw6, hl6, hj, e1, e2⟩ := hid6.out
                have hI := hidR2.out.2.2.1
                have hQ := hidR2.out.2.2.2.1
                have hbw9 := Below.trans hbw6 (Below.trans (Below.mono hid7.out.2.2.2.2 (by have := hbw6.size; have := hid8.out.2.2.2.1; omega)) hB9)
                rw [show I + r = P.fo k + (j + r) by omega, show Q + 1 = P.po k + (x + 1) by omega] at R9
                exact ⟨x + 1, j + r, l2, _, _, _, by omega, fun h => by omega, fun h => by omega, by omega, rfl, R9, hbw9⟩
              case measure =>
                have := hid6.out.2.2.1
                have := hidR2.out.2.2.2.2.2.2.1
                simp only [intOf]; omega
    · obtain rfl : k = c.n := by omega
      have hn := hid.out.2.1
      have eS : P.fo c.n = P.S := by rw [← hn]; rfl
      have eT : P.po c.n = P.T := by rw [← hn]; rfl
      rw [eS, eT] at R
      obtain ⟨pL, cL, rfl⟩ := own_shape R.L
      obtain ⟨pF, cF, rfl⟩ := own_shape R.F
      obtain ⟨pM, cM, rfl⟩ := own_shape R.M
      obtain ⟨r0, r1, r2, r3, r4⟩ := R.at
      have hlt : w.heap.size + 1 < b8 := by have := hid8.out.2.2.2.2; omega
      have hz := (hbw.block (w.heap.size + 1) hlt).trans hid8.out.2.1
      obtain ⟨⟨z0, z1, z2, z3, z4⟩, f0, f1, f2, f3, f4⟩ := box5 hz
      have hS1 : 1 ≤ P.S := by
        have := hid.out.1
        have a1 := this.s1 0 this.one
        have a2 := Pl.fo_S (P := P) this.one (show 0 < P.s 0 by omega)
        omega
      have hR := ((((R.set hlt 0 (.slice pL P.S cL)).set hlt 1 (.slice pF P.T cF)).set hlt 2 (.slice pM P.T cM)).set hlt 3 (.int .i64 (P.W : Nat))).set hlt 4 (.slice (some ⟨b1, off1, none⟩) c.n cap1)
      rw [← hn] at hR
      have hQ := hR.is hS1
      rw [hn] at hQ
      have hgo := Below.trans hid.out.2.2.2.2.2.2.2.1 (Below.mono gc (by rw [hid.out.2.2.2.2.2.2.2.2.2.2]; omega))
      have hB : Bel w (((((wr.setCell ⟨w.heap.size + 1, 0, none⟩ (.slice pL P.S cL)).setCell ⟨w.heap.size + 1, 1, none⟩ (.slice pF P.T cF)).setCell ⟨w.heap.size + 1, 2, none⟩ (.slice pM P.T cM)).setCell ⟨w.heap.size + 1, 3, none⟩ (.int .i64 (P.W : Nat))).setCell ⟨w.heap.size + 1, 4, none⟩ (.slice (some ⟨b1, off1, none⟩) c.n cap1)) :=
        ((((hgo.setCell (Nat.le_succ _) _).setCell (Nat.le_succ _) _).setCell (Nat.le_succ _) _).setCell (Nat.le_succ _) _).setCell (Nat.le_succ _) _
      have hrow := five_row hz (.slice pL P.S cL) (.slice pF P.T cF) (.slice pM P.T cM) (.int .i64 (P.W : Nat)) (.slice (some ⟨b1, off1, none⟩) c.n cap1)
      have own_new : ∀ {e : TypeId} {z n : Nat} {v : Value} {xs : List Value}, wr.ownsRow (b8 + 1) e z v n xs → Avoid (fun k => k < w.heap.size) v := fun h b off sp n' cap' ev x => by
        have := (h.lt b (by rw [ev]; rfl)).1
        have := hlt
        simp only at x
        omega
      have hAv : AvoidQ (fun k => k < w.heap.size) (.agg #[.slice pL P.S cL, .slice pF P.T cF, .slice pM P.T cM, .int .i64 (P.W : Nat), .slice (some ⟨b1, off1, none⟩) c.n cap1]) := fun L F M a b e => by
        injection e with e
        injection e with e
        simp only [List.cons.injEq, and_true] at e
        obtain ⟨rfl, rfl, rfl, _, _⟩ := e
        exact ⟨own_new R.L, own_new R.F, own_new R.M⟩
      have hidE := Lib.hid (And.intro (And.intro hQ hAv) (And.intro hB hrow))
      clear R hbw gc hn eS eT hz hR hQ hgo hB hrow hS1 hAv own_new
      go_wp2
      (try simp only [Exit.inBlock, Exit.then])
      refine bodyPost_ret (results_cell_row2 rfl _ _ _ 34 _ (0, 0) _ rfl hidE.out.2.2 Tryz.underlying34 rfl info_q) rfl ?_
      exact ⟨⟨_, rfl, hidE.out.1⟩, hidE.out.2.1⟩
theorem rnewp_yes (v : Value) (c : Cf) (t : Nat) (w : World) (h : IsCf w v c) (ok : c.ok) (ht : t < c.m) :
    Calls Tryz.prog 34 #[v, .int .i64 (t : Nat)] w fun e w' => (∃ v', e = .returned (.tuple #[v', .int .i64 0]) ∧ IsQ w' v' (c.pl t)) ∧ Bel w w' :=
  (rnewp_new v c t w h ok ht).mono fun e w' ⟨⟨v', a, b, _⟩, g⟩ => ⟨⟨v', a, b⟩, g⟩

end Go.Proofs.YthokalcibjjihaaGreatDoor
