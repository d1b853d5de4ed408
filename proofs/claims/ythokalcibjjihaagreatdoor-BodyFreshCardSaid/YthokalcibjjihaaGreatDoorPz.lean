/- New of the program's plans. -/
import Derived.Test.YthokalcibjjihaaGreatDoorPm
import Derived.Deep.RegionLaw
namespace Go.Proofs.YthokalcibjjihaaGreatDoor
open Go.ChangeShapes Go.WideShapes Go.ChangeAt Go.RowKit Go.Deep Go.Shelf
set_option linter.unusedVariables false

section
variable {b : Nat} {w w1 w2 : World} {Lv : Value} {P : Pl} {i a m a' m' : Nat}
/-- a plan that is made -/
theorem R1.fresh (R : R1 b w P Lv P.n a m a' m') (hn : 1 ≤ P.n) : ∃ g cap, b + 3 ≤ g ∧ PlanAt w b g 0 cap P := by
  have hb := heap_lt R.box
  have hx := box2 R.box
  rcases R.L.2 with ⟨e, e2⟩ | ⟨g, cap, cur, rfl, hg, hh, hc, hm, hs, _⟩
  · omega
  · refine ⟨g, cap, hg, hb, heap_lt hh, hx.1.1, hx.1.2, hc, by unfold maxLen at hm; omega, fun k hk => ?_⟩
    have c := fun j (hj : j < 7) => R.L.cellAt (k * 7 + j) (by omega)
    have d := fun j (hj : j < 7) => ptL_at P hk j hj
    rw [Nat.zero_add]
    refine ⟨?_, ?_, ?_, ?_, ?_, ?_, ?_⟩
    · have := c 0 (by omega); rw [d 0 (by omega)] at this; exact this
    · have := c 1 (by omega); rw [d 1 (by omega)] at this; exact this
    · have := c 2 (by omega); rw [d 2 (by omega)] at this; exact this
    · have := c 3 (by omega); rw [d 3 (by omega)] at this; exact this
    · have := c 4 (by omega); rw [d 4 (by omega)] at this; exact this
    · have := c 5 (by omega); rw [d 5 (by omega)] at this; exact this
    · have := c 6 (by omega); rw [d 6 (by omega)] at this; exact this
end
theorem al3z (w : World) (a b c : Obj) : Bel w (((w.alloc a).alloc b).alloc c) := (((Bel.refl w).alloc a).alloc b).alloc c
theorem three_newz (w : World) (a c d : Obj) : (((w.alloc a).alloc c).alloc d).heap.size = w.heap.size + 3 ∧ (((w.alloc a).alloc c).alloc d).heap[w.heap.size]? = some a ∧ (((w.alloc a).alloc c).alloc d).heap[w.heap.size + 1]? = some c ∧ (((w.alloc a).alloc c).alloc d).heap[w.heap.size + 1 + 1]? = some d := by
  obtain ⟨h1, _, h3, h4, h5⟩ := three_at (w := w) (a := a) (c := c) (d := d) rfl
  exact ⟨h1, h3, h4, h5⟩

set_option maxRecDepth 100000 in
set_option maxHeartbeats 20000000 in
theorem pnew_fresh (v : Value) (c : Cf) (t : Nat) (w : World) (h : IsCf w v c) (ok : c.ok) (ht : t < c.m) :
    Calls Tryz.prog 27 #[v, .int .i64 (t : Nat)] w fun e w' => (∃ b g cap, e = .returned (.tuple #[.pointer (some ⟨b, 0, none⟩), .int .i64 0]) ∧ PlanAt w' b g 0 cap (c.pl t) ∧ w.heap.size ≤ b ∧ w.heap.size ≤ g) ∧ Bel w w' := by
  have hI := h
  obtain ⟨vc, vt, rfl, hN, hT⟩ := h
  obtain ⟨p2, c2, rfl, _⟩ := tens_slice hT
  have n8 := Cf.ok_n ok
  obtain ⟨b1, off1, cap1, hvc, hF⟩ : ∃ b1 off1 cap1, vc = .slice (some ⟨b1, off1, none⟩) c.n cap1 ∧ ∀ j, j < c.n → w.cell? ⟨b1, off1 + j, none⟩ = some (.int .i64 (c.F j)) := by
    rcases hN with ⟨e, _⟩ | ⟨b1, off1, cap1, e, _, _, _, hF⟩
    · omega
    · exact ⟨b1, off1, cap1, e, hF⟩
  subst hvc
  have hb := (Bel.refl w).alloc (.cells #[.slice (some ⟨b1, off1, none⟩) c.n cap1, .int .i64 c.page, .slice p2 c.m c2, .int .i64 c.wk, .int .i64 c.gr, .int .i64 c.gn] 25)
  have rg := preg_any _ c t _ (hI.bel hb)
  rw [Cf.regR_ok (Cf.has_zero ok ht), Cf.hasE_ok (Cf.has_zero ok ht)] at rg
  have rs := fun (k : Nat) (hk : k < c.n) (W : World) (g : Bel w W) => pslots_any _ c t k W (hI.bel g)
  have rp := fun (k : Nat) (hk : k < c.n) (W : World) (g : Bel w W) => ppages_any _ c t k W (hI.bel g)
  obtain ⟨P, hP⟩ : ∃ P, c.pl t = P := ⟨_, rfl⟩
  have hPl : PlOk P := hP ▸ Cf.pl_ok ok ht
  have hn : (c.pl t).n = c.n := rfl
  have hca := fun (k : Nat) (hk : k < c.n) => Cf.pl_cast ok ht hk
  have hea : ∀ k, k < c.n → ((c.page / c.F k : Int)) = ((c.pl t).e k : Nat) := fun k hk => by rw [(hca k hk).2.1]; rfl
  rw [hP] at hn hca hea ⊢
  have hrs := fun (k : Nat) (hk : k < c.n) (W : World) (g : Bel w W) => by
    have := rs k hk W g
    rw [Cf.slotsR_ok (Cf.has_of ok ht hk), Cf.hasE_ok (Cf.has_of ok ht hk), Int.toNat_natCast, Int.toNat_natCast, ← (hca k hk).1] at this
    exact this
  have hrp := fun (k : Nat) (hk : k < c.n) (W : World) (g : Bel w W) => by
    have := rp k hk W g
    rw [Cf.pagesR_ok (Cf.has_of ok ht hk), Cf.hasE_ok (Cf.has_of ok ht hk), Int.toNat_natCast, Int.toNat_natCast, ← (hca k hk).2.2.1] at this
    exact this
  have hpg : c.page = (P.g : Nat) := (hca 0 (by omega)).2.2.2.2.symm
  have hFP : ∀ k, k < c.n → c.F k = (P.f k : Nat) := fun k hk => (hca k hk).2.2.2.1.symm
  clear hN hT rs rp hI hP hca ok
  rw [Int.toNat_natCast] at rg
  simp only [hpg] at hb rg hrs hrp hea
  rw [hpg]
  have hH := size_al w (.cells #[.slice (some ⟨b1, off1, none⟩) c.n cap1, .int .i64 (P.g : Nat), .slice p2 c.m c2, .int .i64 c.wk, .int .i64 c.gr, .int .i64 c.gn] 25)
  generalize c.region t = RR at *
  have hid := Lib.hid (And.intro hPl (And.intro hn (And.intro hrs (And.intro hrp (And.intro hea (And.intro hFP (And.intro hF (And.intro hb hH))))))))
  clear hPl hrs hrp hea hFP hF hb hpg hH
  go_enter Tryz.func27, Tryz.ntmps27
  go_wp2_with (go_at_call 68; refine rg.mono ?_; rintro e w2 ⟨rfl, hg⟩; have cc := cf_at hg; obtain ⟨k0, k1, k2, k3, k4, k5⟩ := cc; have hA := al3z w2 (.cells #[.int .i64 (P.g : Nat), .slice none 0 0] 130) (.cells #[.int .i64 0, .int .i64 0] 132) (.cells #[.int .i64 0, .int .i64 0] 132); have q0 := cell_bel hA k0)
  have szw := hg.size
  rw [hid.out.2.2.2.2.2.2.2.2] at szw
  have hn3 := three_newz w2 (.cells #[.int .i64 (P.g : Nat), .slice none 0 0] 130) (.cells #[.int .i64 0, .int .i64 0] 132) (.cells #[.int .i64 0, .int .i64 0] 132)
  obtain ⟨W8, hW8⟩ : ∃ W, ((w2.alloc (.cells #[.int .i64 (P.g : Nat), .slice none 0 0] 130)).alloc (.cells #[.int .i64 0, .int .i64 0] 132)).alloc (.cells #[.int .i64 0, .int .i64 0] 132) = W := ⟨_, rfl⟩
  have hcA := hg.trans hA
  rw [hW8] at hcA hn3 q0 ⊢
  clear hW8 hA hg
  generalize w2.heap.size = b8 at *
  have R0 : R1 b8 W8 P (.slice none 0 0) 0 0 0 0 0 := ⟨hn3.2.1, hn3.2.2.1, hn3.2.2.2, World.ownsRow_nil _ _ _ _, by omega⟩
  have hid8 := Lib.hid (And.intro hcA (And.intro R0 (And.intro hn3.1 szw)))
  clear hcA R0 hn3 k0 k1 k2 k3 k4 k5 rg q0
  obtain ⟨i7, hi7, hy0, hy1, hy2⟩ := info_parts info_part
  go_loopw [33] (fun i wr => ∃ (k : Nat) (Lv : Value) (a m a' m' : Nat), k ≤ c.n ∧ i = .int .i64 (k : Nat) ∧ a + m = P.fo k ∧ a' + m' = P.po k ∧ R1 b8 wr P Lv k a m a' m' ∧ Below b8 W8 wr) (fun i _ => c.n - (intOf i).toNat)
  case atStart => exact ⟨0, _, 0, 0, 0, 0, Nat.zero_le _, rfl, rfl, rfl, hid8.out.2.1, Below.refl _ _⟩
  case round =>
    obtain ⟨k, Lv, a, m, a', m', hk, rfl, ham, ham', R, hbw⟩ := hrel
    obtain ⟨pL, cL, rfl⟩ := own_shape R.L
    have gc := Below.trans hid8.out.1 (hbw.mono (by rw [hid.out.2.2.2.2.2.2.2.2]; have := hid8.out.2.2.2; omega))
    have cc := cf_at gc
    obtain ⟨k0, k1, k2, k3, k4, k5⟩ := cc
    by_cases ck : k < c.n
    · have gw := Bel.trans hid.out.2.2.2.2.2.2.2.1 gc
      have cK := cell_bel gw (hid.out.2.2.2.2.2.2.1 k ck)
      rw [hid.out.2.2.2.2.2.1 k ck] at cK
      have s1 := fun W (g : Bel wr W) => (hid.out.2.2.1 k ck W (gw.trans g)).mono fun e w' ⟨x, y⟩ => (⟨x, g.trans y⟩ : _ ∧ Bel wr w')
      have s2 := fun W (g : Bel wr W) => (hid.out.2.2.2.1 k ck W (gw.trans g)).mono fun e w' ⟨x, y⟩ => (⟨x, g.trans y⟩ : _ ∧ Bel wr w')
      have kc := fun W (g : Bel wr W) => cf_at (Bel.trans gc g)
      have kI : (k : Int) < (c.n : Int) := by omega
      have kz : (0 : Int) ≤ (k : Int) := by omega
      have hidR := Lib.hid (And.intro R (And.intro hbw (And.intro ham (And.intro ham' (And.intro gc gw)))))
      clear R hbw gc gw
      go_wp2_with (first
        | (go_at_call 69; refine (s1 _ (Bel.refl _)).mono ?_; rintro e w3 ⟨rfl, hg3⟩; have cc := kc _ hg3; obtain ⟨k0, k1, k2, k3, k4, k5⟩ := cc)
        | (go_at_call 70; refine (s2 _ (by assumption)).mono ?_; rintro e w4 ⟨rfl, hg4⟩; have cc := kc _ hg4; obtain ⟨k0, k1, k2, k3, k4, k5⟩ := cc))
      have bo := hid.out.1.fo k (by rw [hn]; exact ck)
      have bq := hid.out.1.po k (by rw [hn]; exact ck)
      have bx := fun W (g : Bel wr W) => (⟨box2 (heap_bel g hidR.out.1.sp), box2 (heap_bel g hidR.out.1.pp)⟩ : _ ∧ _)
      have nx1 := fun W (g : Bel wr W) => (next_any a m (P.s k) W (by omega) (by omega)).mono fun e w' ⟨x, y⟩ => (⟨x, g.trans y⟩ : _ ∧ Bel wr w')
      have nx2 := fun W (g : Bel wr W) => (next_any a' m' (P.p k) W (by omega) (by omega)).mono fun e w' ⟨x, y⟩ => (⟨x, g.trans y⟩ : _ ∧ Bel wr w')
      rw [ham] at nx1
      rw [ham'] at nx2
      clear bo bq
      have b4 := bx _ hg4
      obtain ⟨⟨⟨x0, x1⟩, f0, f1⟩, ⟨y0, y1⟩, g0, g1⟩ := b4
      go_upto_region 11 with fail
      go_cut [54] (fun s54 wx => RowKit.Hid (R1 b8 wx P (.slice pL k cL) k (P.fo k) (P.s k) (P.po k) (P.p k) ∧ Below b8 W8 wx))
      case first =>
        go_region_with (first
          | (go_at_call 71; (with_reducible refine (nx1 _ (by first | assumption | exact Bel.drew (by assumption))).mono ?_); rintro e w5 ⟨rfl, h5⟩; obtain ⟨⟨⟨x0, x1⟩, f0, f1⟩, ⟨y0, y1⟩, g0, g1⟩ := bx _ h5)
          | (go_at_call 71; (with_reducible refine (nx2 _ (by first | assumption | exact Bel.drew (by assumption))).mono ?_); rintro e w6 ⟨rfl, h6⟩; obtain ⟨⟨⟨x0, x1⟩, f0, f1⟩, ⟨y0, y1⟩, g0, g1⟩ := bx _ h6))
        trace "ENDED"
        all_goals go_wp2_with fail
        all_goals go_meet
        all_goals exact Lib.hid ⟨((hidR.out.1.bel h6).spans _ _ _ _).1, Below.trans hidR.out.2.1 (Below.trans (Below.mono h6 (by have := hidR.out.1.Bw; omega)) ((hidR.out.1.bel h6).spans _ _ _ _).2)⟩
      case rest =>
        have R2 := hcut.out.1
        have gc2 := Below.trans hid8.out.1 (hcut.out.2.mono (by rw [hid.out.2.2.2.2.2.2.2.2]; have := hid8.out.2.2.2; omega))
        have cc2 := cf_at gc2
        obtain ⟨K0, K1, K2, K3, K4, K5⟩ := cc2
        obtain ⟨⟨B0, B1⟩, _⟩ := box2 R2.box
        obtain ⟨⟨X0, X1⟩, _⟩ := box2 R2.sp
        obtain ⟨⟨Y0, Y1⟩, _⟩ := box2 R2.pp
        have gl := (Bel.refl wc).alloc (.cells #[.int .i64 (k : Nat), .int .i64 (P.f k : Nat), .int .i64 (P.e k : Nat), .int .i64 (P.fo k : Nat), .int .i64 (P.s k : Nat), .int .i64 (P.po k : Nat), .int .i64 (P.p k : Nat)] 136)
        have L1 := cell_bel gl K1
        have M0 := cell_bel gl B0
        have M1 := cell_bel gl B1
        have N0 := cell_bel gl X0
        have N1 := cell_bel gl X1
        have O0 := cell_bel gl Y0
        have O1 := cell_bel gl Y1
        have news := World.news_of_block (w := (wc.alloc (.cells #[.int .i64 (k : Nat), .int .i64 (P.f k : Nat), .int .i64 (P.e k : Nat), .int .i64 (P.fo k : Nat), .int .i64 (P.s k : Nat), .int .i64 (P.po k : Nat), .int .i64 (P.p k : Nat)] 136)).drew) (cs := #[.int .i64 (k : Nat), .int .i64 (P.f k : Nat), .int .i64 (P.e k : Nat), .int .i64 (P.fo k : Nat), .int .i64 (P.s k : Nat), .int .i64 (P.po k : Nat), .int .i64 (P.p k : Nat)]) (t := 136) (fr := (0, 0)) (World.alloc_heap_new wc (.cells #[.int .i64 (k : Nat), .int .i64 (P.f k : Nat), .int .i64 (P.e k : Nat), .int .i64 (P.fo k : Nat), .int .i64 (P.s k : Nat), .int .i64 (P.po k : Nat), .int .i64 (P.p k : Nat)] 136))
        have hsz : b8 + 3 ≤ ((wc.alloc (.cells #[.int .i64 (k : Nat), .int .i64 (P.f k : Nat), .int .i64 (P.e k : Nat), .int .i64 (P.fo k : Nat), .int .i64 (P.s k : Nat), .int .i64 (P.po k : Nat), .int .i64 (P.p k : Nat)] 136)).drew).heap.size := Nat.le_trans R2.Bw gl.drew.size
        have eE : (P.g : Int) / (P.f k : Int) = (P.e k : Int) := by
          have := hid.out.2.2.2.2.1 k ck
          rw [hid.out.2.2.2.2.2.1 k ck] at this
          exact this
        have kn : k < P.n := by rw [hn]; exact ck
        have f2 := hid.out.1.1.f2 k kn
        have f0' : (P.f k : Int) ≠ 0 := by omega
        have f4' : ¬ P.f k = 0 := by omega
        have f5' : (P.f k = 0) = False := eq_false f4'
        have f6' : decide (P.f k = 0) = false := decide_eq_false f4'
        have f1' : ((P.f k : Int) == 0) = false := by simp; omega
        have f3' : decide ((P.f k : Int) = 0) = false := decide_eq_false f0'
        have g0' : (0 : Int) ≤ (P.g : Int) := by omega
        have ble := hid.out.1.2.2.2.2.2 k kn
        have bg : P.g ≤ 64 := ble.2.2.2.2
        have be : P.e k ≤ 64 := ble.2.1
        have wE : IntKind.i64.wrap (P.e k : Int) = (P.e k : Int) := by rw [IntKind.wrap_i64]; omega
        have wg : IntKind.i64.wrap (P.g : Int) = (P.g : Int) := by rw [IntKind.wrap_i64]; omega
        have k8 : k ≤ 8 := by omega
        have hid7 := Lib.hid (And.intro R2 (And.intro (R2.bel gl.drew).L (And.intro gl.drew (And.intro news hsz))))
        clear R2 gc2 K0 K2 K3 K4 K5 gl news hsz ble s1 s2 kc bx nx1 nx2
        (try clear k0 k1 k2 k3 k4 k5)
        (try clear x0 x1 y0 y1 f0 f1 g0 g1)
        (try clear hg3 hg4)
        (try clear cK)
        go_upto_region 12 with fail
        go_region_law (first
          | (refine step_append_lies (P := Tryz.prog) _ (by rfl) (.tmp 62) (.tmp 72) 128 (by rfl) (b8 + 3) 136 i7 (pv 0 0 0 0 0 0 0) 7 56 Tryz.underlying128 hi7 hy0 hy1 hy2 rfl (by decide) (.slice pL k cL) k _ (by rfl) hid7.out.2.1 ⟨wc.heap.size, 0, none⟩ 1 1 [.int .i64 (k : Nat), .int .i64 (P.f k : Nat), .int .i64 (P.e k : Nat), .int .i64 (P.fo k : Nat), .int .i64 (P.s k : Nat), .int .i64 (P.po k : Nat), .int .i64 (P.p k : Nat)] (by rfl) (by rfl) hid7.out.2.2.2.1 (by simp [Value.oneCell']) (by omega) (by unfold maxLen; omega) (by omega) hid7.out.2.2.2.2 _ rfl ?_
             intro gg8 cap8 w8 hO8 hgrow8 hat8 hlt8
             obtain ⟨fz, cx, W9, hW9, R9, hB9⟩ := hid7.out.1.push hid7.out.2.2.1 hgrow8 hO8
             have hid9 := Lib.hid (And.intro R9 hB9)
             clear hO8 hgrow8 hat8 hlt8 R9 hB9))
        all_goals go_wp2_with fail
        all_goals exact ⟨⟨k + 1, _, _, _, _, _, by omega, by go_num, by rw [Pl.fo_succ], by rw [Pl.po_succ], hid9.out.1, Below.trans hcut.out.2 hid9.out.2⟩, by simp only [intOf]; omega⟩
    · obtain rfl : k = c.n := by omega
      have hn := hid.out.2.1
      rw [← hn] at R
      obtain ⟨g, cap, hg3, hp⟩ := R.fresh hid.out.1.1.one
      have hl8 := hid8.out.2.2.2
      have hgo := Below.trans hid.out.2.2.2.2.2.2.2.1 (Below.mono gc (by rw [hid.out.2.2.2.2.2.2.2.2]; omega))
      have hidE := Lib.hid (And.intro hp hgo)
      clear R hbw gc hn hp hgo
      go_wp2
      go_ret2
      exact ⟨⟨_, _, _, rfl, hidE.out.1, by omega, by omega⟩, hidE.out.2⟩

end Go.Proofs.YthokalcibjjihaaGreatDoor
