/- New of the program's plans. -/
import Derived.Test.YtjgjomojcocegaaDoorPm
import Derived.Deep.RegionLaw
namespace Go.Proofs.YtjgjomojcocegaaDoor
open Go.ChangeShapes Go.WideShapes Go.ChangeAt Go.RowKit Go.Deep Go.Shelf
set_option linter.unusedVariables false

set_option maxHeartbeats 1000000 in
theorem pnew_no (v : Value) (c : Cf) (t : Int) (w : World) (h : IsCf w v c) (hno : ¬ c.has t 0) (hb' : i64b' t) :
    Calls Tryd.prog 30 #[v, .int .i64 t] w fun e w' => e = .returned (.tuple #[.pointer none, .int .i64 2]) ∧ Bel w w' := by
  have hI := h
  obtain ⟨vc, vt, rfl, hN, hT⟩ := h
  obtain ⟨p1, c1, rfl, _⟩ := nums_slice hN
  obtain ⟨p2, c2, rfl, _⟩ := tens_slice hT
  clear hN hT hb'
  have hb := (Bel.refl w).alloc (.cells #[.slice p1 c.n c1, .int .i64 c.page, .slice p2 c.m c2, .int .i64 c.wk, .int .i64 c.gr, .int .i64 c.gn] 25)
  have rg := preg_any _ c t _ (hI.bel hb)
  rw [Cf.regR_no hno, Cf.hasE_no hno] at rg
  clear hI hno
  go_enter Tryd.func30, Tryd.ntmps30
  go_wp2_with (go_at_call 54; refine rg.mono ?_; rintro e w2 ⟨rfl, hg⟩)
  go_ret2
  exact ⟨rfl, hb.trans hg⟩

theorem al3 (w : World) (a b c : Obj) : Bel w (((w.alloc a).alloc b).alloc c) := (((Bel.refl w).alloc a).alloc b).alloc c
theorem three_new (w : World) (a c d : Obj) : (((w.alloc a).alloc c).alloc d).heap.size = w.heap.size + 3 ∧ (((w.alloc a).alloc c).alloc d).heap[w.heap.size]? = some a ∧ (((w.alloc a).alloc c).alloc d).heap[w.heap.size + 1]? = some c ∧ (((w.alloc a).alloc c).alloc d).heap[w.heap.size + 1 + 1]? = some d := by
  obtain ⟨h1, _, h3, h4, h5⟩ := three_at (w := w) (a := a) (c := c) (d := d) rfl
  exact ⟨h1, h3, h4, h5⟩

set_option maxRecDepth 100000 in
set_option maxHeartbeats 20000000 in
theorem pnew_yes (v : Value) (c : Cf) (t : Nat) (w : World) (h : IsCf w v c) (ok : c.ok) (ht : t < c.m) :
    Calls Tryd.prog 30 #[v, .int .i64 (t : Nat)] w fun e w' => (∃ p, e = .returned (.tuple #[.pointer (some p), .int .i64 0]) ∧ IsPlan w' (.pointer (some p)) (c.pl t)) ∧ Bel w w' := by
  have hI := h
  obtain ⟨vc, vt, rfl, hN, hT⟩ := h
  obtain ⟨p2, c2, rfl, _⟩ := tens_slice hT
  have n8 := Cf.ok_n ok
  obtain ⟨b1, off1, cap1, hvc, hF⟩ : ∃ b1 off1 cap1, vc = .slice (some ⟨b1, off1, none⟩) c.n cap1 ∧ ∀ j, j < c.n → w.cell? ⟨b1, off1 + j, none⟩ = some (.int .i64 (c.F j)) := by
    rcases hN with ⟨e, _⟩ | ⟨b1, off1, cap1, e, _, _, _, hF⟩
    · omega
    · exact ⟨b1, off1, cap1, e, hF⟩
  subst hvc
  have hb := (Bel.refl w).alloc (.cells #[.slice (some ⟨b1, off1, none⟩) c.n cap1, .int .i64 c.page, .slice p2 c.m c2, .int .i64 c.wk, .int .i64 c.gr, .int .i64 c.gn] 25)
  have rg := preg_any _ c t _ (hI.bel hb)
  rw [Cf.regR_ok (Cf.has_zero ok ht), Cf.hasE_ok (Cf.has_zero ok ht)] at rg
  have rs := fun (k : Nat) (hk : k < c.n) (W : World) (g : Bel w W) => pslots_any _ c t k W (hI.bel g)
  have rp := fun (k : Nat) (hk : k < c.n) (W : World) (g : Bel w W) => ppages_any _ c t k W (hI.bel g)
  obtain ⟨P, hP⟩ : ∃ P, c.pl t = P := ⟨_, rfl⟩
  have hPl : PlOk P := hP ▸ Cf.pl_ok ok ht
  have hn : (c.pl t).n = c.n := rfl
  have hca := fun (k : Nat) (hk : k < c.n) => Cf.pl_cast ok ht hk
  have hea : ∀ k, k < c.n → ((c.page / c.F k : Int)) = ((c.pl t).e k : Nat) := fun k hk => by rw [(hca k hk).2.1]; rfl
  rw [hP] at hn hca hea ⊢
  have hrs := fun (k : Nat) (hk : k < c.n) (W : World) (g : Bel w W) => by
    have := rs k hk W g
    rw [Cf.slotsR_ok (Cf.has_of ok ht hk), Cf.hasE_ok (Cf.has_of ok ht hk), Int.toNat_natCast, Int.toNat_natCast, ← (hca k hk).1] at this
    exact this
  have hrp := fun (k : Nat) (hk : k < c.n) (W : World) (g : Bel w W) => by
    have := rp k hk W g
    rw [Cf.pagesR_ok (Cf.has_of ok ht hk), Cf.hasE_ok (Cf.has_of ok ht hk), Int.toNat_natCast, Int.toNat_natCast, ← (hca k hk).2.2.1] at this
    exact this
  have hpg : c.page = (P.g : Nat) := (hca 0 (by omega)).2.2.2.2.symm
  have hFP : ∀ k, k < c.n → c.F k = (P.f k : Nat) := fun k hk => (hca k hk).2.2.2.1.symm
  clear hN hT rs rp hI hP hca ok
  rw [Int.toNat_natCast] at rg
  simp only [hpg] at hb rg hrs hrp hea
  rw [hpg]
  have hH := size_al w (.cells #[.slice (some ⟨b1, off1, none⟩) c.n cap1, .int .i64 (P.g : Nat), .slice p2 c.m c2, .int .i64 c.wk, .int .i64 c.gr, .int .i64 c.gn] 25)
  generalize c.region t = RR at *
  have hid := Lib.hid (And.intro hPl (And.intro hn (And.intro hrs (And.intro hrp (And.intro hea (And.intro hFP (And.intro hF (And.intro hb hH))))))))
  clear hPl hrs hrp hea hFP hF hb hpg hH
  go_enter Tryd.func30, Tryd.ntmps30
  go_wp2_with (go_at_call 54; refine rg.mono ?_; rintro e w2 ⟨rfl, hg⟩; have cc := cf_at hg; obtain ⟨k0, k1, k2, k3, k4, k5⟩ := cc; have hA := al3 w2 (.cells #[.int .i64 (P.g : Nat), .slice none 0 0] 107) (.cells #[.int .i64 0, .int .i64 0] 109) (.cells #[.int .i64 0, .int .i64 0] 109); have q0 := cell_bel hA k0)
  have szw := hg.size
  rw [hid.out.2.2.2.2.2.2.2.2] at szw
  have hn3 := three_new w2 (.cells #[.int .i64 (P.g : Nat), .slice none 0 0] 107) (.cells #[.int .i64 0, .int .i64 0] 109) (.cells #[.int .i64 0, .int .i64 0] 109)
  obtain ⟨W8, hW8⟩ : ∃ W, ((w2.alloc (.cells #[.int .i64 (P.g : Nat), .slice none 0 0] 107)).alloc (.cells #[.int .i64 0, .int .i64 0] 109)).alloc (.cells #[.int .i64 0, .int .i64 0] 109) = W := ⟨_, rfl⟩
  have hcA := hg.trans hA
  rw [hW8] at hcA hn3 q0 ⊢
  clear hW8 hA hg
  generalize w2.heap.size = b8 at *
  have R0 : R1 b8 W8 P (.slice none 0 0) 0 0 0 0 0 := ⟨hn3.2.1, hn3.2.2.1, hn3.2.2.2, World.ownsRow_nil _ _ _ _, by omega⟩
  have hid8 := Lib.hid (And.intro hcA (And.intro R0 (And.intro hn3.1 szw)))
  clear hcA R0 hn3 k0 k1 k2 k3 k4 k5 rg q0
  obtain ⟨i7, hi7, hy0, hy1, hy2⟩ := info_parts info_part
  go_loopw [33] (fun i wr => ∃ (k : Nat) (Lv : Value) (a m a' m' : Nat), k ≤ c.n ∧ i = .int .i64 (k : Nat) ∧ a + m = P.fo k ∧ a' + m' = P.po k ∧ R1 b8 wr P Lv k a m a' m' ∧ Below b8 W8 wr) (fun i _ => c.n - (intOf i).toNat)
  case atStart => exact ⟨0, _, 0, 0, 0, 0, Nat.zero_le _, rfl, rfl, rfl, hid8.out.2.1, Below.refl _ _⟩
  case round =>
    obtain ⟨k, Lv, a, m, a', m', hk, rfl, ham, ham', R, hbw⟩ := hrel
    obtain ⟨pL, cL, rfl⟩ := own_shape R.L
    have gc := Below.trans hid8.out.1 (hbw.mono (by rw [hid.out.2.2.2.2.2.2.2.2]; have := hid8.out.2.2.2; omega))
    have cc := cf_at gc
    obtain ⟨k0, k1, k2, k3, k4, k5⟩ := cc
    by_cases ck : k < c.n
    · have gw := Bel.trans hid.out.2.2.2.2.2.2.2.1 gc
      have cK := cell_bel gw (hid.out.2.2.2.2.2.2.1 k ck)
      rw [hid.out.2.2.2.2.2.1 k ck] at cK
      have s1 := fun W (g : Bel wr W) => (hid.out.2.2.1 k ck W (gw.trans g)).mono fun e w' ⟨x, y⟩ => (⟨x, g.trans y⟩ : _ ∧ Bel wr w')
      have s2 := fun W (g : Bel wr W) => (hid.out.2.2.2.1 k ck W (gw.trans g)).mono fun e w' ⟨x, y⟩ => (⟨x, g.trans y⟩ : _ ∧ Bel wr w')
      have kc := fun W (g : Bel wr W) => cf_at (Bel.trans gc g)
      have kI : (k : Int) < (c.n : Int) := by omega
      have kz : (0 : Int) ≤ (k : Int) := by omega
      have hidR := Lib.hid (And.intro R (And.intro hbw (And.intro ham (And.intro ham' (And.intro gc gw)))))
      clear R hbw gc gw
      go_wp2_with (first
        | (go_at_call 55; refine (s1 _ (Bel.refl _)).mono ?_; rintro e w3 ⟨rfl, hg3⟩; have cc := kc _ hg3; obtain ⟨k0, k1, k2, k3, k4, k5⟩ := cc)
        | (go_at_call 56; refine (s2 _ (by assumption)).mono ?_; rintro e w4 ⟨rfl, hg4⟩; have cc := kc _ hg4; obtain ⟨k0, k1, k2, k3, k4, k5⟩ := cc))
      have bo := hid.out.1.fo k (by rw [hn]; exact ck)
      have bq := hid.out.1.po k (by rw [hn]; exact ck)
      have bx := fun W (g : Bel wr W) => (⟨box2 (heap_bel g hidR.out.1.sp), box2 (heap_bel g hidR.out.1.pp)⟩ : _ ∧ _)
      have nx1 := fun W (g : Bel wr W) => (next_any a m (P.s k) W (by omega) (by omega)).mono fun e w' ⟨x, y⟩ => (⟨x, g.trans y⟩ : _ ∧ Bel wr w')
      have nx2 := fun W (g : Bel wr W) => (next_any a' m' (P.p k) W (by omega) (by omega)).mono fun e w' ⟨x, y⟩ => (⟨x, g.trans y⟩ : _ ∧ Bel wr w')
      rw [ham] at nx1
      rw [ham'] at nx2
      clear bo bq
      have b4 := bx _ hg4
      obtain ⟨⟨⟨x0, x1⟩, f0, f1⟩, ⟨y0, y1⟩, g0, g1⟩ := b4
      go_upto_region 11 with fail
      go_cut [54] (fun s54 wx => RowKit.Hid (R1 b8 wx P (.slice pL k cL) k (P.fo k) (P.s k) (P.po k) (P.p k) ∧ Below b8 W8 wx))
      case first =>
        go_region_with (first
          | (go_at_call 57; (with_reducible refine (nx1 _ (by first | assumption | exact Bel.drew (by assumption))).mono ?_); rintro e w5 ⟨rfl, h5⟩; obtain ⟨⟨⟨x0, x1⟩, f0, f1⟩, ⟨y0, y1⟩, g0, g1⟩ := bx _ h5)
          | (go_at_call 57; (with_reducible refine (nx2 _ (by first | assumption | exact Bel.drew (by assumption))).mono ?_); rintro e w6 ⟨rfl, h6⟩; obtain ⟨⟨⟨x0, x1⟩, f0, f1⟩, ⟨y0, y1⟩, g0, g1⟩ := bx _ h6))
        trace "ENDED"
        all_goals go_wp2_with fail
        all_goals go_meet
        all_goals exact Lib.hid ⟨((hidR.out.1.bel h6).spans _ _ _ _).1, Below.trans hidR.out.2.1 (Below.trans (Below.mono h6 (by have := hidR.out.1.Bw; omega)) ((hidR.out.1.bel h6).spans _ _ _ _).2)⟩
      case rest =>
        have R2 := hcut.out.1
        have gc2 := Below.trans hid8.out.1 (hcut.out.2.mono (by rw [hid.out.2.2.2.2.2.2.2.2]; have := hid8.out.2.2.2; omega))
        have cc2 := cf_at gc2
        obtain ⟨K0, K1, K2, K3, K4, K5⟩ := cc2
        obtain ⟨⟨B0, B1⟩, _⟩ := box2 R2.box
        obtain ⟨⟨X0, X1⟩, _⟩ := box2 R2.sp
        obtain ⟨⟨Y0, Y1⟩, _⟩ := box2 R2.pp
        have gl := (Bel.refl wc).alloc (.cells #[.int .i64 (k : Nat), .int .i64 (P.f k : Nat), .int .i64 (P.e k : Nat), .int .i64 (P.fo k : Nat), .int .i64 (P.s k : Nat), .int .i64 (P.po k : Nat), .int .i64 (P.p k : Nat)] 113)
        have L1 := cell_bel gl K1
        have M0 := cell_bel gl B0
        have M1 := cell_bel gl B1
        have N0 := cell_bel gl X0
        have N1 := cell_bel gl X1
        have O0 := cell_bel gl Y0
        have O1 := cell_bel gl Y1
        have news := World.news_of_block (w := (wc.alloc (.cells #[.int .i64 (k : Nat), .int .i64 (P.f k : Nat), .int .i64 (P.e k : Nat), .int .i64 (P.fo k : Nat), .int .i64 (P.s k : Nat), .int .i64 (P.po k : Nat), .int .i64 (P.p k : Nat)] 113)).drew) (cs := #[.int .i64 (k : Nat), .int .i64 (P.f k : Nat), .int .i64 (P.e k : Nat), .int .i64 (P.fo k : Nat), .int .i64 (P.s k : Nat), .int .i64 (P.po k : Nat), .int .i64 (P.p k : Nat)]) (t := 113) (fr := (0, 0)) (World.alloc_heap_new wc (.cells #[.int .i64 (k : Nat), .int .i64 (P.f k : Nat), .int .i64 (P.e k : Nat), .int .i64 (P.fo k : Nat), .int .i64 (P.s k : Nat), .int .i64 (P.po k : Nat), .int .i64 (P.p k : Nat)] 113))
        have hsz : b8 + 3 ≤ ((wc.alloc (.cells #[.int .i64 (k : Nat), .int .i64 (P.f k : Nat), .int .i64 (P.e k : Nat), .int .i64 (P.fo k : Nat), .int .i64 (P.s k : Nat), .int .i64 (P.po k : Nat), .int .i64 (P.p k : Nat)] 113)).drew).heap.size := Nat.le_trans R2.Bw gl.drew.size
        have eE : (P.g : Int) / (P.f k : Int) = (P.e k : Int) := by
          have := hid.out.2.2.2.2.1 k ck
          rw [hid.out.2.2.2.2.2.1 k ck] at this
          exact this
        have kn : k < P.n := by rw [hn]; exact ck
        have f2 := hid.out.1.1.f2 k kn
        have f0' : (P.f k : Int) ≠ 0 := by omega
        have f4' : ¬ P.f k = 0 := by omega
        have f5' : (P.f k = 0) = False := eq_false f4'
        have f6' : decide (P.f k = 0) = false := decide_eq_false f4'
        have f1' : ((P.f k : Int) == 0) = false := by simp; omega
        have f3' : decide ((P.f k : Int) = 0) = false := decide_eq_false f0'
        have g0' : (0 : Int) ≤ (P.g : Int) := by omega
        have ble := hid.out.1.2.2.2.2.2 k kn
        have bg : P.g ≤ 64 := ble.2.2.2.2
        have be : P.e k ≤ 64 := ble.2.1
        have wE : IntKind.i64.wrap (P.e k : Int) = (P.e k : Int) := by rw [IntKind.wrap_i64]; omega
        have wg : IntKind.i64.wrap (P.g : Int) = (P.g : Int) := by rw [IntKind.wrap_i64]; omega
        have k8 : k ≤ 8 := by omega
        have hid7 := Lib.hid (And.intro R2 (And.intro (R2.bel gl.drew).L (And.intro gl.drew (And.intro news hsz))))
        clear R2 gc2 K0 K2 K3 K4 K5 gl news hsz ble s1 s2 kc bx nx1 nx2
        (try clear k0 k1 k2 k3 k4 k5)
        (try clear x0 x1 y0 y1 f0 f1 g0 g1)
        (try clear hg3 hg4)
        (try clear cK)
        go_upto_region 12 with fail
        go_region_law (first
          | (refine step_append_lies (P := Tryd.prog) _ (by rfl) (.tmp 62) (.tmp 72) 105 (by rfl) (b8 + 3) 113 i7 (pv 0 0 0 0 0 0 0) 7 56 Tryd.underlying105 hi7 hy0 hy1 hy2 rfl (by decide) (.slice pL k cL) k _ (by rfl) hid7.out.2.1 ⟨wc.heap.size, 0, none⟩ 1 1 [.int .i64 (k : Nat), .int .i64 (P.f k : Nat), .int .i64 (P.e k : Nat), .int .i64 (P.fo k : Nat), .int .i64 (P.s k : Nat), .int .i64 (P.po k : Nat), .int .i64 (P.p k : Nat)] (by rfl) (by rfl) hid7.out.2.2.2.1 (by simp [Value.oneCell']) (by omega) (by unfold maxLen; omega) (by omega) hid7.out.2.2.2.2 _ rfl ?_
             intro gg8 cap8 w8 hO8 hgrow8 hat8 hlt8
             obtain ⟨fz, cx, W9, hW9, R9, hB9⟩ := hid7.out.1.push hid7.out.2.2.1 hgrow8 hO8
             have hid9 := Lib.hid (And.intro R9 hB9)
             clear hO8 hgrow8 hat8 hlt8 R9 hB9))
        all_goals go_wp2_with fail
        all_goals exact ⟨⟨k + 1, _, _, _, _, _, by omega, by go_num, by rw [Pl.fo_succ], by rw [Pl.po_succ], hid9.out.1, Below.trans hcut.out.2 hid9.out.2⟩, by simp only [intOf]; omega⟩
    · obtain rfl : k = c.n := by omega
      have hn := hid.out.2.1
      rw [← hn] at R
      obtain ⟨g, cap, hp⟩ := R.is hid.out.1.1.one
      have hgo := Below.trans hid.out.2.2.2.2.2.2.2.1 (Below.mono gc (by rw [hid.out.2.2.2.2.2.2.2.2]; omega))
      have hidE := Lib.hid (And.intro hp hgo)
      clear R hbw gc hn hp hgo
      go_wp2
      go_ret2
      exact ⟨⟨_, rfl, _, _, _, _, rfl, hidE.out.1⟩, hidE.out.2⟩

end Go.Proofs.YtjgjomojcocegaaDoor
