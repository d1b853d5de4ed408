/- Slots, pages, regions, bases and the total, of the program: the small functions, the closures, the sums. -/
import Derived.Test.YthokalcibjjihaaGreatDoorPck
import Derived.Test.YthokalcibjjihaaGreatDoorReg
import Derived.Deep.RegionHeld3
namespace Go.Proofs.YthokalcibjjihaaGreatDoor
open Go.ChangeShapes Go.WideShapes Go.ChangeAt Go.RowKit
set_option linter.unusedVariables false

/-- the cells of a tenant that was boxed -/
theorem ten_at {w W' : World} {a b c d : Value} {t : TypeId} (h : Bel (w.alloc (.cells #[a, b, c, d] t)) W') :
    W'.cell? ⟨w.heap.size, 0, none⟩ = some a ∧ W'.cell? ⟨w.heap.size, 1, none⟩ = some b ∧ W'.cell? ⟨w.heap.size, 2, none⟩ = some c ∧ W'.cell? ⟨w.heap.size, 3, none⟩ = some d :=
  ⟨agg_at h 0, agg_at h 1, agg_at h 2, agg_at h 3⟩

theorem slots1_any (q tr cp sz f : Int) (w : World) {S : Int} (eS : q / f = S) (hq : 0 ≤ q) (hq2 : q ≤ 4096) (hf : 2 ≤ f) (hf2 : f ≤ 64) (hs : 0 ≤ S) (hs2 : S ≤ 4096) :
    Calls Tryz.prog 106 #[.agg #[.int .i64 q, .int .i64 tr, .int .i64 cp, .int .i64 sz], .int .i64 f] w fun e w' => e = .returned (.int .i64 S) ∧ Bel w w' := by
  have hb : ∀ o, Bel w (w.alloc o) := fun o => (Bel.refl w).alloc o
  have eW : IntKind.i64.wrap (q.tdiv f) = S := by rw [Int.tdiv_eq_ediv_of_nonneg hq, eS, IntKind.wrap_i64]; omega
  go_enter Tryz.func106, Tryz.ntmps106
  go_wp2
  go_ret
  exact ⟨by go_num, hb _⟩

theorem pages1_any (pg q tr cp sz f : Int) (w : World) {S E Z : Int} (eS : q / f = S) (eE : pg / f = E) (eZ : (S + E - 1) / E = Z) (hp : 0 ≤ pg) (hp2 : pg ≤ 64) (hq : 0 ≤ q) (hq2 : q ≤ 4096) (hf : 2 ≤ f) (hf2 : f ≤ 64) (hs : 1 ≤ S) (hs2 : S ≤ 4096) (he : 1 ≤ E) (he2 : E ≤ 64) (hz : 1 ≤ Z) (hz2 : Z ≤ 4096) :
    Calls Tryz.prog 107 #[.int .i64 pg, .agg #[.int .i64 q, .int .i64 tr, .int .i64 cp, .int .i64 sz], .int .i64 f] w fun e w' => e = .returned (.int .i64 Z) ∧ Bel w w' := by
  have hb : ∀ o, Bel w (w.alloc o) := fun o => (Bel.refl w).alloc o
  have sl := fun W => slots1_any q tr cp sz f W eS hq hq2 hf hf2 (by omega) hs2
  have eW : IntKind.i64.wrap (pg.tdiv f) = E := by rw [Int.tdiv_eq_ediv_of_nonneg hp, eE, IntKind.wrap_i64]; omega
  have eV : (S + E - 1).tdiv E = Z := by rw [Int.tdiv_eq_ediv_of_nonneg (by omega), eZ]
  have eU : IntKind.i64.wrap Z = Z := by rw [IntKind.wrap_i64]; omega
  go_enter Tryz.func107, Tryz.ntmps107
  go_wp2_with (go_at_call 106; refine (sl _).mono ?_; rintro e w' ⟨rfl, hg⟩)
  go_ret
  exact ⟨by go_num, (hb _).trans hg⟩

/-- the closure over a class -/
theorem clos_c (bc bt : Nat) (pg q tr cp sz f : Int) (w : World) {Z : Int}
    (hp : ∀ W, Calls Tryz.prog 107 #[.int .i64 pg, .agg #[.int .i64 q, .int .i64 tr, .int .i64 cp, .int .i64 sz], .int .i64 f] W fun e w' => e = .returned (.int .i64 Z) ∧ Bel W w')
    (k1 : w.cell? ⟨bc, 1, none⟩ = some (.int .i64 pg)) (t0 : w.cell? ⟨bt, 0, none⟩ = some (.int .i64 q)) (t1 : w.cell? ⟨bt, 1, none⟩ = some (.int .i64 tr)) (t2 : w.cell? ⟨bt, 2, none⟩ = some (.int .i64 cp)) (t3 : w.cell? ⟨bt, 3, none⟩ = some (.int .i64 sz)) :
    Calls Tryz.prog 130 #[.int .i64 f, .pointer (some ⟨bc, 0, none⟩), .pointer (some ⟨bt, 0, none⟩)] w fun e w' => e = .returned (.int .i64 Z) ∧ Bel w w' := by
  go_enter Tryz.func130, Tryz.ntmps130
  go_wp2_with (go_at_call 107; refine (hp _).mono ?_; rintro e w' ⟨rfl, hg⟩)
  go_ret
  exact ⟨rfl, hg⟩

set_option maxHeartbeats 1000000 in
/-- the sum over the classes -/
theorem sumc_any (b off n cap bc bt : Nat) (F P : Nat → Int) (w : World) (n1 : 1 ≤ n) (n8 : n ≤ 8) (hc : n ≤ cap) (hbig : cap ≤ 9223372036854775807) (hP : ∀ j, j < n → 0 ≤ P j ∧ P j ≤ 4096)
    (hF : ∀ j, j < n → w.cell? ⟨b, off + j, none⟩ = some (.int .i64 (F j)))
    (cl : ∀ W j, Bel w W → j < n → Calls Tryz.prog 130 #[.int .i64 (F j), .pointer (some ⟨bc, 0, none⟩), .pointer (some ⟨bt, 0, none⟩)] W fun e w' => e = .returned (.int .i64 (P j)) ∧ Bel W w') :
    Calls Tryz.prog 129 #[.slice (some ⟨b, off, none⟩) n cap, .func (.func 130) #[] #[.pointer (some ⟨bc, 0, none⟩), .pointer (some ⟨bt, 0, none⟩)]] w fun e w' => e = .returned (.int .i64 (sumTo P n)) ∧ Bel w w' := by
  go_enter Tryz.func129, Tryz.ntmps129
  go_wp2
  go_loopw [5, 10] (fun a i wr => ∃ k : Nat, k ≤ n ∧ i = .int .i64 (k : Nat) ∧ a = .int .i64 (sumTo P k) ∧ Bel w wr) (fun _ i _ => n - (intOf i).toNat)
  case atStart => exact ⟨0, Nat.zero_le _, rfl, rfl, Bel.refl _⟩
  case round =>
    obtain ⟨k, hk, rfl, rfl, hbr⟩ := hrel
    by_cases ck : k < n
    · have cF := cell_bel hbr (hF k ck)
      have cc := cl _ k hbr ck
      have kI : (k : Int) < (n : Int) := by omega
      have kz : (0 : Int) ≤ (k : Int) := by omega
      obtain ⟨b1, b2⟩ := hP k ck
      obtain ⟨s1, s2⟩ := sumTo_bd (f := P) (B := 4096) (n := k) fun j hj => hP j (by omega)
      have hS : sumTo P (k + 1) = sumTo P k + P k := rfl
      have hid := Lib.hid hS
      clear hS hF cl hP
      generalize sumTo P k = S at *
      generalize P k = X at *
      generalize F k = y at *
      go_wp2_with (go_at_call 130; refine cc.mono ?_; rintro e w' ⟨rfl, hg⟩)
      go_roundw
      case rel => exact ⟨k + 1, by omega, by go_num, by rw [hid.out], hbr.trans hg⟩
      case measure => simp only [intOf]; omega
    · obtain rfl : k = n := by omega
      clear hF cl hP
      go_wp2
      go_ret
      exact ⟨rfl, hbr⟩

end Go.Proofs.YthokalcibjjihaaGreatDoor

/- Regions of the program: one tenant's, and their sum. -/
namespace Go.Proofs.YthokalcibjjihaaGreatDoor
open Go.ChangeShapes Go.WideShapes Go.ChangeAt Go.RowKit

theorem sumTo_mul (f : Nat → Int) (p : Int) : ∀ n, p * sumTo f n = sumTo (fun k => f k * p) n
  | 0 => Int.mul_zero p
  | n + 1 => by
    show p * (sumTo f n + f n) = sumTo (fun k => f k * p) n + f n * p
    rw [Int.mul_add, sumTo_mul f p n, Int.mul_comm p (f n)]

/-- the pages of a class, as the program computes them -/
theorem pages_cf {c : Cf} (ok : c.ok) {t k : Nat} (ht : t < c.m) (hk : k < c.n) (w : World) :
    Calls Tryz.prog 107 #[.int .i64 c.page, .agg #[.int .i64 (c.Q t), .int .i64 (c.Tr t), .int .i64 (c.Cp t), .int .i64 (c.As t)], .int .i64 (c.F k)] w fun e w' => e = .returned (.int .i64 (c.pages t k)) ∧ Bel w w' := by
  obtain ⟨p1, p2, _⟩ := Cf.ok_page ok
  obtain ⟨q1, q2, _⟩ := Cf.ok_Q ok ht
  obtain ⟨f1, f2, _⟩ := Cf.ok_F ok hk
  obtain ⟨s1, s2, _⟩ := Cf.slots_bd ok ht hk
  obtain ⟨e1, e2, _⟩ := Cf.each_bd ok hk
  obtain ⟨z1, z2, _⟩ := Cf.pages_bd ok ht hk
  exact pages1_any _ _ _ _ _ _ w (S := c.slots t k) (E := c.each k) rfl rfl rfl (by omega) p2 (by omega) q2 f1 f2 s1 s2 e1 e2 z1 z2

/-- two cells, and that all lies as it lay -/
theorem keep2 {w W : World} {x0 x1 : Addr} {y0 y1 : Value} (c0 : w.cell? x0 = some y0) (c1 : w.cell? x1 = some y1) (h : Bel w W) : Bel w W ∧ W.cell? x0 = some y0 ∧ W.cell? x1 = some y1 :=
  ⟨h, cell_bel h c0, cell_bel h c1⟩

set_option maxHeartbeats 1000000 in
theorem region1_any (v : Value) (c : Cf) (t : Nat) (w : World) (h : IsCf w v c) (ok : c.ok) (ht : t < c.m) :
    Calls Tryz.prog 105 #[v, .agg #[.int .i64 (c.Q t), .int .i64 (c.Tr t), .int .i64 (c.Cp t), .int .i64 (c.As t)]] w fun e w' => e = .returned (.int .i64 (c.region t)) ∧ Bel w w' := by
  obtain ⟨vc, vt, rfl, hN, hT⟩ := h
  rcases hN with ⟨e, _⟩ | ⟨b1, off1, cap1, rfl, n1, n2, n3, hF⟩
  · exact absurd (Cf.ok_n ok).1 (by omega)
  have n8 := (Cf.ok_n ok).2
  obtain ⟨W, hW⟩ : ∃ W, (w.alloc (.cells #[.slice (some ⟨b1, off1, none⟩) c.n cap1, .int .i64 c.page, vt, .int .i64 c.wk, .int .i64 c.gr, .int .i64 c.gn] 25)).alloc (.cells #[.int .i64 (c.Q t), .int .i64 (c.Tr t), .int .i64 (c.Cp t), .int .i64 (c.As t)] 93) = W := ⟨_, rfl⟩
  have hb : Bel w W := by rw [← hW]; exact ((Bel.refl w).alloc _).alloc _
  obtain ⟨k0, k1, k2, k3, k4, k5⟩ := cf_at (w := w) (W' := W) (by rw [← hW]; exact (Bel.refl _).alloc _)
  obtain ⟨t0, t1, t2, t3⟩ := ten_at (w := w.alloc (.cells #[.slice (some ⟨b1, off1, none⟩) c.n cap1, .int .i64 c.page, vt, .int .i64 c.wk, .int .i64 c.gr, .int .i64 c.gn] 25)) (W' := W) (by rw [← hW]; exact Bel.refl _)
  rw [alloc_size] at t0 t1 t2 t3
  have sc := fun W1 (g : Bel W W1) => (sumc_any b1 off1 c.n cap1 w.heap.size (w.heap.size + 1) c.F (fun k => c.pages t k) W1 n1 n8 n2 n3 (fun j hj => by have := Cf.pages_bd ok ht hj; omega) (fun j hj => cell_bel (hb.trans g) (hF j hj)) (fun W2 j g2 hj => clos_c _ _ _ _ _ _ _ _ W2 (fun W => pages_cf ok ht hj W) (cell_bel (g.trans g2) k1) (cell_bel (g.trans g2) t0) (cell_bel (g.trans g2) t1) (cell_bel (g.trans g2) t2) (cell_bel (g.trans g2) t3))).mono fun e w' ⟨a, b⟩ => (⟨a, g.trans b⟩ : _ ∧ Bel W w')
  have kp := fun W1 (g : Bel W W1) => keep2 k0 k1 g
  have g0 := Bel.refl W
  have hm := sumTo_mul (fun k => c.pages t k) c.page c.n
  change _ = c.region t at hm
  obtain ⟨r1, r2⟩ := Cf.region_bd ok ht
  obtain ⟨S, hS⟩ : ∃ S, sumTo (fun k => c.pages t k) c.n = S := ⟨_, rfl⟩
  rw [hS] at hm
  simp only [hS] at sc
  clear hS t0 t1 t2 t3 k2 k3 k4 k5 hF hT ok ht
  generalize c.region t = Z at *
  have eW : IntKind.i64.wrap (c.page * S) = Z := by rw [hm, IntKind.wrap_i64]; omega
  clear hm
  generalize c.Q t = q at *
  generalize c.Tr t = tr at *
  generalize c.Cp t = cp at *
  generalize c.As t = sz at *
  generalize c.n = n at *
  generalize c.page = pg at *
  generalize c.wk = wk at *
  generalize c.gr = gr at *
  generalize c.gn = gn at *
  subst hW
  go_enter Tryz.func105, Tryz.ntmps105
  go_wp2
  go_region_held3 (fun w' => Bel ((w.alloc (.cells #[.slice (some ⟨b1, off1, none⟩) n cap1, .int .i64 pg, vt, .int .i64 wk, .int .i64 gr, .int .i64 gn] 25)).alloc (.cells #[.int .i64 q, .int .i64 tr, .int .i64 cp, .int .i64 sz] 93)) w' ∧ w'.cell? ⟨w.heap.size, 0, none⟩ = some (.slice (some ⟨b1, off1, none⟩) n cap1) ∧ w'.cell? ⟨w.heap.size, 1, none⟩ = some (.int .i64 pg))
    (first | with_reducible exact kp _ (by assumption) | with_reducible exact kp _ (Bel.drew (by assumption)))
    (first | (go_at_call 129; refine (sc _ (by first | assumption | exact Bel.drew (by assumption))).mono ?_; rintro e w' ⟨rfl, hg⟩))
  go_wp2
  go_ret
  exact ⟨by go_num, hb.trans hg⟩

end Go.Proofs.YthokalcibjjihaaGreatDoor

/- Sums of regions, of the program; Slots, Pages, Region, Base, Total. -/
namespace Go.Proofs.YthokalcibjjihaaGreatDoor
open Go.ChangeShapes Go.WideShapes Go.ChangeAt Go.RowKit

/-- the closure over a tenant -/
theorem clos_t (bc : Nat) (vc vt : Value) (c : Cf) (t : Nat) (w : World) (ok : c.ok) (ht : t < c.m)
    (h : IsCf w (.agg #[vc, .int .i64 c.page, vt, .int .i64 c.wk, .int .i64 c.gr, .int .i64 c.gn]) c)
    (k0 : w.cell? ⟨bc, 0, none⟩ = some vc) (k1 : w.cell? ⟨bc, 1, none⟩ = some (.int .i64 c.page)) (k2 : w.cell? ⟨bc, 2, none⟩ = some vt) (k3 : w.cell? ⟨bc, 3, none⟩ = some (.int .i64 c.wk)) (k4 : w.cell? ⟨bc, 4, none⟩ = some (.int .i64 c.gr)) (k5 : w.cell? ⟨bc, 5, none⟩ = some (.int .i64 c.gn)) :
    Calls Tryz.prog 135 #[.agg #[.int .i64 (c.Q t), .int .i64 (c.Tr t), .int .i64 (c.Cp t), .int .i64 (c.As t)], .pointer (some ⟨bc, 0, none⟩)] w fun e w' => e = .returned (.int .i64 (c.region t)) ∧ Bel w w' := by
  have hb := (Bel.refl w).alloc (.cells #[.int .i64 (c.Q t), .int .i64 (c.Tr t), .int .i64 (c.Cp t), .int .i64 (c.As t)] 93)
  have rg := region1_any _ c t _ (h.bel hb) ok ht
  have k0 := cell_bel hb k0
  have k1 := cell_bel hb k1
  have k2 := cell_bel hb k2
  have k3 := cell_bel hb k3
  have k4 := cell_bel hb k4
  have k5 := cell_bel hb k5
  clear h ok ht
  generalize c.region t = Z at *
  generalize c.Q t = q at *
  generalize c.Tr t = tr at *
  generalize c.Cp t = cp at *
  generalize c.As t = sz at *
  generalize c.page = pg at *
  generalize c.wk = wk at *
  generalize c.gr = gr at *
  generalize c.gn = gn at *
  go_enter Tryz.func135, Tryz.ntmps135
  go_wp2_with (go_at_call 105; refine rg.mono ?_; rintro e w' ⟨rfl, hg⟩)
  go_ret
  exact ⟨rfl, hb.trans hg⟩

set_option maxHeartbeats 1000000 in
/-- the sum over the tenants -/
theorem sumt_any (b off T cap bc : Nat) (c : Cf) (w : World) (ok : c.ok) (hT : T ≤ c.m) (hc : T ≤ cap) (hbig : cap ≤ 9223372036854775807)
    (hF : ∀ j, j < T → Ten w b (off + j * 4) (c.Q j) (c.Tr j) (c.Cp j) (c.As j))
    (cl : ∀ W j, Bel w W → j < T → Calls Tryz.prog 135 #[.agg #[.int .i64 (c.Q j), .int .i64 (c.Tr j), .int .i64 (c.Cp j), .int .i64 (c.As j)], .pointer (some ⟨bc, 0, none⟩)] W fun e w' => e = .returned (.int .i64 (c.region j)) ∧ Bel W w') :
    Calls Tryz.prog 134 #[.slice (some ⟨b, off, none⟩) T cap, .func (.func 135) #[] #[.pointer (some ⟨bc, 0, none⟩)]] w fun e w' => e = .returned (.int .i64 (c.base T)) ∧ Bel w w' := by
  have T8 : T ≤ 8 := by have := (Cf.ok_m ok).2; omega
  have hid0 := Lib.hid ok
  go_enter Tryz.func134, Tryz.ntmps134
  clear ok
  go_wp2
  go_loopw [5, 10] (fun a i wr => ∃ k : Nat, k ≤ T ∧ i = .int .i64 (k : Nat) ∧ a = .int .i64 (c.base k) ∧ Bel w wr) (fun _ i _ => T - (intOf i).toNat)
  case atStart => exact ⟨0, Nat.zero_le _, rfl, rfl, Bel.refl _⟩
  case round =>
    obtain ⟨k, hk, rfl, rfl, hbr⟩ := hrel
    by_cases ck : k < T
    · obtain ⟨t0, t1, t2, t3⟩ := (hF k ck).bel hbr
      have cc := cl (wr.alloc (.cells #[.int .i64 (c.Q k), .int .i64 (c.Tr k), .int .i64 (c.Cp k), .int .i64 (c.As k)] 93)) k (hbr.alloc _) ck
      have kI : (k : Int) < (T : Int) := by omega
      have kz : (0 : Int) ≤ (k : Int) := by omega
      obtain ⟨b1, b2⟩ := Cf.region_bd hid0.out (show k < c.m by omega)
      obtain ⟨s1, s2⟩ := Cf.base_bd hid0.out (show k ≤ c.m by omega)
      have hS := Cf.base_succ c k
      have hid := Lib.hid hS
      clear hS hF cl hid0 hT
      generalize c.base k = S at *
      generalize c.region k = X at *
      generalize c.Q k = q at *
      generalize c.Tr k = tr at *
      generalize c.Cp k = cp at *
      generalize c.As k = sz at *
      go_wp2_with (go_at_call 135; refine cc.mono ?_; rintro e w' ⟨rfl, hg⟩)
      go_roundw
      case rel => exact ⟨k + 1, by omega, by go_num, by rw [hid.out], (hbr.alloc _).trans hg⟩
      case measure => simp only [intOf]; omega
    · obtain rfl : k = T := by omega
      clear hF cl
      go_wp2
      go_ret
      exact ⟨rfl, hbr⟩

/-- the words of the regions of the first tenants -/
theorem regions_any (vc : Value) (b2 off2 cap2 M cap T : Nat) (c : Cf) (w : World) (ok : c.ok) (hM : M = c.m)
    (h : IsCf w (.agg #[vc, .int .i64 c.page, .slice (some ⟨b2, off2, none⟩) M cap2, .int .i64 c.wk, .int .i64 c.gr, .int .i64 c.gn]) c) (hT : T ≤ c.m) (hc : T ≤ cap) (hbig : cap ≤ 9223372036854775807)
    (hF : ∀ j, j < T → Ten w b2 (off2 + j * 4) (c.Q j) (c.Tr j) (c.Cp j) (c.As j)) :
    Calls Tryz.prog 117 #[.agg #[vc, .int .i64 c.page, .slice (some ⟨b2, off2, none⟩) M cap2, .int .i64 c.wk, .int .i64 c.gr, .int .i64 c.gn], .slice (some ⟨b2, off2, none⟩) T cap] w fun e w' => e = .returned (.int .i64 (c.base T)) ∧ Bel w w' := by
  have hb := (Bel.refl w).alloc (.cells #[vc, .int .i64 c.page, .slice (some ⟨b2, off2, none⟩) M cap2, .int .i64 c.wk, .int .i64 c.gr, .int .i64 c.gn] 25)
  have sm := sumt_any b2 off2 T cap w.heap.size c _ ok hT hc hbig (fun j hj => (hF j hj).bel hb) (fun W j g hj => by
    obtain ⟨k0, k1, k2, k3, k4, k5⟩ := cf_at g
    exact clos_t w.heap.size vc _ c j W ok (by omega) (h.bel (hb.trans g)) k0 k1 k2 k3 k4 k5)
  clear h hF ok hT hM
  generalize c.base T = Z at *
  generalize c.page = pg at *
  generalize c.wk = wk at *
  generalize c.gr = gr at *
  generalize c.gn = gn at *
  go_enter Tryz.func117, Tryz.ntmps117
  go_wp2_with (go_at_call 134; refine sm.mono ?_; rintro e w' ⟨rfl, hg⟩)
  go_ret
  exact ⟨rfl, hb.trans hg⟩

end Go.Proofs.YthokalcibjjihaaGreatDoor
