/- Regions of the program: one tenant's, and their sum. -/
import Derived.Test.YtjgjomojcocegaaDoorPsm
namespace Go.Proofs.YtjgjomojcocegaaDoor
open Go.ChangeShapes Go.WideShapes Go.ChangeAt Go.RowKit

theorem sumTo_mul (f : Nat → Int) (p : Int) : ∀ n, p * sumTo f n = sumTo (fun k => f k * p) n
  | 0 => Int.mul_zero p
  | n + 1 => by
    show p * (sumTo f n + f n) = sumTo (fun k => f k * p) n + f n * p
    rw [Int.mul_add, sumTo_mul f p n, Int.mul_comm p (f n)]

/-- the pages of a class, as the program computes them -/
theorem pages_cf {c : Cf} (ok : c.ok) {t k : Nat} (ht : t < c.m) (hk : k < c.n) (w : World) :
    Calls Tryd.prog 75 #[.int .i64 c.page, .agg #[.int .i64 (c.Q t), .int .i64 (c.Tr t), .int .i64 (c.Cp t), .int .i64 (c.As t)], .int .i64 (c.F k)] w fun e w' => e = .returned (.int .i64 (c.pages t k)) ∧ Bel w w' := by
  obtain ⟨p1, p2, _⟩ := Cf.ok_page ok
  obtain ⟨q1, q2, _⟩ := Cf.ok_Q ok ht
  obtain ⟨f1, f2, _⟩ := Cf.ok_F ok hk
  obtain ⟨s1, s2, _⟩ := Cf.slots_bd ok ht hk
  obtain ⟨e1, e2, _⟩ := Cf.each_bd ok hk
  obtain ⟨z1, z2, _⟩ := Cf.pages_bd ok ht hk
  exact pages1_any _ _ _ _ _ _ w (S := c.slots t k) (E := c.each k) rfl rfl rfl (by omega) p2 (by omega) q2 f1 f2 s1 s2 e1 e2 z1 z2

/-- two cells, and that all lies as it lay -/
theorem keep2 {w W : World} {x0 x1 : Addr} {y0 y1 : Value} (c0 : w.cell? x0 = some y0) (c1 : w.cell? x1 = some y1) (h : Bel w W) : Bel w W ∧ W.cell? x0 = some y0 ∧ W.cell? x1 = some y1 :=
  ⟨h, cell_bel h c0, cell_bel h c1⟩

set_option maxHeartbeats 1000000 in
theorem region1_any (v : Value) (c : Cf) (t : Nat) (w : World) (h : IsCf w v c) (ok : c.ok) (ht : t < c.m) :
    Calls Tryd.prog 73 #[v, .agg #[.int .i64 (c.Q t), .int .i64 (c.Tr t), .int .i64 (c.Cp t), .int .i64 (c.As t)]] w fun e w' => e = .returned (.int .i64 (c.region t)) ∧ Bel w w' := by
  obtain ⟨vc, vt, rfl, hN, hT⟩ := h
  rcases hN with ⟨e, _⟩ | ⟨b1, off1, cap1, rfl, n1, n2, n3, hF⟩
  · exact absurd (Cf.ok_n ok).1 (by omega)
  have n8 := (Cf.ok_n ok).2
  obtain ⟨W, hW⟩ : ∃ W, (w.alloc (.cells #[.slice (some ⟨b1, off1, none⟩) c.n cap1, .int .i64 c.page, vt, .int .i64 c.wk, .int .i64 c.gr, .int .i64 c.gn] 25)).alloc (.cells #[.int .i64 (c.Q t), .int .i64 (c.Tr t), .int .i64 (c.Cp t), .int .i64 (c.As t)] 44) = W := ⟨_, rfl⟩
  have hb : Bel w W := by rw [← hW]; exact ((Bel.refl w).alloc _).alloc _
  obtain ⟨k0, k1, k2, k3, k4, k5⟩ := cf_at (w := w) (W' := W) (by rw [← hW]; exact (Bel.refl _).alloc _)
  obtain ⟨t0, t1, t2, t3⟩ := ten_at (w := w.alloc (.cells #[.slice (some ⟨b1, off1, none⟩) c.n cap1, .int .i64 c.page, vt, .int .i64 c.wk, .int .i64 c.gr, .int .i64 c.gn] 25)) (W' := W) (by rw [← hW]; exact Bel.refl _)
  rw [alloc_size] at t0 t1 t2 t3
  have sc := fun W1 (g : Bel W W1) => (sumc_any b1 off1 c.n cap1 w.heap.size (w.heap.size + 1) c.F (fun k => c.pages t k) W1 n1 n8 n2 n3 (fun j hj => by have := Cf.pages_bd ok ht hj; omega) (fun j hj => cell_bel (hb.trans g) (hF j hj)) (fun W2 j g2 hj => clos_c _ _ _ _ _ _ _ _ W2 (fun W => pages_cf ok ht hj W) (cell_bel (g.trans g2) k1) (cell_bel (g.trans g2) t0) (cell_bel (g.trans g2) t1) (cell_bel (g.trans g2) t2) (cell_bel (g.trans g2) t3))).mono fun e w' ⟨a, b⟩ => (⟨a, g.trans b⟩ : _ ∧ Bel W w')
  have kp := fun W1 (g : Bel W W1) => keep2 k0 k1 g
  have g0 := Bel.refl W
  have hm := sumTo_mul (fun k => c.pages t k) c.page c.n
  change _ = c.region t at hm
  obtain ⟨r1, r2⟩ := Cf.region_bd ok ht
  obtain ⟨S, hS⟩ : ∃ S, sumTo (fun k => c.pages t k) c.n = S := ⟨_, rfl⟩
  rw [hS] at hm
  simp only [hS] at sc
  clear hS t0 t1 t2 t3 k2 k3 k4 k5 hF hT ok ht
  generalize c.region t = Z at *
  have eW : IntKind.i64.wrap (c.page * S) = Z := by rw [hm, IntKind.wrap_i64]; omega
  clear hm
  generalize c.Q t = q at *
  generalize c.Tr t = tr at *
  generalize c.Cp t = cp at *
  generalize c.As t = sz at *
  generalize c.n = n at *
  generalize c.page = pg at *
  generalize c.wk = wk at *
  generalize c.gr = gr at *
  generalize c.gn = gn at *
  subst hW
  go_enter Tryd.func73, Tryd.ntmps73
  go_wp2
  go_region_held3 (fun w' => Bel ((w.alloc (.cells #[.slice (some ⟨b1, off1, none⟩) n cap1, .int .i64 pg, vt, .int .i64 wk, .int .i64 gr, .int .i64 gn] 25)).alloc (.cells #[.int .i64 q, .int .i64 tr, .int .i64 cp, .int .i64 sz] 44)) w' ∧ w'.cell? ⟨w.heap.size, 0, none⟩ = some (.slice (some ⟨b1, off1, none⟩) n cap1) ∧ w'.cell? ⟨w.heap.size, 1, none⟩ = some (.int .i64 pg))
    (first | with_reducible exact kp _ (by assumption) | with_reducible exact kp _ (Bel.drew (by assumption)))
    (first | (go_at_call 86; refine (sc _ (by first | assumption | exact Bel.drew (by assumption))).mono ?_; rintro e w' ⟨rfl, hg⟩))
  go_wp2
  go_ret
  exact ⟨by go_num, hb.trans hg⟩

end Go.Proofs.YtjgjomojcocegaaDoor
