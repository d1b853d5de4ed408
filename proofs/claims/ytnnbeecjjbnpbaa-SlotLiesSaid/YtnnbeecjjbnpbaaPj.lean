/- In of the program's plans. -/
import Derived.Test.YtnnbeecjjbnpbaaPi
import Derived.Lib.MinMax
namespace Go.Proofs.Ytnnbeecjjbnpbaa
open Go.ChangeShapes Go.WideShapes Go.ChangeAt Go.RowKit Go.Deep Go.Shelf

/-- a part's cells, and that all lies as it lay -/
theorem keep7 {w W : World} {B : Nat} {x0 x1 x2 x3 x4 x5 x6 : Value} {t : TypeId} (hB : w.heap[B]? = some (.cells #[x0, x1, x2, x3, x4, x5, x6] t (0, 0))) (g : Bel w W) :
    Bel w W ∧ (W.cell? ⟨B, 0, none⟩ = some x0 ∧ W.cell? ⟨B, 1, none⟩ = some x1 ∧ W.cell? ⟨B, 2, none⟩ = some x2 ∧ W.cell? ⟨B, 3, none⟩ = some x3 ∧ W.cell? ⟨B, 4, none⟩ = some x4 ∧ W.cell? ⟨B, 5, none⟩ = some x5 ∧ W.cell? ⟨B, 6, none⟩ = some x6) :=
  ⟨g, (box7 (heap_bel g hB)).1⟩

set_option maxHeartbeats 1000000 in
theorem pin_at {b g off cap : Nat} {P : Pl} (w : World) (h : PlanAt w b g off cap P) (ok : PlOk P) (q : Int) :
    Calls Try.prog 24 #[.pointer (some ⟨b, 0, none⟩), .int .i64 q] w fun e w' => e = .returned (.tuple #[.int .i64 (P.inF q), .int .i64 (P.inM q), .int .i64 (P.inE q)]) ∧ Bel w w' := by
  have hb := (Bel.refl w).alloc (.cells #[.int .i64 q] 3)
  have hx := agg_new (Bel.refl (w.alloc (.cells #[.int .i64 q] 3))) 0
  have fd := fd_pg q w h ok.1.one ok.po (w.alloc (.cells #[.int .i64 q] 3)) w.heap.size hb (by rw [size_al]; omega) hx
  by_cases hq : P.hasQ q
  · have hq' := hq
    unfold Pl.hasQ at hq'
    obtain ⟨Q, rfl⟩ : ∃ Q : Nat, q = Q := ⟨q.toNat, by omega⟩
    have hQ : Q < P.T := by omega
    obtain ⟨e1, e2, e3⟩ := Pl.in_ok hQ
    rw [e1, e2, e3]
    clear e1 e2 e3
    obtain ⟨k, x, hk, hxp, rfl⟩ := Pl.page_of hQ
    obtain ⟨t, u⟩ := inS_po hk hxp
    rw [Pl.fi_at hk hxp, Pl.mn_at hk hxp]
    obtain ⟨I, hI⟩ : ∃ I, P.po k + x = I := ⟨_, rfl⟩
    rw [hI] at t fd hb hx ⊢
    simp only [hI] at u
    have fd := fd.mono fun e w' y => (⟨y.1.yes hk t u, y.2⟩ : e = .returned (.tuple #[P.pt k, .int .i64 0]) ∧ Bel (w.alloc (.cells #[.int .i64 (I : Int)] 3)) w')
    have few := Pl.mul_few ok.1 hk hxp
    have bo := ok.fo k hk
    have bq := ok.po k hk
    have be := (ok.2.2.2.2.2 k hk).2.1
    have bs := (ok.2.2.2.2.2 k hk).1
    have en := fun W => end_any (P.fo k) (P.s k) W bo.1 bo.2
    have hbb : ∀ {W : World} (o : Obj), Bel (w.alloc (.cells #[.int .i64 (I : Int)] 3)) W → Bel w (W.alloc o) := fun o g => (hb.trans g).alloc o
    have kp := fun {W1 : World} (g1 : Bel (w.alloc (.cells #[.int .i64 (I : Int)] 3)) W1) W2 (g2 : Bel (W1.alloc (P.blk k)) W2) => keep7 (World.alloc_heap_new W1 (P.blk k)) g2
    have hx1 := fun {W1 : World} (g1 : Bel (w.alloc (.cells #[.int .i64 (I : Int)] 3)) W1) => cell_bel (g1.alloc (P.blk k)) hx
    dsimp only [Pl.pt, pv] at fd
    dsimp only [Pl.blk, pblk] at kp hx1
    obtain ⟨X, hX⟩ : ∃ X, x * P.e k = X := ⟨_, rfl⟩
    rw [hX] at few ⊢
    have bI : I ≤ 8589934592 := by omega
    have e1 : (I : Int) - (P.po k : Int) = (x : Int) := by omega
    have e2 : (x : Int) * (P.e k : Int) = (X : Int) := by rw [← hX]; exact (Int.natCast_mul x (P.e k)).symm
    obtain ⟨F, hF⟩ : ∃ F, P.fo k + X = F := ⟨_, rfl⟩
    have e3 : (P.fo k : Int) + (X : Int) = (F : Int) := by omega
    obtain ⟨Z, hZ⟩ : ∃ Z, P.fo k + P.s k = Z := ⟨_, rfl⟩
    obtain ⟨D, hD⟩ : ∃ D, P.s k - X = D := ⟨_, rfl⟩
    have e4 : (Z : Int) - (F : Int) = (D : Int) := by omega
    obtain ⟨M, hM⟩ : ∃ M, min (P.e k) D = M := ⟨_, rfl⟩
    have e5 : min (P.e k : Int) (D : Int) = (M : Int) := by omega
    have bF : F ≤ 8589934592 := by omega
    have bZ : Z ≤ 8589934592 := by omega
    have bx : x ≤ 4294967296 := by omega
    have bX : X ≤ 4294967296 := by omega
    have bD : D ≤ 4294967296 := by omega
    have q0 : IntKind.i64.wrap ((I : Int) - (P.po k : Int)) = (x : Int) := by rw [e1, IntKind.wrap_i64]; omega
    have q1 : IntKind.i64.wrap ((x : Int) * (P.e k : Int)) = (X : Int) := by rw [e2, IntKind.wrap_i64]; omega
    have q2 : IntKind.i64.wrap ((P.fo k : Int) + (X : Int)) = (F : Int) := by rw [e3, IntKind.wrap_i64]; omega
    have q3 : IntKind.i64.wrap ((Z : Int) - (F : Int)) = (D : Int) := by rw [e4, IntKind.wrap_i64]; omega
    have wD : IntKind.i64.wrap (D : Int) = (D : Int) := by rw [IntKind.wrap_i64]; omega
    simp only [hF, hD, hM, hZ] at en ⊢
    clear h ok hk hxp hq hq' hQ t u few bo bq be bs hx hX hI hF hZ hD hM hb
    generalize P.f k = xf at *
    generalize P.e k = xe at *
    generalize P.fo k = xo at *
    generalize P.s k = xs at *
    generalize P.po k = xq at *
    generalize P.p k = xp at *
    go_enter Try.func24, Try.ntmps24
    go_wp2_with (go_at_call 35; refine fd.mono ?_; rintro e w' ⟨rfl, hg⟩; have hx2 := hx1 hg; have kq := kp hg; obtain ⟨_, y0, y1, y2, y3, y4, y5, y6⟩ := kq _ (Bel.refl _))
    go_region_held3 (fun W => Bel (w'.alloc (.cells #[.int .i64 k, .int .i64 xf, .int .i64 xe, .int .i64 xo, .int .i64 xs, .int .i64 xq, .int .i64 xp] 64)) W ∧ (W.cell? ⟨w'.heap.size, 0, none⟩ = some (.int .i64 k) ∧ W.cell? ⟨w'.heap.size, 1, none⟩ = some (.int .i64 xf) ∧ W.cell? ⟨w'.heap.size, 2, none⟩ = some (.int .i64 xe) ∧ W.cell? ⟨w'.heap.size, 3, none⟩ = some (.int .i64 xo) ∧ W.cell? ⟨w'.heap.size, 4, none⟩ = some (.int .i64 xs) ∧ W.cell? ⟨w'.heap.size, 5, none⟩ = some (.int .i64 xq) ∧ W.cell? ⟨w'.heap.size, 6, none⟩ = some (.int .i64 xp)))
      (first | with_reducible exact kq _ (by assumption) | with_reducible exact kq _ (Bel.drew (by assumption)) | with_reducible exact kq _ (Bel.trans (by assumption) (by assumption)) | with_reducible exact kq _ (Bel.trans (Bel.drew (by assumption)) (by assumption)))
      (first | (go_at_call 45; refine (en _).mono ?_; rintro e w2 ⟨rfl, hw2⟩; have hg2 : Bel _ w2 := hw2 ▸ (Bel.refl _).alloc _; clear hw2))
    go_wp2
    go_ret3
    exact ⟨by simp, (hbb _ hg).trans (Bel.trans ((Bel.refl _).drew) hg2)⟩
  · obtain ⟨e1, e2, e3⟩ := Pl.in_not hq
    rw [e1, e2, e3]
    have fd := fd.mono fun e w' x => (⟨x.1.no (inS_po_no hq), x.2⟩ : e = .returned (.tuple #[pv 0 0 0 0 0 0 0, .int .i64 2]) ∧ Bel (w.alloc (.cells #[.int .i64 q] 3)) w')
    dsimp only [pv] at fd
    have hbb : ∀ {W : World} (o : Obj), Bel (w.alloc (.cells #[.int .i64 q] 3)) W → Bel w (W.alloc o) := fun o g => (hb.trans g).alloc o
    clear h ok hq e1 e2 e3 hx hb
    go_enter Try.func24, Try.ntmps24
    go_wp2_with (go_at_call 35; refine fd.mono ?_; rintro e w' ⟨rfl, hg⟩)
    go_ret3
    exact ⟨rfl, hbb _ hg⟩

end Go.Proofs.Ytnnbeecjjbnpbaa
