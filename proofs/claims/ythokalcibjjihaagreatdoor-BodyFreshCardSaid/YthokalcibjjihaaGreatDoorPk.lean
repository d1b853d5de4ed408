/- pageOf, Class, Size, Page, Addr of the program's plans. -/
import Derived.Test.YthokalcibjjihaaGreatDoorPh
import Derived.Lib.MinMax
namespace Go.Proofs.YthokalcibjjihaaGreatDoor
open Go.ChangeShapes Go.WideShapes Go.ChangeAt Go.RowKit Go.Deep Go.Shelf

set_option maxRecDepth 100000 in
theorem pageof_any (k f e o s q p j : Nat) (w : World) (he : 1 ≤ e) (ho : o ≤ 4294967296) (hj : j ≤ 4294967296) (hq : q ≤ 4294967296) :
    Calls Tryz.prog 122 #[pv k f e o s q p, .int .i64 ((o + j : Nat) : Int)] w fun x w' => x = .returned (.int .i64 ((q + j / e : Nat) : Int)) ∧ Bel w w' := by
  obtain ⟨i, hi⟩ : ∃ i, o + j = i := ⟨_, rfl⟩
  obtain ⟨d, hd⟩ : ∃ d, j / e = d := ⟨_, rfl⟩
  obtain ⟨r, hr⟩ : ∃ r, q + d = r := ⟨_, rfl⟩
  have dj : d ≤ j := by rw [← hd]; exact Nat.div_le_self _ _
  rw [hi, hd, hr]
  have e1 : (i : Int) - (o : Int) = (j : Int) := by omega
  have e2 : (j : Int) / (e : Int) = (d : Int) := by rw [← hd]; exact (Int.natCast_ediv j e).symm
  have e3 : (q : Int) + (d : Int) = (r : Int) := by omega
  have e0 : (e : Int) ≠ 0 := by omega
  have e4 : (0 : Int) ≤ (j : Int) := by omega
  have b1 : r ≤ 8589934592 := by omega
  have b2 : i ≤ 8589934592 := by omega
  clear hi hd hr
  have hb := fun o => (Bel.refl w).alloc o
  dsimp only [pv]
  go_enter Tryz.func122, Tryz.ntmps122
  go_wp2
  go_quiet (fail)
  go_wp2
  go_ret
  exact ⟨by go_num, (hb _).trans (Bel.drewN _ _)⟩

theorem pclass_at {b g off cap : Nat} {P : Pl} (w : World) (h : PlanAt w b g off cap P) (ok : PlOk P) (i : Int) :
    Calls Tryz.prog 95 #[.pointer (some ⟨b, 0, none⟩), .int .i64 i] w fun e w' => e = .returned (.tuple #[.int .i64 (P.slR P.cls i), .int .i64 (P.slE i)]) ∧ Bel w w' := by
  by_cases hi : P.hasS i
  · have hi' := hi
    unfold Pl.hasS at hi'
    obtain ⟨I, rfl⟩ : ∃ I : Nat, i = I := ⟨i.toNat, by omega⟩
    have hI : I < P.S := by omega
    rw [Pl.slR_ok hI, Pl.slE_ok hI]
    obtain ⟨k, j, hk, hj, rfl⟩ := Pl.slot_of hI
    have pt := partof_yes w h ok hk hj
    rw [Pl.cls_at hk hj]
    dsimp only [Pl.pt, pv] at pt
    have hbb : ∀ {W : World} (o : Obj), Bel w W → Bel w (W.alloc o) := fun o g => g.alloc o
    clear h ok hk hj hi hi' hI
    generalize ((P.fo k + j : Nat) : Int) = I at *
    generalize P.f k = xf at *
    generalize P.e k = xe at *
    generalize P.fo k = xo at *
    generalize P.s k = xs at *
    generalize P.po k = xq at *
    generalize P.p k = xp at *
    go_enter Tryz.func95, Tryz.ntmps95
    go_wp2_with (go_at_call 93; refine pt.mono ?_; rintro e w' ⟨rfl, hg⟩)
    go_ret2
    exact ⟨rfl, hbb _ hg⟩
  · rw [Pl.slR_no hi, Pl.slE_no hi]
    have pt := partof_no w h ok hi
    dsimp only [pv] at pt
    have hbb : ∀ {W : World} (o : Obj), Bel w W → Bel w (W.alloc o) := fun o g => g.alloc o
    clear h ok hi
    go_enter Tryz.func95, Tryz.ntmps95
    go_wp2_with (go_at_call 93; refine pt.mono ?_; rintro e w' ⟨rfl, hg⟩)
    go_ret2
    exact ⟨rfl, hbb _ hg⟩

theorem psize_at {b g off cap : Nat} {P : Pl} (w : World) (h : PlanAt w b g off cap P) (ok : PlOk P) (i : Int) :
    Calls Tryz.prog 54 #[.pointer (some ⟨b, 0, none⟩), .int .i64 i] w fun e w' => e = .returned (.tuple #[.int .i64 (P.slR P.sz i), .int .i64 (P.slE i)]) ∧ Bel w w' := by
  by_cases hi : P.hasS i
  · have hi' := hi
    unfold Pl.hasS at hi'
    obtain ⟨I, rfl⟩ : ∃ I : Nat, i = I := ⟨i.toNat, by omega⟩
    have hI : I < P.S := by omega
    rw [Pl.slR_ok hI, Pl.slE_ok hI]
    obtain ⟨k, j, hk, hj, rfl⟩ := Pl.slot_of hI
    have pt := partof_yes w h ok hk hj
    rw [Pl.sz_at hk hj]
    dsimp only [Pl.pt, pv] at pt
    have hbb : ∀ {W : World} (o : Obj), Bel w W → Bel w (W.alloc o) := fun o g => g.alloc o
    clear h ok hk hj hi hi' hI
    generalize ((P.fo k + j : Nat) : Int) = I at *
    generalize P.f k = xf at *
    generalize P.e k = xe at *
    generalize P.fo k = xo at *
    generalize P.s k = xs at *
    generalize P.po k = xq at *
    generalize P.p k = xp at *
    go_enter Tryz.func54, Tryz.ntmps54
    go_wp2_with (go_at_call 93; refine pt.mono ?_; rintro e w' ⟨rfl, hg⟩)
    go_ret2
    exact ⟨rfl, hbb _ hg⟩
  · rw [Pl.slR_no hi, Pl.slE_no hi]
    have pt := partof_no w h ok hi
    dsimp only [pv] at pt
    have hbb : ∀ {W : World} (o : Obj), Bel w W → Bel w (W.alloc o) := fun o g => g.alloc o
    clear h ok hi
    go_enter Tryz.func54, Tryz.ntmps54
    go_wp2_with (go_at_call 93; refine pt.mono ?_; rintro e w' ⟨rfl, hg⟩)
    go_ret2
    exact ⟨rfl, hbb _ hg⟩

/-- a part's cells and a page's, and that all lies as it lay -/
theorem keep8 {w W : World} {B b : Nat} {x0 x1 x2 x3 x4 x5 x6 y : Value} {t : TypeId} (hB : w.heap[B]? = some (.cells #[x0, x1, x2, x3, x4, x5, x6] t (0, 0))) (hp : w.cell? ⟨b, 0, none⟩ = some y) (g : Bel w W) :
    Bel w W ∧ (W.cell? ⟨B, 0, none⟩ = some x0 ∧ W.cell? ⟨B, 1, none⟩ = some x1 ∧ W.cell? ⟨B, 2, none⟩ = some x2 ∧ W.cell? ⟨B, 3, none⟩ = some x3 ∧ W.cell? ⟨B, 4, none⟩ = some x4 ∧ W.cell? ⟨B, 5, none⟩ = some x5 ∧ W.cell? ⟨B, 6, none⟩ = some x6) ∧ W.cell? ⟨b, 0, none⟩ = some y :=
  ⟨g, (box7 (heap_bel g hB)).1, cell_bel g hp⟩

set_option maxHeartbeats 1000000 in
theorem paddr_at {b g off cap : Nat} {P : Pl} (w : World) (h : PlanAt w b g off cap P) (ok : PlOk P) (i : Int) :
    Calls Tryz.prog 92 #[.pointer (some ⟨b, 0, none⟩), .int .i64 i] w fun e w' => e = .returned (.tuple #[.int .i64 (P.slR P.ad i), .int .i64 (P.slE i)]) ∧ Bel w w' := by
  by_cases hi : P.hasS i
  · have hi' := hi
    unfold Pl.hasS at hi'
    obtain ⟨I, rfl⟩ : ∃ I : Nat, i = I := ⟨i.toNat, by omega⟩
    have hI : I < P.S := by omega
    rw [Pl.slR_ok hI, Pl.slE_ok hI]
    have aw := Pl.ad_words ok.1 hI
    obtain ⟨k, j, hk, hj, rfl⟩ := Pl.slot_of hI
    have pt := partof_yes w h ok hk hj
    have ea := Pl.ad_at hk hj
    have po := fun W => pageof_any k (P.f k) (P.e k) (P.fo k) (P.s k) (P.po k) (P.p k) j W (ok.1.e1 k hk) (ok.fo k hk).1 (by have := (ok.fo k hk).2; omega) (ok.po k hk).1
    have hp := h.2.2.1
    have he := ok.1.e1 k hk
    have bf := (ok.fo k hk).1
    have bs := (ok.fo k hk).2
    have bw := ok.2.2.2.1
    dsimp only [Pl.pt, pv] at pt po
    have hbb : ∀ {W : World} (o : Obj), Bel w W → Bel w (W.alloc o) := fun o g => g.alloc o
    have kp := fun {W1 : World} (g1 : Bel w W1) W2 (g2 : Bel (W1.alloc (P.blk k)) W2) => keep8 (World.alloc_heap_new W1 (P.blk k)) (cell_bel (g1.alloc (P.blk k)) hp) g2
    dsimp only [Pl.blk, pblk] at kp
    obtain ⟨A, hA⟩ : ∃ A, P.ad (P.fo k + j) = A := ⟨_, rfl⟩
    rw [hA] at ea aw ⊢
    obtain ⟨R, hR⟩ : ∃ R, P.po k + j / P.e k = R := ⟨_, rfl⟩
    obtain ⟨m, hm⟩ : ∃ m, j % P.e k = m := ⟨_, rfl⟩
    simp only [hR] at po ea
    rw [hm] at ea
    obtain ⟨X, hX⟩ : ∃ X, R * P.g = X := ⟨_, rfl⟩
    obtain ⟨Y, hY⟩ : ∃ Y, m * P.f k = Y := ⟨_, rfl⟩
    rw [hX, hY] at ea
    have e1 : ((P.fo k + j : Nat) : Int) - (P.fo k : Int) = (j : Int) := by omega
    have e2 : (j : Int) % (P.e k : Int) = (m : Int) := by rw [← hm]; exact (Int.natCast_emod j (P.e k)).symm
    have e3 : (R : Int) * (P.g : Int) = (X : Int) := by rw [← hX]; exact (Int.natCast_mul R P.g).symm
    have e4 : (m : Int) * (P.f k : Int) = (Y : Int) := by rw [← hY]; exact (Int.natCast_mul m (P.f k)).symm
    have e5 : (X : Int) + (Y : Int) = (A : Int) := by omega
    have e0 : (P.e k : Int) ≠ 0 := by omega
    have bA : A ≤ 2097152 := by omega
    have bX : X ≤ 2097152 := by omega
    have bY : Y ≤ 2097152 := by omega
    have bj : j ≤ 4294967296 := by omega
    obtain ⟨I, hI'⟩ : ∃ I, P.fo k + j = I := ⟨_, rfl⟩
    have bI : I ≤ 8589934592 := by omega
    simp only [hI'] at e1 pt po ⊢
    have q0 : IntKind.i64.wrap ((I : Int) - (P.fo k : Int)) = (j : Int) := by rw [e1, IntKind.wrap_i64]; omega
    have q1 : IntKind.i64.wrap ((R : Int) * (P.g : Int)) = (X : Int) := by rw [e3, IntKind.wrap_i64]; omega
    have q2 : IntKind.i64.wrap ((m : Int) * (P.f k : Int)) = (Y : Int) := by rw [e4, IntKind.wrap_i64]; omega
    have q3 : IntKind.i64.wrap ((X : Int) + (Y : Int)) = (A : Int) := by rw [e5, IntKind.wrap_i64]; omega
    have wj : IntKind.i64.wrap (j : Int) = (j : Int) := by rw [IntKind.wrap_i64]; omega
    have wX : IntKind.i64.wrap (X : Int) = (X : Int) := by rw [IntKind.wrap_i64]; omega
    have wY : IntKind.i64.wrap (Y : Int) = (Y : Int) := by rw [IntKind.wrap_i64]; omega
    have wA : IntKind.i64.wrap (A : Int) = (A : Int) := by rw [IntKind.wrap_i64]; omega
    have tm : (j : Int).tmod (P.e k : Int) = (m : Int) := by rw [← e2]; exact Int.tmod_eq_emod_of_nonneg (by omega)
    have d0 : decide ((P.e k : Int) = 0) = false := decide_eq_false e0
    have d1 : ((P.e k : Int) == 0) = false := by simp; omega
    have d2 : P.e k ≠ 0 := by omega
    have d3 : (0 : Int) ≤ (j : Int) := by omega
    clear h ok hk hj hi hi' hI aw hA hR hm hX hY ea hI'
    generalize P.g = pg at *
    generalize P.f k = xf at *
    generalize P.e k = xe at *
    generalize P.fo k = xo at *
    generalize P.s k = xs at *
    generalize P.po k = xq at *
    generalize P.p k = xp at *
    go_enter Tryz.func92, Tryz.ntmps92
    go_wp2_with (go_at_call 93; refine pt.mono ?_; rintro e w' ⟨rfl, hg⟩; have kq := kp hg; obtain ⟨_, ⟨y0, y1, y2, y3, y4, y5, y6⟩, yp⟩ := kq _ (Bel.refl _))
    go_region_held3 (fun W => Bel (w'.alloc (.cells #[.int .i64 k, .int .i64 xf, .int .i64 xe, .int .i64 xo, .int .i64 xs, .int .i64 xq, .int .i64 xp] 136)) W ∧ (W.cell? ⟨w'.heap.size, 0, none⟩ = some (.int .i64 k) ∧ W.cell? ⟨w'.heap.size, 1, none⟩ = some (.int .i64 xf) ∧ W.cell? ⟨w'.heap.size, 2, none⟩ = some (.int .i64 xe) ∧ W.cell? ⟨w'.heap.size, 3, none⟩ = some (.int .i64 xo) ∧ W.cell? ⟨w'.heap.size, 4, none⟩ = some (.int .i64 xs) ∧ W.cell? ⟨w'.heap.size, 5, none⟩ = some (.int .i64 xq) ∧ W.cell? ⟨w'.heap.size, 6, none⟩ = some (.int .i64 xp)) ∧ W.cell? ⟨b, 0, none⟩ = some (.int .i64 pg))
      (first | with_reducible exact kq _ (by assumption) | with_reducible exact kq _ (Bel.drew (by assumption)) | with_reducible exact kq _ (Bel.trans (by assumption) (by assumption)) | with_reducible exact kq _ (Bel.trans (Bel.drew (by assumption)) (by assumption)))
      (first | (go_at_call 122; refine (po _).mono ?_; rintro e w2 ⟨rfl, hg2⟩))
    go_wp2
    go_ret2
    exact ⟨by simp, (hbb _ hg).trans (Bel.trans ((Bel.refl _).drew) hg2)⟩
  · rw [Pl.slR_no hi, Pl.slE_no hi]
    have pt := partof_no w h ok hi
    dsimp only [pv] at pt
    have hbb : ∀ {W : World} (o : Obj), Bel w W → Bel w (W.alloc o) := fun o g => g.alloc o
    clear h ok hi
    go_enter Tryz.func92, Tryz.ntmps92
    go_wp2_with (go_at_call 93; refine pt.mono ?_; rintro e w' ⟨rfl, hg⟩)
    go_ret2
    exact ⟨rfl, hbb _ hg⟩

end Go.Proofs.YthokalcibjjihaaGreatDoor

/- In of the program's plans. -/
namespace Go.Proofs.YthokalcibjjihaaGreatDoor
open Go.ChangeShapes Go.WideShapes Go.ChangeAt Go.RowKit Go.Deep Go.Shelf

/-- a part's cells, and that all lies as it lay -/
theorem keep7 {w W : World} {B : Nat} {x0 x1 x2 x3 x4 x5 x6 : Value} {t : TypeId} (hB : w.heap[B]? = some (.cells #[x0, x1, x2, x3, x4, x5, x6] t (0, 0))) (g : Bel w W) :
    Bel w W ∧ (W.cell? ⟨B, 0, none⟩ = some x0 ∧ W.cell? ⟨B, 1, none⟩ = some x1 ∧ W.cell? ⟨B, 2, none⟩ = some x2 ∧ W.cell? ⟨B, 3, none⟩ = some x3 ∧ W.cell? ⟨B, 4, none⟩ = some x4 ∧ W.cell? ⟨B, 5, none⟩ = some x5 ∧ W.cell? ⟨B, 6, none⟩ = some x6) :=
  ⟨g, (box7 (heap_bel g hB)).1⟩

end Go.Proofs.YthokalcibjjihaaGreatDoor

/- At, Words of the program's plans; plans that are none. -/
namespace Go.Proofs.YthokalcibjjihaaGreatDoor
open Go.ChangeShapes Go.WideShapes Go.ChangeAt Go.RowKit Go.Deep Go.Shelf

namespace Pl
variable {P : Pl}
theorem at_yes (h : P.Good) {k x r A : Nat} (hk : k < P.n) (hr : r < min (P.e k) (P.s k - x * P.e k)) (hA : (P.po k + x) * P.g + r * P.f k = A) :
    P.fo k + x * P.e k + r < P.S ∧ P.ad (P.fo k + x * P.e k + r) = A := by
  have a := sl_at h hk (x := x) (r := r) (by omega) (by omega)
  have b := fo_S (P := P) hk (show x * P.e k + r < P.s k by omega)
  rw [Nat.add_assoc]
  exact ⟨b, by rw [a.2.2.1]; exact hA⟩
theorem at_page (h : P.Good) {i A : Nat} (hi : i < P.S) (e : P.ad i = A) : A / P.g < P.T := by
  rw [← e, (ad_page h hi).1]
  exact pg_lt h hi
theorem at_no (h : P.Good) {i A k x : Nat} (hi : i < P.S) (e : P.ad i = A) (hk : k < P.n) (hx : x < P.p k) (hq : A / P.g = P.po k + x) :
    A % P.g % P.f k = 0 ∧ A % P.g / P.f k < min (P.e k) (P.s k - x * P.e k) := by
  obtain ⟨k', j, hk', hj, rfl⟩ := slot_of hi
  have a := (ad_page h hi).1
  rw [e, hq, pg_at hk' hj] at a
  have d := div_lt h hk' hj
  have b1 := pcl_at hk hx
  have b2 := pcl_at hk' d
  rw [a, b2] at b1
  subst b1
  have ex : x = j / P.e k' := by omega
  have c := ad_at hk' hj
  rw [e] at c
  have m := Nat.div_add_mod A P.g
  rw [hq, a] at m
  have B : A % P.g = j % P.e k' * P.f k' := by
    rw [Nat.mul_comm] at m
    omega
  have f1 := h.f2 k' hk'
  rw [B]
  refine ⟨Nat.mul_mod_left _ _, ?_⟩
  rw [Nat.mul_div_cancel _ (by omega), ex]
  have g1 := Nat.div_add_mod j (P.e k')
  have g2 := Nat.mod_lt j (h.e1 k' hk')
  rw [Nat.mul_comm] at g1
  omega
end Pl

theorem atR_no {P : Pl} {a r e : Int} (hA : AtR P a r e) (h : ∀ i : Nat, i < P.S → (P.ad i : Int) ≠ a) : r = 0 ∧ e = 7 := by
  rcases hA with ⟨i, h1, h2, _⟩ | ⟨_, h2⟩
  · exact absurd h2 (h i h1)
  · exact h2
theorem atR_yes {P : Pl} {a r e : Int} (hG : P.Good) (hA : AtR P a r e) {i : Nat} (hi : i < P.S) (h : (P.ad i : Int) = a) : r = i ∧ e = 0 := by
  rcases hA with ⟨j, h1, h2, h3, h4⟩ | ⟨h1, _⟩
  · have := Pl.ad_inj hG hi h1 (by omega)
    exact ⟨by rw [h3, this], h4⟩
  · exact absurd h (h1 i hi)

end Go.Proofs.YthokalcibjjihaaGreatDoor
