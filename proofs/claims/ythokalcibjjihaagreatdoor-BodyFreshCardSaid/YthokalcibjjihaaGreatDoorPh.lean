/- Of, partOf of the program's plans. -/
import Derived.Test.YthokalcibjjihaaGreatDoorPg
namespace Go.Proofs.YthokalcibjjihaaGreatDoor
open Go.ChangeShapes Go.WideShapes Go.ChangeAt Go.RowKit Go.Deep Go.Shelf
set_option linter.unusedVariables false

def i64b' (x : Int) : Prop := -9223372036854775808 ≤ x ∧ x ≤ 9223372036854775807
/-- numbers that a plan of a configuration has -/
def PlOk (P : Pl) : Prop := P.Good ∧ P.S ≤ 32768 ∧ P.T ≤ 32768 ∧ P.W ≤ 2097152 ∧ P.n ≤ 8 ∧ ∀ k, k < P.n → P.s k ≤ 4096 ∧ P.e k ≤ 64 ∧ P.p k ≤ 4096 ∧ P.f k ≤ 64 ∧ P.g ≤ 64
theorem Cf.pl_ok {c : Cf} {t : Nat} (ok : c.ok) (ht : t < c.m) : PlOk (c.pl t) :=
  ⟨Cf.pl_good ok ht, (Cf.pl_S ok ht).1, (Cf.pl_S ok ht).2.1, (Cf.pl_S ok ht).2.2, (Cf.ok_n ok).2, fun k hk => Cf.pl_le ok ht hk⟩
theorem PlOk.fo {P : Pl} (h : PlOk P) (k : Nat) (hk : k < P.n) : P.fo k ≤ 4294967296 ∧ P.s k ≤ 4294967296 := by
  have a : P.fo k ≤ P.fo P.n := Pl.fo_le (by omega)
  have b := h.2.1
  have c := (h.2.2.2.2.2 k hk).1
  unfold Pl.S at b
  omega
theorem PlOk.po {P : Pl} (h : PlOk P) (k : Nat) (hk : k < P.n) : P.po k ≤ 4294967296 ∧ P.p k ≤ 4294967296 := by
  have a : P.po k ≤ P.po P.n := Pl.po_le (by omega)
  have b := h.2.2.1
  have c := (h.2.2.2.2.2 k hk).2.2.1
  unfold Pl.T at b
  omega

/-- a slot is in one span -/
theorem inS_fo {P : Pl} {k j : Nat} (hk : k < P.n) (hj : j < P.s k) : inS (P.fo k) (P.s k) ((P.fo k + j : Nat) : Int) = true ∧ ∀ x, x < P.n → inS (P.fo x) (P.s x) ((P.fo k + j : Nat) : Int) = true → x = k := by
  refine ⟨decide_eq_true ⟨by omega, by omega⟩, fun x hx h => ?_⟩
  have h := of_decide_eq_true h
  have a := Pl.cls_at hk hj
  have b := (Pl.cls_iff (Pl.fo_S hk hj) hx).2 ⟨by omega, by omega⟩
  rw [a] at b
  exact b.symm
theorem inS_fo_no {P : Pl} {i : Int} (h : ¬ P.hasS i) : ∀ x, x < P.n → inS (P.fo x) (P.s x) i = false := fun x hx => by
  refine decide_eq_false fun y => h ⟨by omega, ?_⟩
  have := Pl.fo_le (P := P) (show x + 1 ≤ P.n by omega)
  rw [Pl.fo_succ] at this
  unfold Pl.S
  omega
theorem inS_po {P : Pl} {k j : Nat} (hk : k < P.n) (hj : j < P.p k) : inS (P.po k) (P.p k) ((P.po k + j : Nat) : Int) = true ∧ ∀ x, x < P.n → inS (P.po x) (P.p x) ((P.po k + j : Nat) : Int) = true → x = k := by
  refine ⟨decide_eq_true ⟨by omega, by omega⟩, fun x hx h => ?_⟩
  have h := of_decide_eq_true h
  have a := Pl.pcl_at hk hj
  have b := Pl.pcl_at hx (show P.po k + j - P.po x < P.p x by omega)
  rw [show P.po x + (P.po k + j - P.po x) = P.po k + j by omega, a] at b
  exact b.symm
theorem inS_po_no {P : Pl} {i : Int} (h : ¬ P.hasQ i) : ∀ x, x < P.n → inS (P.po x) (P.p x) i = false := fun x hx => by
  refine decide_eq_false fun y => h ⟨by omega, ?_⟩
  have := Pl.po_le (P := P) (show x + 1 ≤ P.n by omega)
  rw [Pl.po_succ] at this
  unfold Pl.T
  omega

theorem size_al (w : World) (o : Obj) : (w.alloc o).heap.size = w.heap.size + 1 := World.size_alloc ..

/-- partOf: a slot that there is -/
theorem partof_yes {b g off cap : Nat} {P : Pl} (w : World) (h : PlanAt w b g off cap P) (ok : PlOk P) {k j : Nat} (hk : k < P.n) (hj : j < P.s k) :
    Calls Tryz.prog 93 #[.pointer (some ⟨b, 0, none⟩), .int .i64 ((P.fo k + j : Nat) : Int)] w fun e w' => e = .returned (.tuple #[P.pt k, .int .i64 0]) ∧ Bel w w' := by
  obtain ⟨t, u⟩ := inS_fo hk hj
  obtain ⟨i, hi⟩ : ∃ i, ((P.fo k + j : Nat) : Int) = i := ⟨_, rfl⟩
  rw [hi] at t u ⊢
  clear hi
  have hb := ((Bel.refl w).alloc (.cells #[.int .i64 i] 3)).alloc (pblk 0 0 0 0 0 0 0)
  have tw := two_at (w := w) (W := (w.alloc (.cells #[.int .i64 i] 3)).alloc (pblk 0 0 0 0 0 0 0)) rfl
  have fd := (fd_sl i w h ok.1.one ok.fo ((w.alloc (.cells #[.int .i64 i] 3)).alloc (pblk 0 0 0 0 0 0 0)) w.heap.size hb (by omega) (blk_cell tw.2.2.1 0)).mono fun e w' x => (⟨x.1.yes hk t u, x.2⟩ : e = .returned (.tuple #[P.pt k, .int .i64 0]) ∧ Bel ((w.alloc (.cells #[.int .i64 i] 3)).alloc (pblk 0 0 0 0 0 0 0)) w')
  have hz := tw.2.2.2
  dsimp only [Pl.pt, pv] at fd ⊢
  clear h ok hk hj t u tw
  generalize P.f k = xf at *
  generalize P.e k = xe at *
  generalize P.fo k = xo at *
  generalize P.s k = xs at *
  generalize P.po k = xq at *
  generalize P.p k = xp at *
  go_enter Tryz.func93, Tryz.ntmps93
  go_wp2_with (go_at_call 123; refine fd.mono ?_; rintro e w' ⟨rfl, hg⟩; have hx := heap_bel hg hz; obtain ⟨⟨z0, z1, z2, z3, z4, z5, z6⟩, f0, f1, f2, f3, f4, f5, f6⟩ := box7 hx)
  (try simp only [Exit.inBlock, Exit.then])
  refine bodyPost_ret (results_cell_row2 rfl _ _ _ 136 _ (0, 0) _ rfl (seven_row hx _ _ _ _ _ _ _) Tryz.underlying136 rfl info_pt) rfl ?_
  exact ⟨rfl, set7_below (show Below w.heap.size w w' from hb.trans hg) (Nat.le_succ _) _ _ _ _ _ _ _⟩

/-- partOf: no slot -/
theorem partof_no {b g off cap : Nat} {P : Pl} (w : World) (h : PlanAt w b g off cap P) (ok : PlOk P) {i : Int} (hi : ¬ P.hasS i) :
    Calls Tryz.prog 93 #[.pointer (some ⟨b, 0, none⟩), .int .i64 i] w fun e w' => e = .returned (.tuple #[pv 0 0 0 0 0 0 0, .int .i64 2]) ∧ Bel w w' := by
  have t := inS_fo_no hi
  have hb := ((Bel.refl w).alloc (.cells #[.int .i64 i] 3)).alloc (pblk 0 0 0 0 0 0 0)
  have tw := two_at (w := w) (W := (w.alloc (.cells #[.int .i64 i] 3)).alloc (pblk 0 0 0 0 0 0 0)) rfl
  have fd := (fd_sl i w h ok.1.one ok.fo ((w.alloc (.cells #[.int .i64 i] 3)).alloc (pblk 0 0 0 0 0 0 0)) w.heap.size hb (by omega) (blk_cell tw.2.2.1 0)).mono fun e w' x => (⟨x.1.no t, x.2⟩ : e = .returned (.tuple #[pv 0 0 0 0 0 0 0, .int .i64 2]) ∧ Bel ((w.alloc (.cells #[.int .i64 i] 3)).alloc (pblk 0 0 0 0 0 0 0)) w')
  have hz := tw.2.2.2
  dsimp only [pv] at fd ⊢
  clear h ok hi t tw
  go_enter Tryz.func93, Tryz.ntmps93
  go_wp2_with (go_at_call 123; refine fd.mono ?_; rintro e w' ⟨rfl, hg⟩; have hx := heap_bel hg hz; obtain ⟨⟨z0, z1, z2, z3, z4, z5, z6⟩, f0, f1, f2, f3, f4, f5, f6⟩ := box7 hx)
  (try simp only [Exit.inBlock, Exit.then])
  refine bodyPost_ret (results_cell_row2 rfl _ _ _ 136 _ (0, 0) _ rfl (seven_row hx _ _ _ _ _ _ _) Tryz.underlying136 rfl info_pt) rfl ?_
  exact ⟨rfl, set7_below (show Below w.heap.size w w' from hb.trans hg) (Nat.le_succ _) _ _ _ _ _ _ _⟩

end Go.Proofs.YthokalcibjjihaaGreatDoor
