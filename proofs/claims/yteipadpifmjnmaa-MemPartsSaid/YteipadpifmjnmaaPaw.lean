/- The document's example, and the calls whose answers the document fixes (awake). -/
import Derived.Test.YteipadpifmjnmaaPsa
namespace Go.Proofs.Yteipadpifmjnmaa
open Go.ChangeShapes Go.WideShapes Go.ChangeAt Go.RowKit Go.Deep
set_option linter.unusedVariables false

/-- the document's example, with a page -/
def exC (pg : Int) : Cf := { n := 2, F := fun j => ([2, 4] : List Int).getD j 0, page := pg, m := 2, Q := fun j => ([20, 4] : List Int).getD j 0, Tr := fun j => ([8, 1] : List Int).getD j 0, Cp := fun j => ([4, 1] : List Int).getD j 0, As := fun j => ([1, 0] : List Int).getD j 0, wk := 1, gr := 2, gn := 3 }
theorem nat_two {j : Nat} (h : j < 2) : j = 0 ∨ j = 1 := by omega
theorem ex_made (w : World) (pg : Int) {W : World} (g : Bel ((w.alloc (.cells #[.int .i64 2, .int .i64 4] 3)).alloc (.cells #[.int .i64 20, .int .i64 8, .int .i64 4, .int .i64 1, .int .i64 4, .int .i64 1, .int .i64 1, .int .i64 0] 69)) W) :
    IsCf W (.agg #[.slice (some ⟨w.heap.size, 0, none⟩) 2 2, .int .i64 pg, .slice (some ⟨w.heap.size + 1, 0, none⟩) 2 2, .int .i64 1, .int .i64 2, .int .i64 3]) (exC pg) := by
  have s1 : (w.alloc (.cells #[.int .i64 2, .int .i64 4] 3)).heap.size = w.heap.size + 1 := size_alloc1 _ _
  have a0 := fun j => agg_at (w := w) (((Bel.refl _).alloc _).trans g) j
  have a1 := fun j => agg_at (w := w.alloc (.cells #[.int .i64 2, .int .i64 4] 3)) g j
  rw [s1] at a1
  refine ⟨_, _, rfl, Or.inr ⟨_, 0, 2, rfl, (by decide : 1 ≤ 2), (by decide : 2 ≤ 2), by decide, fun j hj => ?_⟩, Or.inr ⟨_, 0, 2, rfl, (by decide : 1 ≤ 2), (by decide : 2 ≤ 2), by decide, fun j hj => ?_⟩⟩
  · rcases nat_two hj with rfl | rfl
    · exact a0 0
    · exact a0 1
  · rcases nat_two hj with rfl | rfl
    · exact ⟨a1 0, a1 1, a1 2, a1 3⟩
    · exact ⟨a1 4, a1 5, a1 6, a1 7⟩
theorem info_cf : (Try.prog.info? 25).map (·.size) = some 6 := by kernel_rfl
theorem ex7_any (w : World) : Calls Try.prog 23 #[] w fun e w' => (∃ v, e = .returned v ∧ ∀ W, Bel w' W → IsCf W v (exC 8)) ∧ Bel w w' := by
  go_enter Try.func23, Try.ntmps23
  go_wp2
  (try simp only [Exit.inBlock, Exit.then])
  refine bodyPost_ret (results_cell_row rfl _ _ _ 25 _ (0, 0) _ rfl (box_at (((Bel.refl _).alloc _).alloc _)) Try.underlying25 rfl info_cf) rfl ?_
  have s1 : ∀ o : Obj, (w.alloc o).heap.size = w.heap.size + 1 := fun o => size_alloc1 _ _
  refine ⟨⟨_, rfl, fun W g => ?_⟩, ((Bel.refl _).alloc _).alloc _ |>.alloc _⟩
  have := ex_made _ 8 g
  rwa [s1] at this

/-- a memory as it is now -/
structure St (w1 W : World) (m : Value) (lo hi : Nat) (R : List (List Nat)) : Prop where
  mem : IsMem W m lo hi R
  top : hi ≤ W.heap.size
  exc : Exc (Own lo hi) w1 W
theorem St.load {w1 W : World} {m : Value} {lo hi : Nat} {R : List (List Nat)} (h : St w1 W m lo hi R) {t a : Int} {x : Int} {e : Int} (hx : ((loadR R t a : Nat) : Int) = x ∧ inE R t a = e) :
    Calls Try.prog 17 #[m, .int .i64 t, .int .i64 a] W fun r W' => r = .returned (.tuple #[.int .u64 x, .int .i64 e]) ∧ St w1 W' m lo hi R := by
  have := pm_load m lo hi R t a W h.mem
  rw [hx.1, hx.2] at this
  exact this.mono fun r W' ⟨k, g⟩ => ⟨k, h.mem.bel g h.top, Nat.le_trans h.top g.size, Exc.trans h.exc g.exc⟩
theorem St.store {w1 W : World} {m : Value} {lo hi : Nat} {R S : List (List Nat)} (h : St w1 W m lo hi R) {t a : Int} {u : Nat} {uv : Int} {e : Int} (hx : storeR R t a u = S ∧ inE R t a = e ∧ ((u : Nat) : Int) = uv) :
    Calls Try.prog 16 #[m, .int .i64 t, .int .i64 a, .int .u64 uv] W fun r W' => r = .returned (.int .i64 e) ∧ St w1 W' m lo hi S := by
  have := pm_store m lo hi R t a u W h.mem h.top
  rw [hx.1, hx.2.1, hx.2.2] at this
  exact this.mono fun r W' ⟨k, g, x⟩ => ⟨k, g, Nat.le_trans h.top x.size, Exc.trans h.exc x⟩
theorem St.zero {w1 W : World} {m : Value} {lo hi : Nat} {R S : List (List Nat)} (h : St w1 W m lo hi R) {t a n : Int} {e : Int} (hx : zeroR R t a n = S ∧ zeroE R t a n = e) (hn : -9223372036854775808 ≤ n ∧ n ≤ 9223372036854775807) :
    Calls Try.prog 15 #[m, .int .i64 t, .int .i64 a, .int .i64 n] W fun r W' => r = .returned (.int .i64 e) ∧ St w1 W' m lo hi S := by
  have := pm_zero m lo hi R t a n W h.mem h.top hn
  rw [hx.1, hx.2] at this
  exact this.mono fun r W' ⟨k, g, x⟩ => ⟨k, g, Nat.le_trans h.top x.size, Exc.trans h.exc x⟩

theorem ex_ok : (exC 8).ok ∧ (exC 8).base (exC 8).m ≤ 4000 := ⟨by decide, by decide⟩

def aS0 : List (List Nat) := (exC 8).zeros
def aS1 := storeR aS0 0 47 9
def aS2 := storeR aS1 1 0 5
def aS3 := zeroR aS2 0 48 0
def aS4 := zeroR aS3 0 40 8
theorem aw1 : storeR aS0 0 47 9 = aS1 ∧ inE aS0 0 47 = 0 ∧ ((9 : Nat) : Int) = 9 := ⟨rfl, by kernel_rfl, rfl⟩
theorem aw2 : storeR aS1 0 48 9 = aS1 ∧ inE aS1 0 48 = 4 ∧ ((9 : Nat) : Int) = 9 := ⟨by kernel_rfl, by kernel_rfl, rfl⟩
theorem aw3 : storeR aS1 1 0 5 = aS2 ∧ inE aS1 1 0 = 0 ∧ ((5 : Nat) : Int) = 5 := ⟨rfl, by kernel_rfl, rfl⟩
theorem aw4 : ((loadR aS2 0 47 : Nat) : Int) = 9 ∧ inE aS2 0 47 = 0 := ⟨by kernel_rfl, by kernel_rfl⟩
theorem aw5 : ((loadR aS2 1 0 : Nat) : Int) = 5 ∧ inE aS2 1 0 = 0 := ⟨by kernel_rfl, by kernel_rfl⟩
theorem aw6 : ((loadR aS2 2 0 : Nat) : Int) = 0 ∧ inE aS2 2 0 = 2 := ⟨by kernel_rfl, by kernel_rfl⟩
theorem aw7 : zeroR aS2 0 40 9 = aS2 ∧ zeroE aS2 0 40 9 = 4 := ⟨by kernel_rfl, by kernel_rfl⟩
theorem aw8 : zeroR aS2 0 48 0 = aS3 ∧ zeroE aS2 0 48 0 = 0 := ⟨rfl, by kernel_rfl⟩
theorem aw9 : zeroR aS3 0 40 8 = aS4 ∧ zeroE aS3 0 40 8 = 0 := ⟨rfl, by kernel_rfl⟩
theorem awA : ((loadR aS4 0 47 : Nat) : Int) = 0 ∧ inE aS4 0 47 = 0 := ⟨by kernel_rfl, by kernel_rfl⟩

set_option maxRecDepth 100000 in
set_option maxHeartbeats 2000000 in
theorem awake7_any (w : World) : Calls Try.prog 8 #[] w fun e w' => e = .returned (.bool true) ∧ Bel w w' := by
  have ex := ex7_any w
  go_enter Try.func8, Try.ntmps8
  go_wp2_with (first
    | (go_at_call 23; refine ex.mono ?_; rintro e w1 ⟨⟨v, rfl, hI⟩, hg⟩
       have nw := pm_new_ok v (exC 8) w1 (hI _ (Bel.refl w1)) ex_ok.1 ex_ok.2)
    | (go_at_call 9; refine nw.mono ?_; rintro e w2 ⟨⟨pp, rfl, hM⟩, hg2⟩
       have s0 : St w2 w2 (.pointer (some pp)) w1.heap.size w2.heap.size aS0 := ⟨hM, Nat.le_refl _, (Bel.refl w2).exc⟩
       have sz2 := Nat.le_trans hg.size hg2.size
       clear hM nw hI ex)
    | (go_at_call 16; with_reducible refine (s0.store aw1).mono ?_; rintro e w3 ⟨rfl, s1⟩)
    | (go_at_call 16; with_reducible refine (s1.store aw2).mono ?_; rintro e w4 ⟨rfl, s2⟩)
    | (go_at_call 16; with_reducible refine (s2.store aw3).mono ?_; rintro e w5 ⟨rfl, s3⟩)
    | (go_at_call 17; with_reducible refine (s3.load aw4).mono ?_; rintro e w6 ⟨rfl, s4⟩)
    | (go_at_call 17; with_reducible refine (s4.load aw5).mono ?_; rintro e w7 ⟨rfl, s5⟩)
    | (go_at_call 17; with_reducible refine (s5.load aw6).mono ?_; rintro e w8 ⟨rfl, s6⟩)
    | (go_at_call 15; with_reducible refine (s6.zero aw7 (by decide)).mono ?_; rintro e w9 ⟨rfl, s7⟩)
    | (go_at_call 15; with_reducible refine (s7.zero aw8 (by decide)).mono ?_; rintro e wA ⟨rfl, s8⟩)
    | (go_at_call 15; with_reducible refine (s8.zero aw9 (by decide)).mono ?_; rintro e wB ⟨rfl, s9⟩)
    | (go_at_call 17; with_reducible refine (s9.load awA).mono ?_; rintro e wC ⟨rfl, sA⟩))
  go_ret
  exact ⟨rfl, Below.trans hg (Below.trans (hg2.mono hg.size) (sA.exc.below (fun k hk => Nat.le_trans hg.size hk.1) sz2))⟩

end Go.Proofs.Yteipadpifmjnmaa
