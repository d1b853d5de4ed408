/- Used of the program's arenas reads alone; both arenas when the first is turned to what it was. -/
import Derived.Test.YtjgjomojcocegaaDoorQp
namespace Go.Proofs.YtjgjomojcocegaaDoor
open Go.ChangeShapes Go.WideShapes Go.ChangeAt Go.RowKit Go.Deep
set_option linter.unusedVariables false

theorem used_same (v : Value) (pl lo hi : Nat) (P : Pl) (T : Nat → Bool) (w : World) (h : IsA w v pl lo hi P T) :
    Calls Tryd.prog 12 #[v] w fun e w' => e = .returned (.int .i64 (P.used T P.S : Nat)) ∧ w' = w := by
  obtain ⟨b, rb, g, ca, pb, pg, off, cap, rfl, _, _, _, _, _, _, _, h7, _, h9, _⟩ := h
  have c0 := blk_cell h7 0
  have c2 := blk_cell h7 2
  have he := aex_yes c0
  clear h7 h9
  generalize P.used T P.S = U at *
  go_enter Tryd.func12, Tryd.ntmps12
  go_wp2_with (go_at_call 37; (with_reducible refine he.mono ?_); rintro e w' ⟨rfl, hw⟩; rw [hw]; clear hw)
  go_ret
  exact ⟨rfl, rfl⟩

theorem Lp.same {w5 wr w6 : World} {a : Value} {pl lo hi Bq : Nat} {P : Pl} {T : Nat → Bool} {x0 x1 x2 x3 x4 x5 : Value} (h : Lp w5 wr a pl lo hi Bq P T x0 x1 x2 x3 x4 x5) (hA : IsA w6 a pl lo hi P T) (e : Exc (Own lo hi) wr w6) :
    Lp w5 w6 a pl lo hi Bq P T x0 x1 x2 x3 x4 x5 :=
  ⟨hA, h.top, blk_exc e h.box (fun x => by have := x.2; have := h.top; omega), h.ar.exc (e.mono fun k hk => Or.inl hk), h.exc.trans (e.mono fun k hk => Or.inl hk)⟩
theorem Lp.turn {w5 wr w6 w7 : World} {a : Value} {pl lo hi Bq : Nat} {P : Pl} {T T' : Nat → Bool} {x0 x1 x2 x3 x4 x5 y0 y1 y2 y3 y4 y5 : Value} (h : Lp w5 wr a pl lo hi Bq P T x0 x1 x2 x3 x4 x5)
    (hA : IsA w6 a pl lo hi P T') (hq : IsAr (fun k => Own lo hi k ∨ k = Bq) w6 (.agg #[y0, y1, y2, y3, y4, y5]) P T') (e : Exc (Own lo hi) wr w6)
    (hb : w7.heap[Bq]? = some (.cells #[y0, y1, y2, y3, y4, y5] 33 (0, 0))) (e2 : Exc (fun k => k = Bq) w6 w7) : Lp w5 w7 a pl lo hi Bq P T' y0 y1 y2 y3 y4 y5 := by
  have l1 := hA.low
  have l2 := hA.lt
  have l3 := h.top
  exact ⟨hA.exc e2 (fun x hx => ⟨by omega, fun y => by have := y.2; omega⟩), h.top, hb, hq.exc (e2.mono fun k hk => Or.inr hk), h.exc.trans ((e.mono fun k hk => Or.inl hk).trans (e2.mono fun k hk => Or.inr hk))⟩

/-- a tenant's plan, and the configuration's numbers -/
theorem pl_room {c : Cf} {t : Nat} (ok : c.ok) (ht : t < c.m) {k : Nat} (hk : k < c.n) :
    c.F k = ((c.pl t).f k : Nat) ∧ (c.pl t).f k ≤ 64 ∧ 0 ≤ c.Q t ∧ c.Q t ≤ 4294967296 ∧ c.Q t < (((c.pl t).s k * (c.pl t).f k + (c.pl t).f k : Nat) : Int) := by
  obtain ⟨h1, h2, h3, h4⟩ := Cf.slots_bd ok ht hk
  obtain ⟨e1, _, _, e4, _⟩ := Cf.pl_cast ok ht hk
  have hp := (Cf.pl_ok ok ht).2.2.2.2.2 k hk
  rw [← e1, ← e4] at h3 h4
  have e5 : ((((c.pl t).s k : Nat) : Int)) * (((c.pl t).f k : Nat) : Int) = (((c.pl t).s k * (c.pl t).f k : Nat) : Int) := by simp
  rw [e5] at h3 h4
  have m1 : (c.pl t).s k * (c.pl t).f k ≤ 4096 * 64 := Nat.mul_le_mul hp.1 hp.2.2.2.1
  refine ⟨e4.symm, hp.2.2.2.1, ?_, ?_, ?_⟩
  · omega
  · omega
  · omega

end Go.Proofs.YtjgjomojcocegaaDoor
