/- Acts in memory; one act in a statement's loop. -/
import Derived.Test.YteipadpifmjnmaaPaw
namespace Go.Proofs.Yteipadpifmjnmaa
open Go.ChangeShapes Go.WideShapes Go.ChangeAt Go.RowKit Go.Deep
set_option linter.unusedVariables false

/-- an act -/
structure Ac where
  wh : Nat
  t : Int
  a : Int
  n : Int
  u : Nat
/-- its cells -/
def AcAt (w : World) (b o : Nat) (x : Ac) : Prop :=
  w.cell? ⟨b, o, none⟩ = some (.int .u8 (x.wh : Nat)) ∧ w.cell? ⟨b, o + 1, none⟩ = some (.int .i64 x.t) ∧ w.cell? ⟨b, o + 2, none⟩ = some (.int .i64 x.a) ∧ w.cell? ⟨b, o + 3, none⟩ = some (.int .i64 x.n) ∧ w.cell? ⟨b, o + 4, none⟩ = some (.int .u64 (x.u : Nat))
theorem AcAt.bel {w w' : World} {b o : Nat} {x : Ac} (h : AcAt w b o x) (g : Bel w w') : AcAt w' b o x :=
  ⟨cell_bel g h.1, cell_bel g h.2.1, cell_bel g h.2.2.1, cell_bel g h.2.2.2.1, cell_bel g h.2.2.2.2⟩
theorem AcAt.exc {X : Nat → Prop} {w w' : World} {b o : Nat} {x : Ac} (h : AcAt w b o x) (g : Exc X w w') (hx : ¬ X b) : AcAt w' b o x :=
  ⟨cell_exc g h.1 hx, cell_exc g h.2.1 hx, cell_exc g h.2.2.1 hx, cell_exc g h.2.2.2.1 hx, cell_exc g h.2.2.2.2 hx⟩
/-- a value that is one -/
def Ac.ok (x : Ac) : Prop := x.wh ≤ 255 ∧ (-9223372036854775808 ≤ x.t ∧ x.t ≤ 9223372036854775807) ∧ (-9223372036854775808 ≤ x.a ∧ x.a ≤ 9223372036854775807) ∧ (-9223372036854775808 ≤ x.n ∧ x.n ≤ 9223372036854775807) ∧ x.u < 18446744073709551616
/-- a slice of acts -/
def Acts (w : World) (v : Value) (n : Nat) (A : Nat → Ac) : Prop :=
  (n = 0 ∧ ∃ p cap, v = .slice p 0 cap) ∨
  ∃ b off cap, v = .slice (some ⟨b, off, none⟩) n cap ∧ 1 ≤ n ∧ n ≤ cap ∧ cap ≤ 9223372036854775807 ∧ ∀ j, j < n → AcAt w b (off + j * 5) (A j) ∧ (A j).ok
theorem Acts.bel {w w' : World} {v : Value} {n : Nat} {A : Nat → Ac} (h : Acts w v n A) (g : Bel w w') : Acts w' v n A := by
  rcases h with h | ⟨b, off, cap, h1, h2, h3, h4, h5⟩
  · exact Or.inl h
  · exact Or.inr ⟨b, off, cap, h1, h2, h3, h4, fun j hj => ⟨(h5 j hj).1.bel g, (h5 j hj).2⟩⟩
theorem Acts.slice {w : World} {v : Value} {n : Nat} {A : Nat → Ac} (h : Acts w v n A) : ∃ p cap, v = .slice p n cap ∧ n ≤ 9223372036854775807 := by
  rcases h with ⟨rfl, p, cap, rfl⟩ | ⟨b, off, cap, rfl, h1, h2, h3, h4⟩
  · exact ⟨p, cap, rfl, by omega⟩
  · exact ⟨_, cap, rfl, by omega⟩
theorem Acts.at {w : World} {p : Option Addr} {n cap : Nat} {A : Nat → Ac} (h : Acts w (.slice p n cap) n A) {j : Nat} (hj : j < n) :
    ∃ b off, p = some ⟨b, off, none⟩ ∧ b < w.heap.size ∧ AcAt w b (off + j * 5) (A j) ∧ (A j).ok := by
  rcases h with ⟨rfl, _⟩ | ⟨b, off, cap', e, h1, h2, h3, h4⟩
  · omega
  · injection e with e1 e2 e3
    exact ⟨b, off, e1, (cell_block (h4 j hj).1.1).1, h4 j hj⟩
/-- what acts make of a memory -/
def playR (A : Nat → Ac) (R : List (List Nat)) : Nat → List (List Nat)
  | 0 => R
  | k + 1 => stepR (playR A R k) (A k).wh (A k).t (A k).a (A k).n (A k).u
theorem RmFull.play {R : List (List Nat)} (h : RmFull R) (A : Nat → Ac) : ∀ k, RmFull (playR A R k)
  | 0 => h
  | k + 1 => (h.play A k).step _ _ _ _ _

theorem Exc.al {X : Nat → Prop} {a b : World} (h : Exc X a b) (o : Obj) : Exc X a (b.alloc o) := Exc.trans h ((Bel.refl b).alloc o).exc
/-- both memories in a statement's loop: the program's in blocks lo to below hi, the document's in the box Bq -/
structure Lp (w5 wr : World) (m : Value) (lo hi Bq : Nat) (R : List (List Nat)) (rv : Value) : Prop where
  mem : IsMem wr m lo hi R
  top : hi ≤ wr.heap.size
  box : wr.heap[Bq]? = some (.cells #[rv] 36 (0, 0))
  rows : Rs (fun b => Own lo hi b ∨ b = Bq) wr rv R
  exc : Exc (fun b => Own lo hi b ∨ b = Bq) w5 wr
  bq : hi ≤ Bq
theorem Lp.bel {w5 wr w' : World} {m : Value} {lo hi Bq : Nat} {R : List (List Nat)} {rv : Value} (h : Lp w5 wr m lo hi Bq R rv) (g : Bel wr w') : Lp w5 w' m lo hi Bq R rv :=
  ⟨h.mem.bel g h.top, Nat.le_trans h.top g.size, heap_bel g h.box, h.rows.bel g, Exc.trans h.exc g.exc, h.bq⟩
/-- behind an act, ahead of the store into the document's box -/
structure Mid (wr wx : World) (m : Value) (lo hi Bq g9 : Nat) (S : List (List Nat)) : Prop where
  mem : IsMem wx m lo hi S
  exc : Exc (Own lo hi) wr wx
  box : ∃ p cap, wx.heap[g9]? = some (.cells #[.slice p S.length cap] 36 (0, 0)) ∧ Rs (fun b => Own lo hi b ∨ b = Bq) wx (.slice p S.length cap) S
/-- the box made behind the act -/
theorem Mid.after {wr w6 : World} {m : Value} {lo hi Bq : Nat} {S : List (List Nat)} {p : Option Addr} {cap : Nat} (hM : IsMem w6 m lo hi S) (hh : hi ≤ w6.heap.size) (hR : Rs (fun b => Own lo hi b ∨ b = Bq) w6 (.slice p S.length cap) S) (g : Exc (Own lo hi) wr w6) :
    Mid wr (w6.alloc (.cells #[.slice p S.length cap] 36)) m lo hi Bq w6.heap.size S :=
  have al := (Bel.refl w6).alloc (.cells #[.slice p S.length cap] 36)
  ⟨hM.bel al hh, Exc.trans g al.exc, p, cap, heap_alloc_new w6 _, hR.bel al⟩
/-- the box made ahead of the act -/
theorem Mid.ahead {wr w6 w7 : World} {m : Value} {lo hi Bq g9 : Nat} {S : List (List Nat)} {p : Option Addr} {cap : Nat} (hM : IsMem w6 m lo hi S) (hh : hi ≤ w6.heap.size) (h9 : hi ≤ g9) (hR : Rs (fun b => (Own lo hi b ∨ b = Bq) ∨ b = g9) w6 (.slice p S.length cap) S) (g : Exc (Own lo hi) wr w7)
    (hb : w7.heap[g9]? = some (.cells #[.slice p S.length cap] 36 (0, 0))) (hE : Exc (fun k => k = g9) w6 w7) : Mid wr w7 m lo hi Bq g9 S :=
  ⟨hM.exc hE (fun k hk e => by have := hk.2; omega) hh, g, p, cap, hb, (hR.exc (hE.mono fun k hk => Or.inr hk)).less fun k hk => Or.inl hk⟩
/-- at first -/
theorem Lp.start {w2 w3 w4 : World} {m rv : Value} {lo hi : Nat} {R : List (List Nat)} (hM : IsMem w2 m lo hi R) (hh : hi = w2.heap.size) (g3 : Bel w2 w3) (g4 : Bel w3 w4) (hR : Rs (Own lo hi) w4 rv R) :
    Lp (w4.alloc (.cells #[rv] 36)) (w4.alloc (.cells #[rv] 36)) m lo hi w4.heap.size R rv := by
  have g := (g3.trans g4).trans ((Bel.refl w4).alloc (.cells #[rv] 36))
  have s := (g3.trans g4).size
  refine ⟨hM.bel g (by omega), by rw [size_alloc1]; omega, heap_alloc_new w4 _, ?_, (Bel.refl _).exc, by omega⟩
  refine (hR.old.bel ((Bel.refl w4).alloc _)).less fun k hk => ?_
  rcases hk with hk | hk
  · exact Or.inl hk
  · exact Or.inr (by omega)
/-- behind an act -/
theorem Lp.step {w5 wr w6 w7 : World} {m : Value} {lo hi Bq : Nat} {R S : List (List Nat)} {rv rv' : Value} (h : Lp w5 wr m lo hi Bq R rv) (hM : IsMem w6 m lo hi S) (hq : Rs (fun b => Own lo hi b ∨ b = Bq) w6 rv' S) (hE : Exc (Own lo hi) wr w6) (hb : w7.heap[Bq]? = some (.cells #[rv'] 36 (0, 0))) (hE7 : Exc (fun b => b = Bq) w6 w7) :
    Lp w5 w7 m lo hi Bq S rv' := by
  have t6 := Nat.le_trans h.top hE.size
  refine ⟨hM.exc hE7 (fun k hk e => ?_) t6, Nat.le_trans t6 hE7.size, hb, hq.exc (hE7.mono fun k hk => Or.inr hk), Exc.trans h.exc (Exc.trans (hE.mono fun k hk => Or.inl hk) (hE7.mono fun k hk => Or.inr hk)), h.bq⟩
  have := hk.2
  have := h.bq
  omega

end Go.Proofs.Yteipadpifmjnmaa
