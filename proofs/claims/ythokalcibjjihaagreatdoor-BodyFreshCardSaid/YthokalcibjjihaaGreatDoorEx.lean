/- Worlds that keep all but some blocks. -/
import Derived.Test.YthokalcibjjihaaGreatDoorRat
namespace Go.Proofs.YthokalcibjjihaaGreatDoor
open Go.ChangeShapes Go.WideShapes Go.ChangeAt Go.RowKit Go.Deep

/-- all lies as it lay, but for some blocks -/
structure Exc (X : Nat → Prop) (w w' : World) : Prop where
  os : w'.os = w.os
  tape : w'.tape = w.tape
  output : w'.output = w.output
  size : w.heap.size ≤ w'.heap.size
  block : ∀ k, k < w.heap.size → ¬ X k → w'.heap[k]? = w.heap[k]?

theorem Bel.exc {X : Nat → Prop} {w w' : World} (h : Bel w w') : Exc X w w' := ⟨h.os, h.tape, h.output, h.size, fun k hk _ => h.block k hk⟩
theorem Exc.trans {X : Nat → Prop} {a b c : World} (h : Exc X a b) (k : Exc X b c) : Exc X a c :=
  ⟨k.os.trans h.os, k.tape.trans h.tape, k.output.trans h.output, Nat.le_trans h.size k.size, fun i hi hx => (k.block i (Nat.lt_of_lt_of_le hi h.size) hx).trans (h.block i hi hx)⟩
theorem Exc.mono {X Y : Nat → Prop} {a b : World} (h : Exc X a b) (s : ∀ k, X k → Y k) : Exc Y a b := ⟨h.os, h.tape, h.output, h.size, fun k hk hy => h.block k hk fun hx => hy (s k hx)⟩
theorem Exc.below {X : Nat → Prop} {a b : World} (h : Exc X a b) {B : Nat} (s : ∀ k, X k → B ≤ k) (hB : B ≤ a.heap.size) : Below B a b :=
  ⟨h.os, h.tape, h.output, h.size, fun k hk => h.block k (by omega) fun hx => by have := s k hx; omega⟩
theorem cell_exc {X : Nat → Prop} {w w' : World} (g : Exc X w w') {a : Addr} {v : Value} (h : w.cell? a = some v) (hx : ¬ X a.block) : w'.cell? a = some v := by
  rw [World.cell?_of_block (g.block a.block (cell_block h).1 hx)]; exact h
/-- the blocks that may be turned lie here -/
def Till (X : Nat → Prop) (w : World) : Prop := ∀ k, X k → k < w.heap.size
theorem Till.bel {X : Nat → Prop} {w w' : World} (h : Till X w) (g : Bel w w') : Till X w' := fun k hk => Nat.lt_of_lt_of_le (h k hk) g.size
theorem Till.new {X : Nat → Prop} {w : World} (h : Till X w) {k : Nat} (hk : w.heap.size ≤ k) : ¬ X k := fun hx => by have := h k hx; omega

theorem Exc.tail {X Z : Nat → Prop} {a b c : World} (h : Exc X a b) (g : Exc Z b c) (hz : ∀ k, Z k → a.heap.size ≤ k) : Exc X a c :=
  ⟨g.os.trans h.os, g.tape.trans h.tape, g.output.trans h.output, Nat.le_trans h.size g.size, fun k hk hx => (g.block k (Nat.lt_of_lt_of_le hk h.size) fun y => by have := hz k y; omega).trans (h.block k hk hx)⟩
theorem Exc.al {X : Nat → Prop} {a b : World} (h : Exc X a b) (o : Obj) : Exc X a (b.alloc o) := Exc.trans h ((Bel.refl b).alloc o).exc
theorem Exc.refl (X : Nat → Prop) (w : World) : Exc X w w := (Bel.refl w).exc
/-- the blocks from lo on, below hi -/
def Own (lo hi : Nat) (k : Nat) : Prop := lo ≤ k ∧ k < hi
/-- the blocks of a slice are none of these -/
def Avoid (X : Nat → Prop) (v : Value) : Prop := ∀ b off sp n cap, v = .slice (some ⟨b, off, sp⟩) n cap → ¬ X b
theorem Avoid.less {X Y : Nat → Prop} {v : Value} (h : Avoid X v) (s : ∀ k, Y k → X k) : Avoid Y v := fun b off sp n cap e y => h b off sp n cap e (s b y)
theorem Avoid.nil {X : Nat → Prop} {n cap : Nat} : Avoid X (.slice none n cap) := fun b off sp n' cap' e => by
  injection e with e _ _
  cases e
theorem Avoid.at {X : Nat → Prop} {b off n cap : Nat} (h : ¬ X b) : Avoid X (.slice (some ⟨b, off, none⟩) n cap) := fun b' off' sp' n' cap' e => by
  injection e with e _ _
  injection e with e
  injection e with e
  rw [← e]; exact h
/-- the slices of a plan -/
def AvoidQ (X : Nat → Prop) (v : Value) : Prop := ∀ Lv Fv Mv a b, v = .agg #[Lv, Fv, Mv, a, b] → Avoid X Lv ∧ Avoid X Fv ∧ Avoid X Mv
theorem nums_exc {X : Nat → Prop} {w w' : World} {v : Value} {n : Nat} {F : Nat → Int} (h : Nums w v n F) (a : Avoid X v) (g : Exc X w w') : Nums w' v n F := by
  rcases h with h | ⟨b, off, cap, h1, h2, h3, h4, h5⟩
  · exact Or.inl h
  · exact Or.inr ⟨b, off, cap, h1, h2, h3, h4, fun j hj => cell_exc g (h5 j hj) (a _ _ _ _ _ h1)⟩

end Go.Proofs.YthokalcibjjihaaGreatDoor
