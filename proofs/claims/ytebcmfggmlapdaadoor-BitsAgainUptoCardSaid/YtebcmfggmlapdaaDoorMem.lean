/- Rows of bits in memory: what a row is, what stays when another one is written. -/
import Derived.Test.YtebcmfggmlapdaaDoorRows
import Derived.Test.YtebcmfggmlapdaaDoorPc
import Derived.WalkKit
import Derived.WalkLawsBesides
import Derived.ProofKit
import Derived.IntWalk
import Derived.Lib.Hide
import Derived.Laws.BitsAllLaws
import Derived.Deep.QuietTactic
import Derived.BigQuiet
import Derived.OpenShut
import Derived.ChangeSlices
import Derived.OwnWalk
import Derived.OneCell
import Derived.Carry
import Derived.Deep.RegionHeld3
import Derived.Deep.AppendLies
namespace Go.Proofs.YtebcmfggmlapdaaDoor
open Go.ChangeShapes Go.WideShapes Go.ChangeAt Go.RowKit

theorem ret_int {k : IntKind} {a b : Int} (h : a = b) : Ending.returned (.int k a) = .returned (.int k b) := by rw [h]
theorem ret_bool {a b : Bool} (h : a = b) : Ending.returned (.bool a) = .returned (.bool b) := by rw [h]

/-- all that lay there lies as it lay -/
def Bel (w w' : World) : Prop := Below w.heap.size w w'

theorem Bel.refl (w : World) : Bel w w := Below.refl _ _
theorem Bel.trans {a b c : World} (h : Bel a b) (k : Bel b c) : Bel a c := Below.trans h (k.mono h.size)
theorem Bel.drewN (w : World) (n : Nat) : Bel w (w.drewN n) := ⟨rfl, rfl, rfl, Nat.le_refl _, fun _ _ => rfl⟩
theorem Bel.then_drewN {w w' : World} (h : Bel w w') (n : Nat) : Bel w (w'.drewN n) := h.trans (Bel.drewN w' n)
theorem Bel.drew {w w' : World} (h : Bel w w') : Bel w w'.drew := Below.drew h
theorem Bel.alloc {w w' : World} (h : Bel w w') (o : Obj) : Bel w (w'.alloc o) := Below.alloc h h.size o
theorem Bel.of_eq {w w' : World} (h : w' = w) : Bel w w' := h ▸ Bel.refl _

/-- all that lay there lies as it lay, but for block g -/
def But (g : Nat) (w w' : World) : Prop :=
  w'.os = w.os ∧ w'.tape = w.tape ∧ w'.output = w.output ∧ w.heap.size ≤ w'.heap.size ∧ ∀ k, k < w.heap.size → k ≠ g → w'.heap[k]? = w.heap[k]?

theorem But.refl (g : Nat) (w : World) : But g w w := ⟨rfl, rfl, rfl, Nat.le_refl _, fun _ _ _ => rfl⟩
theorem But.trans {g : Nat} {a b c : World} (h : But g a b) (k : But g b c) : But g a c :=
  ⟨k.1.trans h.1, k.2.1.trans h.2.1, k.2.2.1.trans h.2.2.1, Nat.le_trans h.2.2.2.1 k.2.2.2.1, fun i hi hg => (k.2.2.2.2 i (Nat.lt_of_lt_of_le hi h.2.2.2.1) hg).trans (h.2.2.2.2 i hi hg)⟩
theorem Bel.but {w w' : World} (h : Bel w w') (g : Nat) : But g w w' := ⟨h.os, h.tape, h.output, h.size, fun k hk _ => h.block k hk⟩
theorem But.set {g : Nat} {w w' : World} (h : But g w w') (o : Nat) (u : Value) : But g w (w'.setCell ⟨g, o, none⟩ u) :=
  h.trans ⟨rfl, rfl, rfl, by simp [World.setCell], fun k _ hg => Below.heap_setCell _ _ _ _ hg⟩
theorem But.below {g n : Nat} {w0 w w' : World} (h : Below n w0 w) (k : But g w w') (hg : n ≤ g) (hn : n ≤ w.heap.size) : Below n w0 w' :=
  h.trans ⟨k.1, k.2.1, k.2.2.1, k.2.2.2.1, fun i hi => k.2.2.2.2 i (by omega) (by omega)⟩
theorem Bel.below {n : Nat} {w0 w w' : World} (h : Below n w0 w) (k : Bel w w') (hn : n ≤ w.heap.size) : Below n w0 w' := h.trans (Below.mono k hn)

theorem block_lt {w : World} {g : Nat} {o : Obj} (h : w.heap[g]? = some o) : g < w.heap.size := by
  by_cases c : g < w.heap.size
  · exact c
  · rw [Array.getElem?_eq_none (by omega)] at h; cases h

theorem cell_block {w : World} {a : Addr} {v : Value} (h : w.cell? a = some v) : a.block < w.heap.size ∧ a.spot = none := by
  unfold World.cell? at h
  by_cases c : a.block < w.heap.size
  · refine ⟨c, ?_⟩
    split at h
    · split at h
      · cases h
      · rename_i hs
        cases hh : a.spot
        · rfl
        · rw [hh] at hs; exact absurd rfl hs
    · cases h
  · have e : w.heap[a.block]? = none := by rw [Array.getElem?_eq_none_iff]; omega
    rw [e] at h; cases h

theorem cell_bel {w w' : World} (g : Bel w w') {a : Addr} {v : Value} (h : w.cell? a = some v) : w'.cell? a = some v := by
  rw [Below.cell g (cell_block h).1, h]
theorem cell_but {w w' : World} {g : Nat} (k : But g w w') {a : Addr} {v : Value} (h : w.cell? a = some v) (hg : a.block ≠ g) : w'.cell? a = some v := by
  rw [World.cell?_of_block (k.2.2.2.2 _ (cell_block h).1 hg), h]

/-- a slice of cells -/
def Row (w : World) (v : Value) (n : Nat) (x : Nat → Value) : Prop :=
  (n = 0 ∧ ∃ p cap, v = .slice p 0 cap) ∨
  ∃ b off cap, v = .slice (some ⟨b, off, none⟩) n cap ∧ 1 ≤ n ∧ n ≤ cap ∧ cap ≤ 9223372036854775807 ∧ ∀ j, j < n → w.cell? ⟨b, off + j, none⟩ = some (x j)

/-- a slice of words -/
def Words (w : World) (v : Value) (n : Nat) (g : Nat → Nat) : Prop := Row w v n fun j => .int .u64 (g j : Nat)
/-- a slice of truths, in a block of truths -/
def Bools (w : World) (v : Value) (n : Nat) (f : Nat → Bool) : Prop :=
  (n = 0 ∧ ∃ p cap, v = .slice p 0 cap) ∨
  ∃ b cap cs, v = .slice (some ⟨b, 0, none⟩) n cap ∧ 1 ≤ n ∧ n ≤ cap ∧ cap ≤ 9223372036854775807 ∧ w.heap[b]? = some (.cells cs 4 (0, 0)) ∧ ∀ j, j < n → cs[j]? = some (.bool (f j))

theorem Row.bel {w w' : World} {v : Value} {n : Nat} {x : Nat → Value} (h : Row w v n x) (g : Bel w w') : Row w' v n x := by
  rcases h with h | ⟨b, off, cap, h1, h2, h3, h4, h5⟩
  · exact Or.inl h
  · exact Or.inr ⟨b, off, cap, h1, h2, h3, h4, fun j hj => cell_bel g (h5 j hj)⟩
theorem Words.bel {w w' : World} {v : Value} {n : Nat} {g : Nat → Nat} (h : Words w v n g) (k : Bel w w') : Words w' v n g := Row.bel h k
theorem Row.slice {w : World} {v : Value} {n : Nat} {x : Nat → Value} (h : Row w v n x) : ∃ p cap, v = .slice p n cap := by
  rcases h with ⟨rfl, p, cap, rfl⟩ | ⟨b, off, cap, rfl, _⟩ <;> exact ⟨_, _, rfl⟩
theorem Bools.bel {w w' : World} {v : Value} {n : Nat} {f : Nat → Bool} (h : Bools w v n f) (k : Bel w w') : Bools w' v n f := by
  rcases h with h | ⟨b, cap, cs, h1, h2, h3, h4, h5, h6⟩
  · exact Or.inl h
  · exact Or.inr ⟨b, cap, cs, h1, h2, h3, h4, (k.block _ (block_lt h5)).trans h5, h6⟩
theorem Bools.slice {w : World} {v : Value} {n : Nat} {f : Nat → Bool} (h : Bools w v n f) : ∃ p cap, v = .slice p n cap := by
  rcases h with ⟨rfl, p, cap, rfl⟩ | ⟨b, cap, cs, rfl, _⟩ <;> exact ⟨_, _, rfl⟩
theorem Bools.row {w : World} {v : Value} {n : Nat} {f : Nat → Bool} (h : Bools w v n f) : Row w v n fun j => .bool (f j) := by
  rcases h with h | ⟨b, cap, cs, h1, h2, h3, h4, h5, h6⟩
  · exact Or.inl h
  · exact Or.inr ⟨b, 0, cap, h1, h2, h3, h4, fun j hj => by rw [Nat.zero_add, cell_of_row _ _ _ _ _ _ h5]; exact h6 j hj⟩
theorem Bools.congr {w : World} {v : Value} {n : Nat} {f g : Nat → Bool} (h : Bools w v n f) (k : ∀ j, j < n → f j = g j) : Bools w v n g := by
  rcases h with h | ⟨b, cap, cs, h1, h2, h3, h4, h5, h6⟩
  · exact Or.inl h
  · exact Or.inr ⟨b, cap, cs, h1, h2, h3, h4, h5, fun j hj => by rw [h6 j hj, k j hj]⟩

/-- a row of bits: its block, its words' block and room -/
def RowIs (w : World) (b g ca n : Nat) (f : Nat → Bool) : Prop :=
  n ≤ 65536 ∧ Fits n f ∧ nw n ≤ ca ∧ w.heap[b]? = some (.cells #[.int .i64 (n : Nat), .slice (some ⟨g, 0, none⟩) (nw n) ca, .bool true] 55 (0, 0)) ∧
  ∃ cs, w.heap[g]? = some (.cells cs 53 (0, 0)) ∧ ∀ k, k < nw n → cs[k]? = some (.int .u64 (W f k : Nat))

/-- a block of words -/
def WordsAt (w : World) (g : Nat) : Prop := ∃ cs, w.heap[g]? = some (.cells cs 53 (0, 0))

theorem WordsAt.bel {w w' : World} {g : Nat} (h : WordsAt w g) (k : Bel w w') : WordsAt w' g := by
  obtain ⟨cs, h⟩ := h
  exact ⟨cs, (k.block _ (block_lt h)).trans h⟩

section
variable {w w' : World} {b g ca n : Nat} {f : Nat → Bool}

theorem RowIs.head (h : RowIs w b g ca n f) : w.cell? ⟨b, 0, none⟩ = some (.int .i64 (n : Nat)) ∧ w.cell? ⟨b, 1, none⟩ = some (.slice (some ⟨g, 0, none⟩) (nw n) ca) ∧ w.cell? ⟨b, 2, none⟩ = some (.bool true) := by
  obtain ⟨_, _, _, h, _⟩ := h
  exact ⟨cell_of_row _ _ 0 _ _ _ h, cell_of_row _ _ 1 _ _ _ h, cell_of_row _ _ 2 _ _ _ h⟩

theorem RowIs.word (h : RowIs w b g ca n f) {k : Nat} (hk : k < nw n) : w.cell? ⟨g, k, none⟩ = some (.int .u64 (W f k : Nat)) ∧ w.frozen? ⟨g, k, none⟩ = false := by
  obtain ⟨_, _, _, _, cs, hc, hw⟩ := h
  refine ⟨by rw [cell_of_row _ _ k _ _ _ hc]; exact hw k hk, by simp [World.frozen?, hc]⟩

theorem RowIs.bel (h : RowIs w b g ca n f) (k : Bel w w') : RowIs w' b g ca n f := by
  obtain ⟨h1, h2, h0, h3, cs, h4, h5⟩ := h
  exact ⟨h1, h2, h0, (k.block _ (block_lt h3)).trans h3, cs, (k.block _ (block_lt h4)).trans h4, h5⟩

theorem RowIs.at (h : RowIs w b g ca n f) : WordsAt w g := by
  obtain ⟨h1, h2, _, h3, cs, h4, _⟩ := h
  exact ⟨cs, h4⟩

theorem RowIs.ne (h : RowIs w b g ca n f) {g' : Nat} (h' : WordsAt w g') : b ≠ g' := by
  obtain ⟨_, _, _, h3, _⟩ := h
  obtain ⟨cs', h4⟩ := h'
  rintro rfl
  rw [h3] at h4
  cases h4

theorem RowIs.but {g' : Nat} (h : RowIs w b g ca n f) (k : But g' w w') (h' : WordsAt w g') (hg : g ≠ g') : RowIs w' b g ca n f := by
  have hb := h.ne h'
  obtain ⟨h1, h2, h0, h3, cs, h4, h5⟩ := h
  exact ⟨h1, h2, h0, (k.2.2.2.2 _ (block_lt h3) hb).trans h3, cs, (k.2.2.2.2 _ (block_lt h4) hg).trans h4, h5⟩

theorem Bools.but {v : Value} {m g' : Nat} {q : Nat → Bool} (h : Bools w v m q) (k : But g' w w') (h' : WordsAt w g') : Bools w' v m q := by
  rcases h with h | ⟨b, cap, cs, h1, h2, h3, h4, h5, h6⟩
  · exact Or.inl h
  · refine Or.inr ⟨b, cap, cs, h1, h2, h3, h4, (k.2.2.2.2 _ (block_lt h5) ?_).trans h5, h6⟩
    rintro rfl
    obtain ⟨cs', h'⟩ := h'
    rw [h5] at h'
    cases h'

/-- one word written -/
theorem RowIs.put {f' : Nat → Bool} {k : Nat} (h : RowIs w b g ca n f) (hk : k < nw n) (hf : Fits n f') (ho : ∀ j, j < nw n → j ≠ k → W f' j = W f j) : RowIs (w.setCell ⟨g, k, none⟩ (.int .u64 (W f' k : Nat))) b g ca n f' := by
  have hb := h.ne h.at
  obtain ⟨h1, h2, h0, h3, cs, h4, h6⟩ := h
  refine ⟨h1, hf, h0, by rw [Below.heap_setCell _ _ _ _ hb]; exact h3, cs.setIfInBounds k (.int .u64 (W f' k : Nat)), ?_, fun j hj => ?_⟩
  · simp [World.setCell, Array.getElem?_modify, h4]
  · have hs := (Array.getElem?_eq_some_iff.1 (h6 j hj)).1
    by_cases c : j = k
    · subst c
      rw [Array.getElem?_setIfInBounds]
      simp [hs]
    · rw [Array.getElem?_setIfInBounds, if_neg (fun e => c e.symm), h6 j hj, ho j hj c]
end

/-- a row, or none: its pointer, its number of bits, its words, is it one -/
def Hdr (w : World) (p : Value) (n : Nat) (s : Value) (m : Bool) : Prop :=
  (p = .pointer none ∧ n = 0 ∧ s = .slice none 0 0 ∧ m = false) ∨
  ∃ b, p = .pointer (some ⟨b, 0, none⟩) ∧ w.cell? ⟨b, 0, none⟩ = some (.int .i64 (n : Nat)) ∧ w.cell? ⟨b, 1, none⟩ = some s ∧ w.cell? ⟨b, 2, none⟩ = some (.bool m)

theorem RowIs.hdr {w : World} {b g ca n : Nat} {f : Nat → Bool} (h : RowIs w b g ca n f) : Hdr w (.pointer (some ⟨b, 0, none⟩)) n (.slice (some ⟨g, 0, none⟩) (nw n) ca) true :=
  Or.inr ⟨b, rfl, h.head.1, h.head.2.1, h.head.2.2⟩
theorem hdr_nil (w : World) : Hdr w (.pointer none) 0 (.slice none 0 0) false := Or.inl ⟨rfl, rfl, rfl, rfl⟩
theorem Hdr.bel {w w' : World} {p : Value} {n : Nat} {s : Value} {m : Bool} (h : Hdr w p n s m) (k : Bel w w') : Hdr w' p n s m := by
  rcases h with h | ⟨b, h1, h2, h3, h4⟩
  · exact Or.inl h
  · exact Or.inr ⟨b, h1, cell_bel k h2, cell_bel k h3, cell_bel k h4⟩

end Go.Proofs.YtebcmfggmlapdaaDoor
