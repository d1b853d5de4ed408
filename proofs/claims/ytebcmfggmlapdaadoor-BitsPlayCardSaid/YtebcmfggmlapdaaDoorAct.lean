/- A slice of acts, opened. -/
import Derived.Test.YtebcmfggmlapdaaDoorOpn
import Derived.Deep.Slices
namespace Go.Proofs.YtebcmfggmlapdaaDoor
open Go.ChangeShapes Go.WideShapes Go.ChangeAt Go.RowKit Go.Joins Go.Deep

/-- a slice of acts -/
def Acts (w : World) (v : Value) (n : Nat) (A : Nat → Nat × Int × Bool) : Prop :=
  (n = 0 ∧ ∃ p cap, v = .slice p 0 cap) ∨
  ∃ b off cap, v = .slice (some ⟨b, off, none⟩) n cap ∧ 1 ≤ n ∧ n ≤ cap ∧ cap ≤ 9223372036854775807 ∧
    ∀ j, j < n → w.cell? ⟨b, off + j * 3, none⟩ = some (.int .u8 ((A j).1 : Nat)) ∧ w.cell? ⟨b, off + j * 3 + 1, none⟩ = some (.int .i64 (A j).2.1) ∧ w.cell? ⟨b, off + j * 3 + 2, none⟩ = some (.bool (A j).2.2) ∧
      (A j).1 < 256 ∧ -9223372036854775808 ≤ (A j).2.1 ∧ (A j).2.1 ≤ 9223372036854775807

theorem Acts.slice {w : World} {v : Value} {n : Nat} {A : Nat → Nat × Int × Bool} (h : Acts w v n A) : ∃ p cap, v = .slice p n cap := by
  rcases h with ⟨rfl, p, cap, rfl⟩ | ⟨b, off, cap, rfl, _⟩ <;> exact ⟨_, _, rfl⟩

theorem cells32 : Tryd.prog.cellsOf 32 = 3 := by kernel_rfl

theorem get_acts {H : Type} {enc : TypeId × Value → H} {W : World} {r : Reach} {b0 : Nat} {v : Value} {d : DataW H} {p : List MemPlace} (hv : Value.okWide Tryd.prog W r b0 22 v) (h : DataW.Trod enc Tryd.prog W 0 (fun _ => true) true 22 v d p) :
    ∃ (n : Nat) (A : Nat → Nat × Int × Bool), Acts W v n A := by
  obtain ⟨a0, l0, c0, rfl⟩ := okWide_slice Tryd.underlying22 hv
  obtain ⟨fuel, hfu⟩ := h
  rcases open_slice Tryd.underlying22 hfu with ⟨hcs, _⟩ | ⟨a, len, cap, m, n, D, Pl, hcs, _, hl, hm, hmm, _, hi⟩
  · simp [Value.cells] at hcs
    obtain ⟨rfl, rfl, rfl⟩ := hcs
    exact ⟨0, fun _ => (0, 0, false), Or.inl ⟨rfl, none, 0, rfl⟩⟩
  · simp [Value.cells] at hcs
    obtain ⟨rfl, rfl, rfl⟩ := hcs
    simp only [if_true] at hmm
    by_cases c : l0 = 0
    · exact ⟨0, fun _ => (0, 0, false), Or.inl ⟨rfl, some a, c0, by rw [c]⟩⟩
    · rw [cells32] at hi
      have hs : a.spot = none := by
        obtain ⟨cs', hc, _⟩ := hi 0 (by omega)
        obtain ⟨_, hcl, hat⟩ := World.cells?_some hc
        match cs', hcl with
        | [u0, u1, u2], _ =>
          have := (cell_block (show W.cell? ((a.add (0 * 3)).add 0) = some u0 from hat 0 (by omega))).2
          obtain ⟨b, off, s⟩ := a
          cases s
          · rfl
          · simp [Addr.add] at this
      obtain ⟨b, off, s⟩ := a
      simp only at hs
      subst hs
      have ad : ∀ o k, (⟨b, o, none⟩ : Addr).add k = ⟨b, o + k, none⟩ := fun o k => by unfold Addr.add; split <;> simp_all
      simp only [ad] at hi
      have each : ∀ i, i < l0 → ∃ x : Nat × Int × Bool, W.cell? ⟨b, off + i * 3, none⟩ = some (.int .u8 (x.1 : Nat)) ∧ W.cell? ⟨b, off + i * 3 + 1, none⟩ = some (.int .i64 x.2.1) ∧ W.cell? ⟨b, off + i * 3 + 2, none⟩ = some (.bool x.2.2) ∧
          x.1 < 256 ∧ -9223372036854775808 ≤ x.2.1 ∧ x.2.1 ≤ 9223372036854775807 := by
        intro i hil
        obtain ⟨cs', hc, ht'⟩ := hi i (by omega)
        obtain ⟨_, hcl, hat⟩ := World.cells?_some hc
        match cs', hcl with
        | [u0, u1, u2], _ =>
          obtain ⟨y0, y1, y2, n', hx, _, h0, h1, h2⟩ := trod_struct3 Tryd.underlying32 ht'
          obtain ⟨x, e0, _, wx⟩ := DataW.trod_int Tryd.underlying5 h0
          obtain ⟨y, e1, _, wy⟩ := DataW.trod_int Tryd.underlying3 h1
          obtain ⟨z, e2, _⟩ := DataW.trod_bool Tryd.underlying4 h2
          have c3 : Tryd.prog.cellsOf 3 = 1 := by kernel_rfl
          have c4 : Tryd.prog.cellsOf 4 = 1 := by kernel_rfl
          simp [cells5, c3, c4] at e0 e1 e2
          subst e0 e1 e2
          have bx := bounds_u8 wx
          have byy := wf_bd wy
          have a0 := hat 0 (by omega)
          have a1 := hat 1 (by omega)
          have a2 := hat 2 (by omega)
          rw [ad] at a0 a1 a2
          refine ⟨(x.toNat, y, z), ?_, a1, a2, by show x.toNat < 256; omega, byy.1, byy.2⟩
          show _ = some (Value.int .u8 ((x.toNat : Nat) : Int))
          rw [show ((x.toNat : Nat) : Int) = x by omega]
          exact a0
      obtain ⟨V, hV⟩ := choose_lt (α := Nat × Int × Bool) each
      refine ⟨l0, V, Or.inr ⟨b, off, c0, rfl, by omega, hl, by unfold maxLen at hm; omega, hV⟩⟩

end Go.Proofs.YtebcmfggmlapdaaDoor
