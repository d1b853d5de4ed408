/- Acts among the parameters, opened. -/
import Derived.Test.YteipadpifmjnmaaOpc
import Derived.Test.YteipadpifmjnmaaPac
namespace Go.Proofs.Yteipadpifmjnmaa
open Go.ChangeShapes Go.WideShapes Go.ChangeAt Go.RowKit Go.Joins Go.Deep

instance : Inhabited Ac := ⟨⟨0, 0, 0, 0, 0⟩⟩

section
variable {H : Type} {enc : TypeId × Value → H} {P : Program} {w : World} {base : Nat} {spare : Nat → Bool} {held : Bool}

theorem array5 {α : Type} {cs : Array α} (h : cs.size = 5) : ∃ c0 c1 c2 c3 c4, cs = #[c0, c1, c2, c3, c4] := by
  obtain ⟨l⟩ := cs
  match l, h with
  | [c0, c1, c2, c3, c4], _ => exact ⟨c0, c1, c2, c3, c4, rfl⟩

theorem five_cells {t : TypeId} {f0 f1 f2 f3 f4 : Field} {fuel : Nat} {c0 c1 c2 c3 c4 : Value} {y : DataW H × List MemPlace} (hs : P.underlying t = some (.struct #[f0, f1, f2, f3, f4])) (hone : oneCellFields P #[f0, f1, f2, f3, f4] = true)
    (h : DataW.trod enc P w base spare held fuel t [c0, c1, c2, c3, c4] = some y) :
    ∃ (y0 y1 y2 y3 y4 : DataW H × List MemPlace) (n : Nat),
      DataW.trod enc P w base spare held n f0.type [c0] = some y0 ∧ DataW.trod enc P w base spare held n f1.type [c1] = some y1 ∧ DataW.trod enc P w base spare held n f2.type [c2] = some y2 ∧
      DataW.trod enc P w base spare held n f3.type [c3] = some y3 ∧ DataW.trod enc P w base spare held n f4.type [c4] = some y4 := by
  obtain ⟨xs, n, _, hx, hl, hlen, hff⟩ := DataW.trod_struct hs h
  match xs, hlen with
  | [y0, y1, y2, y3, y4], _ =>
    obtain ⟨o0, k0⟩ := hone_of hone 0 f0 rfl
    obtain ⟨o1, k1⟩ := hone_of hone 1 f1 rfl
    obtain ⟨o2, k2⟩ := hone_of hone 2 f2 rfl
    obtain ⟨o3, k3⟩ := hone_of hone 3 f3 rfl
    obtain ⟨o4, k4⟩ := hone_of hone 4 f4 rfl
    exact ⟨y0, y1, y2, y3, y4, n, by simpa [o0, k0] using hff 0 f0 rfl, by simpa [o1, k1] using hff 1 f1 rfl, by simpa [o2, k2] using hff 2 f2 rfl, by simpa [o3, k3] using hff 3 f3 rfl, by simpa [o4, k4] using hff 4 f4 rfl⟩

theorem cell_u8 {t : TypeId} {n : Nat} {v : Value} {y : DataW H × List MemPlace} (ht : P.underlying t = some (.int .u8)) (h : DataW.trod enc P w base spare held n t [v] = some y) :
    ∃ x : Nat, v = .int .u8 (x : Nat) ∧ x ≤ 255 := by
  obtain ⟨x, e, _, wx⟩ := DataW.trod_int ht h
  simp at e
  simp [Lit.wf, IntKind.min, IntKind.max, IntKind.signed, IntKind.bits] at wx
  exact ⟨x.toNat, by rw [e]; congr 1; omega, by omega⟩
theorem cell_u64 {t : TypeId} {n : Nat} {v : Value} {y : DataW H × List MemPlace} (ht : P.underlying t = some (.int .u64)) (h : DataW.trod enc P w base spare held n t [v] = some y) :
    ∃ x : Nat, v = .int .u64 (x : Nat) ∧ x < 18446744073709551616 := by
  obtain ⟨x, e, _, wx⟩ := DataW.trod_int ht h
  simp at e
  simp [Lit.wf, IntKind.min, IntKind.max, IntKind.signed, IntKind.bits] at wx
  exact ⟨x.toNat, by rw [e]; congr 1; omega, by omega⟩
end

theorem cells_act : Try.prog.cellsOf 42 = 5 := by kernel_rfl

/-- the cells of an act -/
theorem five_act {H : Type} {enc : TypeId × Value → H} {w : World} {base : Nat} {spare : Nat → Bool} {held : Bool} {fuel : Nat} {c0 c1 c2 c3 c4 : Value} {y : DataW H × List MemPlace}
    (h : DataW.trod enc Try.prog w base spare held fuel 42 [c0, c1, c2, c3, c4] = some y) :
    ∃ x : Ac, x.ok ∧ c0 = .int .u8 (x.wh : Nat) ∧ c1 = .int .i64 x.t ∧ c2 = .int .i64 x.a ∧ c3 = .int .i64 x.n ∧ c4 = .int .u64 (x.u : Nat) := by
  obtain ⟨y0, y1, y2, y3, y4, k, g0, g1, g2, g3, g4⟩ := five_cells Try.underlying42 (by kernel_rfl) h
  obtain ⟨wh, rfl, b0⟩ := cell_u8 Try.underlying5 g0
  obtain ⟨t, rfl, b1⟩ := cell_i64 Try.underlying3 g1
  obtain ⟨a, rfl, b2⟩ := cell_i64 Try.underlying3 g2
  obtain ⟨n, rfl, b3⟩ := cell_i64 Try.underlying3 g3
  obtain ⟨u, rfl, b4⟩ := cell_u64 Try.underlying40 g4
  exact ⟨⟨wh, t, a, n, u⟩, ⟨b0, b1, b2, b3, b4⟩, rfl, rfl, rfl, rfl, rfl⟩

/-- a slice of acts that came in -/
theorem get_acts {H : Type} {enc : TypeId × Value → H} {W : World} {r : Reach} {b0 : Nat} {v : Value} {d : DataW H} {p : List MemPlace} (hv : Value.okWide Try.prog W r b0 26 v) (h : DataW.Trod enc Try.prog W 0 (fun _ => true) true 26 v d p) :
    ∃ (n : Nat) (A : Nat → Ac), Acts W v n A := by
  obtain ⟨a0, l0, c0, rfl⟩ := okWide_slice Try.underlying26 hv
  obtain ⟨fuel, hfu⟩ := h
  have d0 : Ac := ⟨0, 0, 0, 0, 0⟩
  rcases open_slice Try.underlying26 hfu with ⟨hcs, _⟩ | ⟨a, len, cap, m, k, D, Pl, hcs, _, hl, hm, hmm, _, hx⟩
  · simp [Value.cells] at hcs
    obtain ⟨rfl, rfl, rfl⟩ := hcs
    exact ⟨0, fun _ => d0, Or.inl ⟨rfl, none, 0, rfl⟩⟩
  · simp [Value.cells] at hcs
    obtain ⟨rfl, rfl, rfl⟩ := hcs
    simp only [if_true] at hmm
    by_cases c : l0 = 0
    · exact ⟨0, fun _ => d0, Or.inl ⟨rfl, some a, c0, by rw [c]⟩⟩
    · have each : ∀ j, j < m → ∃ x : Ac, x.ok ∧ W.cell? (a.add (j * 5)) = some (.int .u8 (x.wh : Nat)) ∧ W.cell? (a.add (j * 5 + 1)) = some (.int .i64 x.t) ∧ W.cell? (a.add (j * 5 + 2)) = some (.int .i64 x.a) ∧ W.cell? (a.add (j * 5 + 3)) = some (.int .i64 x.n) ∧ W.cell? (a.add (j * 5 + 4)) = some (.int .u64 (x.u : Nat)) := by
        intro j hj
        obtain ⟨cs', h1, h2⟩ := hx j hj
        rw [cells_act] at h1
        obtain ⟨_, hlen, hcell⟩ := World.cells?_some h1
        match cs', hlen with
        | [v0, v1, v2, v3, v4], _ =>
          obtain ⟨x, hok, rfl, rfl, rfl, rfl, rfl⟩ := five_act h2
          have e0 := hcell 0 (by omega)
          have e1 := hcell 1 (by omega)
          have e2 := hcell 2 (by omega)
          have e3 := hcell 3 (by omega)
          have e4 := hcell 4 (by omega)
          rw [add_add] at e0 e1 e2 e3 e4
          exact ⟨x, hok, by simpa using e0, by simpa using e1, by simpa using e2, by simpa using e3, by simpa using e4⟩
      obtain ⟨_, _, x0, _⟩ := each 0 (by omega)
      have sp := (cell_block x0).2
      obtain ⟨b, off, s⟩ := a
      change s = none at sp
      subst sp
      obtain ⟨T, hT⟩ := choose_lt (α := Ac) (p := fun j z => AcAt W b (off + j * 5) z ∧ z.ok) (n := l0) (fun j hj => by
        obtain ⟨x, hok, e0, e1, e2, e3, e4⟩ := each j (by omega)
        exact ⟨x, ⟨by simpa [add_plain, Nat.add_assoc] using e0, by simpa [add_plain, Nat.add_assoc] using e1, by simpa [add_plain, Nat.add_assoc] using e2, by simpa [add_plain, Nat.add_assoc] using e3, by simpa [add_plain, Nat.add_assoc] using e4⟩, hok⟩)
      exact ⟨l0, T, Or.inr ⟨b, off, c0, rfl, by omega, hl, by unfold maxLen at hm; omega, hT⟩⟩

/-- an act that came in -/
theorem get_act {H : Type} {enc : TypeId × Value → H} {W : World} {r : Reach} {b0 : Nat} {v : Value} {d : DataW H} {p : List MemPlace} (hv : Value.okWide Try.prog W r b0 42 v) (h : DataW.Trod enc Try.prog W 0 (fun _ => true) true 42 v d p) :
    ∃ x : Ac, v = .agg #[.int .u8 (x.wh : Nat), .int .i64 x.t, .int .i64 x.a, .int .i64 x.n, .int .u64 (x.u : Nat)] ∧ x.ok := by
  obtain ⟨cs, rfl, hsz⟩ := okWide_struct Try.underlying42 hv
  obtain ⟨c0, c1, c2, c3, c4, rfl⟩ := array5 (hsz.trans cells_act)
  obtain ⟨fuel, hf⟩ := h
  obtain ⟨x, hok, rfl, rfl, rfl, rfl, rfl⟩ := five_act (by simpa [Value.cells] using hf)
  exact ⟨x, rfl, hok⟩

end Go.Proofs.Yteipadpifmjnmaa
