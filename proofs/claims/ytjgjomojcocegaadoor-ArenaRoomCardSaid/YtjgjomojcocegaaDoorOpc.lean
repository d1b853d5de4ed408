/- A configuration among the parameters, opened; closed facts of the program. -/
import Derived.Test.YtjgjomojcocegaaDoorRowk
import Derived.Test.YtjgjomojcocegaaDoorCm
import Derived.Deep.Slices
namespace Go.Proofs.YtjgjomojcocegaaDoor
open Go.ChangeShapes Go.WideShapes Go.ChangeAt Go.RowKit Go.Joins Go.Deep

section
variable {H : Type} {enc : TypeId × Value → H} {P : Program} {w : World} {base : Nat} {spare : Nat → Bool} {held : Bool}

theorem array6 {α : Type} {cs : Array α} (h : cs.size = 6) : ∃ c0 c1 c2 c3 c4 c5, cs = #[c0, c1, c2, c3, c4, c5] := by
  obtain ⟨l⟩ := cs
  match l, h with
  | [c0, c1, c2, c3, c4, c5], _ => exact ⟨c0, c1, c2, c3, c4, c5, rfl⟩

theorem open_agg6 {r : Reach} {b0 : Nat} {t : TypeId} {f0 f1 f2 f3 f4 f5 : Field} {v : Value} {d : DataW H} {p : List MemPlace} (hs : P.underlying t = some (.struct #[f0, f1, f2, f3, f4, f5]))
    (hone : oneCellFields P #[f0, f1, f2, f3, f4, f5] = true) (hC : P.cellsOf t = 6) (hv : Value.okWide P w r b0 t v) (h : DataW.Trod enc P w base spare held t v d p) :
    ∃ (v0 v1 v2 v3 v4 v5 : Value) (y0 y1 y2 y3 y4 y5 : DataW H × List MemPlace) (n : Nat), v = .agg #[v0, v1, v2, v3, v4, v5] ∧
      DataW.trod enc P w base spare held n f0.type [v0] = some y0 ∧ DataW.trod enc P w base spare held n f1.type [v1] = some y1 ∧ DataW.trod enc P w base spare held n f2.type [v2] = some y2 ∧
      DataW.trod enc P w base spare held n f3.type [v3] = some y3 ∧ DataW.trod enc P w base spare held n f4.type [v4] = some y4 ∧ DataW.trod enc P w base spare held n f5.type [v5] = some y5 := by
  obtain ⟨cs, rfl, hsz⟩ := okWide_struct hs hv
  obtain ⟨c0, c1, c2, c3, c4, c5, rfl⟩ := array6 (hsz.trans hC)
  obtain ⟨fuel, hf⟩ := h
  obtain ⟨xs, n, _, hx, hl, hlen, hff⟩ := DataW.trod_struct hs hf
  match xs, hlen with
  | [y0, y1, y2, y3, y4, y5], _ =>
    obtain ⟨o0, k0⟩ := hone_of hone 0 f0 rfl
    obtain ⟨o1, k1⟩ := hone_of hone 1 f1 rfl
    obtain ⟨o2, k2⟩ := hone_of hone 2 f2 rfl
    obtain ⟨o3, k3⟩ := hone_of hone 3 f3 rfl
    obtain ⟨o4, k4⟩ := hone_of hone 4 f4 rfl
    obtain ⟨o5, k5⟩ := hone_of hone 5 f5 rfl
    exact ⟨c0, c1, c2, c3, c4, c5, y0, y1, y2, y3, y4, y5, n, rfl, by simpa [Value.cells, o0, k0] using hff 0 f0 rfl, by simpa [Value.cells, o1, k1] using hff 1 f1 rfl, by simpa [Value.cells, o2, k2] using hff 2 f2 rfl,
      by simpa [Value.cells, o3, k3] using hff 3 f3 rfl, by simpa [Value.cells, o4, k4] using hff 4 f4 rfl, by simpa [Value.cells, o5, k5] using hff 5 f5 rfl⟩

theorem get_i64 {r : Reach} {b0 : Nat} {t : TypeId} {v : Value} {d : DataW H} {p : List MemPlace} (ht : P.underlying t = some (.int .i64)) (hv : Value.okWide P w r b0 t v) (h : DataW.Trod enc P w 0 (fun _ => true) true t v d p) :
    ∃ x : Int, v = .int .i64 x ∧ -9223372036854775808 ≤ x ∧ x ≤ 9223372036854775807 := by
  obtain ⟨x, rfl, _, _, wx⟩ := open_int ht hv h
  exact ⟨x, rfl, wf_bd wx⟩
theorem get_u8 {r : Reach} {b0 : Nat} {t : TypeId} {v : Value} {d : DataW H} {p : List MemPlace} (ht : P.underlying t = some (.int .u8)) (hv : Value.okWide P w r b0 t v) (h : DataW.Trod enc P w 0 (fun _ => true) true t v d p) :
    ∃ x : Nat, v = .int .u8 (x : Nat) ∧ x ≤ 255 := by
  obtain ⟨x, rfl, _, _, wx⟩ := open_int ht hv h
  simp [Lit.wf, IntKind.min, IntKind.max, IntKind.signed, IntKind.bits] at wx
  exact ⟨x.toNat, by congr 1; omega, by omega⟩

theorem cell_i64 {t : TypeId} {n : Nat} {v : Value} {y : DataW H × List MemPlace} (ht : P.underlying t = some (.int .i64)) (h : DataW.trod enc P w base spare held n t [v] = some y) :
    ∃ x : Int, v = .int .i64 x ∧ -9223372036854775808 ≤ x ∧ x ≤ 9223372036854775807 := by
  obtain ⟨x, e, _, wx⟩ := DataW.trod_int ht h
  simp at e
  exact ⟨x, e, wf_bd wx⟩

theorem getD_b {zs : List Int} {lo hi : Int} (h0 : lo ≤ 0) (h1 : 0 ≤ hi) (h : ∀ n ∈ zs, lo ≤ n ∧ n ≤ hi) (j : Nat) : lo ≤ zs.getD j 0 ∧ zs.getD j 0 ≤ hi := by
  rw [List.getD_eq_getElem?_getD]
  by_cases c : j < zs.length
  · rw [List.getElem?_eq_getElem c]; exact h _ (List.getElem_mem c)
  · rw [List.getElem?_eq_none (by omega)]; exact ⟨h0, h1⟩

/-- a slice of numbers, one cell of something -/
theorem cell_nums {T E : TypeId} {n : Nat} {v : Value} {y : DataW H × List MemPlace} (ht : P.underlying T = some (.slice E)) (he : P.underlying E = some (.int .i64)) (hc : P.cellsOf E = 1) (h : DataW.trod enc P w 0 (fun _ => true) true n T [v] = some y) :
    ∃ (n : Nat) (F : Nat → Int), Nums w v n F ∧ (∀ j, -9223372036854775808 ≤ F j ∧ F j ≤ 9223372036854775807) := by
  rcases open_ints ht he hc h with ⟨hcs, _⟩ | ⟨a, len, cap, zs, hcs, _, hl, hm, hz, _, hcell, hwz⟩
  · simp at hcs
    exact ⟨0, fun _ => 0, Or.inl ⟨rfl, none, 0, hcs⟩, fun _ => (by omega : (-9223372036854775808 : Int) ≤ 0 ∧ (0 : Int) ≤ 9223372036854775807)⟩
  · simp at hcs
    subst hcs
    simp only [if_true] at hz
    have bd := getD_b (zs := zs) (lo := -9223372036854775808) (hi := 9223372036854775807) (by omega) (by omega) fun n hn => wf_bd (hwz n hn)
    refine ⟨len, fun j => zs.getD j 0, ?_, bd⟩
    by_cases c : len = 0
    · exact Or.inl ⟨c, some a, cap, by rw [c]⟩
    · obtain ⟨b, off, rfl, hx⟩ := ints_at hcell (by omega)
      exact Or.inr ⟨b, off, cap, rfl, by omega, hl, by unfold maxLen at hm; omega, fun j hj => hx j (by omega)⟩

/-- a slice of structs of four numbers, one cell of something -/
theorem cell_fours {T E : TypeId} {n : Nat} {v : Value} {y : DataW H × List MemPlace} {f0 f1 f2 f3 : Field} (ht : P.underlying T = some (.slice E)) (he : P.underlying E = some (.struct #[f0, f1, f2, f3])) (hone : oneCellFields P #[f0, f1, f2, f3] = true) (hc : P.cellsOf E = 4)
    (u0 : P.underlying f0.type = some (.int .i64)) (u1 : P.underlying f1.type = some (.int .i64)) (u2 : P.underlying f2.type = some (.int .i64)) (u3 : P.underlying f3.type = some (.int .i64))
    (h : DataW.trod enc P w 0 (fun _ => true) true n T [v] = some y) :
    (∃ p cap, v = .slice p 0 cap) ∨ ∃ b off len cap, v = .slice (some ⟨b, off, none⟩) len cap ∧ 1 ≤ len ∧ len ≤ cap ∧ cap ≤ 9223372036854775807 ∧
      ∀ j, j < len → ∃ q t c a : Int, Ten w b (off + j * 4) q t c a ∧ (-9223372036854775808 ≤ q ∧ q ≤ 9223372036854775807) ∧ (-9223372036854775808 ≤ t ∧ t ≤ 9223372036854775807) ∧ (-9223372036854775808 ≤ c ∧ c ≤ 9223372036854775807) ∧ (-9223372036854775808 ≤ a ∧ a ≤ 9223372036854775807) := by
  rcases open_slice ht h with ⟨hcs, _⟩ | ⟨a, len, cap, m, k, D, Pl, hcs, _, hl, hm, hmm, _, hx⟩
  · simp at hcs
    exact Or.inl ⟨none, 0, hcs⟩
  · simp at hcs
    subst hcs
    simp only [if_true] at hmm
    by_cases c : len = 0
    · exact Or.inl ⟨some a, cap, by rw [c]⟩
    · have each : ∀ j, j < m → ∃ q t c z : Int, (w.cell? (a.add (j * 4)) = some (.int .i64 q) ∧ w.cell? (a.add (j * 4 + 1)) = some (.int .i64 t) ∧ w.cell? (a.add (j * 4 + 2)) = some (.int .i64 c) ∧ w.cell? (a.add (j * 4 + 3)) = some (.int .i64 z)) ∧
          (-9223372036854775808 ≤ q ∧ q ≤ 9223372036854775807) ∧ (-9223372036854775808 ≤ t ∧ t ≤ 9223372036854775807) ∧ (-9223372036854775808 ≤ c ∧ c ≤ 9223372036854775807) ∧ (-9223372036854775808 ≤ z ∧ z ≤ 9223372036854775807) := by
        intro j hj
        obtain ⟨cs', h1, h2⟩ := hx j hj
        rw [hc] at h1
        obtain ⟨_, hlen, hcell⟩ := World.cells?_some h1
        obtain ⟨y0, y1, y2, y3, k2, _, _, g0, g1, g2, g3⟩ := trod_struct4 he h2
        obtain ⟨o0, z0⟩ := hone_of hone 0 f0 rfl
        obtain ⟨o1, z1⟩ := hone_of hone 1 f1 rfl
        obtain ⟨o2, z2⟩ := hone_of hone 2 f2 rfl
        obtain ⟨o3, z3⟩ := hone_of hone 3 f3 rfl
        match cs', hlen with
        | [v0, v1, v2, v3], _ =>
          simp [o0, o1, o2, o3, z0, z1, z2, z3] at g0 g1 g2 g3
          have e0 := hcell 0 (by omega)
          have e1 := hcell 1 (by omega)
          have e2 := hcell 2 (by omega)
          have e3 := hcell 3 (by omega)
          rw [add_add] at e0 e1 e2 e3
          obtain ⟨q, rfl, bq⟩ := cell_i64 u0 g0
          obtain ⟨t, rfl, bt⟩ := cell_i64 u1 g1
          obtain ⟨c, rfl, bc⟩ := cell_i64 u2 g2
          obtain ⟨z, rfl, bz⟩ := cell_i64 u3 g3
          exact ⟨q, t, c, z, ⟨by simpa using e0, by simpa using e1, by simpa using e2, by simpa using e3⟩, bq, bt, bc, bz⟩
      obtain ⟨_, _, _, _, ⟨x0, _⟩, _⟩ := each 0 (by omega)
      have sp := (cell_block x0).2
      obtain ⟨b, off, s⟩ := a
      change s = none at sp
      subst sp
      refine Or.inr ⟨b, off, len, cap, rfl, by omega, hl, by unfold maxLen at hm; omega, fun j hj => ?_⟩
      obtain ⟨q, t, c, z, ⟨e0, e1, e2, e3⟩, bds⟩ := each j (by omega)
      exact ⟨q, t, c, z, ⟨by simpa [add_plain, Nat.add_assoc] using e0, by simpa [add_plain, Nat.add_assoc] using e1, by simpa [add_plain, Nat.add_assoc] using e2, by simpa [add_plain, Nat.add_assoc] using e3⟩, bds⟩
end

def i64b (x : Int) : Prop := -9223372036854775808 ≤ x ∧ x ≤ 9223372036854775807

theorem cells_int : Tryd.prog.cellsOf 3 = 1 := by kernel_rfl
theorem cells_ten : Tryd.prog.cellsOf 44 = 4 := by kernel_rfl
theorem cells_cf : Tryd.prog.cellsOf 25 = 6 := by kernel_rfl

/-- all its numbers are ints -/
def Cf.inb (c : Cf) : Prop := (∀ j, i64b (c.F j)) ∧ i64b c.page ∧ (∀ j, j < c.m → i64b (c.Q j) ∧ i64b (c.Tr j) ∧ i64b (c.Cp j) ∧ i64b (c.As j)) ∧ i64b c.wk ∧ i64b c.gr ∧ i64b c.gn

set_option maxRecDepth 100000 in
theorem get_cf {H : Type} {enc : TypeId × Value → H} {W : World} {r : Reach} {b0 : Nat} {v : Value} {d : DataW H} {p : List MemPlace} (hv : Value.okWide Tryd.prog W r b0 25 v) (h : DataW.Trod enc Tryd.prog W 0 (fun _ => true) true 25 v d p) :
    ∃ c : Cf, IsCf W v c ∧ c.inb := by
  obtain ⟨v0, v1, v2, v3, v4, v5, y0, y1, y2, y3, y4, y5, k, rfl, g0, g1, g2, g3, g4, g5⟩ := open_agg6 Tryd.underlying25 (by kernel_rfl) cells_cf hv h
  obtain ⟨n, F, hN, bF⟩ := cell_nums Tryd.underlying22 Tryd.underlying3 cells_int g0
  obtain ⟨pg, rfl, b1⟩ := cell_i64 Tryd.underlying3 g1
  obtain ⟨wk, rfl, b3⟩ := cell_i64 Tryd.underlying3 g3
  obtain ⟨gr, rfl, b4⟩ := cell_i64 Tryd.underlying3 g4
  obtain ⟨gn, rfl, b5⟩ := cell_i64 Tryd.underlying3 g5
  rcases cell_fours Tryd.underlying23 Tryd.underlying44 (by kernel_rfl) cells_ten Tryd.underlying3 Tryd.underlying3 Tryd.underlying3 Tryd.underlying3 g2 with ⟨q, cap, rfl⟩ | ⟨b, off, len, cap, rfl, l1, l2, l3, hx⟩
  · exact ⟨⟨n, F, pg, 0, fun _ => 0, fun _ => 0, fun _ => 0, fun _ => 0, wk, gr, gn⟩, ⟨_, _, rfl, hN, Or.inl ⟨rfl, q, cap, rfl⟩⟩, bF, b1, fun j hj => absurd hj (Nat.not_lt_zero _), b3, b4, b5⟩
  · obtain ⟨T, hT⟩ := choose_lt (α := Int × Int × Int × Int) (p := fun j z => Ten W b (off + j * 4) z.1 z.2.1 z.2.2.1 z.2.2.2 ∧ i64b z.1 ∧ i64b z.2.1 ∧ i64b z.2.2.1 ∧ i64b z.2.2.2) (fun j hj => by
      obtain ⟨q, t, c, a, h1, h2, h3, h4, h5⟩ := hx j hj
      exact ⟨(q, t, c, a), h1, h2, h3, h4, h5⟩)
    exact ⟨⟨n, F, pg, len, fun j => (T j).1, fun j => (T j).2.1, fun j => (T j).2.2.1, fun j => (T j).2.2.2, wk, gr, gn⟩, ⟨_, _, rfl, hN, Or.inr ⟨b, off, cap, rfl, l1, l2, l3, fun j hj => (hT j hj).1⟩⟩, bF, b1, fun j hj => (hT j hj).2, b3, b4, b5⟩

theorem own : ownKnob Tryd.prog.godebug = none := by kernel_rfl
theorem laid : laidOutB Tryd.checked.prog = true := by kernel_rfl
theorem rowed : mapsRowed Tryd.checked.prog = true := by kernel_rfl
theorem full : ∀ t e, t < Tryd.checked.prog.types.size → Tryd.checked.prog.underlying t = some (.slice e) → 0 < Tryd.checked.prog.cellsOf e := slices_full_of _ (by kernel_rfl)

set_option maxRecDepth 100000 in
theorem get_ten {H : Type} {enc : TypeId × Value → H} {W : World} {r : Reach} {b0 : Nat} {v : Value} {d : DataW H} {p : List MemPlace} (hv : Value.okWide Tryd.prog W r b0 44 v) (h : DataW.Trod enc Tryd.prog W 0 (fun _ => true) true 44 v d p) :
    ∃ q t c a : Int, v = .agg #[.int .i64 q, .int .i64 t, .int .i64 c, .int .i64 a] := by
  obtain ⟨v0, v1, v2, v3, y0, y1, y2, y3, k, rfl, _, _, g0, g1, g2, g3⟩ := open_agg4 Tryd.underlying44 (by kernel_rfl) cells_ten hv h
  obtain ⟨q, rfl, _⟩ := cell_i64 Tryd.underlying3 g0
  obtain ⟨t, rfl, _⟩ := cell_i64 Tryd.underlying3 g1
  obtain ⟨c, rfl, _⟩ := cell_i64 Tryd.underlying3 g2
  obtain ⟨a, rfl, _⟩ := cell_i64 Tryd.underlying3 g3
  exact ⟨q, t, c, a, rfl⟩

end Go.Proofs.YtjgjomojcocegaaDoor
