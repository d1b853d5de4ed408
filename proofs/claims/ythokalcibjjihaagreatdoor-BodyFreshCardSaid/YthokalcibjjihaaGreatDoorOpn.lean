/- A configuration among the parameters, opened; closed facts of the program. -/
import Derived.Test.YthokalcibjjihaaGreatDoorRowk
import Derived.Test.YthokalcibjjihaaGreatDoorCm
import Derived.Deep.Slices
import Derived.Test.YthokalcibjjihaaGreatDoorDq
import Derived.ReadAgain
import Derived.ChangeBears
import Derived.ChangeSlices
import Derived.Lib.SmallJoins
import Derived.SizedLaws
import Derived.LaidMore
import Derived.Stop.Joined
import Derived.LaidLaws
import Derived.Test.YthokalcibjjihaaGreatDoorCards
import Derived.Test.YthokalcibjjihaaGreatDoorTie
import Derived.SevenTiedAt
namespace Go.Proofs.YthokalcibjjihaaGreatDoor
open Go.ChangeShapes Go.WideShapes Go.ChangeAt Go.RowKit Go.Joins Go.Deep

section
variable {H : Type} {enc : TypeId × Value → H} {P : Program} {w : World} {base : Nat} {spare : Nat → Bool} {held : Bool}

theorem array6 {α : Type} {cs : Array α} (h : cs.size = 6) : ∃ c0 c1 c2 c3 c4 c5, cs = #[c0, c1, c2, c3, c4, c5] := by
  obtain ⟨l⟩ := cs
  match l, h with
  | [c0, c1, c2, c3, c4, c5], _ => exact ⟨c0, c1, c2, c3, c4, c5, rfl⟩

theorem open_agg6 {r : Reach} {b0 : Nat} {t : TypeId} {f0 f1 f2 f3 f4 f5 : Field} {v : Value} {d : DataW H} {p : List MemPlace} (hs : P.underlying t = some (.struct #[f0, f1, f2, f3, f4, f5]))
    (hone : oneCellFields P #[f0, f1, f2, f3, f4, f5] = true) (hC : P.cellsOf t = 6) (hv : Value.okWide P w r b0 t v) (h : DataW.Trod enc P w base spare held t v d p) :
    ∃ (v0 v1 v2 v3 v4 v5 : Value) (y0 y1 y2 y3 y4 y5 : DataW H × List MemPlace) (n : Nat), v = .agg #[v0, v1, v2, v3, v4, v5] ∧
      DataW.trod enc P w base spare held n f0.type [v0] = some y0 ∧ DataW.trod enc P w base spare held n f1.type [v1] = some y1 ∧ DataW.trod enc P w base spare held n f2.type [v2] = some y2 ∧
      DataW.trod enc P w base spare held n f3.type [v3] = some y3 ∧ DataW.trod enc P w base spare held n f4.type [v4] = some y4 ∧ DataW.trod enc P w base spare held n f5.type [v5] = some y5 := by
  obtain ⟨cs, rfl, hsz⟩ := okWide_struct hs hv
  obtain ⟨c0, c1, c2, c3, c4, c5, rfl⟩ := array6 (hsz.trans hC)
  obtain ⟨fuel, hf⟩ := h
  obtain ⟨xs, n, _, hx, hl, hlen, hff⟩ := DataW.trod_struct hs hf
  match xs, hlen with
  | [y0, y1, y2, y3, y4, y5], _ =>
    obtain ⟨o0, k0⟩ := hone_of hone 0 f0 rfl
    obtain ⟨o1, k1⟩ := hone_of hone 1 f1 rfl
    obtain ⟨o2, k2⟩ := hone_of hone 2 f2 rfl
    obtain ⟨o3, k3⟩ := hone_of hone 3 f3 rfl
    obtain ⟨o4, k4⟩ := hone_of hone 4 f4 rfl
    obtain ⟨o5, k5⟩ := hone_of hone 5 f5 rfl
    exact ⟨c0, c1, c2, c3, c4, c5, y0, y1, y2, y3, y4, y5, n, rfl, by simpa [Value.cells, o0, k0] using hff 0 f0 rfl, by simpa [Value.cells, o1, k1] using hff 1 f1 rfl, by simpa [Value.cells, o2, k2] using hff 2 f2 rfl,
      by simpa [Value.cells, o3, k3] using hff 3 f3 rfl, by simpa [Value.cells, o4, k4] using hff 4 f4 rfl, by simpa [Value.cells, o5, k5] using hff 5 f5 rfl⟩

theorem get_i64 {r : Reach} {b0 : Nat} {t : TypeId} {v : Value} {d : DataW H} {p : List MemPlace} (ht : P.underlying t = some (.int .i64)) (hv : Value.okWide P w r b0 t v) (h : DataW.Trod enc P w 0 (fun _ => true) true t v d p) :
    ∃ x : Int, v = .int .i64 x ∧ -9223372036854775808 ≤ x ∧ x ≤ 9223372036854775807 := by
  obtain ⟨x, rfl, _, _, wx⟩ := open_int ht hv h
  exact ⟨x, rfl, wf_bd wx⟩
theorem get_u8 {r : Reach} {b0 : Nat} {t : TypeId} {v : Value} {d : DataW H} {p : List MemPlace} (ht : P.underlying t = some (.int .u8)) (hv : Value.okWide P w r b0 t v) (h : DataW.Trod enc P w 0 (fun _ => true) true t v d p) :
    ∃ x : Nat, v = .int .u8 (x : Nat) ∧ x ≤ 255 := by
  obtain ⟨x, rfl, _, _, wx⟩ := open_int ht hv h
  simp [Lit.wf, IntKind.min, IntKind.max, IntKind.signed, IntKind.bits] at wx
  exact ⟨x.toNat, by congr 1; omega, by omega⟩

theorem cell_i64 {t : TypeId} {n : Nat} {v : Value} {y : DataW H × List MemPlace} (ht : P.underlying t = some (.int .i64)) (h : DataW.trod enc P w base spare held n t [v] = some y) :
    ∃ x : Int, v = .int .i64 x ∧ -9223372036854775808 ≤ x ∧ x ≤ 9223372036854775807 := by
  obtain ⟨x, e, _, wx⟩ := DataW.trod_int ht h
  simp at e
  exact ⟨x, e, wf_bd wx⟩

theorem getD_b {zs : List Int} {lo hi : Int} (h0 : lo ≤ 0) (h1 : 0 ≤ hi) (h : ∀ n ∈ zs, lo ≤ n ∧ n ≤ hi) (j : Nat) : lo ≤ zs.getD j 0 ∧ zs.getD j 0 ≤ hi := by
  rw [List.getD_eq_getElem?_getD]
  by_cases c : j < zs.length
  · rw [List.getElem?_eq_getElem c]; exact h _ (List.getElem_mem c)
  · rw [List.getElem?_eq_none (by omega)]; exact ⟨h0, h1⟩

/-- a slice of numbers, one cell of something -/
theorem cell_nums {T E : TypeId} {n : Nat} {v : Value} {y : DataW H × List MemPlace} (ht : P.underlying T = some (.slice E)) (he : P.underlying E = some (.int .i64)) (hc : P.cellsOf E = 1) (h : DataW.trod enc P w 0 (fun _ => true) true n T [v] = some y) :
    ∃ (n : Nat) (F : Nat → Int), Nums w v n F ∧ (∀ j, -9223372036854775808 ≤ F j ∧ F j ≤ 9223372036854775807) := by
  rcases open_ints ht he hc h with ⟨hcs, _⟩ | ⟨a, len, cap, zs, hcs, _, hl, hm, hz, _, hcell, hwz⟩
  · simp at hcs
    exact ⟨0, fun _ => 0, Or.inl ⟨rfl, none, 0, hcs⟩, fun _ => (by omega : (-9223372036854775808 : Int) ≤ 0 ∧ (0 : Int) ≤ 9223372036854775807)⟩
  · simp at hcs
    subst hcs
    simp only [if_true] at hz
    have bd := getD_b (zs := zs) (lo := -9223372036854775808) (hi := 9223372036854775807) (by omega) (by omega) fun n hn => wf_bd (hwz n hn)
    refine ⟨len, fun j => zs.getD j 0, ?_, bd⟩
    by_cases c : len = 0
    · exact Or.inl ⟨c, some a, cap, by rw [c]⟩
    · obtain ⟨b, off, rfl, hx⟩ := ints_at hcell (by omega)
      exact Or.inr ⟨b, off, cap, rfl, by omega, hl, by unfold maxLen at hm; omega, fun j hj => hx j (by omega)⟩

/-- a slice of structs of four numbers, one cell of something -/
theorem cell_fours {T E : TypeId} {n : Nat} {v : Value} {y : DataW H × List MemPlace} {f0 f1 f2 f3 : Field} (ht : P.underlying T = some (.slice E)) (he : P.underlying E = some (.struct #[f0, f1, f2, f3])) (hone : oneCellFields P #[f0, f1, f2, f3] = true) (hc : P.cellsOf E = 4)
    (u0 : P.underlying f0.type = some (.int .i64)) (u1 : P.underlying f1.type = some (.int .i64)) (u2 : P.underlying f2.type = some (.int .i64)) (u3 : P.underlying f3.type = some (.int .i64))
    (h : DataW.trod enc P w 0 (fun _ => true) true n T [v] = some y) :
    (∃ p cap, v = .slice p 0 cap) ∨ ∃ b off len cap, v = .slice (some ⟨b, off, none⟩) len cap ∧ 1 ≤ len ∧ len ≤ cap ∧ cap ≤ 9223372036854775807 ∧
      ∀ j, j < len → ∃ q t c a : Int, Ten w b (off + j * 4) q t c a ∧ (-9223372036854775808 ≤ q ∧ q ≤ 9223372036854775807) ∧ (-9223372036854775808 ≤ t ∧ t ≤ 9223372036854775807) ∧ (-9223372036854775808 ≤ c ∧ c ≤ 9223372036854775807) ∧ (-9223372036854775808 ≤ a ∧ a ≤ 9223372036854775807) := by
  rcases open_slice ht h with ⟨hcs, _⟩ | ⟨a, len, cap, m, k, D, Pl, hcs, _, hl, hm, hmm, _, hx⟩
  · simp at hcs
    exact Or.inl ⟨none, 0, hcs⟩
  · simp at hcs
    subst hcs
    simp only [if_true] at hmm
    by_cases c : len = 0
    · exact Or.inl ⟨some a, cap, by rw [c]⟩
    · have each : ∀ j, j < m → ∃ q t c z : Int, (w.cell? (a.add (j * 4)) = some (.int .i64 q) ∧ w.cell? (a.add (j * 4 + 1)) = some (.int .i64 t) ∧ w.cell? (a.add (j * 4 + 2)) = some (.int .i64 c) ∧ w.cell? (a.add (j * 4 + 3)) = some (.int .i64 z)) ∧
          (-9223372036854775808 ≤ q ∧ q ≤ 9223372036854775807) ∧ (-9223372036854775808 ≤ t ∧ t ≤ 9223372036854775807) ∧ (-9223372036854775808 ≤ c ∧ c ≤ 9223372036854775807) ∧ (-9223372036854775808 ≤ z ∧ z ≤ 9223372036854775807) := by
        intro j hj
        obtain ⟨cs', h1, h2⟩ := hx j hj
        rw [hc] at h1
        obtain ⟨_, hlen, hcell⟩ := World.cells?_some h1
        obtain ⟨y0, y1, y2, y3, k2, _, _, g0, g1, g2, g3⟩ := trod_struct4 he h2
        obtain ⟨o0, z0⟩ := hone_of hone 0 f0 rfl
        obtain ⟨o1, z1⟩ := hone_of hone 1 f1 rfl
        obtain ⟨o2, z2⟩ := hone_of hone 2 f2 rfl
        obtain ⟨o3, z3⟩ := hone_of hone 3 f3 rfl
        match cs', hlen with
        | [v0, v1, v2, v3], _ =>
          simp [o0, o1, o2, o3, z0, z1, z2, z3] at g0 g1 g2 g3
          have e0 := hcell 0 (by omega)
          have e1 := hcell 1 (by omega)
          have e2 := hcell 2 (by omega)
          have e3 := hcell 3 (by omega)
          rw [add_add] at e0 e1 e2 e3
          obtain ⟨q, rfl, bq⟩ := cell_i64 u0 g0
          obtain ⟨t, rfl, bt⟩ := cell_i64 u1 g1
          obtain ⟨c, rfl, bc⟩ := cell_i64 u2 g2
          obtain ⟨z, rfl, bz⟩ := cell_i64 u3 g3
          exact ⟨q, t, c, z, ⟨by simpa using e0, by simpa using e1, by simpa using e2, by simpa using e3⟩, bq, bt, bc, bz⟩
      obtain ⟨_, _, _, _, ⟨x0, _⟩, _⟩ := each 0 (by omega)
      have sp := (cell_block x0).2
      obtain ⟨b, off, s⟩ := a
      change s = none at sp
      subst sp
      refine Or.inr ⟨b, off, len, cap, rfl, by omega, hl, by unfold maxLen at hm; omega, fun j hj => ?_⟩
      obtain ⟨q, t, c, z, ⟨e0, e1, e2, e3⟩, bds⟩ := each j (by omega)
      exact ⟨q, t, c, z, ⟨by simpa [add_plain, Nat.add_assoc] using e0, by simpa [add_plain, Nat.add_assoc] using e1, by simpa [add_plain, Nat.add_assoc] using e2, by simpa [add_plain, Nat.add_assoc] using e3⟩, bds⟩
end

def i64b (x : Int) : Prop := -9223372036854775808 ≤ x ∧ x ≤ 9223372036854775807

theorem cells_int : Tryz.prog.cellsOf 3 = 1 := by kernel_rfl
theorem cells_ten : Tryz.prog.cellsOf 93 = 4 := by kernel_rfl
theorem cells_cf : Tryz.prog.cellsOf 25 = 6 := by kernel_rfl

/-- all its numbers are ints -/
def Cf.inb (c : Cf) : Prop := (∀ j, i64b (c.F j)) ∧ i64b c.page ∧ (∀ j, j < c.m → i64b (c.Q j) ∧ i64b (c.Tr j) ∧ i64b (c.Cp j) ∧ i64b (c.As j)) ∧ i64b c.wk ∧ i64b c.gr ∧ i64b c.gn

set_option maxRecDepth 100000 in
theorem get_cf {H : Type} {enc : TypeId × Value → H} {W : World} {r : Reach} {b0 : Nat} {v : Value} {d : DataW H} {p : List MemPlace} (hv : Value.okWide Tryz.prog W r b0 25 v) (h : DataW.Trod enc Tryz.prog W 0 (fun _ => true) true 25 v d p) :
    ∃ c : Cf, IsCf W v c ∧ c.inb := by
  obtain ⟨v0, v1, v2, v3, v4, v5, y0, y1, y2, y3, y4, y5, k, rfl, g0, g1, g2, g3, g4, g5⟩ := open_agg6 Tryz.underlying25 (by kernel_rfl) cells_cf hv h
  obtain ⟨n, F, hN, bF⟩ := cell_nums Tryz.underlying22 Tryz.underlying3 cells_int g0
  obtain ⟨pg, rfl, b1⟩ := cell_i64 Tryz.underlying3 g1
  obtain ⟨wk, rfl, b3⟩ := cell_i64 Tryz.underlying3 g3
  obtain ⟨gr, rfl, b4⟩ := cell_i64 Tryz.underlying3 g4
  obtain ⟨gn, rfl, b5⟩ := cell_i64 Tryz.underlying3 g5
  rcases cell_fours Tryz.underlying23 Tryz.underlying93 (by kernel_rfl) cells_ten Tryz.underlying3 Tryz.underlying3 Tryz.underlying3 Tryz.underlying3 g2 with ⟨q, cap, rfl⟩ | ⟨b, off, len, cap, rfl, l1, l2, l3, hx⟩
  · exact ⟨⟨n, F, pg, 0, fun _ => 0, fun _ => 0, fun _ => 0, fun _ => 0, wk, gr, gn⟩, ⟨_, _, rfl, hN, Or.inl ⟨rfl, q, cap, rfl⟩⟩, bF, b1, fun j hj => absurd hj (Nat.not_lt_zero _), b3, b4, b5⟩
  · obtain ⟨T, hT⟩ := choose_lt (α := Int × Int × Int × Int) (p := fun j z => Ten W b (off + j * 4) z.1 z.2.1 z.2.2.1 z.2.2.2 ∧ i64b z.1 ∧ i64b z.2.1 ∧ i64b z.2.2.1 ∧ i64b z.2.2.2) (fun j hj => by
      obtain ⟨q, t, c, a, h1, h2, h3, h4, h5⟩ := hx j hj
      exact ⟨(q, t, c, a), h1, h2, h3, h4, h5⟩)
    exact ⟨⟨n, F, pg, len, fun j => (T j).1, fun j => (T j).2.1, fun j => (T j).2.2.1, fun j => (T j).2.2.2, wk, gr, gn⟩, ⟨_, _, rfl, hN, Or.inr ⟨b, off, cap, rfl, l1, l2, l3, fun j hj => (hT j hj).1⟩⟩, bF, b1, fun j hj => (hT j hj).2, b3, b4, b5⟩

theorem own : ownKnob Tryz.prog.godebug = none := by kernel_rfl
theorem laid : laidOutB Tryz.checked.prog = true := by kernel_rfl
theorem rowed : mapsRowed Tryz.checked.prog = true := by kernel_rfl
theorem full : ∀ t e, t < Tryz.checked.prog.types.size → Tryz.checked.prog.underlying t = some (.slice e) → 0 < Tryz.checked.prog.cellsOf e := slices_full_of _ (by kernel_rfl)

set_option maxRecDepth 100000 in
theorem get_ten {H : Type} {enc : TypeId × Value → H} {W : World} {r : Reach} {b0 : Nat} {v : Value} {d : DataW H} {p : List MemPlace} (hv : Value.okWide Tryz.prog W r b0 93 v) (h : DataW.Trod enc Tryz.prog W 0 (fun _ => true) true 93 v d p) :
    ∃ q t c a : Int, v = .agg #[.int .i64 q, .int .i64 t, .int .i64 c, .int .i64 a] := by
  obtain ⟨v0, v1, v2, v3, y0, y1, y2, y3, k, rfl, _, _, g0, g1, g2, g3⟩ := open_agg4 Tryz.underlying93 (by kernel_rfl) cells_ten hv h
  obtain ⟨q, rfl, _⟩ := cell_i64 Tryz.underlying3 g0
  obtain ⟨t, rfl, _⟩ := cell_i64 Tryz.underlying3 g1
  obtain ⟨c, rfl, _⟩ := cell_i64 Tryz.underlying3 g2
  obtain ⟨a, rfl, _⟩ := cell_i64 Tryz.underlying3 g3
  exact ⟨q, t, c, a, rfl⟩

end Go.Proofs.YthokalcibjjihaaGreatDoor

/- The rows of the laws: the table out of the condition, a law's row out of its walk, parameters opened. -/
namespace Go.Proofs.YthokalcibjjihaaGreatDoor
open Go.ChangeShapes Go.WideShapes Go.ChangeAt Go.RowKit Go.Joins Go.Deep hd

/-- the row of a law whose program reads a table, out of its walk -/
theorem lift_laid {C : Checked} {os : Os} (own : ownKnob C.prog.godebug = none) (started : os.Started) {fn : FuncId} {f : Func} (noInit : C.prog.inits.idxOf? fn = none) (hfn : C.prog.funcs[fn]? = some f)
    {H : Type} {enc : TypeId × Value → H} {s : ChangeSpec} {tb : TypeId} {X : World → Prop} (hX : ∀ (w w' : World), w.heap = w'.heap → X w → X w') (hl : laidOutB C.prog = true) (hm : mapsRowed C.prog = true)
    (full : ∀ t e, t < C.prog.types.size → C.prog.underlying t = some (.slice e) → 0 < C.prog.cellsOf e) (hT : ∀ t ∈ f.params.toList, t < C.prog.types.size)
    (hv : s.vars = []) (hr : f.resultTypes = #[tb]) (hb : C.prog.underlying tb = some .bool) (hs : ∀ ds : List (DataW H), ds.length = f.params.toList.length → s.fn H ds = { results := [.lit (.bool true)], args := ds })
    (witness : ∃ (w : World) (tape : Tape) (i : Input), w.os = os ∧ (w.forCall tape i).Shaped C.prog ∧ i.vars = [] ∧ Input.okWide C.prog (w.forCall tape i) .any w.heap.size fn i ∧
      ((s.pre enc C.prog f [] false (w.forCall tape i).memory i.args ∧ X (w.forCall tape i).memory) ∧ sizedMet enc C.prog f (OpenSpec.ofChange s) false (w.forCall tape i).memory i.args) ∧ ({} : Assume).holds C.prog (lone (Frame.enter C.prog fn i.args .normal) [] (w.forCall tape i)))
    (walk : ∀ (W : World) (base : Nat) (args : Array Value) (ds : List (DataW H)) (p : List MemPlace), (∀ (j : Nat) t v, f.params[j]? = some t → args[j]? = some v → Value.okWide C.prog W .any base t v) →
      DataW.TrodAll enc C.prog W 0 (fun _ => true) true f.params.toList args.toList ds p → X W → Calls C.prog fn args W fun e W' => e = .returned (.bool true) ∧ Below W.heap.size W W') :
    ReturnsInHanded {} C os fn .any (fun w args => (s.pre enc C.prog f [] false w args ∧ X w) ∧ sizedMet enc C.prog f (OpenSpec.ofChange s) false w args) (s.post enc C.prog f false true false false) := by
  refine returnsInHanded_of_change_and (X := fun w _ => X w) (fun w w' _ h => hX w w' h) own started noInit hfn witness ?_
  intro W base args ds gs before hval hW _ _ hXW _
  have hW' := hW
  obtain ⟨p, q, hA, hV, hbf, hfz, hnd⟩ := hW
  have len : ∀ {ts : List TypeId} {vs : List Value} {ds : List (DataW H)} {p : List MemPlace}, DataW.TrodAll enc C.prog W 0 (fun _ => true) true ts vs ds p → ds.length = ts.length := by
    intro ts
    induction ts with
    | nil => intro vs ds p h; obtain ⟨_, rfl, _⟩ := trodAll_nil h; rfl
    | cons t ts ih => intro vs ds p h; obtain ⟨v, vs, d, ds, p, q, rfl, rfl, rfl, h1, h2⟩ := trodAll_cons h; rw [List.length_cons, List.length_cons, ih h2]
  refine (walk W base args ds p hval hA hXW).mono fun e W' ⟨he, hg⟩ => ⟨_, he, post_law (kids_rows hl hm) full hW' hT hv hr hb ?_ hg⟩
  rw [hv] at hV
  obtain ⟨rfl, _⟩ := trodVars_none hV
  rw [List.append_nil]
  exact hs ds (len hA)

/-! The table. -/
abbrev theLaid : List (String × DataW Unit) := [("commonage/head.widths", Rows.laid_commonage_head_widths)]
/-- what the rows ask of the start -/
def Met (W : World) : Prop := laidMetH Tryz.prog theLaid W

theorem gTab : Tryz.prog.globalNamed "commonage/head.widths" = some 0 := by kernel_rfl
theorem tTab : (Tryz.prog.globals[0]?).map (·.type) = some 180 := by kernel_rfl
theorem cellsI : Tryz.prog.cellsOf 3 = 1 := by kernel_rfl
theorem listed : (Rows.laid_commonage_head_widths : DataW Unit) = .agg (([16, 16, 16, 8, 8] : List Int).map fun (n : Int) => .lit (.int .i64 n)) := rfl

theorem Met.tab {W : World} (h : Met W) : TabW W := by
  unfold Met at h
  rw [MakeChecks.laidMetH_plain _ _ _ (by kernel_rfl)] at h
  obtain ⟨ps, ⟨g0, t0, cs0, f0, p0, q0, hg0, ht0, hv0, hd0, _, _⟩, _, _⟩ := h
  obtain rfl := Option.some.inj (gTab.symm.trans hg0)
  obtain rfl := Option.some.inj (tTab.symm.trans ht0)
  obtain ⟨xs, m1, rfl, hx1, hlen, hn, hel⟩ := DataW.trod_array Tryz.underlying180 hd0
  intro j hj
  have hj' := hel j hj
  have hjx : j < xs.length := by omega
  rw [List.getElem?_eq_getElem hjx, cellsI, Nat.mul_one] at hj'
  obtain ⟨k, e1, e2, _⟩ := DataW.trod_int Tryz.underlying3 hj'
  have hc := World.var?_cell hg0 hv0 j
  have e3 : cs0.toList[j]? = some (.int .i64 k) := by
    have := congrArg (fun l => l[0]?) e1
    simpa using this
  rw [Array.getElem?_toList] at e3
  rw [hc, e3]
  have hx2 : Rows.laid_commonage_head_widths = DataW.agg (xs.map (·.1)) := (Prod.mk.inj hx1).1
  rw [listed] at hx2
  have hx3 := DataW.agg.inj hx2
  have hx4 := congrArg (fun l => l[j]?) hx3
  simp only [List.getElem?_map, List.getElem?_eq_getElem hjx, Option.map_some, e2] at hx4
  have hjl : j < ([16, 16, 16, 8, 8] : List Int).length := hj
  rw [List.getElem?_eq_getElem hjl] at hx4
  simp only [Option.map_some, Option.some.injEq, DataW.lit.injEq, Lit.int.injEq, true_and] at hx4
  rw [← hx4]
  unfold hF
  rw [List.getD_eq_getElem?_getD, List.getElem?_eq_getElem hjl]
  rfl

theorem Met.heap {w w' : World} (hh : w.heap = w'.heap) (h : Met w) : Met w' := laidMetH.of_heap hh h

theorem door_met (os : Os) (args : Array Value) : Met ((World.doorLaid Tryz.prog 400 os).forCall (fun _ _ => 0) ⟨#[], args, []⟩).memory :=
  laidMetH_of_parts3 (fuel := 8) (laidMet_of_run' 8 (by kernel_rfl) (by kernel_rfl)) (by kernel_rfl) (by kernel_rfl)


/-! Acts. -/
section
variable {H : Type} {enc : TypeId × Value → H} {P : Program} {w : World} {base : Nat} {spare : Nat → Bool} {held : Bool}
theorem array8 {α : Type} {cs : Array α} (h : cs.size = 8) : ∃ c0 c1 c2 c3 c4 c5 c6 c7, cs = #[c0, c1, c2, c3, c4, c5, c6, c7] := by
  obtain ⟨l⟩ := cs
  match l, h with
  | [c0, c1, c2, c3, c4, c5, c6, c7], _ => exact ⟨c0, c1, c2, c3, c4, c5, c6, c7, rfl⟩
/-- six fields, the last one of three cells -/
def sixThree (P : Program) (f0 f1 f2 f3 f4 f5 : Field) : Bool := f0.offset == 0 && P.cellsOf f0.type == 1 && (f1.offset == 1 && P.cellsOf f1.type == 1) && (f2.offset == 2 && P.cellsOf f2.type == 1) && (f3.offset == 3 && P.cellsOf f3.type == 1) && (f4.offset == 4 && P.cellsOf f4.type == 1) && (f5.offset == 5 && P.cellsOf f5.type == 3)
theorem eight_cells {t : TypeId} {f0 f1 f2 f3 f4 f5 : Field} {fuel : Nat} {c0 c1 c2 c3 c4 c5 c6 c7 : Value} {y : DataW H × List MemPlace} (hs : P.underlying t = some (.struct #[f0, f1, f2, f3, f4, f5])) (hone : sixThree P f0 f1 f2 f3 f4 f5 = true)
    (h : DataW.trod enc P w base spare held fuel t [c0, c1, c2, c3, c4, c5, c6, c7] = some y) :
    ∃ (y0 y1 y2 y3 y4 y5 : DataW H × List MemPlace) (n : Nat), DataW.trod enc P w base spare held n f0.type [c0] = some y0 ∧ DataW.trod enc P w base spare held n f1.type [c1] = some y1 ∧ DataW.trod enc P w base spare held n f2.type [c2] = some y2 ∧
      DataW.trod enc P w base spare held n f3.type [c3] = some y3 ∧ DataW.trod enc P w base spare held n f4.type [c4] = some y4 ∧ DataW.trod enc P w base spare held n f5.type [c5, c6, c7] = some y5 := by
  obtain ⟨xs, n, _, hx, hl, hlen, hff⟩ := DataW.trod_struct hs h
  unfold sixThree at hone
  simp only [Bool.and_eq_true, beq_iff_eq] at hone
  obtain ⟨⟨⟨⟨⟨⟨o0, k0⟩, o1, k1⟩, o2, k2⟩, o3, k3⟩, o4, k4⟩, o5, k5⟩ := hone
  match xs, hlen with
  | [y0, y1, y2, y3, y4, y5], _ =>
    exact ⟨y0, y1, y2, y3, y4, y5, n, by simpa [o0, k0] using hff 0 f0 rfl, by simpa [o1, k1] using hff 1 f1 rfl, by simpa [o2, k2] using hff 2 f2 rfl, by simpa [o3, k3] using hff 3 f3 rfl, by simpa [o4, k4] using hff 4 f4 rfl, by simpa [o5, k5] using hff 5 f5 rfl⟩
theorem three_cells {t : TypeId} {f0 f1 f2 : Field} {fuel : Nat} {c0 c1 c2 : Value} {y : DataW H × List MemPlace} (hs : P.underlying t = some (.struct #[f0, f1, f2])) (hone : oneCellFields P #[f0, f1, f2] = true)
    (h : DataW.trod enc P w base spare held fuel t [c0, c1, c2] = some y) :
    ∃ (y0 y1 y2 : DataW H × List MemPlace) (n : Nat), DataW.trod enc P w base spare held n f0.type [c0] = some y0 ∧ DataW.trod enc P w base spare held n f1.type [c1] = some y1 ∧ DataW.trod enc P w base spare held n f2.type [c2] = some y2 := by
  obtain ⟨xs, n, _, hx, hl, hlen, hff⟩ := DataW.trod_struct hs h
  match xs, hlen with
  | [y0, y1, y2], _ =>
    obtain ⟨o0, k0⟩ := hone_of hone 0 f0 rfl
    obtain ⟨o1, k1⟩ := hone_of hone 1 f1 rfl
    obtain ⟨o2, k2⟩ := hone_of hone 2 f2 rfl
    exact ⟨y0, y1, y2, n, by simpa [o0, k0] using hff 0 f0 rfl, by simpa [o1, k1] using hff 1 f1 rfl, by simpa [o2, k2] using hff 2 f2 rfl⟩
theorem cell_u8 {t : TypeId} {n : Nat} {v : Value} {y : DataW H × List MemPlace} (ht : P.underlying t = some (.int .u8)) (h : DataW.trod enc P w base spare held n t [v] = some y) :
    ∃ x : Nat, v = .int .u8 (x : Nat) ∧ x ≤ 255 := by
  obtain ⟨x, e, _, wx⟩ := DataW.trod_int ht h
  simp at e
  simp [Lit.wf, IntKind.min, IntKind.max, IntKind.signed, IntKind.bits] at wx
  exact ⟨x.toNat, by rw [e]; congr 1; omega, by omega⟩
theorem cell_u64 {t : TypeId} {n : Nat} {v : Value} {y : DataW H × List MemPlace} (ht : P.underlying t = some (.int .u64)) (h : DataW.trod enc P w base spare held n t [v] = some y) :
    ∃ x : Nat, v = .int .u64 (x : Nat) ∧ x < 18446744073709551616 := by
  obtain ⟨x, e, _, wx⟩ := DataW.trod_int ht h
  simp at e
  simp [Lit.wf, IntKind.min, IntKind.max, IntKind.signed, IntKind.bits] at wx
  exact ⟨x.toNat, by rw [e]; congr 1; omega, by omega⟩
end

theorem cells_act : Tryz.prog.cellsOf 46 = 8 := by kernel_rfl
set_option maxRecDepth 100000 in
theorem eight_act {H : Type} {enc : TypeId × Value → H} {w : World} {base : Nat} {spare : Nat → Bool} {held : Bool} {fuel : Nat} {c0 c1 c2 c3 c4 c5 c6 c7 : Value} {y : DataW H × List MemPlace}
    (h : DataW.trod enc Tryz.prog w base spare held fuel 46 [c0, c1, c2, c3, c4, c5, c6, c7] = some y) :
    ∃ x : Ac, x.Ok ∧ c0 = .int .u8 (x.wh : Nat) ∧ c1 = .int .i64 x.s ∧ c2 = .int .i64 x.i ∧ c3 = .int .i64 x.q ∧ c4 = .int .u64 (x.u : Nat) ∧ c5 = .int .i64 x.c ∧ c6 = .int .i64 x.r ∧ c7 = .int .i64 x.n := by
  obtain ⟨y0, y1, y2, y3, y4, y5, k, g0, g1, g2, g3, g4, g5⟩ := eight_cells Tryz.underlying46 (by kernel_rfl) h
  obtain ⟨z0, z1, z2, k2, r0, r1, r2⟩ := three_cells Tryz.underlying44 (by kernel_rfl) g5
  obtain ⟨wh, rfl, b0⟩ := cell_u8 Tryz.underlying5 g0
  obtain ⟨s, rfl, b1⟩ := cell_i64 Tryz.underlying3 g1
  obtain ⟨i, rfl, b2⟩ := cell_i64 Tryz.underlying3 g2
  obtain ⟨q, rfl, b3⟩ := cell_i64 Tryz.underlying3 g3
  obtain ⟨u, rfl, b4⟩ := cell_u64 Tryz.underlying42 g4
  obtain ⟨c, rfl, b5⟩ := cell_i64 Tryz.underlying3 r0
  obtain ⟨r, rfl, b6⟩ := cell_i64 Tryz.underlying3 r1
  obtain ⟨n, rfl, b7⟩ := cell_i64 Tryz.underlying3 r2
  exact ⟨⟨wh, s, i, q, u, c, r, n⟩, ⟨b0, b1, b2, b3, b4, b5, b6, b7⟩, rfl, rfl, rfl, rfl, rfl, rfl, rfl, rfl⟩

section
variable {H : Type} {enc : TypeId × Value → H} {W : World} {r : Reach} {b0 : Nat} {v : Value} {d : DataW H} {p : List MemPlace}
set_option maxRecDepth 100000 in
/-- an act among the parameters -/
theorem get_act (hv : Value.okWide Tryz.prog W r b0 46 v) (h : DataW.Trod enc Tryz.prog W 0 (fun _ => true) true 46 v d p) :
    ∃ x : Ac, x.Ok ∧ v = .agg #[.int .u8 (x.wh : Nat), .int .i64 x.s, .int .i64 x.i, .int .i64 x.q, .int .u64 (x.u : Nat), .int .i64 x.c, .int .i64 x.r, .int .i64 x.n] := by
  obtain ⟨cs, rfl, hsz⟩ := okWide_struct Tryz.underlying46 hv
  obtain ⟨c0, c1, c2, c3, c4, c5, c6, c7, rfl⟩ := array8 (hsz.trans cells_act)
  obtain ⟨fuel, hf⟩ := h
  obtain ⟨x, hok, rfl, rfl, rfl, rfl, rfl, rfl, rfl, rfl⟩ := eight_act hf
  exact ⟨x, hok, rfl⟩
set_option maxRecDepth 100000 in
/-- a slice of acts -/
theorem get_acts (hv : Value.okWide Tryz.prog W r b0 26 v) (h : DataW.Trod enc Tryz.prog W 0 (fun _ => true) true 26 v d p) :
    ∃ (n : Nat) (A : Nat → Ac), Acts W v n A := by
  obtain ⟨a0, l0, c0, rfl⟩ := okWide_slice Tryz.underlying26 hv
  obtain ⟨fuel, hfu⟩ := h
  rcases open_slice Tryz.underlying26 hfu with ⟨hcs, _⟩ | ⟨a, len, cap, m, k, D, Pl, hcs, _, hl, hm, hmm, _, hx⟩
  · simp [Value.cells] at hcs
    obtain ⟨rfl, rfl, rfl⟩ := hcs
    exact ⟨0, fun _ => default, Or.inl ⟨rfl, none, 0, rfl⟩⟩
  · simp [Value.cells] at hcs
    obtain ⟨rfl, rfl, rfl⟩ := hcs
    simp only [if_true] at hmm
    by_cases c : l0 = 0
    · exact ⟨0, fun _ => default, Or.inl ⟨rfl, some a, c0, by rw [c]⟩⟩
    · have each : ∀ j, j < m → ∃ x : Ac, x.Ok ∧ W.cell? (a.add (j * 8)) = some (.int .u8 (x.wh : Nat)) ∧ W.cell? (a.add (j * 8 + 1)) = some (.int .i64 x.s) ∧ W.cell? (a.add (j * 8 + 2)) = some (.int .i64 x.i) ∧ W.cell? (a.add (j * 8 + 3)) = some (.int .i64 x.q) ∧ W.cell? (a.add (j * 8 + 4)) = some (.int .u64 (x.u : Nat)) ∧ W.cell? (a.add (j * 8 + 5)) = some (.int .i64 x.c) ∧ W.cell? (a.add (j * 8 + 6)) = some (.int .i64 x.r) ∧ W.cell? (a.add (j * 8 + 7)) = some (.int .i64 x.n) := by
        intro j hj
        obtain ⟨cs', h1, h2⟩ := hx j hj
        rw [cells_act] at h1
        obtain ⟨_, hlen, hcell⟩ := World.cells?_some h1
        match cs', hlen with
        | [v0, v1, v2, v3, v4, v5, v6, v7], _ =>
          obtain ⟨x, hok, rfl, rfl, rfl, rfl, rfl, rfl, rfl, rfl⟩ := eight_act h2
          have e0 := hcell 0 (by omega)
          have e1 := hcell 1 (by omega)
          have e2 := hcell 2 (by omega)
          have e3 := hcell 3 (by omega)
          have e4 := hcell 4 (by omega)
          have e5 := hcell 5 (by omega)
          have e6 := hcell 6 (by omega)
          have e7 := hcell 7 (by omega)
          rw [add_add] at e0 e1 e2 e3 e4 e5 e6 e7
          exact ⟨x, hok, by simpa using e0, by simpa using e1, by simpa using e2, by simpa using e3, by simpa using e4, by simpa using e5, by simpa using e6, by simpa using e7⟩
      obtain ⟨_, _, x0, _⟩ := each 0 (by omega)
      have sp := (cell_block x0).2
      obtain ⟨b, off, s⟩ := a
      change s = none at sp
      subst sp
      obtain ⟨T, hT⟩ := choose_lt (α := Ac) (p := fun j z => AcAt W b (off + j * 8) z ∧ z.Ok) (n := l0) (fun j hj => by
        obtain ⟨x, hok, e0, e1, e2, e3, e4, e5, e6, e7⟩ := each j (by omega)
        exact ⟨x, ⟨by simpa [add_plain, Nat.add_assoc] using e0, by simpa [add_plain, Nat.add_assoc] using e1, by simpa [add_plain, Nat.add_assoc] using e2, by simpa [add_plain, Nat.add_assoc] using e3, by simpa [add_plain, Nat.add_assoc] using e4, by simpa [add_plain, Nat.add_assoc] using e5, by simpa [add_plain, Nat.add_assoc] using e6, by simpa [add_plain, Nat.add_assoc] using e7⟩, hok⟩)
      exact ⟨l0, T, Or.inr ⟨b, off, c0, rfl, by omega, hl, by unfold maxLen at hm; omega, hT⟩⟩
theorem cells_u64 : Tryz.prog.cellsOf 42 = 1 := by kernel_rfl
set_option maxRecDepth 100000 in
/-- a slice of words -/
theorem get_words (hv : Value.okWide Tryz.prog W r b0 49 v) (h : DataW.Trod enc Tryz.prog W 0 (fun _ => true) true 49 v d p) :
    ∃ l : List Nat, mm.Ws (fun _ => False) W v l ∧ ∀ u ∈ l, u < 18446744073709551616 := by
  obtain ⟨a0, l0, c0, rfl⟩ := okWide_slice Tryz.underlying49 hv
  obtain ⟨fuel, hfu⟩ := h
  rcases open_slice Tryz.underlying49 hfu with ⟨hcs, _⟩ | ⟨a, len, cap, m, k, D, Pl, hcs, _, hl, hm, hmm, _, hx⟩
  · simp [Value.cells] at hcs
    obtain ⟨rfl, rfl, rfl⟩ := hcs
    exact ⟨[], Or.inl ⟨rfl, none, 0, rfl⟩, fun u hu => by simp at hu⟩
  · simp [Value.cells] at hcs
    obtain ⟨rfl, rfl, rfl⟩ := hcs
    simp only [if_true] at hmm
    by_cases c : l0 = 0
    · exact ⟨[], Or.inl ⟨rfl, some a, c0, by rw [c]⟩, fun u hu => by simp at hu⟩
    · have each : ∀ j, j < m → ∃ x : Nat, x < 18446744073709551616 ∧ W.cell? (a.add j) = some (.int .u64 (x : Nat)) := by
        intro j hj
        obtain ⟨cs', h1, h2⟩ := hx j hj
        rw [cells_u64, Nat.mul_one] at h1
        obtain ⟨_, hlen, hcell⟩ := World.cells?_some h1
        match cs', hlen with
        | [v0], _ =>
          obtain ⟨x, rfl, bx⟩ := cell_u64 Tryz.underlying42 h2
          have e0 := hcell 0 (by omega)
          rw [add_add] at e0
          exact ⟨x, bx, by simpa using e0⟩
      obtain ⟨_, _, x0⟩ := each 0 (by omega)
      have sp := (cell_block x0).2
      obtain ⟨b, off, s⟩ := a
      change s = none at sp
      subst sp
      obtain ⟨T, hT⟩ := choose_lt (α := Nat) (p := fun j z => W.cell? ⟨b, off + j, none⟩ = some (.int .u64 (z : Nat)) ∧ z < 18446744073709551616) (n := l0) (fun j hj => by
        obtain ⟨x, hok, e0⟩ := each j (by omega)
        exact ⟨x, by simpa [add_plain] using e0, hok⟩)
      refine ⟨(List.range l0).map T, Or.inr ⟨b, off, c0, by simp, by simp; omega, by simp; omega, by unfold maxLen at hm; omega, fun x => x, fun j u hj => ?_⟩, fun u hu => ?_⟩
      · have hj2 := (List.getElem?_eq_some_iff.1 hj).1
        simp at hj2
        rw [List.getElem?_map, List.getElem?_range hj2] at hj
        cases hj
        exact (hT j hj2).1
      · obtain ⟨j, hj, rfl⟩ := List.mem_map.1 hu
        exact (hT j (List.mem_range.1 hj)).2
end

end Go.Proofs.YthokalcibjjihaaGreatDoor
