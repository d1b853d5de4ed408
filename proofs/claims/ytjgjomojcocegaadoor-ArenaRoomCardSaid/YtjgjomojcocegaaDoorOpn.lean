/- The rows of the laws: the table out of the condition, a law's row out of its walk, acts among the parameters. -/
import Derived.Test.YtjgjomojcocegaaDoorOpc
import Derived.Test.YtjgjomojcocegaaDoorQp
import Derived.Test.YtjgjomojcocegaaDoorQt
import Derived.ReadAgain
import Derived.ChangeBears
import Derived.ChangeSlices
import Derived.Lib.SmallJoins
import Derived.SizedLaws
import Derived.LaidMore
import Derived.Stop.Joined
import Derived.LaidLaws
import Derived.Test.YtjgjomojcocegaaDoorCards
import Derived.Test.YtjgjomojcocegaaDoorTie
import Derived.SevenTiedAt
namespace Go.Proofs.YtjgjomojcocegaaDoor
open Go.ChangeShapes Go.WideShapes Go.ChangeAt Go.RowKit Go.Joins Go.Deep

/-- the row of a law whose program reads a table, out of its walk -/
theorem lift_laid {C : Checked} {os : Os} (own : ownKnob C.prog.godebug = none) (started : os.Started) {fn : FuncId} {f : Func} (noInit : C.prog.inits.idxOf? fn = none) (hfn : C.prog.funcs[fn]? = some f)
    {H : Type} {enc : TypeId × Value → H} {s : ChangeSpec} {tb : TypeId} {X : World → Prop} (hX : ∀ (w w' : World), w.heap = w'.heap → X w → X w') (hl : laidOutB C.prog = true) (hm : mapsRowed C.prog = true)
    (full : ∀ t e, t < C.prog.types.size → C.prog.underlying t = some (.slice e) → 0 < C.prog.cellsOf e) (hT : ∀ t ∈ f.params.toList, t < C.prog.types.size)
    (hv : s.vars = []) (hr : f.resultTypes = #[tb]) (hb : C.prog.underlying tb = some .bool) (hs : ∀ ds : List (DataW H), ds.length = f.params.toList.length → s.fn H ds = { results := [.lit (.bool true)], args := ds })
    (witness : ∃ (w : World) (tape : Tape) (i : Input), w.os = os ∧ (w.forCall tape i).Shaped C.prog ∧ i.vars = [] ∧ Input.okWide C.prog (w.forCall tape i) .any w.heap.size fn i ∧
      ((s.pre enc C.prog f [] false (w.forCall tape i).memory i.args ∧ X (w.forCall tape i).memory) ∧ sizedMet enc C.prog f (OpenSpec.ofChange s) false (w.forCall tape i).memory i.args) ∧ ({} : Assume).holds C.prog (lone (Frame.enter C.prog fn i.args .normal) [] (w.forCall tape i)))
    (walk : ∀ (W : World) (base : Nat) (args : Array Value) (ds : List (DataW H)) (p : List MemPlace), (∀ (j : Nat) t v, f.params[j]? = some t → args[j]? = some v → Value.okWide C.prog W .any base t v) →
      DataW.TrodAll enc C.prog W 0 (fun _ => true) true f.params.toList args.toList ds p → X W → Calls C.prog fn args W fun e W' => e = .returned (.bool true) ∧ Below W.heap.size W W') :
    ReturnsInHanded {} C os fn .any (fun w args => (s.pre enc C.prog f [] false w args ∧ X w) ∧ sizedMet enc C.prog f (OpenSpec.ofChange s) false w args) (s.post enc C.prog f false true false false) := by
  refine returnsInHanded_of_change_and (X := fun w _ => X w) (fun w w' _ h => hX w w' h) own started noInit hfn witness ?_
  intro W base args ds gs before hval hW _ _ hXW _
  have hW' := hW
  obtain ⟨p, q, hA, hV, hbf, hfz, hnd⟩ := hW
  have len : ∀ {ts : List TypeId} {vs : List Value} {ds : List (DataW H)} {p : List MemPlace}, DataW.TrodAll enc C.prog W 0 (fun _ => true) true ts vs ds p → ds.length = ts.length := by
    intro ts
    induction ts with
    | nil => intro vs ds p h; obtain ⟨_, rfl, _⟩ := trodAll_nil h; rfl
    | cons t ts ih => intro vs ds p h; obtain ⟨v, vs, d, ds, p, q, rfl, rfl, rfl, h1, h2⟩ := trodAll_cons h; rw [List.length_cons, List.length_cons, ih h2]
  refine (walk W base args ds p hval hA hXW).mono fun e W' ⟨he, hg⟩ => ⟨_, he, post_law (kids_rows hl hm) full hW' hT hv hr hb ?_ hg⟩
  rw [hv] at hV
  obtain ⟨rfl, _⟩ := trodVars_none hV
  rw [List.append_nil]
  exact hs ds (len hA)

/-! The table. -/
abbrev theLaid : List (String × DataW Unit) := [("math/bits.deBruijn64tab", Rows.laid_math_bits_deBruijn64tab)]
/-- what the rows ask of the start -/
def Met (W : World) : Prop := laidMetH Tryd.prog theLaid W

theorem gTab : Tryd.prog.globalNamed "math/bits.deBruijn64tab" = some 0 := by kernel_rfl
theorem tTab : (Tryd.prog.globals[0]?).map (·.type) = some 133 := by kernel_rfl
theorem cells5 : Tryd.prog.cellsOf 5 = 1 := by kernel_rfl
theorem listed : (Rows.laid_math_bits_deBruijn64tab : DataW Unit) = .agg (Lib.deBruijn64tab.map fun (n : Nat) => .lit (.int .u8 (n : Int))) := rfl

theorem Met.tab {W : World} (h : Met W) : Tb W := by
  unfold Met at h
  rw [MakeChecks.laidMetH_plain _ _ _ (by kernel_rfl)] at h
  obtain ⟨ps, ⟨g0, t0, cs0, f0, p0, q0, hg0, ht0, hv0, hd0, _, _⟩, _, _⟩ := h
  obtain rfl := Option.some.inj (gTab.symm.trans hg0)
  obtain rfl := Option.some.inj (tTab.symm.trans ht0)
  obtain ⟨xs, m1, rfl, hx1, hlen, hn, hel⟩ := DataW.trod_array Tryd.underlying133 hd0
  intro j hj
  have hj' := hel j hj
  have hjx : j < xs.length := by omega
  rw [List.getElem?_eq_getElem hjx, cells5, Nat.mul_one] at hj'
  obtain ⟨k, e1, e2, _⟩ := DataW.trod_int Tryd.underlying5 hj'
  have hc := World.var?_cell hg0 hv0 j
  have e3 : cs0.toList[j]? = some (.int .u8 k) := by
    have := congrArg (fun l => l[0]?) e1
    simpa using this
  rw [Array.getElem?_toList] at e3
  rw [hc, e3]
  have hx2 : Rows.laid_math_bits_deBruijn64tab = DataW.agg (xs.map (·.1)) := (Prod.mk.inj hx1).1
  rw [listed] at hx2
  have hx3 := DataW.agg.inj hx2
  have hx4 := congrArg (fun l => l[j]?) hx3
  simp only [List.getElem?_map, List.getElem?_eq_getElem hjx, Option.map_some, e2] at hx4
  have hjl : j < Lib.deBruijn64tab.length := hj
  rw [List.getElem?_eq_getElem hjl] at hx4
  simp only [Option.map_some, Option.some.injEq, DataW.lit.injEq, Lit.int.injEq, true_and] at hx4
  rw [← hx4]
  rw [List.getD_eq_getElem?_getD, List.getElem?_eq_getElem hjl]
  rfl

theorem Met.heap {w w' : World} (hh : w.heap = w'.heap) (h : Met w) : Met w' := laidMetH.of_heap hh h

theorem door_met (os : Os) (args : Array Value) : Met ((World.doorLaid Tryd.prog 400 os).forCall (fun _ _ => 0) ⟨#[], args, []⟩).memory :=
  laidMetH_of_parts3 (fuel := 8) (laidMet_of_run' 8 (by kernel_rfl) (by kernel_rfl)) (by kernel_rfl) (by kernel_rfl)


section
variable {H : Type} {enc : TypeId × Value → H} {P : Program} {w : World} {base : Nat} {spare : Nat → Bool} {held : Bool}
theorem array2 {α : Type} {cs : Array α} (h : cs.size = 2) : ∃ c0 c1, cs = #[c0, c1] := by
  obtain ⟨l⟩ := cs
  match l, h with
  | [c0, c1], _ => exact ⟨c0, c1, rfl⟩
theorem two_cells {t : TypeId} {f0 f1 : Field} {fuel : Nat} {c0 c1 : Value} {y : DataW H × List MemPlace} (hs : P.underlying t = some (.struct #[f0, f1])) (hone : oneCellFields P #[f0, f1] = true)
    (h : DataW.trod enc P w base spare held fuel t [c0, c1] = some y) :
    ∃ (y0 y1 : DataW H × List MemPlace) (n : Nat), DataW.trod enc P w base spare held n f0.type [c0] = some y0 ∧ DataW.trod enc P w base spare held n f1.type [c1] = some y1 := by
  obtain ⟨xs, n, _, hx, hl, hlen, hff⟩ := DataW.trod_struct hs h
  match xs, hlen with
  | [y0, y1], _ =>
    obtain ⟨o0, k0⟩ := hone_of hone 0 f0 rfl
    obtain ⟨o1, k1⟩ := hone_of hone 1 f1 rfl
    exact ⟨y0, y1, n, by simpa [o0, k0] using hff 0 f0 rfl, by simpa [o1, k1] using hff 1 f1 rfl⟩
theorem cell_u8 {t : TypeId} {n : Nat} {v : Value} {y : DataW H × List MemPlace} (ht : P.underlying t = some (.int .u8)) (h : DataW.trod enc P w base spare held n t [v] = some y) :
    ∃ x : Nat, v = .int .u8 (x : Nat) ∧ x ≤ 255 := by
  obtain ⟨x, e, _, wx⟩ := DataW.trod_int ht h
  simp at e
  simp [Lit.wf, IntKind.min, IntKind.max, IntKind.signed, IntKind.bits] at wx
  exact ⟨x.toNat, by rw [e]; congr 1; omega, by omega⟩
end

theorem cells_act : Tryd.prog.cellsOf 40 = 2 := by kernel_rfl

set_option maxRecDepth 100000 in
theorem two_act {H : Type} {enc : TypeId × Value → H} {w : World} {base : Nat} {spare : Nat → Bool} {held : Bool} {fuel : Nat} {c0 c1 : Value} {y : DataW H × List MemPlace}
    (h : DataW.trod enc Tryd.prog w base spare held fuel 40 [c0, c1] = some y) : ∃ x : Ac, x.ok ∧ c0 = .int .u8 (x.wh : Nat) ∧ c1 = .int .i64 x.n := by
  obtain ⟨y0, y1, k, g0, g1⟩ := two_cells Tryd.underlying40 (by kernel_rfl) h
  obtain ⟨wh, rfl, b0⟩ := cell_u8 Tryd.underlying5 g0
  obtain ⟨n, rfl, b1⟩ := cell_i64 Tryd.underlying3 g1
  exact ⟨⟨wh, n⟩, ⟨b0, b1⟩, rfl, rfl⟩

set_option maxRecDepth 100000 in
theorem get_acts {H : Type} {enc : TypeId × Value → H} {W : World} {r : Reach} {b0 : Nat} {v : Value} {d : DataW H} {p : List MemPlace} (hv : Value.okWide Tryd.prog W r b0 26 v) (h : DataW.Trod enc Tryd.prog W 0 (fun _ => true) true 26 v d p) :
    ∃ (n : Nat) (A : Nat → Ac), Acts W v n A := by
  obtain ⟨a0, l0, c0, rfl⟩ := okWide_slice Tryd.underlying26 hv
  obtain ⟨fuel, hfu⟩ := h
  rcases open_slice Tryd.underlying26 hfu with ⟨hcs, _⟩ | ⟨a, len, cap, m, k, D, Pl, hcs, _, hl, hm, hmm, _, hx⟩
  · simp [Value.cells] at hcs
    obtain ⟨rfl, rfl, rfl⟩ := hcs
    exact ⟨0, fun _ => default, Or.inl ⟨rfl, none, 0, rfl⟩⟩
  · simp [Value.cells] at hcs
    obtain ⟨rfl, rfl, rfl⟩ := hcs
    simp only [if_true] at hmm
    by_cases c : l0 = 0
    · exact ⟨0, fun _ => default, Or.inl ⟨rfl, some a, c0, by rw [c]⟩⟩
    · have each : ∀ j, j < m → ∃ x : Ac, x.ok ∧ W.cell? (a.add (j * 2)) = some (.int .u8 (x.wh : Nat)) ∧ W.cell? (a.add (j * 2 + 1)) = some (.int .i64 x.n) := by
        intro j hj
        obtain ⟨cs', h1, h2⟩ := hx j hj
        rw [cells_act] at h1
        obtain ⟨_, hlen, hcell⟩ := World.cells?_some h1
        match cs', hlen with
        | [v0, v1], _ =>
          obtain ⟨x, hok, rfl, rfl⟩ := two_act h2
          have e0 := hcell 0 (by omega)
          have e1 := hcell 1 (by omega)
          rw [add_add] at e0 e1
          exact ⟨x, hok, by simpa using e0, by simpa using e1⟩
      obtain ⟨_, _, x0, _⟩ := each 0 (by omega)
      have sp := (cell_block x0).2
      obtain ⟨b, off, s⟩ := a
      change s = none at sp
      subst sp
      obtain ⟨T, hT⟩ := choose_lt (α := Ac) (p := fun j z => AcAt W b (off + j * 2) z ∧ z.ok) (n := l0) (fun j hj => by
        obtain ⟨x, hok, e0, e1⟩ := each j (by omega)
        exact ⟨x, ⟨by simpa [add_plain, Nat.add_assoc] using e0, by simpa [add_plain, Nat.add_assoc] using e1⟩, hok⟩)
      exact ⟨l0, T, Or.inr ⟨b, off, c0, rfl, by omega, hl, by unfold maxLen at hm; omega, hT⟩⟩

end Go.Proofs.YtjgjomojcocegaaDoor
