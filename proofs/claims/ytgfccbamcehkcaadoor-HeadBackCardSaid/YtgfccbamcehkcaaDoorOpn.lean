/- The rows of the laws: the table out of the condition, a law's row out of its walk, single parameters opened. -/
import Derived.Test.YtgfccbamcehkcaaDoorHa
import Derived.ReadAgain
import Derived.ChangeBears
import Derived.ChangeSlices
import Derived.Deep.Slices
import Derived.Lib.SmallJoins
import Derived.SizedLaws
import Derived.LaidMore
import Derived.Stop.Joined
import Derived.LaidLaws
import Derived.Test.YtgfccbamcehkcaaDoorCards
import Derived.Test.YtgfccbamcehkcaaDoorTie
import Derived.SevenTiedAt
namespace Go.Proofs.YtgfccbamcehkcaaDoor
open Go.ChangeShapes Go.WideShapes Go.ChangeAt Go.RowKit Go.Joins Go.Deep

section
variable {H : Type} {enc : TypeId × Value → H} {P : Program}

theorem trodAll_carry {W W' : World} {spare : Nat → Bool} : ∀ {ts : List TypeId} {vs : List Value} {ds : List (DataW H)} {ps : List MemPlace},
    DataW.TrodAll enc P W 0 spare true ts vs ds ps → (∀ p ∈ ps, W.sameAt W' p) → DataW.TrodAll enc P W' 0 spare true ts vs ds ps
  | [], _, _, _, h, _ => by obtain ⟨rfl, rfl, rfl⟩ := trodAll_nil h; exact trodAll_mk0
  | _ :: _, _, _, _, h, hs => by
    obtain ⟨v, vs, d, ds, p, q, rfl, rfl, rfl, ⟨n, hn⟩, h2⟩ := trodAll_cons h
    exact ⟨p, q, ⟨n, DataW.trod_carry n _ _ _ hn fun x hx => hs x (List.mem_append_left _ hx)⟩, trodAll_carry h2 fun x hx => hs x (List.mem_append_right _ hx), rfl⟩

/-- all that lay there lies as it lay: then the arguments read as they read -/
theorem post_law (K : Kids P (· < P.types.size)) (full : ∀ t e, t < P.types.size → P.underlying t = some (.slice e) → 0 < P.cellsOf e)
    {f : Func} {s : ChangeSpec} {apart fresh handsOn : Bool} {W W' : World} {args : Array Value} {ds gs : List (DataW H)} {before : List MemPlace} {tb : TypeId}
    (hW : DataW.Whole enc P f.params.toList s.vars apart W args.toList ds gs before) (hT : ∀ t ∈ f.params.toList, t < P.types.size)
    (hv : s.vars = []) (hr : f.resultTypes = #[tb]) (hb : P.underlying tb = some .bool) (hs : s.fn H (ds ++ gs) = { results := [.lit (.bool true)], args := ds }) (g : Below W.heap.size W W') :
    s.post enc P f apart fresh handsOn false W args (.bool true) W' := by
  have hW' := hW
  obtain ⟨p, q, hA, hV, rfl, hfz, hnd⟩ := hW
  rw [hv] at hV
  obtain ⟨rfl, rfl⟩ := trodVars_none hV
  have hlt : ∀ x ∈ p, x.block < W.heap.size := fun x hx => hW'.lt x (List.mem_append_left _ hx)
  refine ⟨ds, [], p ++ [], [], p, [], hW', ?_, ?_, ?_, World.keptBut_mono (fun x hx => hx.elim) (g.frame (fun _ => False)), fun h => by cases h⟩
  · rw [hs, hr]
    exact trodAll_cons_mk (shut_bool hb true) trodAll_mk0
  · rw [hs]
    exact DataW.TrodAll.respare K full hT (trodAll_carry hA fun x hx => Below.same g (hlt x hx)) fun x hx => decide_eq_true (hlt x hx)
  · rw [hs, hv]
    rfl
end

/-- the row of a law whose program reads a table, out of its walk -/
theorem lift_laid {C : Checked} {os : Os} (own : ownKnob C.prog.godebug = none) (started : os.Started) {fn : FuncId} {f : Func} (noInit : C.prog.inits.idxOf? fn = none) (hfn : C.prog.funcs[fn]? = some f)
    {H : Type} {enc : TypeId × Value → H} {s : ChangeSpec} {tb : TypeId} {X : World → Prop} (hX : ∀ (w w' : World), w.heap = w'.heap → X w → X w') (hl : laidOutB C.prog = true) (hm : mapsRowed C.prog = true)
    (full : ∀ t e, t < C.prog.types.size → C.prog.underlying t = some (.slice e) → 0 < C.prog.cellsOf e) (hT : ∀ t ∈ f.params.toList, t < C.prog.types.size)
    (hv : s.vars = []) (hr : f.resultTypes = #[tb]) (hb : C.prog.underlying tb = some .bool) (hs : ∀ ds : List (DataW H), ds.length = f.params.toList.length → s.fn H ds = { results := [.lit (.bool true)], args := ds })
    (witness : ∃ (w : World) (tape : Tape) (i : Input), w.os = os ∧ (w.forCall tape i).Shaped C.prog ∧ i.vars = [] ∧ Input.okWide C.prog (w.forCall tape i) .any w.heap.size fn i ∧
      ((s.pre enc C.prog f [] false (w.forCall tape i).memory i.args ∧ X (w.forCall tape i).memory) ∧ sizedMet enc C.prog f (OpenSpec.ofChange s) false (w.forCall tape i).memory i.args) ∧ ({} : Assume).holds C.prog (lone (Frame.enter C.prog fn i.args .normal) [] (w.forCall tape i)))
    (walk : ∀ (W : World) (base : Nat) (args : Array Value) (ds : List (DataW H)) (p : List MemPlace), (∀ (j : Nat) t v, f.params[j]? = some t → args[j]? = some v → Value.okWide C.prog W .any base t v) →
      DataW.TrodAll enc C.prog W 0 (fun _ => true) true f.params.toList args.toList ds p → X W → Calls C.prog fn args W fun e W' => e = .returned (.bool true) ∧ Below W.heap.size W W') :
    ReturnsInHanded {} C os fn .any (fun w args => (s.pre enc C.prog f [] false w args ∧ X w) ∧ sizedMet enc C.prog f (OpenSpec.ofChange s) false w args) (s.post enc C.prog f false true false false) := by
  refine returnsInHanded_of_change_and (X := fun w _ => X w) (fun w w' _ h => hX w w' h) own started noInit hfn witness ?_
  intro W base args ds gs before hval hW _ _ hXW _
  have hW' := hW
  obtain ⟨p, q, hA, hV, hbf, hfz, hnd⟩ := hW
  have len : ∀ {ts : List TypeId} {vs : List Value} {ds : List (DataW H)} {p : List MemPlace}, DataW.TrodAll enc C.prog W 0 (fun _ => true) true ts vs ds p → ds.length = ts.length := by
    intro ts
    induction ts with
    | nil => intro vs ds p h; obtain ⟨_, rfl, _⟩ := trodAll_nil h; rfl
    | cons t ts ih => intro vs ds p h; obtain ⟨v, vs, d, ds, p, q, rfl, rfl, rfl, h1, h2⟩ := trodAll_cons h; rw [List.length_cons, List.length_cons, ih h2]
  refine (walk W base args ds p hval hA hXW).mono fun e W' ⟨he, hg⟩ => ⟨_, he, post_law (kids_rows hl hm) full hW' hT hv hr hb ?_ hg⟩
  rw [hv] at hV
  obtain ⟨rfl, _⟩ := trodVars_none hV
  rw [List.append_nil]
  exact hs ds (len hA)

/-! The table. -/
abbrev theLaid : List (String × DataW Unit) := [("commonage/head.widths", Rows.laid_commonage_head_widths)]
/-- what the rows ask of the start -/
def Met (W : World) : Prop := laidMetH Tryd.prog theLaid W

theorem gTab : Tryd.prog.globalNamed "commonage/head.widths" = some 0 := by kernel_rfl
theorem tTab : (Tryd.prog.globals[0]?).map (·.type) = some 51 := by kernel_rfl
theorem cellsI : Tryd.prog.cellsOf 3 = 1 := by kernel_rfl
theorem listed : (Rows.laid_commonage_head_widths : DataW Unit) = .agg (([16, 16, 16, 8, 8] : List Int).map fun (n : Int) => .lit (.int .i64 n)) := rfl

theorem Met.tab {W : World} (h : Met W) : TabW W := by
  unfold Met at h
  rw [MakeChecks.laidMetH_plain _ _ _ (by kernel_rfl)] at h
  obtain ⟨ps, ⟨g0, t0, cs0, f0, p0, q0, hg0, ht0, hv0, hd0, _, _⟩, _, _⟩ := h
  obtain rfl := Option.some.inj (gTab.symm.trans hg0)
  obtain rfl := Option.some.inj (tTab.symm.trans ht0)
  obtain ⟨xs, m1, rfl, hx1, hlen, hn, hel⟩ := DataW.trod_array Tryd.underlying51 hd0
  intro j hj
  have hj' := hel j hj
  have hjx : j < xs.length := by omega
  rw [List.getElem?_eq_getElem hjx, cellsI, Nat.mul_one] at hj'
  obtain ⟨k, e1, e2, _⟩ := DataW.trod_int Tryd.underlying3 hj'
  have hc := World.var?_cell hg0 hv0 j
  have e3 : cs0.toList[j]? = some (.int .i64 k) := by
    have := congrArg (fun l => l[0]?) e1
    simpa using this
  rw [Array.getElem?_toList] at e3
  rw [hc, e3]
  have hx2 : Rows.laid_commonage_head_widths = DataW.agg (xs.map (·.1)) := (Prod.mk.inj hx1).1
  rw [listed] at hx2
  have hx3 := DataW.agg.inj hx2
  have hx4 := congrArg (fun l => l[j]?) hx3
  simp only [List.getElem?_map, List.getElem?_eq_getElem hjx, Option.map_some, e2] at hx4
  have hjl : j < ([16, 16, 16, 8, 8] : List Int).length := hj
  rw [List.getElem?_eq_getElem hjl] at hx4
  simp only [Option.map_some, Option.some.injEq, DataW.lit.injEq, Lit.int.injEq, true_and] at hx4
  rw [← hx4]
  unfold hF
  rw [List.getD_eq_getElem?_getD, List.getElem?_eq_getElem hjl]
  rfl

theorem Met.heap {w w' : World} (hh : w.heap = w'.heap) (h : Met w) : Met w' := laidMetH.of_heap hh h

theorem door_met (os : Os) (args : Array Value) : Met ((World.doorLaid Tryd.prog 400 os).forCall (fun _ _ => 0) ⟨#[], args, []⟩).memory :=
  laidMetH_of_parts3 (fuel := 8) (laidMet_of_run' 8 (by kernel_rfl) (by kernel_rfl)) (by kernel_rfl) (by kernel_rfl)

/-! Single parameters. -/
section
variable {H : Type} {enc : TypeId × Value → H} {W : World} {r : Reach} {b0 : Nat} {v : Value} {d : DataW H} {p : List MemPlace}

theorem get_i64 (hv : Value.okWide Tryd.prog W r b0 3 v) (h : DataW.Trod enc Tryd.prog W 0 (fun _ => true) true 3 v d p) :
    ∃ x : Int, v = .int .i64 x ∧ i64b x := by
  obtain ⟨x, rfl, _, _, wx⟩ := open_int Tryd.underlying3 hv h
  exact ⟨x, rfl, wf_bd wx⟩
theorem get_u64 (hv : Value.okWide Tryd.prog W r b0 24 v) (h : DataW.Trod enc Tryd.prog W 0 (fun _ => true) true 24 v d p) :
    ∃ x : Nat, v = .int .u64 (x : Nat) ∧ x < 18446744073709551616 := by
  obtain ⟨x, rfl, _, _, wx⟩ := open_int Tryd.underlying24 hv h
  have := wf_ubd wx
  exact ⟨x.toNat, by congr 1; omega, by omega⟩
theorem get_u8 (hv : Value.okWide Tryd.prog W r b0 5 v) (h : DataW.Trod enc Tryd.prog W 0 (fun _ => true) true 5 v d p) :
    ∃ x : Nat, v = .int .u8 (x : Nat) ∧ x ≤ 255 := by
  obtain ⟨x, rfl, _, _, wx⟩ := open_int Tryd.underlying5 hv h
  simp [Lit.wf, IntKind.min, IntKind.max, IntKind.signed, IntKind.bits] at wx
  exact ⟨x.toNat, by congr 1; omega, by omega⟩

theorem array3 {α : Type} {cs : Array α} (h : cs.size = 3) : ∃ c0 c1 c2, cs = #[c0, c1, c2] := by
  obtain ⟨l⟩ := cs
  match l, h with
  | [c0, c1, c2], _ => exact ⟨c0, c1, c2, rfl⟩
theorem open_agg3 {P : Program} {t : TypeId} {f0 f1 f2 : Field} (hs : P.underlying t = some (.struct #[f0, f1, f2]))
    (hone : oneCellFields P #[f0, f1, f2] = true) (hC : P.cellsOf t = 3) (hv : Value.okWide P W r b0 t v) (h : DataW.Trod enc P W 0 (fun _ => true) true t v d p) :
    ∃ (v0 v1 v2 : Value) (y0 y1 y2 : DataW H × List MemPlace) (n : Nat), v = .agg #[v0, v1, v2] ∧
      DataW.trod enc P W 0 (fun _ => true) true n f0.type [v0] = some y0 ∧ DataW.trod enc P W 0 (fun _ => true) true n f1.type [v1] = some y1 ∧ DataW.trod enc P W 0 (fun _ => true) true n f2.type [v2] = some y2 := by
  obtain ⟨cs, rfl, hsz⟩ := okWide_struct hs hv
  obtain ⟨c0, c1, c2, rfl⟩ := array3 (hsz.trans hC)
  obtain ⟨fuel, hf⟩ := h
  obtain ⟨xs, n, _, hx, hl, hlen, hff⟩ := DataW.trod_struct hs hf
  match xs, hlen with
  | [y0, y1, y2], _ =>
    obtain ⟨o0, k0⟩ := hone_of hone 0 f0 rfl
    obtain ⟨o1, k1⟩ := hone_of hone 1 f1 rfl
    obtain ⟨o2, k2⟩ := hone_of hone 2 f2 rfl
    exact ⟨c0, c1, c2, y0, y1, y2, n, rfl, by simpa [Value.cells, o0, k0] using hff 0 f0 rfl, by simpa [Value.cells, o1, k1] using hff 1 f1 rfl, by simpa [Value.cells, o2, k2] using hff 2 f2 rfl⟩
theorem cell_i64 {P : Program} {t : TypeId} {n : Nat} {v : Value} {y : DataW H × List MemPlace} (ht : P.underlying t = some (.int .i64)) (h : DataW.trod enc P W 0 (fun _ => true) true n t [v] = some y) :
    ∃ x : Int, v = .int .i64 x ∧ i64b x := by
  obtain ⟨x, e, _, wx⟩ := DataW.trod_int ht h
  simp at e
  exact ⟨x, e, wf_bd wx⟩
theorem cells_head : Tryd.prog.cellsOf 23 = 3 := by kernel_rfl
theorem get_head (hv : Value.okWide Tryd.prog W r b0 23 v) (h : DataW.Trod enc Tryd.prog W 0 (fun _ => true) true 23 v d p) :
    ∃ x y z : Int, v = .agg #[.int .i64 x, .int .i64 y, .int .i64 z] ∧ i64b x ∧ i64b y ∧ i64b z := by
  obtain ⟨v0, v1, v2, y0, y1, y2, k, rfl, g0, g1, g2⟩ := open_agg3 Tryd.underlying23 (by kernel_rfl) cells_head hv h
  obtain ⟨x, rfl, bx⟩ := cell_i64 Tryd.underlying3 g0
  obtain ⟨y, rfl, b1⟩ := cell_i64 Tryd.underlying3 g1
  obtain ⟨z, rfl, bz⟩ := cell_i64 Tryd.underlying3 g2
  exact ⟨x, y, z, rfl, bx, b1, bz⟩
end

theorem own : ownKnob Tryd.prog.godebug = none := by kernel_rfl
theorem laidout : laidOutB Tryd.checked.prog = true := by kernel_rfl
theorem rowed : mapsRowed Tryd.checked.prog = true := by kernel_rfl
theorem full : ∀ t e, t < Tryd.checked.prog.types.size → Tryd.checked.prog.underlying t = some (.slice e) → 0 < Tryd.checked.prog.cellsOf e := slices_full_of _ (by kernel_rfl)

end Go.Proofs.YtgfccbamcehkcaaDoor
