/- The rows of the laws: the table out of the condition, a law's row out of its walk, single parameters opened. -/
import Derived.Test.YtebcmfggmlapdaaDoorAw
import Derived.ReadAgain
import Derived.ChangeBears
import Derived.ChangeSlices
import Derived.Lib.SmallJoins
import Derived.SizedLaws
import Derived.LaidMore
import Derived.Stop.Joined
import Derived.LaidLaws
import Derived.Test.YtebcmfggmlapdaaDoorCards
import Derived.Test.YtebcmfggmlapdaaDoorTie
import Derived.SevenTiedAt
namespace Go.Proofs.YtebcmfggmlapdaaDoor
open Go.ChangeShapes Go.WideShapes Go.ChangeAt Go.RowKit Go.Joins

section
variable {H : Type} {enc : TypeId × Value → H} {P : Program}

theorem trodAll_carry {W W' : World} {spare : Nat → Bool} : ∀ {ts : List TypeId} {vs : List Value} {ds : List (DataW H)} {ps : List MemPlace},
    DataW.TrodAll enc P W 0 spare true ts vs ds ps → (∀ p ∈ ps, W.sameAt W' p) → DataW.TrodAll enc P W' 0 spare true ts vs ds ps
  | [], _, _, _, h, _ => by obtain ⟨rfl, rfl, rfl⟩ := trodAll_nil h; exact trodAll_mk0
  | _ :: _, _, _, _, h, hs => by
    obtain ⟨v, vs, d, ds, p, q, rfl, rfl, rfl, ⟨n, hn⟩, h2⟩ := trodAll_cons h
    exact ⟨p, q, ⟨n, DataW.trod_carry n _ _ _ hn fun x hx => hs x (List.mem_append_left _ hx)⟩, trodAll_carry h2 fun x hx => hs x (List.mem_append_right _ hx), rfl⟩

/-- all that lay there lies as it lay: then the arguments read as they read -/
theorem post_law (K : Kids P (· < P.types.size)) (full : ∀ t e, t < P.types.size → P.underlying t = some (.slice e) → 0 < P.cellsOf e)
    {f : Func} {s : ChangeSpec} {apart fresh handsOn : Bool} {W W' : World} {args : Array Value} {ds gs : List (DataW H)} {before : List MemPlace} {tb : TypeId}
    (hW : DataW.Whole enc P f.params.toList s.vars apart W args.toList ds gs before) (hT : ∀ t ∈ f.params.toList, t < P.types.size)
    (hv : s.vars = []) (hr : f.resultTypes = #[tb]) (hb : P.underlying tb = some .bool) (hs : s.fn H (ds ++ gs) = { results := [.lit (.bool true)], args := ds }) (g : Below W.heap.size W W') :
    s.post enc P f apart fresh handsOn false W args (.bool true) W' := by
  have hW' := hW
  obtain ⟨p, q, hA, hV, rfl, hfz, hnd⟩ := hW
  rw [hv] at hV
  obtain ⟨rfl, rfl⟩ := trodVars_none hV
  have hlt : ∀ x ∈ p, x.block < W.heap.size := fun x hx => hW'.lt x (List.mem_append_left _ hx)
  refine ⟨ds, [], p ++ [], [], p, [], hW', ?_, ?_, ?_, World.keptBut_mono (fun x hx => hx.elim) (g.frame (fun _ => False)), fun h => by cases h⟩
  · rw [hs, hr]
    exact trodAll_cons_mk (shut_bool hb true) trodAll_mk0
  · rw [hs]
    exact DataW.TrodAll.respare K full hT (trodAll_carry hA fun x hx => Below.same g (hlt x hx)) fun x hx => decide_eq_true (hlt x hx)
  · rw [hs, hv]
    rfl
end

/-- the row of a law whose program reads a table, out of its walk -/
theorem lift_laid {C : Checked} {os : Os} (own : ownKnob C.prog.godebug = none) (started : os.Started) {fn : FuncId} {f : Func} (noInit : C.prog.inits.idxOf? fn = none) (hfn : C.prog.funcs[fn]? = some f)
    {H : Type} {enc : TypeId × Value → H} {s : ChangeSpec} {tb : TypeId} {X : World → Prop} (hX : ∀ (w w' : World), w.heap = w'.heap → X w → X w') (hl : laidOutB C.prog = true) (hm : mapsRowed C.prog = true)
    (full : ∀ t e, t < C.prog.types.size → C.prog.underlying t = some (.slice e) → 0 < C.prog.cellsOf e) (hT : ∀ t ∈ f.params.toList, t < C.prog.types.size)
    (hv : s.vars = []) (hr : f.resultTypes = #[tb]) (hb : C.prog.underlying tb = some .bool) (hs : ∀ ds : List (DataW H), ds.length = f.params.toList.length → s.fn H ds = { results := [.lit (.bool true)], args := ds })
    (witness : ∃ (w : World) (tape : Tape) (i : Input), w.os = os ∧ (w.forCall tape i).Shaped C.prog ∧ i.vars = [] ∧ Input.okWide C.prog (w.forCall tape i) .any w.heap.size fn i ∧
      ((s.pre enc C.prog f [] false (w.forCall tape i).memory i.args ∧ X (w.forCall tape i).memory) ∧ sizedMet enc C.prog f (OpenSpec.ofChange s) false (w.forCall tape i).memory i.args) ∧ ({} : Assume).holds C.prog (lone (Frame.enter C.prog fn i.args .normal) [] (w.forCall tape i)))
    (walk : ∀ (W : World) (base : Nat) (args : Array Value) (ds : List (DataW H)) (p : List MemPlace), (∀ (j : Nat) t v, f.params[j]? = some t → args[j]? = some v → Value.okWide C.prog W .any base t v) →
      DataW.TrodAll enc C.prog W 0 (fun _ => true) true f.params.toList args.toList ds p → X W → Calls C.prog fn args W fun e W' => e = .returned (.bool true) ∧ Below W.heap.size W W') :
    ReturnsInHanded {} C os fn .any (fun w args => (s.pre enc C.prog f [] false w args ∧ X w) ∧ sizedMet enc C.prog f (OpenSpec.ofChange s) false w args) (s.post enc C.prog f false true false false) := by
  refine returnsInHanded_of_change_and (X := fun w _ => X w) (fun w w' _ h => hX w w' h) own started noInit hfn witness ?_
  intro W base args ds gs before hval hW _ _ hXW _
  have hW' := hW
  obtain ⟨p, q, hA, hV, hbf, hfz, hnd⟩ := hW
  have len : ∀ {ts : List TypeId} {vs : List Value} {ds : List (DataW H)} {p : List MemPlace}, DataW.TrodAll enc C.prog W 0 (fun _ => true) true ts vs ds p → ds.length = ts.length := by
    intro ts
    induction ts with
    | nil => intro vs ds p h; obtain ⟨_, rfl, _⟩ := trodAll_nil h; rfl
    | cons t ts ih => intro vs ds p h; obtain ⟨v, vs, d, ds, p, q, rfl, rfl, rfl, h1, h2⟩ := trodAll_cons h; rw [List.length_cons, List.length_cons, ih h2]
  refine (walk W base args ds p hval hA hXW).mono fun e W' ⟨he, hg⟩ => ⟨_, he, post_law (kids_rows hl hm) full hW' hT hv hr hb ?_ hg⟩
  rw [hv] at hV
  obtain ⟨rfl, _⟩ := trodVars_none hV
  rw [List.append_nil]
  exact hs ds (len hA)

/-! The table. -/
abbrev theLaid : List (String × DataW Unit) := [("math/bits.deBruijn64tab", Rows.laid_math_bits_deBruijn64tab)]
/-- what the rows ask of the start -/
def Met (W : World) : Prop := laidMetH Tryd.prog theLaid W

theorem gTab : Tryd.prog.globalNamed "math/bits.deBruijn64tab" = some 0 := by kernel_rfl
theorem tTab : (Tryd.prog.globals[0]?).map (·.type) = some 69 := by kernel_rfl
theorem cells5 : Tryd.prog.cellsOf 5 = 1 := by kernel_rfl
theorem listed : (Rows.laid_math_bits_deBruijn64tab : DataW Unit) = .agg (Lib.deBruijn64tab.map fun (n : Nat) => .lit (.int .u8 (n : Int))) := rfl

theorem Met.tab {W : World} (h : Met W) : TabAt W := by
  unfold Met at h
  rw [MakeChecks.laidMetH_plain _ _ _ (by kernel_rfl)] at h
  obtain ⟨ps, ⟨g0, t0, cs0, f0, p0, q0, hg0, ht0, hv0, hd0, _, _⟩, _, _⟩ := h
  obtain rfl := Option.some.inj (gTab.symm.trans hg0)
  obtain rfl := Option.some.inj (tTab.symm.trans ht0)
  obtain ⟨xs, m1, rfl, hx1, hlen, hn, hel⟩ := DataW.trod_array Tryd.underlying69 hd0
  intro j hj
  have hj' := hel j hj
  have hjx : j < xs.length := by omega
  rw [List.getElem?_eq_getElem hjx, cells5, Nat.mul_one] at hj'
  obtain ⟨k, e1, e2, _⟩ := DataW.trod_int Tryd.underlying5 hj'
  have hc := World.var?_cell hg0 hv0 j
  have e3 : cs0.toList[j]? = some (.int .u8 k) := by
    have := congrArg (fun l => l[0]?) e1
    simpa using this
  rw [Array.getElem?_toList] at e3
  rw [hc, e3]
  have hx2 : Rows.laid_math_bits_deBruijn64tab = DataW.agg (xs.map (·.1)) := (Prod.mk.inj hx1).1
  rw [listed] at hx2
  have hx3 := DataW.agg.inj hx2
  have hx4 := congrArg (fun l => l[j]?) hx3
  simp only [List.getElem?_map, List.getElem?_eq_getElem hjx, Option.map_some, e2] at hx4
  have hjl : j < Lib.deBruijn64tab.length := hj
  rw [List.getElem?_eq_getElem hjl] at hx4
  simp only [Option.map_some, Option.some.injEq, DataW.lit.injEq, Lit.int.injEq, true_and] at hx4
  rw [← hx4]
  rw [List.getD_eq_getElem?_getD, List.getElem?_eq_getElem hjl]
  rfl

theorem Met.heap {w w' : World} (hh : w.heap = w'.heap) (h : Met w) : Met w' := laidMetH.of_heap hh h

theorem door_met (os : Os) (args : Array Value) : Met ((World.doorLaid Tryd.prog 400 os).forCall (fun _ _ => 0) ⟨#[], args, []⟩).memory :=
  laidMetH_of_parts3 (fuel := 8) (laidMet_of_run' 8 (by kernel_rfl) (by kernel_rfl)) (by kernel_rfl) (by kernel_rfl)

/-! Single parameters. -/
theorem wf_bd {a : Int} (h : (Lit.int .i64 a).wf = true) : -9223372036854775808 ≤ a ∧ a ≤ 9223372036854775807 := bounds_i64 h
section
variable {H : Type} {enc : TypeId × Value → H} {W : World} {r : Reach} {b0 : Nat} {v : Value} {d : DataW H} {p : List MemPlace}

theorem get_u16 (hv : Value.okWide Tryd.prog W r b0 41 v) (h : DataW.Trod enc Tryd.prog W 0 (fun _ => true) true 41 v d p) :
    ∃ n : Nat, v = .int .u16 (n : Nat) ∧ n < 65536 := by
  obtain ⟨x, rfl, _, _, wx⟩ := open_int Tryd.underlying41 hv h
  have b := bounds_u16 wx
  exact ⟨x.toNat, by congr 1; omega, by omega⟩

theorem get_i64 (hv : Value.okWide Tryd.prog W r b0 3 v) (h : DataW.Trod enc Tryd.prog W 0 (fun _ => true) true 3 v d p) :
    ∃ x : Int, v = .int .i64 x ∧ -9223372036854775808 ≤ x ∧ x ≤ 9223372036854775807 := by
  obtain ⟨x, rfl, _, _, wx⟩ := open_int Tryd.underlying3 hv h
  exact ⟨x, rfl, wf_bd wx⟩

theorem get_bool (hv : Value.okWide Tryd.prog W r b0 4 v) (h : DataW.Trod enc Tryd.prog W 0 (fun _ => true) true 4 v d p) :
    ∃ x : Bool, v = .bool x := by
  obtain ⟨x, rfl, _⟩ := open_bool Tryd.underlying4 hv h
  exact ⟨x, rfl⟩

theorem cells41 : Tryd.prog.cellsOf 41 = 1 := by kernel_rfl

theorem getD_b {zs : List Int} {lo hi : Int} (h0 : lo ≤ 0) (h1 : 0 ≤ hi) (h : ∀ n ∈ zs, lo ≤ n ∧ n ≤ hi) (j : Nat) : lo ≤ zs.getD j 0 ∧ zs.getD j 0 ≤ hi := by
  rw [List.getD_eq_getElem?_getD]
  by_cases c : j < zs.length
  · rw [List.getElem?_eq_getElem c]; exact h _ (List.getElem_mem c)
  · rw [List.getElem?_eq_none (by omega)]; exact ⟨h0, h1⟩

theorem get_u16s (hv : Value.okWide Tryd.prog W r b0 42 v) (h : DataW.Trod enc Tryd.prog W 0 (fun _ => true) true 42 v d p) :
    ∃ (n : Nat) (g : Nat → Nat), U16s W v n g ∧ (∀ j, g j < 65536) ∧ n ≤ 9223372036854775807 := by
  obtain ⟨a0, l0, c0, rfl⟩ := okWide_slice Tryd.underlying42 hv
  obtain ⟨fuel, hfu⟩ := h
  rcases open_ints Tryd.underlying42 Tryd.underlying41 cells41 hfu with ⟨hcs, _⟩ | ⟨a, len, cap, zs, hcs, _, hl, hm, hz, _, hcell, hwz⟩
  · simp [Value.cells] at hcs
    obtain ⟨rfl, rfl, rfl⟩ := hcs
    exact ⟨0, fun _ => 0, Or.inl ⟨rfl, none, 0, rfl⟩, fun _ => (by omega : (0 : Nat) < 65536), by omega⟩
  · simp [Value.cells] at hcs
    obtain ⟨rfl, rfl, rfl⟩ := hcs
    simp only [if_true] at hz
    have bd := getD_b (zs := zs) (lo := 0) (hi := 65535) (by omega) (by omega) fun n hn => bounds_u16 (hwz n hn)
    refine ⟨l0, fun j => (zs.getD j 0).toNat, ?_, fun j => (by have := bd j; omega : (zs.getD j 0).toNat < 65536), by unfold maxLen at hm; omega⟩
    by_cases c : l0 = 0
    · exact Or.inl ⟨c, some a, c0, by rw [c]⟩
    · obtain ⟨b, off, rfl, hx⟩ := ints_at hcell (by omega)
      refine Or.inr ⟨b, off, c0, rfl, by omega, hl, by unfold maxLen at hm; omega, fun j hj => ?_⟩
      rw [hx j (by omega)]
      have := bd j
      show _ = some (Value.int .u16 (((zs.getD j 0).toNat : Nat) : Int))
      rw [Int.toNat_of_nonneg this.1]
end

theorem own : ownKnob Tryd.prog.godebug = none := by kernel_rfl
theorem laidout : laidOutB Tryd.checked.prog = true := by kernel_rfl
theorem rowed : mapsRowed Tryd.checked.prog = true := by kernel_rfl
theorem full : ∀ t e, t < Tryd.checked.prog.types.size → Tryd.checked.prog.underlying t = some (.slice e) → 0 < Tryd.checked.prog.cellsOf e := slices_full_of _ (by kernel_rfl)

end Go.Proofs.YtebcmfggmlapdaaDoor
