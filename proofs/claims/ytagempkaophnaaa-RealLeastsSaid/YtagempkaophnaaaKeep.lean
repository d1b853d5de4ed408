/- A world in which all that lay there before lies as it lay; new blocks may hold anything. -/
import Derived.Test.YtagempkaophnaaaSlice
namespace Go.Proofs.Ytagempkaophnaaa
open Go.ChangeShapes Go.WideShapes Go.ChangeAt Go.RowKit

def Keeps (w w' : World) : Prop := w.keptBut w' (fun _ => False) ∧ w.heap.size ≤ w'.heap.size

theorem Keeps.of_grown {w w' : World} (g : Grown w w') : Keeps w w' := ⟨g.1, g.2.2⟩
theorem Keeps.of_below {w w' : World} (g : Below w.heap.size w w') : Keeps w w' := ⟨g.frame _, g.size⟩
theorem Keeps.trans {a b c : World} (h : Keeps a b) (g : Keeps b c) : Keeps a c := ⟨World.keptBut_trans h.1 g.1, Nat.le_trans h.2 g.2⟩
theorem Keeps.grown {a b c : World} (h : Keeps a b) (g : Grown b c) : Keeps a c := h.trans (.of_grown g)

theorem cell_keeps {w w' : World} (g : Keeps w w') {a : Addr} {v : Value} (h : w.cell? a = some v) : w'.cell? a = some v := by
  obtain ⟨hb, hs⟩ := cell_block h
  obtain ⟨b, off, spot⟩ := a
  have hs' : spot = none := hs
  subst hs'
  rw [World.keptBut.cell g.1 hb (fun f => f), h]

section
variable {H : Type} {enc : TypeId × Value → H}
theorem post_keeps {P : Program} {f : Func} {s : ChangeSpec} {apart fresh handsOn : Bool} {W W' : World} {args : Array Value} {v : Value} {ds gs : List (DataW H)} {before pa pv : List MemPlace}
    (hW : DataW.Whole enc P f.params.toList s.vars apart W args.toList ds gs before)
    (hres : ∀ (b : Nat) (sp : Nat → Bool) (hd : Bool), DataW.TrodAll enc P W' b sp hd f.resultTypes.toList (v.resultList f.resultTypes.size) (s.fn H (ds ++ gs)).results [])
    (hargs : ∀ sp : Nat → Bool, (∀ p ∈ before, sp p.block = true) → DataW.TrodAll enc P W' 0 sp true f.params.toList args.toList (s.fn H (ds ++ gs)).args pa)
    (hvars : ∀ sp : Nat → Bool, (∀ p ∈ before, sp p.block = true) → DataW.TrodVars enc P W' sp s.vars (s.fn H (ds ++ gs)).vars pv)
    (hps : before = pa ++ pv) (hk : W.keptBut W' (· ∈ before)) :
    s.post enc P f apart fresh handsOn false W args v W' := by
  have hold : ∀ p ∈ before, (fun b => decide (b < W.heap.size)) p.block = true := fun p hp => by simpa using hW.lt p hp
  refine ⟨ds, gs, before, [], pa, pv, hW, hres _ _ _, hargs _ hold, hvars _ hold, World.keptBut_mono (fun p hp => ⟨hp, ?_⟩) hk, fun h => by cases h⟩
  rw [hps, List.mem_append] at hp
  exact Or.inr hp

theorem again_keeps {T E : TypeId} {k : IntKind} {W W' : World} {a : Addr} {len cap : Nat} {zs : List Int} (ht : Try.prog.underlying T = some (.slice E)) (he : Try.prog.underlying E = some (.int k)) (hc : Try.prog.cellsOf E = 1)
    (g : Keeps W W') (hl : len ≤ cap) (hm : cap ≤ maxLen) (hz : zs.length = cap) (hcell : ∀ i, i < zs.length → W.cell? (a.add i) = some (.int k (zs.getD i 0))) (hwz : ∀ n ∈ zs, (Lit.int k n).wf = true)
    (sp : Nat → Bool) (hsp : ∀ p ∈ MemPlace.row a zs.length, sp p.block = true) :
    DataW.Trod enc Try.prog W' 0 sp true T (.slice (some a) len cap) (.slice (lits k (zs.take len)) (lits k (zs.drop len))) (MemPlace.row a zs.length) := by
  have hcell' : ∀ i, i < zs.length → W'.cell? (a.add i) = some (.int k (zs.getD i 0)) := fun i hi => cell_keeps g (hcell i hi)
  by_cases hz0 : zs.length = 0
  · have hc0 : cap = 0 := by omega
    have hl0 : len = 0 := by omega
    subst hc0; subst hl0
    have t0 := shut_ints (enc := enc) (w := W') (base := 0) (spare := sp) (held := true) (a := a) (len := 0) (cap := 0) (zs := zs) 0 ht he hc (Nat.zero_le _) (Nat.le_refl _) hm (by simp [hz0]) hcell' hwz
    exact ⟨2, by simpa [Value.cells] using t0⟩
  · have hspb : sp a.block = true := by
      have := hsp (.cell a.block a.off) (MemPlace.mem_row.2 ⟨0, by omega, by simp⟩)
      exact this
    have t0 := shut_ints (enc := enc) (w := W') (base := 0) (spare := sp) (held := true) (a := a) (len := len) (cap := cap) (zs := zs) 0 ht he hc (Nat.zero_le _) hl hm (by simp [hspb, hz]) hcell' hwz
    exact ⟨2, by simpa [Value.cells] using t0⟩
end

/-- a slice of numbers -/
def Nums (w : World) (v : Value) (n : Nat) (f : Nat → Int) : Prop :=
  (n = 0 ∧ ∃ p cap, v = .slice p 0 cap) ∨
  ∃ b off cap, v = .slice (some ⟨b, off, none⟩) n cap ∧ 1 ≤ n ∧ n ≤ cap ∧ cap ≤ 9223372036854775807 ∧ ∀ j, j < n → w.cell? ⟨b, off + j, none⟩ = some (.int .i64 (f j))

theorem nums_of {W : World} {a : Addr} {len cap : Nat} {zs : List Int} (hl : len ≤ cap) (hm : cap ≤ maxLen) (hz : zs.length = cap) (hcell : ∀ i, i < zs.length → W.cell? (a.add i) = some (.int .i64 (zs.getD i 0))) (hwz : ∀ n ∈ zs, (Lit.int .i64 n).wf = true) :
    Nums W (.slice (some a) len cap) len (fun j => zs.getD j 0) ∧ (∀ j, -9223372036854775808 ≤ zs.getD j 0 ∧ zs.getD j 0 ≤ 9223372036854775807) := by
  have bd : ∀ j, -9223372036854775808 ≤ zs.getD j 0 ∧ zs.getD j 0 ≤ 9223372036854775807 := by
    intro j
    rw [List.getD_eq_getElem?_getD]
    by_cases c : j < zs.length
    · rw [List.getElem?_eq_getElem c]
      exact wf_bd (hwz _ (List.getElem_mem c))
    · rw [List.getElem?_eq_none (by omega)]
      exact (by omega : (-9223372036854775808 : Int) ≤ 0 ∧ (0 : Int) ≤ 9223372036854775807)
  refine ⟨?_, bd⟩
  by_cases c : len = 0
  · subst c; exact Or.inl ⟨rfl, some a, cap, rfl⟩
  · obtain ⟨b, off, rfl, h⟩ := ints_at hcell (by omega)
    exact Or.inr ⟨b, off, cap, rfl, by omega, hl, by unfold maxLen at hm; omega, fun j hj => h j (by omega)⟩

theorem nums_nil (W : World) (f : Nat → Int) : Nums W (.slice none 0 0) 0 f := Or.inl ⟨rfl, none, 0, rfl⟩

end Go.Proofs.Ytagempkaophnaaa
