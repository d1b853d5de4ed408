/- Single parameters, opened: numbers, slices of numbers; closed facts of the program. -/
import Derived.Test.YtacncopgmleoeaaRowk
import Derived.Test.YtacncopgmleoeaaAwake
namespace Go.Proofs.Ytacncopgmleoeaa
open Go.ChangeShapes Go.WideShapes Go.ChangeAt Go.RowKit Go.Joins

section
variable {H : Type} {enc : TypeId × Value → H} {P : Program} {W : World} {r : Reach} {b0 : Nat} {v : Value} {d : DataW H} {p : List MemPlace}

theorem get_i64 {t : TypeId} (ht : P.underlying t = some (.int .i64)) (hv : Value.okWide P W r b0 t v) (h : DataW.Trod enc P W 0 (fun _ => true) true t v d p) :
    ∃ x : Int, v = .int .i64 x ∧ -9223372036854775808 ≤ x ∧ x ≤ 9223372036854775807 := by
  obtain ⟨x, rfl, _, _, wx⟩ := open_int ht hv h
  exact ⟨x, rfl, wf_bd wx⟩

theorem getD_b {zs : List Int} {lo hi : Int} (h0 : lo ≤ 0) (h1 : 0 ≤ hi) (h : ∀ n ∈ zs, lo ≤ n ∧ n ≤ hi) (j : Nat) : lo ≤ zs.getD j 0 ∧ zs.getD j 0 ≤ hi := by
  rw [List.getD_eq_getElem?_getD]
  by_cases c : j < zs.length
  · rw [List.getElem?_eq_getElem c]; exact h _ (List.getElem_mem c)
  · rw [List.getElem?_eq_none (by omega)]; exact ⟨h0, h1⟩

theorem get_nums {T E : TypeId} (ht : P.underlying T = some (.slice E)) (he : P.underlying E = some (.int .i64)) (hc : P.cellsOf E = 1) (hv : Value.okWide P W r b0 T v) (h : DataW.Trod enc P W 0 (fun _ => true) true T v d p) :
    ∃ (n : Nat) (F : Nat → Int), Nums W v n F ∧ (∀ j, -9223372036854775808 ≤ F j ∧ F j ≤ 9223372036854775807) ∧ n ≤ 9223372036854775807 := by
  obtain ⟨a0, l0, c0, rfl⟩ := okWide_slice ht hv
  obtain ⟨fuel, hfu⟩ := h
  rcases open_ints ht he hc hfu with ⟨hcs, _⟩ | ⟨a, len, cap, zs, hcs, _, hl, hm, hz, _, hcell, hwz⟩
  · simp [Value.cells] at hcs
    obtain ⟨rfl, rfl, rfl⟩ := hcs
    exact ⟨0, fun _ => 0, Or.inl ⟨rfl, none, 0, rfl⟩, fun _ => (by omega : (-9223372036854775808 : Int) ≤ 0 ∧ (0 : Int) ≤ 9223372036854775807), by omega⟩
  · simp [Value.cells] at hcs
    obtain ⟨rfl, rfl, rfl⟩ := hcs
    simp only [if_true] at hz
    have bd := getD_b (zs := zs) (lo := -9223372036854775808) (hi := 9223372036854775807) (by omega) (by omega) fun n hn => wf_bd (hwz n hn)
    refine ⟨l0, fun j => zs.getD j 0, ?_, bd, by unfold maxLen at hm; omega⟩
    by_cases c : l0 = 0
    · exact Or.inl ⟨c, some a, c0, by rw [c]⟩
    · obtain ⟨b, off, rfl, hx⟩ := ints_at hcell (by omega)
      exact Or.inr ⟨b, off, c0, rfl, by omega, hl, by unfold maxLen at hm; omega, fun j hj => hx j (by omega)⟩
end

theorem cells3 : Try.prog.cellsOf 3 = 1 := by kernel_rfl
theorem own : ownKnob Try.prog.godebug = none := by kernel_rfl
theorem laid : laidOutB Try.checked.prog = true := by kernel_rfl
theorem rowed : mapsRowed Try.checked.prog = true := by kernel_rfl
theorem full : ∀ t e, t < Try.checked.prog.types.size → Try.checked.prog.underlying t = some (.slice e) → 0 < Try.checked.prog.cellsOf e := slices_full_of _ (by kernel_rfl)

end Go.Proofs.Ytacncopgmleoeaa
