/- Single parameters, opened: numbers, words, structs of them, slices of them. -/
import Derived.Test.YtdenpmckekcokaaRowk
import Derived.Test.YtdenpmckekcokaaAwake
namespace Go.Proofs.Ytdenpmckekcokaa
open Go.ChangeShapes Go.WideShapes Go.ChangeAt Go.RowKit Go.Joins

section
variable {H : Type} {enc : TypeId × Value → H} {P : Program} {W : World} {r : Reach} {b0 : Nat} {v : Value} {d : DataW H} {p : List MemPlace}

theorem get_u64 {t : TypeId} (ht : P.underlying t = some (.int .u64)) (hv : Value.okWide P W r b0 t v) (h : DataW.Trod enc P W 0 (fun _ => true) true t v d p) :
    ∃ n : Nat, v = .int .u64 (n : Nat) ∧ n < 18446744073709551616 := by
  obtain ⟨x, rfl, _, _, wx⟩ := open_int ht hv h
  have b := wf_ubd wx
  exact ⟨x.toNat, by congr 1; omega, by omega⟩

theorem get_i64 {t : TypeId} (ht : P.underlying t = some (.int .i64)) (hv : Value.okWide P W r b0 t v) (h : DataW.Trod enc P W 0 (fun _ => true) true t v d p) :
    ∃ x : Int, v = .int .i64 x ∧ -9223372036854775808 ≤ x ∧ x ≤ 9223372036854775807 := by
  obtain ⟨x, rfl, _, _, wx⟩ := open_int ht hv h
  exact ⟨x, rfl, wf_bd wx⟩

theorem getD_b {zs : List Int} {lo hi : Int} (h0 : lo ≤ 0) (h1 : 0 ≤ hi) (h : ∀ n ∈ zs, lo ≤ n ∧ n ≤ hi) (j : Nat) : lo ≤ zs.getD j 0 ∧ zs.getD j 0 ≤ hi := by
  rw [List.getD_eq_getElem?_getD]
  by_cases c : j < zs.length
  · rw [List.getElem?_eq_getElem c]; exact h _ (List.getElem_mem c)
  · rw [List.getElem?_eq_none (by omega)]; exact ⟨h0, h1⟩

theorem get_words {T E : TypeId} (ht : P.underlying T = some (.slice E)) (he : P.underlying E = some (.int .u64)) (hc : P.cellsOf E = 1) (hv : Value.okWide P W r b0 T v) (h : DataW.Trod enc P W 0 (fun _ => true) true T v d p) :
    ∃ (n : Nat) (g : Nat → Nat), Words W v n g ∧ (∀ j, g j < 18446744073709551616) ∧ n ≤ 9223372036854775807 := by
  obtain ⟨a0, l0, c0, rfl⟩ := okWide_slice ht hv
  obtain ⟨fuel, hfu⟩ := h
  rcases open_ints ht he hc hfu with ⟨hcs, _⟩ | ⟨a, len, cap, zs, hcs, _, hl, hm, hz, _, hcell, hwz⟩
  · simp [Value.cells] at hcs
    obtain ⟨rfl, rfl, rfl⟩ := hcs
    exact ⟨0, fun _ => 0, Or.inl ⟨rfl, none, 0, rfl⟩, fun _ => (by omega : (0 : Nat) < 18446744073709551616), by omega⟩
  · simp [Value.cells] at hcs
    obtain ⟨rfl, rfl, rfl⟩ := hcs
    simp only [if_true] at hz
    have bd := getD_b (zs := zs) (lo := 0) (hi := 18446744073709551615) (by omega) (by omega) fun n hn => wf_ubd (hwz n hn)
    refine ⟨l0, fun j => (zs.getD j 0).toNat, ?_, fun j => (by have := bd j; omega : (zs.getD j 0).toNat < 18446744073709551616), by unfold maxLen at hm; omega⟩
    by_cases c : l0 = 0
    · exact Or.inl ⟨c, some a, c0, by rw [c]⟩
    · obtain ⟨b, off, rfl, hx⟩ := ints_at hcell (by omega)
      refine Or.inr ⟨b, off, c0, rfl, by omega, hl, by unfold maxLen at hm; omega, fun j hj => ?_⟩
      rw [hx j (by omega)]
      have := bd j
      show _ = some (Value.int .u64 (((zs.getD j 0).toNat : Nat) : Int))
      rw [Int.toNat_of_nonneg this.1]

theorem get_nums {T E : TypeId} (ht : P.underlying T = some (.slice E)) (he : P.underlying E = some (.int .i64)) (hc : P.cellsOf E = 1) (hv : Value.okWide P W r b0 T v) (h : DataW.Trod enc P W 0 (fun _ => true) true T v d p) :
    ∃ (n : Nat) (F : Nat → Int), Nums W v n F ∧ (∀ j, -9223372036854775808 ≤ F j ∧ F j ≤ 9223372036854775807) ∧ n ≤ 9223372036854775807 := by
  obtain ⟨a0, l0, c0, rfl⟩ := okWide_slice ht hv
  obtain ⟨fuel, hfu⟩ := h
  rcases open_ints ht he hc hfu with ⟨hcs, _⟩ | ⟨a, len, cap, zs, hcs, _, hl, hm, hz, _, hcell, hwz⟩
  · simp [Value.cells] at hcs
    obtain ⟨rfl, rfl, rfl⟩ := hcs
    exact ⟨0, fun _ => 0, Or.inl ⟨rfl, none, 0, rfl⟩, fun _ => (by omega : (-9223372036854775808 : Int) ≤ 0 ∧ (0 : Int) ≤ 9223372036854775807), by omega⟩
  · simp [Value.cells] at hcs
    obtain ⟨rfl, rfl, rfl⟩ := hcs
    simp only [if_true] at hz
    have bd := getD_b (zs := zs) (lo := -9223372036854775808) (hi := 9223372036854775807) (by omega) (by omega) fun n hn => wf_bd (hwz n hn)
    refine ⟨l0, fun j => zs.getD j 0, ?_, bd, by unfold maxLen at hm; omega⟩
    by_cases c : l0 = 0
    · exact Or.inl ⟨c, some a, c0, by rw [c]⟩
    · obtain ⟨b, off, rfl, hx⟩ := ints_at hcell (by omega)
      exact Or.inr ⟨b, off, c0, rfl, by omega, hl, by unfold maxLen at hm; omega, fun j hj => hx j (by omega)⟩
end

theorem cells24 : Try.prog.cellsOf 24 = 3 := by kernel_rfl

theorem get_part {H : Type} {enc : TypeId × Value → H} {W : World} {r : Reach} {b0 : Nat} {v : Value} {d : DataW H} {p : List MemPlace} (hv : Value.okWide Try.prog W r b0 24 v) (h : DataW.Trod enc Try.prog W 0 (fun _ => true) true 24 v d p) :
    ∃ (f m : Int) (x : Nat), v = .agg #[.int .i64 f, .int .i64 m, .int .u64 (x : Nat)] ∧ -9223372036854775808 ≤ f ∧ f ≤ 9223372036854775807 ∧ -9223372036854775808 ≤ m ∧ m ≤ 9223372036854775807 ∧ x < 18446744073709551616 := by
  obtain ⟨c0, c1, c2, y0, y1, y2, m, rfl, _, _, hy0, hy1, hy2⟩ := open_agg3 Try.underlying24 (by kernel_rfl) cells24 hv h
  obtain ⟨x, e0, _, wx⟩ := DataW.trod_int Try.underlying3 hy0
  obtain ⟨y, e1, _, wy⟩ := DataW.trod_int Try.underlying3 hy1
  obtain ⟨z, e2, _, wz⟩ := DataW.trod_int Try.underlying22 hy2
  simp at e0 e1 e2
  subst e0 e1 e2
  have bx := wf_bd wx
  have bz := wf_ubd wz
  have byy := wf_bd wy
  refine ⟨x, y, z.toNat, ?_, bx.1, bx.2, byy.1, byy.2, by omega⟩
  rw [Int.toNat_of_nonneg bz.1]

theorem agg_at {w W' : World} {cs : Array Value} {t : TypeId} (h : Bel (w.alloc (.cells cs t)) W') (j : Nat) : W'.cell? ⟨w.heap.size, j, none⟩ = cs[j]? := by
  rw [Below.cell (p := ⟨w.heap.size, j, none⟩) h (by show w.heap.size < (w.heap.push _).size; simp)]
  exact cell_of_row _ _ j cs t (0, 0) (heap_alloc_new w _)

theorem part_at {w W' : World} {f m x : Int} (h : Bel (w.alloc (.cells #[.int .i64 f, .int .i64 m, .int .u64 x] 24)) W') :
    W'.cell? ⟨w.heap.size, 0, none⟩ = some (.int .i64 f) ∧ W'.cell? ⟨w.heap.size, 1, none⟩ = some (.int .i64 m) ∧ W'.cell? ⟨w.heap.size, 2, none⟩ = some (.int .u64 x) :=
  ⟨agg_at h 0, agg_at h 1, agg_at h 2⟩

theorem own : ownKnob Try.prog.godebug = none := by kernel_rfl
theorem laid : laidOutB Try.checked.prog = true := by kernel_rfl
theorem rowed : mapsRowed Try.checked.prog = true := by kernel_rfl
theorem full : ∀ t e, t < Try.checked.prog.types.size → Try.checked.prog.underlying t = some (.slice e) → 0 < Try.checked.prog.cellsOf e := slices_full_of _ (by kernel_rfl)

end Go.Proofs.Ytdenpmckekcokaa
