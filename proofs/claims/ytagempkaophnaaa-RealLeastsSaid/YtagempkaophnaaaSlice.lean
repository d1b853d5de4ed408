/- Slices of words among the arguments: what they hold while the world grows, and that they read as before. -/
import Derived.Test.YtagempkaophnaaaTwo
import Derived.OpenShut
import Derived.ChangeSlices
namespace Go.Proofs.Ytagempkaophnaaa
open Go.ChangeShapes Go.WideShapes Go.ChangeAt Go.RowKit

theorem cells22 : Try.prog.cellsOf 22 = 1 := by kernel_rfl
theorem cells2 : Try.prog.cellsOf 2 = 1 := by kernel_rfl

theorem cell_block {w : World} {a : Addr} {v : Value} (h : w.cell? a = some v) : a.block < w.heap.size ∧ a.spot = none := by
  unfold World.cell? at h
  by_cases c : a.block < w.heap.size
  · refine ⟨c, ?_⟩
    split at h
    · split at h
      · cases h
      · rename_i hs
        cases hh : a.spot
        · rfl
        · rw [hh] at hs; exact absurd rfl hs
    · cases h
  · have e : w.heap[a.block]? = none := by rw [Array.getElem?_eq_none_iff]; omega
    rw [e] at h; cases h

theorem cell_grown {w w' : World} (g : Grown w w') {a : Addr} {v : Value} (h : w.cell? a = some v) : w'.cell? a = some v := by
  obtain ⟨hb, hs⟩ := cell_block h
  obtain ⟨b, off, spot⟩ := a
  have hs' : spot = none := hs
  subst hs'
  rw [World.keptBut.cell g.1 hb (fun f => f), h]

theorem Words.grown {w w' : World} {v : Value} {n : Nat} {f : Nat → Nat} (h : Words w v n f) (g : Grown w w') : Words w' v n f := by
  rcases h with h | ⟨b, off, cap, h1, h2, h3, h4, h5⟩
  · exact Or.inl h
  · exact Or.inr ⟨b, off, cap, h1, h2, h3, h4, fun j hj => cell_grown g (h5 j hj)⟩

theorem sumG {v : Value} {n : Nat} {f : Nat → Nat} {w wr : World} (h : Words w v n f) (hf : ∀ j, f j < 18446744073709551616) (g : Grown w wr) :
    Calls Try.prog 24 #[v] wr fun e w' => e = .returned (.int .u64 (sumN f n : Nat)) ∧ Grown w w' :=
  (sum_any v n f wr (h.grown g) hf).mono fun _ _ ⟨p, q⟩ => ⟨p, grown_trans g q.2⟩
theorem rsumG {v : Value} {n : Nat} {f : Nat → Nat} {w wr : World} (h : Words w v n f) (hf : ∀ j, f j < 18446744073709551616) (g : Grown w wr) :
    Calls Try.prog 25 #[v] wr fun e w' => e = .returned (.int .u64 (sumN f n : Nat)) ∧ Grown w w' :=
  (rsum_any v n f wr (h.grown g) hf).mono fun _ _ ⟨p, q⟩ => ⟨p, grown_trans g q.2⟩
theorem leastG {v : Value} {n : Nat} {f : Nat → Nat} {w wr : World} (h : Words w v n f) (hf : ∀ j, f j < 18446744073709551616) (g : Grown w wr) :
    Calls Try.prog 26 #[v] wr fun e w' => e = .returned (.int .u64 (leastN f n : Nat)) ∧ w' = wr :=
  least_any v n f wr (h.grown g) hf
theorem rleastG {v : Value} {n : Nat} {f : Nat → Nat} {w wr : World} (h : Words w v n f) (hf : ∀ j, f j < 18446744073709551616) (g : Grown w wr) :
    Calls Try.prog 27 #[v] wr fun e w' => e = .returned (.int .u64 (leastN f n : Nat)) ∧ w' = wr :=
  rleast_any v n f wr (h.grown g) hf

section
variable {H : Type} {enc : TypeId × Value → H}
theorem again_ints {T E : TypeId} {k : IntKind} {W W' : World} {a : Addr} {len cap : Nat} {zs : List Int} (ht : Try.prog.underlying T = some (.slice E)) (he : Try.prog.underlying E = some (.int k)) (hc : Try.prog.cellsOf E = 1)
    (g : Grown W W') (hl : len ≤ cap) (hm : cap ≤ maxLen) (hz : zs.length = cap) (hcell : ∀ i, i < zs.length → W.cell? (a.add i) = some (.int k (zs.getD i 0))) (hwz : ∀ n ∈ zs, (Lit.int k n).wf = true)
    (sp : Nat → Bool) (hsp : ∀ p ∈ MemPlace.row a zs.length, sp p.block = true) :
    DataW.Trod enc Try.prog W' 0 sp true T (.slice (some a) len cap) (.slice (lits k (zs.take len)) (lits k (zs.drop len))) (MemPlace.row a zs.length) := by
  have hcell' : ∀ i, i < zs.length → W'.cell? (a.add i) = some (.int k (zs.getD i 0)) := fun i hi => cell_grown g (hcell i hi)
  by_cases hz0 : zs.length = 0
  · have hc0 : cap = 0 := by omega
    have hl0 : len = 0 := by omega
    subst hc0; subst hl0
    have t0 := shut_ints (enc := enc) (w := W') (base := 0) (spare := sp) (held := true) (a := a) (len := 0) (cap := 0) (zs := zs) 0 ht he hc (Nat.zero_le _) (Nat.le_refl _) hm (by simp [hz0]) hcell' hwz
    exact ⟨2, by simpa [Value.cells] using t0⟩
  · have hspb : sp a.block = true := by
      have := hsp (.cell a.block a.off) (MemPlace.mem_row.2 ⟨0, by omega, by simp⟩)
      exact this
    have t0 := shut_ints (enc := enc) (w := W') (base := 0) (spare := sp) (held := true) (a := a) (len := len) (cap := cap) (zs := zs) 0 ht he hc (Nat.zero_le _) hl hm (by simp [hspb, hz]) hcell' hwz
    exact ⟨2, by simpa [Value.cells] using t0⟩
end

/-- the words of a slice that came in -/
theorem words_of {W : World} {a : Addr} {len cap : Nat} {zs : List Int} (hl : len ≤ cap) (hm : cap ≤ maxLen) (hz : zs.length = cap) (hcell : ∀ i, i < zs.length → W.cell? (a.add i) = some (.int .u64 (zs.getD i 0))) (hwz : ∀ n ∈ zs, (Lit.int .u64 n).wf = true) :
    Words W (.slice (some a) len cap) len (fun j => (zs.getD j 0).toNat) ∧ (∀ j, (zs.getD j 0).toNat < 18446744073709551616) := by
  have bd : ∀ j, 0 ≤ zs.getD j 0 ∧ zs.getD j 0 ≤ 18446744073709551615 := by
    intro j
    rw [List.getD_eq_getElem?_getD]
    by_cases c : j < zs.length
    · rw [List.getElem?_eq_getElem c]
      exact wf_ubd (hwz _ (List.getElem_mem c))
    · rw [List.getElem?_eq_none (by omega)]
      exact (by omega : (0 : Int) ≤ 0 ∧ (0 : Int) ≤ 18446744073709551615)
  refine ⟨?_, fun j => by have := bd j; omega⟩
  by_cases c : len = 0
  · subst c; exact Or.inl ⟨rfl, some a, cap, rfl⟩
  · obtain ⟨b, off, rfl, h⟩ := ints_at hcell (by omega)
    refine Or.inr ⟨b, off, cap, rfl, by omega, hl, by unfold maxLen at hm; omega, fun j hj => ?_⟩
    rw [h j (by omega), Int.toNat_of_nonneg (bd j).1]

theorem words_nil (W : World) (f : Nat → Nat) : Words W (.slice none 0 0) 0 f := Or.inl ⟨rfl, none, 0, rfl⟩

theorem le_max {n : Nat} (h : n ≤ maxLen) : n ≤ 9223372036854775807 := by unfold maxLen at h; omega

end Go.Proofs.Ytagempkaophnaaa
