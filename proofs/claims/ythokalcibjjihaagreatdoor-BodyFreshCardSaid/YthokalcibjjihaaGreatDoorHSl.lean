/- Slices of words and of numbers; worlds that lie as they lay below; the closure of Pack. -/
import Derived.Test.YthokalcibjjihaaGreatDoorHLow
import Derived.OpenShut
import Derived.ChangeSlices
import Derived.OwnWalk
import Derived.OneCell
import Derived.Carry
import Derived.Deep.RegionHeld3
namespace Go.Proofs.YthokalcibjjihaaGreatDoor.hd
open Go.ChangeShapes Go.WideShapes Go.ChangeAt Go.RowKit

theorem cells22 : Tryz.prog.cellsOf 42 = 1 := by kernel_rfl
theorem cells3 : Tryz.prog.cellsOf 3 = 1 := by kernel_rfl

/-- all that lay there lies as it lay -/
def Bel (w w' : World) : Prop := Below w.heap.size w w'

theorem Bel.refl (w : World) : Bel w w := Below.refl _ _
theorem Bel.trans {a b c : World} (h : Bel a b) (k : Bel b c) : Bel a c := Below.trans h (k.mono h.size)
theorem Bel.drewN (w : World) (n : Nat) : Bel w (w.drewN n) := ⟨rfl, rfl, rfl, Nat.le_refl _, fun _ _ => rfl⟩
theorem Bel.then_drewN {w w' : World} (h : Bel w w') (n : Nat) : Bel w (w'.drewN n) := h.trans (Bel.drewN w' n)
theorem Bel.drew {w w' : World} (h : Bel w w') : Bel w w'.drew := Below.drew h
theorem Bel.alloc {w w' : World} (h : Bel w w') (o : Obj) : Bel w (w'.alloc o) := Below.alloc h h.size o
theorem Bel.of_eq {w w' : World} (h : w' = w) : Bel w w' := h ▸ Bel.refl _
theorem Bel.of_drew {w w' : World} (h : ∃ q, w' = w.drewN q) : Bel w w' := by obtain ⟨q, rfl⟩ := h; exact Bel.drewN _ _

theorem cell_block {w : World} {a : Addr} {v : Value} (h : w.cell? a = some v) : a.block < w.heap.size ∧ a.spot = none := by
  unfold World.cell? at h
  by_cases c : a.block < w.heap.size
  · refine ⟨c, ?_⟩
    split at h
    · split at h
      · cases h
      · rename_i hs
        cases hh : a.spot
        · rfl
        · rw [hh] at hs; exact absurd rfl hs
    · cases h
  · have e : w.heap[a.block]? = none := by rw [Array.getElem?_eq_none_iff]; omega
    rw [e] at h; cases h

theorem cell_bel {w w' : World} (g : Bel w w') {a : Addr} {v : Value} (h : w.cell? a = some v) : w'.cell? a = some v := by
  rw [Below.cell g (cell_block h).1, h]

/-- a slice of cells -/
def Row (w : World) (v : Value) (n : Nat) (x : Nat → Value) : Prop :=
  (n = 0 ∧ ∃ p cap, v = .slice p 0 cap) ∨
  ∃ b off cap, v = .slice (some ⟨b, off, none⟩) n cap ∧ 1 ≤ n ∧ n ≤ cap ∧ cap ≤ 9223372036854775807 ∧ ∀ j, j < n → w.cell? ⟨b, off + j, none⟩ = some (x j)

/-- a slice of words -/
def Words (w : World) (v : Value) (n : Nat) (g : Nat → Nat) : Prop := Row w v n fun j => .int .u64 (g j : Nat)
/-- a slice of numbers -/
def Nums (w : World) (v : Value) (n : Nat) (F : Nat → Int) : Prop := Row w v n fun j => .int .i64 (F j)

theorem Row.bel {w w' : World} {v : Value} {n : Nat} {x : Nat → Value} (h : Row w v n x) (g : Bel w w') : Row w' v n x := by
  rcases h with h | ⟨b, off, cap, h1, h2, h3, h4, h5⟩
  · exact Or.inl h
  · exact Or.inr ⟨b, off, cap, h1, h2, h3, h4, fun j hj => cell_bel g (h5 j hj)⟩
theorem Words.bel {w w' : World} {v : Value} {n : Nat} {g : Nat → Nat} (h : Words w v n g) (k : Bel w w') : Words w' v n g := Row.bel h k
theorem Nums.bel {w w' : World} {v : Value} {n : Nat} {F : Nat → Int} (h : Nums w v n F) (k : Bel w w') : Nums w' v n F := Row.bel h k

theorem one_other {w : World} {b : Nat} {o : Obj} (h : w.heap[b]? = some o) {a : Addr} (ha : b ≠ a.block) (u : Value) : (w.setCell a u).heap[b]? = some o := by
  rw [Below.heap_setCell _ _ _ _ ha]; exact h

theorem pack1 (i s m v u n cap bf bv bw b off : Nat) (t : Bool) (w : World) (hi : i < n) (hs : s + m ≤ 64) (hv : v < 18446744073709551616) (hu : u < 18446744073709551616)
    (hf : w.heap[bf]? = some (.cells #[.bool t] 4 (0, 0))) (hV : w.heap[bv]? = some (.cells #[.slice (some ⟨b, off, none⟩) n cap] 49 (0, 0))) (hw : w.heap[bw]? = some (.cells #[.int .u64 (u : Nat)] 42 (0, 0)))
    (hcell : w.cell? ⟨b, off + i, none⟩ = some (.int .u64 (v : Nat))) (h1 : bf ≠ bv) (h2 : bf ≠ bw) (h3 : bv ≠ bw) (h4 : b < bf) (B : Nat) (h6 : B ≤ bf) (h7 : B ≤ bw) :
    Calls Tryz.prog 137 #[.int .i64 (i : Nat), .int .i64 (s : Nat), .int .i64 (m : Nat), .pointer (some ⟨bf, 0, none⟩), .pointer (some ⟨bv, 0, none⟩), .pointer (some ⟨bw, 0, none⟩)] w fun e w' => e = .returned (.tuple #[]) ∧
      w'.heap[bf]? = some (.cells #[.bool (t && decide (v < 2 ^ m))] 4 (0, 0)) ∧ w'.heap[bv]? = some (.cells #[.slice (some ⟨b, off, none⟩) n cap] 49 (0, 0)) ∧
      w'.heap[bw]? = some (.cells #[.int .u64 ((u ||| (v * 2 ^ s % 18446744073709551616) : Nat) : Int)] 42 (0, 0)) ∧ Below B w w' := by
  have ft := fun w => fits_any v m w hv
  have cf := cell_of_one hf
  have cV := cell_of_one hV
  have ff := free_of_one hf
  have bS : (i : Int) < (n : Int) := by omega
  have bS0 : (0 : Int) ≤ (i : Int) := by omega
  have e1 : IntKind.u64.wrap ((v : Int) * 2 ^ s) = ((v * 2 ^ s % 18446744073709551616 : Nat) : Int) := by
    rw [pow_cast, ← Int.natCast_mul, IntKind.wrap_u64]; omega
  have e2 : bits .or .u64 (u : Int) ((v * 2 ^ s % 18446744073709551616 : Nat) : Int) = ((u ||| v * 2 ^ s % 18446744073709551616 : Nat) : Int) := u64_or_nat _ _ hu (Nat.mod_lt _ (by decide))
  generalize u ||| v * 2 ^ s % 18446744073709551616 = R at *
  generalize v * 2 ^ s % 18446744073709551616 = S at *
  have key : ∀ t', ∃ w1, w.setCell ⟨bf, 0, none⟩ (.bool t') = w1 ∧ w1.heap[bf]? = some (.cells #[.bool t'] 4 (0, 0)) ∧ w1.heap[bv]? = some (.cells #[.slice (some ⟨b, off, none⟩) n cap] 49 (0, 0)) ∧
      w1.heap[bw]? = some (.cells #[.int .u64 (u : Nat)] 42 (0, 0)) ∧ w1.cell? ⟨b, off + i, none⟩ = some (.int .u64 (v : Nat)) ∧ Below B w w1 := fun t' =>
    ⟨_, rfl, one_setCell hf, one_other hV (fun h => h1 h.symm) _, one_other hw (fun h => h2 h.symm) _, (World.cell?_of_block (w := w) (Below.heap_setCell _ _ _ _ (by show b ≠ bf; omega))).trans hcell, (Below.refl _ _).setCell h6 _⟩
  generalize decide (v < 2 ^ m) = d at *
  cases t
  · obtain ⟨w1, hw1, k1, k2, k3, k4, k5⟩ := key false
    rw [Bool.false_and]
    go_enter Tryz.func137, Tryz.ntmps137
    go_wp2_with (go_at_call 138; refine (ft _).mono ?_; rintro e w' ⟨rfl, hw⟩; rw [hw])
    clear cf cV ff hf hV hw hcell key hw1
    have cV := cell_of_one k2
    have cw := cell_of_one k3
    have fw := free_of_one k3
    go_region
    go_wp2
    go_end0
    exact ⟨rfl, one_other k1 h2 _, one_other k2 h3 _, one_setCell k3, (k5.setCell h7 _).drew⟩
  · obtain ⟨w1, hw1, k1, k2, k3, k4, k5⟩ := key d
    rw [Bool.true_and]
    go_enter Tryz.func137, Tryz.ntmps137
    go_wp2_with (go_at_call 138; refine (ft _).mono ?_; rintro e w' ⟨rfl, hw⟩; rw [hw])
    clear cf cV ff hf hV hw hcell key hw1
    have cV := cell_of_one k2
    have cw := cell_of_one k3
    have fw := free_of_one k3
    go_region
    go_wp2
    go_end0
    exact ⟨rfl, one_other k1 h2 _, one_other k2 h3 _, one_setCell k3, (k5.setCell h7 _).drew⟩

end Go.Proofs.YthokalcibjjihaaGreatDoor.hd
