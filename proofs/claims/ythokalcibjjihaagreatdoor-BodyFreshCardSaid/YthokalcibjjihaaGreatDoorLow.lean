/- Rows of numbers in memory; Check of the program and of the document. -/
import Derived.Test.YthokalcibjjihaaGreatDoorCl
import Derived.WalkKit
import Derived.WalkLawsBesides
import Derived.ProofKit
import Derived.IntWalk
import Derived.Lib.Hide
import Derived.Deep.QuietTactic
import Derived.BigQuiet
import Derived.OpenShut
import Derived.ChangeSlices
import Derived.OwnWalk
import Derived.OneCell
import Derived.Carry
namespace Go.Proofs.YthokalcibjjihaaGreatDoor
open Go.ChangeShapes Go.WideShapes Go.ChangeAt Go.RowKit

theorem ret_int {k : IntKind} {a b : Int} (h : a = b) : Ending.returned (.int k a) = .returned (.int k b) := by rw [h]
theorem ret_bool {a b : Bool} (h : a = b) : Ending.returned (.bool a) = .returned (.bool b) := by rw [h]
theorem wf_bd {a : Int} (h : (Lit.int .i64 a).wf = true) : -9223372036854775808 ≤ a ∧ a ≤ 9223372036854775807 := by
  simp [Lit.wf, IntKind.min, IntKind.max, IntKind.signed, IntKind.bits] at h
  omega

/-- all that lay there lies as it lay -/
def Bel (w w' : World) : Prop := Below w.heap.size w w'

theorem Bel.refl (w : World) : Bel w w := Below.refl _ _
theorem Bel.trans {a b c : World} (h : Bel a b) (k : Bel b c) : Bel a c := Below.trans h (k.mono h.size)
theorem Bel.drewN (w : World) (n : Nat) : Bel w (w.drewN n) := ⟨rfl, rfl, rfl, Nat.le_refl _, fun _ _ => rfl⟩
theorem Bel.then_drewN {w w' : World} (h : Bel w w') (n : Nat) : Bel w (w'.drewN n) := h.trans (Bel.drewN w' n)
theorem Bel.drew {w w' : World} (h : Bel w w') : Bel w w'.drew := Below.drew h
theorem Bel.alloc {w w' : World} (h : Bel w w') (o : Obj) : Bel w (w'.alloc o) := Below.alloc h h.size o
theorem Bel.of_eq {w w' : World} (h : w' = w) : Bel w w' := h ▸ Bel.refl _
theorem Bel.of_drew {w w' : World} (h : ∃ q, w' = w.drewN q) : Bel w w' := by obtain ⟨q, rfl⟩ := h; exact Bel.drewN _ _

theorem cell_block {w : World} {a : Addr} {v : Value} (h : w.cell? a = some v) : a.block < w.heap.size ∧ a.spot = none := by
  unfold World.cell? at h
  by_cases c : a.block < w.heap.size
  · refine ⟨c, ?_⟩
    split at h
    · split at h
      · cases h
      · rename_i hs
        cases hh : a.spot
        · rfl
        · rw [hh] at hs; exact absurd rfl hs
    · cases h
  · have e : w.heap[a.block]? = none := by rw [Array.getElem?_eq_none_iff]; omega
    rw [e] at h; cases h

theorem cell_bel {w w' : World} (g : Bel w w') {a : Addr} {v : Value} (h : w.cell? a = some v) : w'.cell? a = some v := by
  rw [Below.cell g (cell_block h).1, h]

/-- a slice of numbers -/
def Nums (w : World) (v : Value) (n : Nat) (F : Nat → Int) : Prop :=
  (n = 0 ∧ ∃ p cap, v = .slice p 0 cap) ∨
  ∃ b off cap, v = .slice (some ⟨b, off, none⟩) n cap ∧ 1 ≤ n ∧ n ≤ cap ∧ cap ≤ 9223372036854775807 ∧ ∀ j, j < n → w.cell? ⟨b, off + j, none⟩ = some (.int .i64 (F j))

theorem Nums.bel {w w' : World} {v : Value} {n : Nat} {F : Nat → Int} (h : Nums w v n F) (g : Bel w w') : Nums w' v n F := by
  rcases h with h | ⟨b, off, cap, h1, h2, h3, h4, h5⟩
  · exact Or.inl h
  · exact Or.inr ⟨b, off, cap, h1, h2, h3, h4, fun j hj => cell_bel g (h5 j hj)⟩
theorem nums_slice {w : World} {v : Value} {n : Nat} {F : Nat → Int} (h : Nums w v n F) : ∃ p cap, v = .slice p n cap ∧ n ≤ 9223372036854775807 := by
  rcases h with ⟨rfl, p, cap, rfl⟩ | ⟨b, off, cap, rfl, h1, h2, h3, h4⟩
  · exact ⟨p, cap, rfl, by omega⟩
  · exact ⟨_, cap, rfl, by omega⟩

set_option maxHeartbeats 1000000 in
/-- Check of the program, of a row that is short enough -/
theorem check_row (b off cap n : Nat) (F : Nat → Int) (w : World) (h1 : 1 ≤ n) (h8 : n ≤ 8) (hc : n ≤ cap) (hbig : cap ≤ 9223372036854775807) (hF : ∀ j, j < n → w.cell? ⟨b, off + j, none⟩ = some (.int .i64 (F j))) :
    Calls Tryz.prog 133 #[.slice (some ⟨b, off, none⟩) n cap] w fun e w' => e = .returned (.int .i64 (checkV n F)) ∧ w' = w := by
  obtain ⟨R, hR⟩ : ∃ R, checkV n F = R := ⟨_, rfl⟩
  rw [hR]
  have hidR := Lib.hid hR
  clear hR
  have n1 : decide ((n : Int) < 1) = false := decide_eq_false (by omega)
  have n8 : decide (8 < n) = false := decide_eq_false (by omega)
  go_enter Tryz.func133, Tryz.ntmps133
  go_wp2
  go_loop [3, 16] (fun p i => ∃ k : Nat, k ≤ n ∧ i = .int .i64 (k : Nat) ∧ p = .int .i64 (bef F k) ∧ okTo F k) (fun _ i => n - (intOf i).toNat)
  case atStart => exact ⟨0, Nat.zero_le _, rfl, rfl, okTo_zero F⟩
  case round =>
    obtain ⟨k, hk, rfl, rfl, hok⟩ := hrel
    by_cases ck : k < n
    · have cF := hF k ck
      have kI : (k : Int) < (n : Int) := by omega
      have k0 : (0 : Int) ≤ (k : Int) := by omega
      by_cases c1 : bef F k < F k
      · by_cases c2 : F k ≤ 64
        · have hn := okTo_succ hok c1 c2
          have hs : bef F (k + 1) = F k := rfl
          have hid := Lib.hid (And.intro hn hs)
          clear hn hs hok hF
          generalize F k = y at *
          generalize bef F k = z at *
          go_wp2
          go_round
          case rel => exact ⟨k + 1, by omega, by go_num, by rw [hid.out.2], hid.out.1⟩
          case measure => simp only [intOf]; omega
        · have no := okTo_fail ck (fun h => c2 h.2)
          have hR := hidR.out
          rw [checkV_no fun h => no h.2.2] at hR
          subst hR
          clear no hok hF
          generalize F k = y at *
          generalize bef F k = z at *
          go_wp2
          go_ret
          exact ⟨rfl, rfl⟩
      · have no := okTo_fail ck (fun h => c1 h.1)
        have hR := hidR.out
        rw [checkV_no fun h => no h.2.2] at hR
        subst hR
        clear no hok hF
        generalize F k = y at *
        generalize bef F k = z at *
        go_wp2
        go_ret
        exact ⟨rfl, rfl⟩
    · obtain rfl : k = n := by omega
      have hR := hidR.out
      rw [checkV_ok ⟨h1, h8, hok⟩] at hR
      subst hR
      clear hok hF
      go_wp2
      go_ret
      exact ⟨rfl, rfl⟩

/-- Check of the program -/
theorem check_any (v : Value) (n : Nat) (F : Nat → Int) (w : World) (h : Nums w v n F) :
    Calls Tryz.prog 133 #[v] w fun e w' => e = .returned (.int .i64 (checkV n F)) ∧ w' = w := by
  by_cases c : 1 ≤ n ∧ n ≤ 8
  · rcases h with ⟨rfl, _⟩ | ⟨b, off, cap, rfl, h1, h2, h3, h4⟩
    · omega
    · exact check_row b off cap n F w c.1 c.2 h2 h3 h4
  · rw [checkV_no fun h => c ⟨h.1, h.2.1⟩]
    obtain ⟨p, cap, rfl, hb⟩ := nums_slice h
    clear h
    by_cases c0 : n = 0
    · subst c0
      go_enter Tryz.func133, Tryz.ntmps133
      go_wp2
      go_ret
      exact ⟨rfl, rfl⟩
    · have n1 : decide ((n : Int) < 1) = false := decide_eq_false (by omega)
      have n8 : (8 : Int) < (n : Int) := by omega
      clear c c0
      go_enter Tryz.func133, Tryz.ntmps133
      go_wp2
      go_ret
      exact ⟨rfl, rfl⟩

end Go.Proofs.YthokalcibjjihaaGreatDoor
