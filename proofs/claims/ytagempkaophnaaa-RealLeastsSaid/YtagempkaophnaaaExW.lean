/- The walk of RealExact. -/
import Derived.Test.YtagempkaophnaaaKeep
import Derived.Test.YtagempkaophnaaaEx
import Derived.OwnWalk
namespace Go.Proofs.Ytagempkaophnaaa
open Go.ChangeShapes Go.WideShapes Go.ChangeAt Go.RowKit

theorem info22 : (Try.prog.info? 22).map (fun i => (i.zero, i.size, i.bytes)) = some (some (.int .u64 0), 1, 8) := by kernel_rfl

/-- the words of the first numbers -/
def wordsOf (g : Nat → Int) (k : Nat) : List Value := (List.range k).map (fun j => Value.int .u64 ((ofN (g j) : Nat) : Int))

theorem wordsOf_succ (g : Nat → Int) (k : Nat) : wordsOf g (k + 1) = wordsOf g k ++ [Value.int .u64 ((ofN (g k) : Nat) : Int)] := by
  unfold wordsOf; rw [List.range_succ, List.map_append]; rfl

/-- what holds at each round's head -/
def Taken (g : Nat → Int) (n : Nat) (w : World) (a v i : Value) (wr : World) : Prop :=
  ∃ k : Nat, k ≤ n ∧ a = .int .i64 (sumI g k) ∧ i = .int .i64 (k : Nat) ∧ wr.ownsRow w.heap.size 22 1 v k (wordsOf g k) ∧ Below w.heap.size w wr

/-- the slice that was made, as words -/
theorem words_own {w : World} {base : Nat} {v : Value} {n : Nat} {g : Nat → Int} (h : w.ownsRow base 22 1 v n (wordsOf g n)) : Words w v n (fun j => ofN (g j)) := by
  rcases h.2 with ⟨rfl, rfl⟩ | ⟨G, cap, cur, rfl, _, hg, hn, hc, _, _⟩
  · exact Or.inl ⟨rfl, none, 0, rfl⟩
  · by_cases z : n = 0
    · subst z; exact Or.inl ⟨rfl, _, _, rfl⟩
    · refine Or.inr ⟨G, 0, cap, rfl, by omega, hn, by unfold maxLen at hc; omega, fun j hj => ?_⟩
      have := h.cells (g := G) rfl j (Value.int .u64 ((ofN (g j) : Nat) : Int)) (by
        unfold wordsOf
        rw [List.getElem?_map, List.getElem?_range hj]; rfl)
      rw [add_plain] at this
      exact this

set_option maxRecDepth 100000 in
set_option maxHeartbeats 4000000 in
theorem exact_some (b off n cap : Nat) (f g : Nat → Int) (w : World) (hg : ∀ j, (f j).tmod 1099511627776 = g j) (hgb : ∀ j, (g j).natAbs < 1099511627776) (hb : b < w.heap.size)
    (hcell : ∀ j, j < n → w.cell? ⟨b, off + j, none⟩ = some (.int .i64 (f j))) (c : n ≤ 100) :
    Calls Try.prog 12 #[.slice (some ⟨b, off, none⟩) n cap] w fun e w' => e = .returned (.bool true) ∧ Keeps w w' := by
  obtain ⟨i0, hi, hz0, hz1, hz2⟩ := info_parts info22
  go_enter Try.func12, Try.ntmps12
  go_wp2
  go_loopw [3, 4, 5] (fun a v i wr => Taken g n w a v i wr) (fun _ _ i _ => n - (intOf i).toNat)
  case atStart => exact ⟨0, Nat.zero_le _, rfl, rfl, World.ownsRow_nil _ _ _ _, Below.refl _ _⟩
  case round =>
    obtain ⟨k, hk, rfl, rfl, hown, hbel⟩ := hrel
    by_cases ck : k < n
    · have hcl : wr.cell? ⟨b, off + k, none⟩ = some (.int .i64 (f k)) := by rw [hbel.cell hb]; exact hcell k ck
      have hr := hg k
      have bS := sumI_bd hgb k
      have bg := hgb k
      have o1 := fun w => of_any (g k) w (by omega) (by omega)
      rw [exact_small (by omega)] at o1
      have hS : sumI g (k + 1) = sumI g k + g k := rfl
      have hws := wordsOf_succ g k
      generalize sumI g k = s at *
      generalize f k = x at *
      generalize g k = y at *
      generalize ofN y = m at *
      go_wp2_with (first
        | (go_at_call 28; refine (o1 _).mono ?_; rintro e w' ⟨rfl, hw⟩; rw [hw])
        | (at_builtin; refine wpList_append_own _ rfl _ _ 32 rfl w.heap.size 22 i0 (.int .u64 0) 1 8 Try.underlying32 hi hz0 hz1 hz2 rfl (by decide) _ _ _ rfl (hown.alloc _) ⟨wr.heap.size, 0, none⟩ 1 1 [.int .u64 (m : Int)] rfl rfl ?c1 ?c2 ?c3 ?c4 ?c5 ?_))
      case c1 =>
        intro j u hu
        rcases j with _ | j
        · cases hu
          have := made_cell wr [m] 0 Nat.zero_lt_one rfl
          rw [add_plain]; exact this
        · cases hu
      case c2 =>
        intro u hu
        rcases List.mem_cons.1 hu with rfl | hu
        · rfl
        · cases hu
      case c3 => unfold maxLen; omega
      case c4 => omega
      case c5 => exact (hbel.alloc hbel.size _).size
      intro v' w1 hown' hgrow _
      rw [← hws] at hown'
      have hb1 := (hbel.alloc hbel.size (.cells #[.int .u64 (m : Int)] 22)).grown hgrow (hbel.alloc hbel.size _).size (fun q hq => ((hown.lt) q hq).1)
      have hid := Lib.hid (And.intro hown' (And.intro hb1 hS))
      clear hown hown' hgrow hbel hb1 hws hr bS bg hS o1 hcl hcell
      go_wp2
      go_roundw
      case rel => exact ⟨k + 1, by omega, congrArg (Value.int IntKind.i64) hid.out.2.2.symm, by go_num, hid.out.1, hid.out.2.1⟩
      case measure => simp only [intOf]; omega
    · obtain rfl : k = n := by omega
      have bS := sumI_bd hgb k
      have o1 := fun w => of_any (sumI g k) w (by omega) (by omega)
      rw [exact_small (by omega)] at o1
      have s1 := sum_any _ k (fun j => ofN (g j)) wr (words_own hown) (fun j => (ofN_lt (by have := hgb j; omega)).2)
      rw [sum_exact hgb c] at s1
      generalize sumI g k = s at *
      generalize ofN s = m at *
      have kp := Keeps.of_below hbel
      clear hown hbel hcell bS hg hgb
      go_wp2_with (first
        | (go_at_call 28; refine (o1 _).mono ?_; rintro e w' ⟨rfl, hw⟩; rw [hw])
        | (go_at_call 24; refine s1.mono ?_; rintro e w' ⟨rfl, hsm⟩)
        | (go_at_call 19; refine (awake_any _).mono ?_; rintro e w' ⟨rfl, hga⟩))
      go_ret
      refine ⟨rfl, ?_⟩
      exact (kp.grown (by assumption : Same wr _).2).grown (by assumption)

end Go.Proofs.Ytagempkaophnaaa
