/- The iterator over the masks. -/
import Derived.Test.YtjgjomojcocegaaDoorBcp
import Derived.RangeFuncNested
import Derived.RangeFuncBound
import Derived.RangeFuncCalls
import Derived.RangeFuncLeaves
import Derived.RangeFuncBox
import Derived.Shelf.Abstract
import Derived.Shelf.RegionOpen
import Derived.OwnWalkIn
import Derived.TacticsInMore
import Derived.LoopNIn
import Derived.LoopIn
namespace Go.Proofs.YtjgjomojcocegaaDoor.bt
open Go.ChangeShapes Go.WideShapes Go.ChangeAt Go.RowKit Go.Shelf
attribute [local go_sem] Oper.semAt_some

/-- what has come when k rounds are over -/
def upTo (k0 k : Nat) : List Nat := (List.range k).map (k0 + ·)
theorem upTo_succ (k0 k : Nat) : upTo k0 (k + 1) = upTo k0 k ++ [k0 + k] := by simp [upTo, List.range_succ]
theorem upTo_length (k0 k : Nat) : (upTo k0 k).length = k := by simp [upTo]

/-- a word's number, of N words -/
def cl (N x : Nat) : Nat := min x (N - 1)

/-- what is handed to a round -/
def enc (n : Nat) (is : Bool) (x : Nat) : Array Value := #[.int .i64 (cl (nw n) x : Nat), .int .u64 (mask n (cl (nw n) x) is : Nat)]

theorem RowIs.below {w w' : World} {b g ca n B : Nat} {f : Nat → Bool} (h : RowIs w b g ca n f) (k : Below B w w') (hb : b < B) (hg : g < B) : RowIs w' b g ca n f := by
  obtain ⟨h1, h2, h0, h3, cs, h4, h5⟩ := h
  exact ⟨h1, h2, h0, (k.block _ hb).trans h3, cs, (k.block _ hg).trans h4, h5⟩

set_option maxRecDepth 100000 in
set_option maxHeartbeats 2000000 in
theorem masks1_row (d : Nat) (hd : 1 ≤ d) (l B1 B2 B3 n₀ b g ca n k0 : Nat) (f : Nat → Bool) (is : Bool) (hb : b < n₀) (hg : g < n₀) (h2 : B2 < n₀) (h3 : B3 < n₀) (J Jx : List Nat → World → Prop)
    (hY : ∀ pre x W, J pre W → pre.length < nw n - k0 → YieldAt Fence.wide (d - 1) Tryd.prog l (enc n is x) W fun e W' =>
      (e = .returned (.bool true) ∧ J (pre ++ [x]) W' ∧ Below n₀ W W') ∨ (e = .returned (.bool false) ∧ Jx (pre ++ [x]) W'))
    (W : World) (c1 : W.cell? ⟨B1, 0, none⟩ = some (.int .i64 (k0 : Nat))) (c2 : W.cell? ⟨B2, 0, none⟩ = some (.pointer (some ⟨b, 0, none⟩))) (c3 : W.cell? ⟨B3, 0, none⟩ = some (.bool is))
    (hR : RowIs W b g ca n f) (hk0 : k0 ≤ 144115188075855872) (h0 : J [] W) :
    CallsIn Fence.wide d Tryd.prog 81 #[.func (.yield l) #[] #[], .pointer (some ⟨B1, 0, none⟩), .pointer (some ⟨B2, 0, none⟩), .pointer (some ⟨B3, 0, none⟩)] W fun e W' => (∃ v, e = .returned v) ∧
      ((∃ ys, ys = upTo k0 (nw n - k0) ∧ J ys W') ∨ (∃ pre, (∃ k, k ≤ nw n - k0 ∧ pre = upTo k0 k) ∧ Jx pre W')) := by
  have hn := hR.1
  have hN : nw n ≤ 65536 := by unfold nw; omega
  refine callsIn_of_wp Tryd.func81 rfl trivial ?_ rfl
  simp only [Tryd.ntmps81, List.size_toArray, List.length_cons, List.length_nil, Nat.reduceAdd, Nat.reduceSub, Array.replicate_succ, Array.replicate_zero, List.push_toArray, List.append_toArray, List.nil_append, List.cons_append]
  gi_wp2
  gi_loopw [5] (fun i wr => ∃ k : Nat, (k ≤ nw n - k0) ∧ i = .int .i64 ((k0 + k : Nat) : Int) ∧ J (upTo k0 k) wr ∧ Below n₀ W wr)
    (fun i _ => nw n - (intOf i).toNat)
  case atStart => exact ⟨0, Nat.zero_le _, by rw [Nat.add_zero], h0, Below.refl _ _⟩
  case round =>
    obtain ⟨k, hk, rfl, hJs, hnx⟩ := hrel
    have hr := hR.below hnx hb hg
    have hc2 := (hnx.cell (p := ⟨B2, 0, none⟩) h2).trans c2
    have hc3 := (hnx.cell (p := ⟨B3, 0, none⟩) h3).trans c3
    have he := held_any wr hr.hdr
    obtain ⟨q0, _, _⟩ := hr.head
    by_cases hlt : k0 + k < nw n
    · obtain ⟨fn, tmps, assign, body, hy, hRR⟩ := hY _ (k0 + k) wr hJs (by rw [upTo_length]; omega)
      have hcl : cl (nw n) (k0 + k) = k0 + k := by unfold cl; omega
      unfold enc at hy
      rw [hcl] at hy
      have kI : ((k0 + k : Nat) : Int) < ((nw n : Nat) : Int) := by omega
      have hn64 : (k0 + k) * 64 < n := by unfold nw at hlt; omega
      have on := fun w => ones_any (min (n - 64 * (k0 + k)) 64) w (by omega)
      have hmn : min ((n : Int) - ((k0 + k : Nat) : Int) * 64) 64 = ((min (n - 64 * (k0 + k)) 64 : Nat) : Int) := by omega
      have eu := upTo_succ k0 k
      have hM : mask n (k0 + k) is = if is then 0 else 2 ^ min (n - 64 * (k0 + k)) 64 - 1 := rfl
      have hid := Lib.hid (And.intro eu hnx)
      clear hr hR hJs eu hnx hcl hY h0
      generalize hM' : min (n - 64 * (k0 + k)) 64 = M at *
      clear hM'
      generalize mask n (k0 + k) is = V at *
      generalize hX : k0 + k = X at *
      have hX := Lib.hid hX
      cases is
      · simp only [Bool.false_eq_true, if_false] at hM
        subst hM
        gi_wp2_with (first
          | (refine ⟨trivial, ?_⟩; gi_at_call 44; refine (callsIn_wide.2 he).mono ?_; rintro e w' ⟨rfl, hw⟩; rw [hw])
          | (refine ⟨trivial, ?_⟩; gi_at_call 65; refine (callsIn_wide.2 (on _)).mono ?_; rintro e w' ⟨rfl, hw⟩; rw [hw]))
        refine hRR.mono ?_
        rintro e W3 (⟨rfl, hJ3, hk3⟩ | ⟨rfl, hJx3⟩)
        · gi_wp2
          go_roundw
          case rel => exact ⟨k + 1, by omega, by go_num, by rw [hid.out.1]; exact hJ3, hid.out.2.trans hk3⟩
          case measure => simp only [intOf]; omega
        · gi_wp2
          refine bodyPost_ret (results_none rfl _ _ _) rfl ?_
          exact ⟨⟨_, rfl⟩, .inr ⟨_, ⟨k + 1, by omega, hid.out.1.symm⟩, hJx3⟩⟩
      · simp only [if_true] at hM
        subst hM
        rw [show ((0 : Nat) : Int) = 0 from rfl] at hy
        gi_wp2_with (first
          | (refine ⟨trivial, ?_⟩; gi_at_call 44; refine (callsIn_wide.2 he).mono ?_; rintro e w' ⟨rfl, hw⟩; rw [hw])
          | (refine ⟨trivial, ?_⟩; gi_at_call 65; refine (callsIn_wide.2 (on _)).mono ?_; rintro e w' ⟨rfl, hw⟩; rw [hw]))
        refine hRR.mono ?_
        rintro e W3 (⟨rfl, hJ3, hk3⟩ | ⟨rfl, hJx3⟩)
        · gi_wp2
          go_roundw
          case rel => exact ⟨k + 1, by omega, by go_num, by rw [hid.out.1]; exact hJ3, hid.out.2.trans hk3⟩
          case measure => simp only [intOf]; omega
        · gi_wp2
          refine bodyPost_ret (results_none rfl _ _ _) rfl ?_
          exact ⟨⟨_, rfl⟩, .inr ⟨_, ⟨k + 1, by omega, hid.out.1.symm⟩, hJx3⟩⟩
    · obtain rfl : k = nw n - k0 := by omega
      have hd2 : decide (((k0 + (nw n - k0) : Nat) : Int) < ((nw n : Nat) : Int)) = false := decide_eq_false (by omega)
      have hlt' : nw n ≤ k0 + (nw n - k0) := by omega
      have hfin := Lib.hid hJs
      clear hr hR hY hJs h0 hnx q0
      generalize hYe : nw n - k0 = Y at *
      have hYe := Lib.hid hYe
      generalize hX : k0 + Y = X at *
      clear hX
      gi_wp2_with (refine ⟨trivial, ?_⟩; gi_at_call 44; refine (callsIn_wide.2 he).mono ?_; rintro e w' ⟨rfl, hw⟩; rw [hw])
      go_end0
      exact ⟨⟨_, rfl⟩, .inl ⟨_, rfl, by rw [hYe.out]; exact hfin.out⟩⟩


set_option maxRecDepth 100000 in
/-- the iterator over no words -/
theorem masks1_none (d : Nat) (hd : 1 ≤ d) (l B1 B2 B3 n k0 : Nat) (p : Value) (m : Bool) (J Jx : List Nat → World → Prop)
    (W : World) (c1 : W.cell? ⟨B1, 0, none⟩ = some (.int .i64 (k0 : Nat))) (c2 : W.cell? ⟨B2, 0, none⟩ = some p)
    (hR : Hdr W p n (.slice none 0 0) m) (hk0 : k0 ≤ 144115188075855872) (h0 : J [] W) :
    CallsIn Fence.wide d Tryd.prog 81 #[.func (.yield l) #[] #[], .pointer (some ⟨B1, 0, none⟩), .pointer (some ⟨B2, 0, none⟩), .pointer (some ⟨B3, 0, none⟩)] W fun e W' => (∃ v, e = .returned v) ∧
      ((∃ ys, ys = [] ∧ J ys W') ∨ (∃ pre, pre = [] ∧ Jx pre W')) := by
  have he := held_any W hR
  obtain ⟨q, rfl⟩ : ∃ q, p = .pointer q := by
    rcases hR with ⟨rfl, _⟩ | ⟨b, rfl, _⟩
    · exact ⟨_, rfl⟩
    · exact ⟨_, rfl⟩
  have hk := Int.natCast_nonneg k0
  have hd2 : decide ((k0 : Int) < 0) = false := decide_eq_false (by omega)
  clear hR
  refine callsIn_of_wp Tryd.func81 rfl trivial ?_ rfl
  simp only [Tryd.ntmps81, List.size_toArray, List.length_cons, List.length_nil, Nat.reduceAdd, Nat.reduceSub, Array.replicate_succ, Array.replicate_zero, List.push_toArray, List.append_toArray, List.nil_append, List.cons_append]
  gi_wp2
  gi_loopw [5] (fun i wr => i = .int .i64 (k0 : Nat) ∧ wr = W) (fun _ _ => 0)
  case atStart => exact ⟨rfl, rfl⟩
  case round =>
    obtain ⟨rfl, rfl⟩ := hrel
    gi_wp2_with (refine ⟨trivial, ?_⟩; gi_at_call 44; refine (callsIn_wide.2 he).mono ?_; rintro e w' ⟨rfl, hw⟩; rw [hw])
    go_end0
    exact ⟨⟨_, rfl⟩, .inl ⟨_, rfl, h0⟩⟩

/-- masks: three variables boxed -/
theorem masks_any (p : Value) (k0 : Int) (is : Bool) (w : World) (hp : ∃ q, p = .pointer q) :
    Calls Tryd.prog 64 #[p, .int .i64 k0, .bool is] w fun e w' => e = .returned (.func (.func 81) #[] #[.pointer (some ⟨w.heap.size + 1, 0, none⟩), .pointer (some ⟨w.heap.size, 0, none⟩), .pointer (some ⟨w.heap.size + 2, 0, none⟩)]) ∧
      w' = ((w.alloc (.cells #[p] 46)).alloc (.cells #[.int .i64 k0] 3)).alloc (.cells #[.bool is] 4) := by
  obtain ⟨q, rfl⟩ := hp
  go_enter Tryd.func64, Tryd.ntmps64
  go_wp2
  go_ret
  refine ⟨?_, rfl⟩
  simp

end Go.Proofs.YtjgjomojcocegaaDoor.bt
