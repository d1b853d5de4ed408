/- The traversal of a plan's parts. -/
import Derived.Test.YthokalcibjjihaaGreatDoorPa
namespace Go.Proofs.YthokalcibjjihaaGreatDoor
open Go.ChangeShapes Go.WideShapes Go.ChangeAt Go.RowKit Go.Deep Go.Shelf
set_option linter.unusedVariables false
attribute [local go_sem] Oper.semAt_some

/-- what has come when k rounds are over -/
abbrev upto (k : Nat) : List Nat := List.range k
theorem upto_succ (k : Nat) : upto (k + 1) = upto k ++ [k] := List.range_succ
/-- a class's number, of n classes -/
def cl (n x : Nat) : Nat := min x (n - 1)
theorem cl_eq {n x : Nat} (h : x < n) : cl n x = x := by unfold cl; omega

theorem grown_new (w : World) (o : Obj) : w.grownBy (w.alloc o) none := World.grownBy_alloc w o none

set_option maxRecDepth 100000 in
set_option maxHeartbeats 2000000 in
theorem all1_row (d : Nat) (hd : 1 ≤ d) (l B1 n₀ b g off cap : Nat) (P : Pl) (hb : b < n₀) (hg : g < n₀) (J Jx : List Nat → World → Prop) (B : Nat) (hJ : AbidesFrom B J)
    (hY : ∀ pre x W, J pre W → pre.length < P.n → YieldAt Fence.wide (d - 1) Tryz.prog l #[P.pt (cl P.n x)] W fun e W' =>
      (e = .returned (.bool true) ∧ J (pre ++ [x]) W' ∧ Below n₀ W W') ∨ (e = .returned (.bool false) ∧ Jx (pre ++ [x]) W'))
    (W : World) (c1 : W.cell? ⟨B1, 0, none⟩ = some (.pointer (some ⟨b, 0, none⟩))) (hP : PlanAt W b g off cap P) (hn : 1 ≤ P.n) (h0 : J [] W) (hsz : n₀ ≤ W.heap.size) :
    CallsIn Fence.wide d Tryz.prog 131 #[.func (.yield l) #[] #[], .pointer (some ⟨B1, 0, none⟩)] W fun e W' => (∃ v, e = .returned v) ∧
      ((∃ ys, ys = upto P.n ∧ J ys W') ∨ (∃ pre, (∃ k, k ≤ P.n ∧ pre = upto k) ∧ Jx pre W')) := by
  have he := exists_yes hP hn
  obtain ⟨_, _, k0, k1, hc, hbig, hF⟩ := hP
  refine callsIn_of_wp Tryz.func131 rfl trivial ?_ rfl
  simp only [Tryz.ntmps131, List.size_toArray, List.length_cons, List.length_nil, Nat.reduceAdd, Nat.reduceSub, Array.replicate_succ, Array.replicate_zero, List.push_toArray, List.append_toArray, List.nil_append, List.cons_append]
  gi_wp2_with (refine ⟨trivial, ?_⟩; gi_at_call 111; refine (callsIn_wide.2 he).mono ?_; rintro e w' ⟨rfl, hw⟩; rw [hw])
  gi_loopw [13] (fun i wr => ∃ k : Nat, (k ≤ P.n) ∧ i = .int .i64 ((k : Nat) : Int) ∧ J (upto k) wr ∧ Below n₀ W wr)
    (fun i _ => P.n - (intOf i).toNat)
  case atStart => exact ⟨0, Nat.zero_le _, rfl, h0, Below.refl _ _⟩
  case round =>
    obtain ⟨k, hk, rfl, hJs, hnx⟩ := hrel
    by_cases hlt : k < P.n
    · obtain ⟨q0, q1, q2, q3, q4, q5, q6⟩ := (hF k hlt).below hnx hg
      have hgr := grown_new wr (.cells #[.int .i64 (k : Nat), .int .i64 (P.f k : Nat), .int .i64 (P.e k : Nat), .int .i64 (P.fo k : Nat), .int .i64 (P.s k : Nat), .int .i64 (P.po k : Nat), .int .i64 (P.p k : Nat)] 136)
      have hJ2 := hJ _ _ _ _ hJs hgr (fun r e => by cases e)
      obtain ⟨fn, tmps, assign, body, hy, hRR⟩ := hY _ k _ hJ2 (by rw [List.length_range]; exact hlt)
      rw [cl_eq hlt] at hy
      dsimp only [Pl.pt, pv] at hy
      have kI : (k : Int) < (P.n : Int) := by omega
      have kz : (0 : Int) ≤ (k : Int) := by omega
      have hn2 := hnx.trans (((Below.refl n₀ wr).alloc (show n₀ ≤ wr.heap.size from Nat.le_trans hsz hnx.size)) (.cells #[.int .i64 (k : Nat), .int .i64 (P.f k : Nat), .int .i64 (P.e k : Nat), .int .i64 (P.fo k : Nat), .int .i64 (P.s k : Nat), .int .i64 (P.po k : Nat), .int .i64 (P.p k : Nat)] 136))
      have hid := Lib.hid hn2
      clear hF hY h0 hJ2 hJs hgr hn2
      generalize P.f k = xf at *
      generalize P.e k = xe at *
      generalize P.fo k = xo at *
      generalize P.s k = xs at *
      generalize P.po k = xq at *
      generalize P.p k = xp at *
      gi_wp2
      refine hRR.mono ?_
      rintro e W3 (⟨rfl, hJ3, hk3⟩ | ⟨rfl, hJx3⟩)
      · gi_wp2
        go_roundw
        case rel => exact ⟨k + 1, by omega, by go_num, by rw [upto_succ]; exact hJ3, hid.out.trans hk3⟩
        case measure => simp only [intOf]; omega
      · gi_wp2
        refine bodyPost_ret (results_none rfl _ _ _) rfl ?_
        exact ⟨⟨_, rfl⟩, .inr ⟨_, ⟨k + 1, by omega, (upto_succ k).symm⟩, hJx3⟩⟩
    · obtain rfl : k = P.n := by omega
      clear hF hY h0
      have hfin := Lib.hid hJs
      clear hJs
      gi_wp2
      go_end0
      exact ⟨⟨_, rfl⟩, .inl ⟨_, rfl, hfin.out⟩⟩

/-- none: nothing comes -/
theorem all1_none (d : Nat) (hd : 1 ≤ d) (l B1 : Nat) (p : Option Addr) (J Jx : List Nat → World → Prop)
    (W : World) (c1 : W.cell? ⟨B1, 0, none⟩ = some (.pointer p)) (he : Calls Tryz.prog 111 #[.pointer p] W fun e w' => e = .returned (.bool false) ∧ w' = W) (h0 : J [] W) :
    CallsIn Fence.wide d Tryz.prog 131 #[.func (.yield l) #[] #[], .pointer (some ⟨B1, 0, none⟩)] W fun e W' => (∃ v, e = .returned v) ∧
      ((∃ ys, ys = [] ∧ J ys W') ∨ (∃ pre, pre = [] ∧ Jx pre W')) := by
  refine callsIn_of_wp Tryz.func131 rfl trivial ?_ rfl
  simp only [Tryz.ntmps131, List.size_toArray, List.length_cons, List.length_nil, Nat.reduceAdd, Nat.reduceSub, Array.replicate_succ, Array.replicate_zero, List.push_toArray, List.append_toArray, List.nil_append, List.cons_append]
  gi_wp2_with (refine ⟨trivial, ?_⟩; gi_at_call 111; refine (callsIn_wide.2 he).mono ?_; rintro e w' ⟨rfl, hw⟩; rw [hw])
  refine bodyPost_ret (results_none rfl _ _ _) rfl ?_
  exact ⟨⟨_, rfl⟩, .inl ⟨_, rfl, h0⟩⟩

end Go.Proofs.YthokalcibjjihaaGreatDoor
