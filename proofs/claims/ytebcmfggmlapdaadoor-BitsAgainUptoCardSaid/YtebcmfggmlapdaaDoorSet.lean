/- New, Set, Clear of the program. -/
import Derived.Test.YtebcmfggmlapdaaDoorLow
namespace Go.Proofs.YtebcmfggmlapdaaDoor
open Go.ChangeShapes Go.WideShapes Go.ChangeAt Go.RowKit

theorem set_none {p : Value} {n : Nat} {s : Value} (i : Int) (is : Bool) (w : World) (h : Hdr w p n s false) :
    Calls Tryd.prog 18 #[p, .int .i64 i, .bool is] w fun e w' => e = .returned (.int .i64 1) ∧ w' = w := by
  have c := exists_any w h
  clear h
  go_enter Tryd.func18, Tryd.ntmps18
  go_wp2_with (go_at_call 32; refine c.mono ?_; rintro e w' ⟨rfl, hw⟩; rw [hw])
  go_ret
  exact ⟨rfl, rfl⟩

theorem set_out {p : Value} {n : Nat} {s : Value} (i : Int) (is : Bool) (w : World) (h : Hdr w p n s true) (no : there n i = false) :
    Calls Tryd.prog 18 #[p, .int .i64 i, .bool is] w fun e w' => e = .returned (.int .i64 2) ∧ w' = w := by
  have c := exists_any w h
  have d := has_any i w h
  rw [no] at d
  clear h no
  go_enter Tryd.func18, Tryd.ntmps18
  go_wp2_with (first | (go_at_call 32; refine c.mono ?_; rintro e w' ⟨rfl, hw⟩; rw [hw]) | (go_at_call 33; refine d.mono ?_; rintro e w' ⟨rfl, hw⟩; rw [hw]))
  go_ret
  exact ⟨rfl, rfl⟩

theorem wrap_pow {k : Nat} (h : k < 64) : IntKind.u64.wrap (2 ^ k) = ((2 ^ k : Nat) : Int) := by
  have := two_lt h
  have e : (2 : Int) ^ k = ((2 ^ k : Nat) : Int) := by simp
  rw [e, IntKind.wrap_u64]
  generalize 2 ^ k = P at *
  omega

theorem set_in {b g ca n : Nat} {f : Nat → Bool} (i : Nat) (is : Bool) (w : World) (h : RowIs w b g ca n f) (hi : i < n) :
    Calls Tryd.prog 18 #[.pointer (some ⟨b, 0, none⟩), .int .i64 (i : Nat), .bool is] w fun e w' => e = .returned (.int .i64 0) ∧ w' = w.setCell ⟨g, i / 64, none⟩ (.int .u64 (W (upd f i is) (i / 64) : Nat)) := by
  have hn := h.1
  have c := exists_any w h.hdr
  have d := has_any i w h.hdr
  rw [show there n (i : Int) = true from decide_eq_true ⟨by omega, by omega⟩] at d
  obtain ⟨h0, h1, h2⟩ := h.head
  obtain ⟨hk, h64, wK, kI, k0⟩ := idx hi hn
  obtain ⟨h3, h4⟩ := h.word hk
  have e0 := quo64 i
  have e1 := rem64 i
  have e2 := wrap_pow h64
  have e3 := u64_or_nat (W f (i / 64)) (2 ^ (i % 64)) (W_lt f _) (two_lt h64)
  rw [W_or] at e3
  have e4 := u64_andNot_nat (W f (i / 64)) (2 ^ (i % 64)) (W_lt f _) (two_lt h64)
  rw [W_minus_bit] at e4
  clear h hi hn
  cases is
  all_goals
    generalize W (upd f i true) (i / 64) = R1 at *
    generalize W (upd f i false) (i / 64) = R0 at *
    generalize W f (i / 64) = R at *
    generalize 2 ^ (i % 64) = Q at *
    generalize i / 64 = K at *
    generalize i % 64 = J at *
    generalize nw n = N at *
  · go_enter Tryd.func18, Tryd.ntmps18
    go_wp2_with (first | (go_at_call 32; refine c.mono ?_; rintro e w' ⟨rfl, hw⟩; rw [hw]) | (go_at_call 33; refine d.mono ?_; rintro e w' ⟨rfl, hw⟩; rw [hw]))
    go_ret
    exact ⟨rfl, rfl⟩
  · go_enter Tryd.func18, Tryd.ntmps18
    go_wp2_with (first | (go_at_call 32; refine c.mono ?_; rintro e w' ⟨rfl, hw⟩; rw [hw]) | (go_at_call 33; refine d.mono ?_; rintro e w' ⟨rfl, hw⟩; rw [hw]))
    go_ret
    exact ⟨rfl, rfl⟩

/-- what Set answers, and does -/
def setE (n : Nat) (i : Int) : Int := if there n i then 0 else 2
def setF (n : Nat) (f : Nat → Bool) (i : Int) (is : Bool) : Nat → Bool := if there n i then upd f i.toNat is else f

theorem fits_set {n : Nat} {f : Nat → Bool} (h : Fits n f) (i : Int) (is : Bool) : Fits n (setF n f i is) := by
  unfold setF
  split
  · rename_i c
    have := of_decide_eq_true c
    exact fits_upd h (by omega) is
  · exact h

theorem set_any {b g ca n : Nat} {f : Nat → Bool} (i : Int) (is : Bool) (w : World) (h : RowIs w b g ca n f) :
    Calls Tryd.prog 18 #[.pointer (some ⟨b, 0, none⟩), .int .i64 i, .bool is] w fun e w' => e = .returned (.int .i64 (setE n i)) ∧ RowIs w' b g ca n (setF n f i is) ∧ But g w w' := by
  unfold setE setF
  cases c : there n i
  · refine (set_out i is w h.hdr c).mono ?_
    rintro e w' ⟨rfl, rfl⟩
    exact ⟨rfl, h, But.refl _ _⟩
  · have := of_decide_eq_true c
    obtain ⟨k, rfl⟩ : ∃ k : Nat, i = k := ⟨i.toNat, by omega⟩
    have hk : k < n := by omega
    refine (set_in k is w h hk).mono ?_
    rintro e w' ⟨rfl, rfl⟩
    rw [Int.toNat_natCast]
    exact ⟨rfl, h.put (idx hk h.1).1 (fits_upd h.2.1 hk is) fun j hj hne => W_upd_other f k j is hne, (But.refl _ _).set _ _⟩

theorem info53 : (Tryd.prog.info? 53).map (fun i => (i.zero, i.size, i.bytes)) = some (some (.int .u64 0), 1, 8) := by kernel_rfl

theorem two_blocks (w : World) (a b : Obj) : ((w.alloc a).alloc b).heap[w.heap.size]? = some a ∧ ((w.alloc a).alloc b).heap[w.heap.size + 1]? = some b := by
  have s1 : (w.alloc a).heap.size = w.heap.size + 1 := by show (w.heap.push a).size = _; simp
  refine ⟨?_, ?_⟩
  · rw [Below.heap_alloc _ _ _ (by omega)]; exact heap_alloc_new w a
  · rw [← s1]; exact heap_alloc_new _ b

/-- New: a row of its own -/
def NewRow (n : Nat) (f : Nat → Bool) (w : World) (e : Ending) (w' : World) : Prop :=
  ∃ b g ca, e = .returned (.tuple #[.pointer (some ⟨b, 0, none⟩), .int .i64 0]) ∧ RowIs w' b g ca n f ∧ w.heap.size ≤ g ∧ w.heap.size ≤ b ∧ Bel w w'

theorem new_bad (x : Int) (w : World) (h : x < 0 ∨ 65536 < x) :
    Calls Tryd.prog 10 #[.int .i64 x] w fun e w' => e = .returned (.tuple #[.pointer none, .int .i64 2]) ∧ w' = w := by
  by_cases c : x < 0
  · have d : decide (x < 0) = true := decide_eq_true c
    go_enter Tryd.func10, Tryd.ntmps10
    go_wp2
    go_ret2
    exact ⟨rfl, rfl⟩
  · have d : decide (x < 0) = false := decide_eq_false c
    have d2 : decide (65536 < x) = true := decide_eq_true (by omega)
    go_enter Tryd.func10, Tryd.ntmps10
    go_wp2
    go_ret2
    exact ⟨rfl, rfl⟩

theorem row_new (w w1 : World) (n : Nat) (hn : n ≤ 65536) (h : w1.ownsRow w.heap.size 53 1 (.slice (some ⟨w.heap.size, 0, none⟩) (nw n) (nw n)) (nw n) (madeCells (Value.int .u64 0).cells (nw n * 1)).toList) (hg : w.grownBy w1 none) :
    RowIs (w1.alloc (.cells #[.int .i64 (n : Nat), .slice (some ⟨w.heap.size, 0, none⟩) (nw n) (nw n), .bool true] 55)) w1.heap.size w.heap.size (nw n) n (fun _ => false) ∧
      Bel w (w1.alloc (.cells #[.int .i64 (n : Nat), .slice (some ⟨w.heap.size, 0, none⟩) (nw n) (nw n), .bool true] 55)) := by
  have hb : Bel w w1 := (Bel.refl w).grown hg (Nat.le_refl _) (fun k e => by cases e)
  obtain ⟨hl, h⟩ := h
  rcases h with ⟨h, _⟩ | ⟨g, cap, cur, hv, _, hc, hle, _, hs, ht⟩
  · cases h
  · cases hv
    refine ⟨⟨hn, fits_none n, Nat.le_refl _, heap_alloc_new _ _, cur, ?_, fun k hk => ?_⟩, hb.alloc _⟩
    · rw [Below.heap_alloc _ _ _ (block_lt hc)]; exact hc
    · rw [W_none]
      have hz : (madeCells (Value.int .u64 0).cells (nw n * 1)).toList[k]? = some (.int .u64 0) := by
        show (madeCells #[Value.int .u64 0] (nw n * 1)).toList[k]? = _
        rw [toList_madeCells_one, List.getElem?_replicate, if_pos (by omega)]
      rw [← ht, List.getElem?_take] at hz
      simpa [hk] using hz

theorem new_ok (n : Nat) (hn : n ≤ 65536) (w : World) : Calls Tryd.prog 10 #[.int .i64 (n : Nat)] w (NewRow n (fun _ => false) w) := by
  obtain ⟨i0, hi, hz0, hz1, hz2⟩ := info_parts info53
  have fin := fun w1 h hg => row_new w w1 n hn h hg
  have hq : ((n : Int) + 64 - 1) / 64 = ((nw n : Nat) : Int) := by unfold nw; omega
  have hw : nw n ≤ 65536 := by unfold nw; omega
  have b2 : i0.bytes * nw n ≤ 281474976710656 := by rw [hz2]; omega
  have b3 : nw n ≤ maxLen := by unfold maxLen; omega
  have d1 : decide ((n : Int) < 0) = false := decide_eq_false (by omega)
  have d2 : decide (65536 < (n : Int)) = false := decide_eq_false (by omega)
  generalize nw n = N at *
  have hq := Lib.hid hq
  go_enter Tryd.func10, Tryd.ntmps10
  go_wp2_with (at_make; (refine wpList_make_full _ rfl _ _ _ rfl w.heap.size 53 i0 _ 1 Tryd.underlying51 hi hz0 hz1 .i64 .i64 _ _ N rfl rfl hq.out hq.out b2 b3 (Nat.le_refl _) ?_; intro w1 hown hgrow))
  go_ret2
  exact ⟨w1.heap.size, w.heap.size, N, rfl, (fin w1 hown hgrow).1, Nat.le_refl _, hgrow.size, (fin w1 hown hgrow).2⟩

end Go.Proofs.YtebcmfggmlapdaaDoor
