/- Next of the program. -/
import Derived.Test.YtjgjomojcocegaaDoorBms
namespace Go.Proofs.YtjgjomojcocegaaDoor.bt
open Go.ChangeShapes Go.WideShapes Go.ChangeAt Go.RowKit Go.Shelf
attribute [local go_sem] Oper.semAt_some

theorem allocs_at : ∀ (os : List Obj) (w : World), (os.foldl World.alloc w).heap.size = w.heap.size + os.length ∧ Bel w (os.foldl World.alloc w) ∧ ∀ i, i < os.length → (os.foldl World.alloc w).heap[w.heap.size + i]? = os[i]?
  | [], w => ⟨rfl, Bel.refl w, fun i hi => by simp at hi⟩
  | o :: os, w => by
    obtain ⟨h1, h2, h3⟩ := allocs_at os (w.alloc o)
    have s : (w.alloc o).heap.size = w.heap.size + 1 := World.size_alloc ..
    have b : Bel w (w.alloc o) := (Bel.refl w).alloc o
    refine ⟨?_, b.trans h2, ?_⟩
    · show (os.foldl World.alloc (w.alloc o)).heap.size = _
      rw [h1, s, List.length_cons]; omega
    · rintro (_ | i) hi
      · show (os.foldl World.alloc (w.alloc o)).heap[w.heap.size + 0]? = _
        have hh := World.alloc_heap_new w o
        rw [Nat.add_zero, h2.block _ (by rw [s]; omega), hh]
        rfl
      · show (os.foldl World.alloc (w.alloc o)).heap[w.heap.size + (i + 1)]? = _
        have := h3 i (by simp at hi; omega)
        rw [s, show w.heap.size + 1 + i = w.heap.size + (i + 1) by omega] at this
        rw [this]
        rfl

theorem boxed_at {w W : World} {os : List Obj} (h : W = os.foldl World.alloc w) (i : Nat) {v : Value} {t : TypeId} (hi : os[i]? = some (.cells #[v] t (0, 0))) : Boxed W (w.heap.size + i) t v := by
  subst h
  have hl : i < os.length := (List.getElem?_eq_some_iff.1 hi).1
  exact ((allocs_at os w).2.2 i hl).trans hi

theorem boxed_below {W W' : World} {B n : Nat} {t : TypeId} {v : Value} (h : Boxed W B t v) (k : Below n W W') (hB : B < n) : Boxed W' B t v := (k.block B hB).trans h

theorem upTo_mem {k0 k x : Nat} (h : x ∈ upTo k0 k) : k0 ≤ x ∧ x < k0 + k := by
  obtain ⟨j, hj, rfl⟩ := List.mem_map.1 h
  have := List.mem_range.1 hj
  omega

theorem upTo_split {k0 k y : Nat} {q : List Nat} (h : upTo k0 k = q ++ [y]) : k0 ≤ y ∧ y < k0 + k ∧ ∀ j, k0 ≤ j → j < y → j ∈ q := by
  have hl := congrArg List.length h
  rw [upTo_length, List.length_append, List.length_singleton] at hl
  obtain ⟨k', rfl⟩ : ∃ k', k = k' + 1 := ⟨q.length, by omega⟩
  rw [upTo_succ] at h
  obtain ⟨h1, h2⟩ := List.append_inj' h rfl
  have h2 : k0 + k' = y := by simpa using h2
  subst h2
  refine ⟨by omega, by omega, fun j h3 h4 => ?_⟩
  rw [← h1]
  exact List.mem_map.2 ⟨j - k0, List.mem_range.2 (by omega), by omega⟩

theorem TabAt.below {w w' : World} {n : Nat} (h : TabAt w) (k : Below n w w') (hn : 0 < n) : TabAt w' := fun j hj => (k.cell (p := ⟨0, j, none⟩) hn).trans (h j hj)
theorem TabAt.pos {w : World} (h : TabAt w) : 0 < w.heap.size := (cell_block (h 0 (by decide))).1

theorem Bel.trans_below {a b c : World} (h : Bel a b) (k : Below a.heap.size b c) : Bel a c := Below.trans h k
theorem set_two {W : World} {a c : Nat} {u v u' v' : Value} (hac : a ≠ c) (ha : W.cell? ⟨a, 0, none⟩ = some u') (hc : W.cell? ⟨c, 0, none⟩ = some v') :
    ((W.setCell ⟨a, 0, none⟩ u).setCell ⟨c, 0, none⟩ v).cell? ⟨a, 0, none⟩ = some u ∧ ((W.setCell ⟨a, 0, none⟩ u).setCell ⟨c, 0, none⟩ v).cell? ⟨c, 0, none⟩ = some v := by
  refine ⟨?_, ?_⟩
  · rw [World.cell?_setCell_far _ _ _ _ (fun e => hac e.symm)]
    exact World.cell?_setCell_same' _ _ _ (by rw [ha]; rfl)
  · refine World.cell?_setCell_same' _ _ _ ?_
    rw [World.cell?_setCell_far _ _ _ _ (fun e => hac e), hc]
    rfl

set_option maxRecDepth 100000 in
set_option maxHeartbeats 4000000 in
theorem next_row {b g ca n : Nat} {f : Nat → Bool} (x : Int) (is : Bool) (w : World) (h : RowIs w b g ca n f) (hT : TabAt w) (hx : x ≤ 9223372036854775807) :
    Calls Tryd.prog 40 #[.pointer (some ⟨b, 0, none⟩), .int .i64 x, .bool is] w fun e w' => e = .returned (.tuple #[.int .i64 (nxA (nxt f n (start x) is)), .bool (nxt f n (start x) is).isSome]) ∧ Bel w w' := by
  refine (callsIn_wide (n := 3)).1 ?_
  have hMx : max x 0 = ((start x : Nat) : Int) := by unfold start; omega
  have hM : start x ≤ 9223372036854775807 := by unfold start; omega
  generalize start x = m at *
  obtain ⟨K, hK⟩ : ∃ K : Nat, m / 64 = K := ⟨_, rfl⟩
  have hKi : (m : Int) / 64 = (K : Int) := by omega
  refine callsIn_of_wp_marks Tryd.func40 rfl trivial ?_ rfl
  simp only [Tryd.ntmps40, List.size_toArray, List.length_cons, List.length_nil, Nat.reduceAdd, Nat.reduceSub, Array.replicate_succ, Array.replicate_zero, List.push_toArray, List.append_toArray, List.nil_append, List.cons_append]
  gi_wp2_with (refine ⟨trivial, ?_⟩; gi_at_call 64; refine (callsIn_wide.2 (masks_any _ _ _ _ ⟨_, rfl⟩)).mono ?_; rintro e w' ⟨rfl, hw⟩)
  have hs : w'.heap.size = w.heap.size + 7 ∧ Bel w w' := by
    rw [hw]
    have := allocs_at [.cells #[.pointer (some ⟨b, 0, none⟩)] 46, .cells #[.int .i64 (m : Int)] 3, .cells #[.int .i64 0] 3, .cells #[.bool false] 4, .cells #[.pointer (some ⟨b, 0, none⟩)] 46, .cells #[.int .i64 (K : Int)] 3, .cells #[.bool is] 4] w
    exact ⟨this.1, this.2.1⟩
  have bx := fun i v t hi => boxed_at (w := w) (W := w') (os := [.cells #[.pointer (some ⟨b, 0, none⟩)] 46, .cells #[.int .i64 (m : Int)] 3, .cells #[.int .i64 0] 3, .cells #[.bool false] 4, .cells #[.pointer (some ⟨b, 0, none⟩)] 46, .cells #[.int .i64 (K : Int)] 3, .cells #[.bool is] 4]) hw i (v := v) (t := t) hi
  have b0 : Boxed w' w.heap.size 46 _ := bx 0 _ _ rfl
  have b1 : Boxed w' (w.heap.size + 1) 3 _ := bx 1 _ _ rfl
  have b2 : Boxed w' (w.heap.size + 1 + 1) 3 _ := bx 2 _ _ rfl
  have b3 : Boxed w' (w.heap.size + 1 + 1 + 1) 4 _ := bx 3 _ _ rfl
  have b4 : Boxed w' (w.heap.size + 1 + 1 + 1 + 1) 46 _ := bx 4 _ _ rfl
  have b5 : Boxed w' (w.heap.size + 1 + 1 + 1 + 1 + 1) 3 _ := bx 5 _ _ rfl
  have b6 : Boxed w' (w.heap.size + 1 + 1 + 1 + 1 + 2) 4 _ := bx 6 _ _ rfl
  rw [← hw]
  clear bx hw
  obtain ⟨hs, hB⟩ := hs
  have h' := h.bel hB
  have hT' := hT.bel hB
  have hb : b < w.heap.size := (cell_block h.head.1).1
  have hg : g < w.heap.size := block_lt h.at.choose_spec
  have hpos := hT.pos
  refine wpIn_rangeFunc_ownF rfl (by omega) (gf := 81) (lb := #[.pointer (some ⟨w.heap.size + 1 + 1 + 1 + 1 + 1, 0, none⟩), .pointer (some ⟨w.heap.size + 1 + 1 + 1 + 1, 0, none⟩), .pointer (some ⟨w.heap.size + 1 + 1 + 1 + 1 + 2, 0, none⟩)]) rfl trivial (enters_of Tryd.func81 (by kernel_rfl) rfl)
    (encs := enc n is) (Kp := Below (w.heap.size + 7)) (S := fun ys => ys = upTo K (nw n - K)) (Sp := fun pre => ∃ k, k ≤ nw n - K ∧ pre = upTo K k) (N := nw n - K) (w0 := w')
    (fun l J Jx W hW _ _ hY h0 => masks1_row 2 (by omega) l _ _ _ (w.heap.size + 7) b g ca n K f is (by omega) (by omega) (by omega) (by omega) J Jx hY W (cell_bel hW b5.cell) (cell_bel hW b4.cell) (cell_bel hW b6.cell) (h'.below hW (by omega) (by omega)) (by omega) h0)
    belowK_t (belowK_b (by omega)) (Below.refl _ _) (fun _ => rfl)
    (fun pre W => (∀ y ∈ pre, fd f n m is (cl (nw n) y) = 0) ∧ Below (w.heap.size + 7) w' W)
    (fun c pre W => (c = .ret ∧ ∃ q y, pre = q ++ [y] ∧ (∀ z ∈ q, fd f n m is (cl (nw n) z) = 0) ∧ fd f n m is (cl (nw n) y) ≠ 0 ∧
      W.cell? ⟨w.heap.size + 1 + 1, 0, none⟩ = some (.int .i64 ((64 * cl (nw n) y + Lib.ctz 64 (fd f n m is (cl (nw n) y)) : Nat) : Int)) ∧ W.cell? ⟨w.heap.size + 1 + 1 + 1, 0, none⟩ = some (.bool true)) ∧ Below w.heap.size w' W)
    (OwnFrom.and (ownFrom_pure _ _) (ownFrom_below (by omega) (by omega)))
    (fun c => OwnFrom.and (fun s A B row hs hg hr => by
      obtain ⟨rfl, q, y, h1, h2, h3, h4, h5⟩ := hs
      exact ⟨rfl, q, y, h1, h2, h3, cell_kept h4 hg (fun r e => (hr r e).2), cell_kept h5 hg (fun r e => (hr r e).2)⟩) (ownFrom_below (by omega) (by omega)))
    ⟨fun y hy => (by cases hy), Below.refl _ _⟩
    (fun y => { tmps := #[.pointer (some ⟨b, 0, none⟩), .int .i64 x, .bool is, .pointer (some ⟨w.heap.size, 0, none⟩), .pointer (some ⟨w.heap.size + 1, 0, none⟩), undef, .pointer (some ⟨w.heap.size + 1 + 1, 0, none⟩), .pointer (some ⟨w.heap.size + 1 + 1 + 1, 0, none⟩),
      .int .i64 (cl (nw n) y : Nat), .int .u64 (mask n (cl (nw n) y) is : Nat), undef, .int .i64 x, .int .i64 (m : Nat), .pointer (some ⟨b, 0, none⟩), .int .i64 (m : Nat), .int .i64 (K : Nat), .bool is,
      .func (.func 81) #[] #[.pointer (some ⟨w.heap.size + 1 + 1 + 1 + 1 + 1, 0, none⟩), .pointer (some ⟨w.heap.size + 1 + 1 + 1 + 1, 0, none⟩), .pointer (some ⟨w.heap.size + 1 + 1 + 1 + 1 + 2, 0, none⟩)],
      .int .i64 (cl (nw n) y : Nat), .int .u64 (mask n (cl (nw n) y) is : Nat), undef, undef, undef, undef, undef, undef, undef, undef, undef, undef, undef, undef, undef, undef, undef, undef, undef, undef, undef, undef, undef, undef, undef, undef, undef], defers := [] }) ?assign ?body ?done ?stop
  case assign =>
    intro l y W K' hK'
    simp only [enc]
    gi_wp2
    exact hK'
  case body =>
    rintro l pre y W1 ⟨hp, hBW⟩ hlen
    have hYn : cl (nw n) y < nw n := by unfold cl; omega
    simp only
    obtain ⟨Y, hY⟩ : ∃ Y, cl (nw n) y = Y := ⟨_, rfl⟩
    have hmem : ∀ z ∈ pre ++ [y], fd f n m is Y = 0 → fd f n m is (cl (nw n) z) = 0 := fun z hz e => by
      rcases List.mem_append.1 hz with hz | hz
      · exact hp z hz
      · rw [List.mem_singleton.1 hz, hY]; exact e
    rw [hY] at hYn ⊢
    have hW := h'.below hBW (by omega) (by omega)
    have hTW := hT'.below hBW (by omega)
    have c0 := (boxed_below b0 hBW (by omega)).cell
    have c1 := (boxed_below b1 hBW (by omega)).cell
    have c2 := (boxed_below b2 hBW (by omega)).cell
    have f2 := (boxed_below b2 hBW (by omega)).frozen
    have c3 := (boxed_below b3 hBW (by omega)).cell
    have f3 := (boxed_below b3 hBW (by omega)).frozen
    obtain ⟨_, r1, _⟩ := hW.head
    obtain ⟨x1, _⟩ := hW.word hYn
    have e1 := u64_xor_nat (W f Y) (mask n Y is) (W_lt _ _) (mask_lt _ _ _)
    rw [W_mask h.2.1] at e1
    have kI : (Y : Int) < ((nw n : Nat) : Int) := by omega
    have tz := fun (hne : fd f n m is Y ≠ 0) w hT => tz_any (fd f n m is Y) (fd_lt _ _ _ _ _) hne w hT
    have hcz : fd f n m is Y ≠ 0 → Lib.ctz 64 (fd f n m is Y) < 64 := fun hne => (ctz_bit _ hne (fd_lt _ _ _ _ _)).1
    have hnw : nw n ≤ 65536 := by have := h.1; unfold nw; omega
    have hsz := hBW.size
    have hBs := hBW.mono (show w.heap.size ≤ w.heap.size + 7 by omega)
    have two := fun u v => set_two (W := W1) (u := u) (v := v) (show w.heap.size + 1 + 1 ≠ w.heap.size + 1 + 1 + 1 by omega) c2 c3
    have hsame : (if Y = K then W (after (sel f n is) m) Y else W (sel f n is) Y) = fd f n m is Y := by
      unfold fd
      rw [hK]
    obtain ⟨R3, hR3⟩ : ∃ R3, fd f n m is Y = R3 := ⟨_, rfl⟩
    rw [hR3] at tz hcz hmem hsame
    have fin : R3 ≠ 0 → (∃ q z, pre ++ [y] = q ++ [z] ∧ (∀ z ∈ q, fd f n m is (cl (nw n) z) = 0) ∧ fd f n m is (cl (nw n) z) ≠ 0 ∧
      ((W1.setCell ⟨w.heap.size + 1 + 1, 0, none⟩ (.int .i64 ((64 * Y + Lib.ctz 64 R3 : Nat) : Int))).setCell ⟨w.heap.size + 1 + 1 + 1, 0, none⟩ (.bool true)).cell? ⟨w.heap.size + 1 + 1, 0, none⟩ = some (.int .i64 ((64 * cl (nw n) z + Lib.ctz 64 (fd f n m is (cl (nw n) z)) : Nat) : Int)) ∧
      ((W1.setCell ⟨w.heap.size + 1 + 1, 0, none⟩ (.int .i64 ((64 * Y + Lib.ctz 64 R3 : Nat) : Int))).setCell ⟨w.heap.size + 1 + 1 + 1, 0, none⟩ (.bool true)).cell? ⟨w.heap.size + 1 + 1 + 1, 0, none⟩ = some (.bool true)) ∧
      Below w.heap.size w' ((W1.setCell ⟨w.heap.size + 1 + 1, 0, none⟩ (.int .i64 ((64 * Y + Lib.ctz 64 R3 : Nat) : Int))).setCell ⟨w.heap.size + 1 + 1 + 1, 0, none⟩ (.bool true)) := fun hne => by
      obtain ⟨t1, t2⟩ := two (.int .i64 ((64 * Y + Lib.ctz 64 R3 : Nat) : Int)) (.bool true)
      refine ⟨⟨pre, y, rfl, hp, by rw [hY, hR3]; exact hne, by rw [t1, hY, hR3], t2⟩, ?_⟩
      exact (hBs.setCell (p := ⟨w.heap.size + 1 + 1, 0, none⟩) (by show w.heap.size ≤ w.heap.size + 1 + 1; omega) _).setCell (p := ⟨w.heap.size + 1 + 1 + 1, 0, none⟩) (by show w.heap.size ≤ w.heap.size + 1 + 1 + 1; omega) _
    have go : R3 = 0 → (∀ z ∈ pre ++ [y], fd f n m is (cl (nw n) z) = 0) ∧ Below (w.heap.size + 7) w' W1 := fun e => ⟨fun z hz => hmem z hz e, hBW⟩
    have go := Lib.hid go
    have fin := Lib.hid fin
    have hTb := hTW
    have hTW' := Lib.hid hTW
    clear b0 b1 b2 b3 b4 b5 b6 h h' hT hT' hW hTW hlen hBW hBs two hmem hp hR3 hTb
    generalize hCt : Lib.ctz 64 R3 = Ct at *
    clear hCt
    by_cases hYK : Y = K
    · have e2 := u64_andNot_nat (W (sel f n is) Y) (2 ^ (m % 64) - 1) (W_lt _ _) (by have := two_lt (show m % 64 < 64 by omega); omega)
      rw [if_pos hYK] at hsame
      have e3 := W_after (sel f n is) m
      rw [hK, ← hYK] at e3
      rw [e3, hsame] at e2
      have on := fun w => ones_any (m % 64) w (by omega)
      have hr1 := rem64 m
      have hr2 : (m : Int) % 64 = ((m % 64 : Nat) : Int) := by omega
      clear e3 hsame
      generalize W (sel f n is) Y = R2 at *
      generalize W f Y = R1 at *
      generalize mask n Y is = M at *
      generalize 2 ^ (m % 64) - 1 = P at *
      generalize m % 64 = J at *
      subst hYK
      by_cases hz : R3 = 0
      · have go2 := Lib.hid (go.out hz)
        clear tz hcz fin go
        subst hz
        gi_wp2_with (refine ⟨trivial, ?_⟩; gi_at_call 65; refine (CallsIn.inRound l (callsIn_wide.2 (on _))).mono ?_; rintro e w' ⟨rfl, hw⟩; rw [hw])
        exact ⟨KeepsOthers.refl _, Below.refl _ _, go2.out⟩
      · have fin2 := Lib.hid (fin.out hz)
        have t := fun w hT => tz hz w hT
        have hc := hcz hz
        have hz1 : ((R3 : Nat) : Int) ≠ 0 := by omega
        have hd : decide (((R3 : Nat) : Int) = 0) = false := decide_eq_false hz1
        have hd2 : (((R3 : Nat) : Int) == 0) = false := by simp; omega
        have hd3 : (R3 == 0) = false := by simp; omega
        have hsum : (Y : Int) * 64 + (Ct : Int) = ((64 * Y + Ct : Nat) : Int) := by omega
        have hsm : 64 * Y + Ct ≤ 9223372036854775807 := by omega
        generalize 64 * Y + Ct = Z at *
        clear go tz hcz hz1 fin
        gi_wp2_with (first
          | (refine ⟨trivial, ?_⟩; gi_at_call 65; refine (CallsIn.inRound l (callsIn_wide.2 (on _))).mono ?_; rintro e w' ⟨rfl, hw⟩; rw [hw])
          | (refine ⟨trivial, ?_⟩; gi_at_call 66; refine (CallsIn.inRound l (callsIn_wide.2 (t _ hTW'.out))).mono ?_; rintro e w' ⟨rfl, hw⟩; rw [hw]))
        exact ⟨(KeepsOthers.setCell _ _ _).trans (KeepsOthers.setCell _ _ _), ⟨rfl, fin2.out.1⟩, fin2.out.2⟩
    · rw [if_neg hYK] at hsame
      rw [hsame] at e1
      have hk1 : decide ((Y : Int) = (K : Int)) = false := decide_eq_false (by omega)
      have hk2 : ((Y : Int) == (K : Int)) = false := by simp; omega
      have hk3 : (Y == K) = false := by simp; omega
      have hk4 : decide (Y = K) = false := decide_eq_false hYK
      clear hsame
      generalize W f Y = R1 at *
      generalize mask n Y is = M at *
      by_cases hz : R3 = 0
      · have go2 := Lib.hid (go.out hz)
        clear tz hcz fin go
        subst hz
        gi_wp2
        exact ⟨KeepsOthers.refl _, Below.refl _ _, go2.out⟩
      · have fin2 := Lib.hid (fin.out hz)
        have t := fun w hT => tz hz w hT
        have hc := hcz hz
        have hz1 : ((R3 : Nat) : Int) ≠ 0 := by omega
        have hd : decide (((R3 : Nat) : Int) = 0) = false := decide_eq_false hz1
        have hd2 : (((R3 : Nat) : Int) == 0) = false := by simp; omega
        have hd3 : (R3 == 0) = false := by simp; omega
        have hsum : (Y : Int) * 64 + (Ct : Int) = ((64 * Y + Ct : Nat) : Int) := by omega
        have hsm : 64 * Y + Ct ≤ 9223372036854775807 := by omega
        generalize 64 * Y + Ct = Z at *
        clear go tz hcz hz1 fin
        gi_wp2_with (refine ⟨trivial, ?_⟩; gi_at_call 66; refine (CallsIn.inRound l (callsIn_wide.2 (t _ hTW'.out))).mono ?_; rintro e w' ⟨rfl, hw⟩; rw [hw])
        exact ⟨(KeepsOthers.setCell _ _ _).trans (KeepsOthers.setCell _ _ _), ⟨rfl, fin2.out.1⟩, fin2.out.2⟩
  case done =>
    rintro D ys W1 hD rfl ⟨hne, hBW⟩ hKD
    have e0 : nxt f n m is = none := nxt_none fun k h1 h2 => by
      have := hne k (List.mem_map.2 ⟨k - K, List.mem_range.2 (by omega), by omega⟩)
      rwa [show cl (nw n) k = k by unfold cl; omega] at this
    have c2 := (boxed_below b2 hBW (by omega)).cell
    have f2 := (boxed_below b2 hBW (by omega)).frozen
    have c3 := (boxed_below b3 hBW (by omega)).cell
    have f3 := (boxed_below b3 hBW (by omega)).frozen
    have two := set_two (W := W1) (u := .int .i64 0) (v := .bool false) (show w.heap.size + 1 + 1 ≠ w.heap.size + 1 + 1 + 1 by omega) c2 c3
    have hsz := hBW.size
    have hBs := ((hB.trans (hBW.mono (by omega))).setCell (p := ⟨w.heap.size + 1 + 1, 0, none⟩) (by show w.heap.size ≤ w.heap.size + 1 + 1; omega) (.int .i64 0)).setCell (p := ⟨w.heap.size + 1 + 1 + 1, 0, none⟩) (by show w.heap.size ≤ w.heap.size + 1 + 1 + 1; omega) (.bool false)
    have e0 := Lib.hid e0
    have hBs := Lib.hid hBs
    have two := Lib.hid two
    clear b0 b1 b4 b5 b6 h h' hT hT' hne hx hMx hM
    gi_wp2
    have hK' := ((KeepsOthers.setCell W1 ⟨w.heap.size + 1 + 1, 0, none⟩ (.int .i64 0)).trans (KeepsOthers.setCell _ ⟨w.heap.size + 1 + 1 + 1, 0, none⟩ (.bool false))).same D _ hKD rfl
    refine ⟨by simp, .inl ⟨_, _, rfl, run_takeDeferred hK', ?_⟩⟩
    have k2 := cell_kept two.out.1 (grownBy_putObj' _ D (.deferred none)) (fun r e => by cases e; exact ⟨_, hK', rfl⟩)
    have k3 := cell_kept two.out.2 (grownBy_putObj' _ D (.deferred none)) (fun r e => by cases e; exact ⟨_, hK', rfl⟩)
    refine ⟨.tuple #[.int .i64 0, .bool false], ?_, by rw [e0.out]; rfl, hBs.out.trans (belowK_b (w := w) (Nat.le_refl _) _ D _ _ (by omega) hK' rfl rfl)⟩
    simp [results, Tryd.f40, go_sem, k2, k3]
  case stop =>
    rintro D c pre W1 hD ⟨k, hk, rfl⟩ ⟨⟨rfl, q, y, hq, h1, h2, h3, h4⟩, hBW⟩ hKD
    obtain ⟨a1, a2, a3⟩ := upTo_split hq
    have ey : cl (nw n) y = y := by unfold cl; omega
    rw [ey] at h2 h3
    have e0 : nxt f n m is = some (64 * y + Lib.ctz 64 (fd f n m is y)) := nxt_some h2 (by omega) fun j j1 j2 => by
      have := h1 j (a3 j (by omega) j2)
      rwa [show cl (nw n) j = j by unfold cl; omega] at this
    have hBs := Bel.trans_below hB hBW
    have e0 := Lib.hid e0
    have hBs := Lib.hid hBs
    have h3 := Lib.hid h3
    have h4 := Lib.hid h4
    clear b0 b1 b4 b5 b6 h h' hT hT' h1 h2 hx hMx hM
    gi_wp2
    refine ⟨by simp, .inl ⟨_, _, rfl, run_takeDeferred hKD, ?_⟩⟩
    have k2 := cell_kept h3.out (grownBy_putObj' _ D (.deferred none)) (fun r e => by cases e; exact ⟨_, hKD, rfl⟩)
    have k3 := cell_kept h4.out (grownBy_putObj' _ D (.deferred none)) (fun r e => by cases e; exact ⟨_, hKD, rfl⟩)
    refine ⟨.tuple #[.int .i64 ((64 * y + Lib.ctz 64 (fd f n m is y) : Nat) : Int), .bool true], ?_, by rw [e0.out]; rfl, Below.trans hBs.out (belowK_b (w := w) (Nat.le_refl _) _ D _ _ (by omega) hKD rfl rfl)⟩
    simp [results, Tryd.f40, go_sem, k2, k3]

set_option maxRecDepth 100000 in
set_option maxHeartbeats 4000000 in
theorem next_none {p : Value} {n : Nat} {mm : Bool} (x : Int) (is : Bool) (w : World) (h : Hdr w p n (.slice none 0 0) mm) (hx : x ≤ 9223372036854775807) :
    Calls Tryd.prog 40 #[p, .int .i64 x, .bool is] w fun e w' => e = .returned (.tuple #[.int .i64 0, .bool false]) ∧ Bel w w' := by
  refine (callsIn_wide (n := 3)).1 ?_
  obtain ⟨q, rfl⟩ : ∃ q, p = .pointer q := by
    rcases h with ⟨rfl, _⟩ | ⟨b, rfl, _⟩
    · exact ⟨_, rfl⟩
    · exact ⟨_, rfl⟩
  have hMx : max x 0 = ((start x : Nat) : Int) := by unfold start; omega
  have hM : start x ≤ 9223372036854775807 := by unfold start; omega
  generalize start x = m at *
  obtain ⟨K, hK⟩ : ∃ K : Nat, m / 64 = K := ⟨_, rfl⟩
  have hKi : (m : Int) / 64 = (K : Int) := by omega
  refine callsIn_of_wp_marks Tryd.func40 rfl trivial ?_ rfl
  simp only [Tryd.ntmps40, List.size_toArray, List.length_cons, List.length_nil, Nat.reduceAdd, Nat.reduceSub, Array.replicate_succ, Array.replicate_zero, List.push_toArray, List.append_toArray, List.nil_append, List.cons_append]
  gi_wp2_with (refine ⟨trivial, ?_⟩; gi_at_call 64; refine (callsIn_wide.2 (masks_any _ _ _ _ ⟨_, rfl⟩)).mono ?_; rintro e w' ⟨rfl, hw⟩)
  have hs : w'.heap.size = w.heap.size + 7 ∧ Bel w w' := by
    rw [hw]
    have := allocs_at [.cells #[.pointer q] 46, .cells #[.int .i64 (m : Int)] 3, .cells #[.int .i64 0] 3, .cells #[.bool false] 4, .cells #[.pointer q] 46, .cells #[.int .i64 (K : Int)] 3, .cells #[.bool is] 4] w
    exact ⟨this.1, this.2.1⟩
  have bx := fun i v t hi => boxed_at (w := w) (W := w') (os := [.cells #[.pointer q] 46, .cells #[.int .i64 (m : Int)] 3, .cells #[.int .i64 0] 3, .cells #[.bool false] 4, .cells #[.pointer q] 46, .cells #[.int .i64 (K : Int)] 3, .cells #[.bool is] 4]) hw i (v := v) (t := t) hi
  have b2 : Boxed w' (w.heap.size + 1 + 1) 3 _ := bx 2 _ _ rfl
  have b3 : Boxed w' (w.heap.size + 1 + 1 + 1) 4 _ := bx 3 _ _ rfl
  have b4 : Boxed w' (w.heap.size + 1 + 1 + 1 + 1) 46 _ := bx 4 _ _ rfl
  have b5 : Boxed w' (w.heap.size + 1 + 1 + 1 + 1 + 1) 3 _ := bx 5 _ _ rfl
  rw [← hw]
  clear bx hw
  obtain ⟨hs, hB⟩ := hs
  have h' := h.bel hB
  refine wpIn_rangeFunc_ownF rfl (by omega) (gf := 81) (lb := #[.pointer (some ⟨w.heap.size + 1 + 1 + 1 + 1 + 1, 0, none⟩), .pointer (some ⟨w.heap.size + 1 + 1 + 1 + 1, 0, none⟩), .pointer (some ⟨w.heap.size + 1 + 1 + 1 + 1 + 2, 0, none⟩)]) rfl trivial (enters_of Tryd.func81 (by kernel_rfl) rfl)
    (encs := enc n is) (Kp := Below (w.heap.size + 7)) (S := fun ys => ys = []) (Sp := fun pre => pre = []) (N := 0) (w0 := w')
    (fun l J Jx W hW _ _ hY h0 => masks1_none 2 (by omega) l _ _ _ n K _ mm J Jx W (cell_bel hW b5.cell) (cell_bel hW b4.cell) (h'.bel hW) (by omega) h0)
    belowK_t (belowK_b (by omega)) (Below.refl _ _) (fun _ => rfl)
    (fun pre W => Below (w.heap.size + 7) w' W)
    (fun c pre W => False)
    (ownFrom_below (by omega) (by omega))
    (fun c => fun s A B row hs hg hr => hs)
    (Below.refl _ _)
    (fun y => { tmps := #[.pointer q, .int .i64 x, .bool is, .pointer (some ⟨w.heap.size, 0, none⟩), .pointer (some ⟨w.heap.size + 1, 0, none⟩), undef, .pointer (some ⟨w.heap.size + 1 + 1, 0, none⟩), .pointer (some ⟨w.heap.size + 1 + 1 + 1, 0, none⟩),
      .int .i64 (cl (nw n) y : Nat), .int .u64 (mask n (cl (nw n) y) is : Nat), undef, .int .i64 x, .int .i64 (m : Nat), .pointer q, .int .i64 (m : Nat), .int .i64 (K : Nat), .bool is,
      .func (.func 81) #[] #[.pointer (some ⟨w.heap.size + 1 + 1 + 1 + 1 + 1, 0, none⟩), .pointer (some ⟨w.heap.size + 1 + 1 + 1 + 1, 0, none⟩), .pointer (some ⟨w.heap.size + 1 + 1 + 1 + 1 + 2, 0, none⟩)],
      .int .i64 (cl (nw n) y : Nat), .int .u64 (mask n (cl (nw n) y) is : Nat), undef, undef, undef, undef, undef, undef, undef, undef, undef, undef, undef, undef, undef, undef, undef, undef, undef, undef, undef, undef, undef, undef, undef, undef, undef], defers := [] }) ?assign ?body ?done ?stop
  case assign =>
    intro l y W K' hK'
    simp only [enc]
    gi_wp2
    exact hK'
  case body =>
    intro l pre y W1 _ hlen
    omega
  case done =>
    rintro D ys W1 hD rfl hBW hKD
    have c2 := (boxed_below b2 hBW (by omega)).cell
    have f2 := (boxed_below b2 hBW (by omega)).frozen
    have c3 := (boxed_below b3 hBW (by omega)).cell
    have f3 := (boxed_below b3 hBW (by omega)).frozen
    have two := set_two (W := W1) (u := .int .i64 0) (v := .bool false) (show w.heap.size + 1 + 1 ≠ w.heap.size + 1 + 1 + 1 by omega) c2 c3
    have hsz := hBW.size
    have hBs := ((hB.trans (hBW.mono (by omega))).setCell (p := ⟨w.heap.size + 1 + 1, 0, none⟩) (by show w.heap.size ≤ w.heap.size + 1 + 1; omega) (.int .i64 0)).setCell (p := ⟨w.heap.size + 1 + 1 + 1, 0, none⟩) (by show w.heap.size ≤ w.heap.size + 1 + 1 + 1; omega) (.bool false)
    have hBs := Lib.hid hBs
    have two := Lib.hid two
    clear b4 b5 h h' hx hMx hM
    gi_wp2
    have hK' := ((KeepsOthers.setCell W1 ⟨w.heap.size + 1 + 1, 0, none⟩ (.int .i64 0)).trans (KeepsOthers.setCell _ ⟨w.heap.size + 1 + 1 + 1, 0, none⟩ (.bool false))).same D _ hKD rfl
    refine ⟨by simp, .inl ⟨_, _, rfl, run_takeDeferred hK', ?_⟩⟩
    have k2 := cell_kept two.out.1 (grownBy_putObj' _ D (.deferred none)) (fun r e => by cases e; exact ⟨_, hK', rfl⟩)
    have k3 := cell_kept two.out.2 (grownBy_putObj' _ D (.deferred none)) (fun r e => by cases e; exact ⟨_, hK', rfl⟩)
    refine ⟨.tuple #[.int .i64 0, .bool false], ?_, rfl, hBs.out.trans (belowK_b (w := w) (Nat.le_refl _) _ D _ _ (by omega) hK' rfl rfl)⟩
    simp [results, Tryd.f40, go_sem, k2, k3]
  case stop =>
    intro D c pre W1 _ _ hf
    exact hf.elim

end Go.Proofs.YtjgjomojcocegaaDoor.bt
