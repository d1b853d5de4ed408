/- The document's answers that make rows: New, Set, Less. -/
import Derived.Test.YtebcmfggmlapdaaDoorRfa
namespace Go.Proofs.YtebcmfggmlapdaaDoor
open Go.ChangeShapes Go.WideShapes Go.ChangeAt Go.RowKit

theorem info4 : (Tryd.prog.info? 4).map (fun i => (i.zero, i.size, i.bytes)) = some (some (.bool false), 1, 1) := by kernel_rfl

/-- truths, listed -/
def bl (f : Nat → Bool) (k : Nat) : List Value := (List.range k).map fun j => .bool (f j)
theorem bl_succ (f : Nat → Bool) (k : Nat) : bl f (k + 1) = bl f k ++ [.bool (f k)] := by simp [bl, List.range_succ]
theorem bl_at (f : Nat → Bool) {k j : Nat} (h : j < k) : (bl f k)[j]? = some (.bool (f j)) := by
  unfold bl; rw [List.getElem?_map, List.getElem?_range h]; rfl
theorem bl_length (f : Nat → Bool) (k : Nat) : (bl f k).length = k := by simp [bl]
theorem bl_set (f : Nat → Bool) (k i : Nat) (t : Bool) : (bl f k).set i (.bool t) = bl (upd f i t) k := by
  apply List.ext_getElem?
  intro j
  rw [List.getElem?_set]
  by_cases hj : j < k
  · rw [bl_at _ hj, bl_at _ hj, bl_length]
    unfold upd
    by_cases e : i = j
    · subst e; rw [if_pos rfl, if_pos hj, if_pos rfl]
    · rw [if_neg e, if_neg (fun h => e h.symm)]
  · have e1 : (bl f k)[j]? = none := List.getElem?_eq_none (by rw [bl_length]; omega)
    have e2 : (bl (upd f i t) k)[j]? = none := List.getElem?_eq_none (by rw [bl_length]; omega)
    rw [e1, e2, bl_length]
    by_cases e : i = j
    · rw [if_pos e, if_neg (by omega)]
    · rw [if_neg e]
theorem bl_congr {f g : Nat → Bool} {k : Nat} (h : ∀ j, j < k → f j = g j) : bl f k = bl g k :=
  List.map_congr_left fun j hj => by rw [h j (List.mem_range.1 hj)]

theorem bools_own {w : World} {B n : Nat} {v : Value} {f : Nat → Bool} (h : w.ownsRow B 4 1 v n (bl f n)) : Bools w v n f := by
  rcases h.2 with ⟨rfl, rfl⟩ | ⟨G, cap, cur, rfl, _, hg, hn, hc, hs, ht⟩
  · exact Or.inl ⟨rfl, none, 0, rfl⟩
  · by_cases c : n = 0
    · subst c; exact Or.inl ⟨rfl, _, _, rfl⟩
    · refine Or.inr ⟨G, cap, cur, rfl, by omega, hn, by unfold maxLen at hc; omega, hg, fun j hj => ?_⟩
      have := bl_at f hj
      rw [← ht, List.getElem?_take, if_pos (by omega)] at this
      simpa using this

theorem size_alloc1 (w : World) (o : Obj) : (w.alloc o).heap.size = w.heap.size + 1 := World.size_alloc ..

set_option maxHeartbeats 2000000 in
theorem rnew_any (n : Nat) (hn : n ≤ 100000) (w : World) :
    Calls Tryd.prog 13 #[.int .i64 (n : Nat)] w fun e w' => ∃ v, e = .returned v ∧ Bools w' v n (fun _ => false) ∧ Bel w w' := by
  obtain ⟨i0, hi, hz0, hz1, hz2⟩ := info_parts info4
  go_enter Tryd.func13, Tryd.ntmps13
  go_wp2
  go_loopw [3, 4] (fun a i wr => ∃ k : Nat, k ≤ n ∧ i = .int .i64 (k : Nat) ∧ wr.ownsRow w.heap.size 4 1 a k (bl (fun _ => false) k) ∧ Bel w wr) (fun _ i _ => n - (intOf i).toNat)
  case atStart => exact ⟨0, Nat.zero_le _, rfl, World.ownsRow_nil _ _ _ _, Bel.refl _⟩
  case round =>
    obtain ⟨k, hk, rfl, hown, hbr⟩ := hrel
    by_cases ck : k < n
    · have hbB := hbr.size
      have rel : ∀ w1 v, (wr.alloc (.cells #[v] 4)).grownBy w1 u3.ownBlock → Bel w w1 := fun w1 v hg =>
        ((hbr.alloc _).grown hg (by rw [size_alloc1]; omega) (fun x hx => (hown.lt x hx).1))
      have m1 : k + 1 ≤ maxLen := by unfold maxLen; omega
      have m2 : (k + 1) * 1 ≤ 140737488355328 := by omega
      have kI : (k : Int) < (n : Int) := by omega
      have bs := Lib.hid (bl_succ (fun _ => false) k)
      clear hbr
      go_wp2_with (at_builtin; refine wpList_append_lies _ rfl (.tmp 10) (.tmp 11) 29 rfl w.heap.size 4 i0 (.bool false) 1 1 Tryd.underlying29 hi hz0 hz1 hz2 rfl (by decide) u3 k (bl (fun _ => false) k) rfl (hown.alloc _) ⟨wr.heap.size, 0, none⟩ 1 1 [.bool false] rfl rfl (World.news_of_block (cs := #[.bool false]) (t := 4) (fr := (0, 0)) (heap_alloc_new _ _)) (by simp [Value.oneCell']) (by omega) m1 m2 (by simp; omega) (wr.heap.size + 1) (by simp) ?_; intro gg cap w1 hown1 hgrow hat hlt; have rel1 := rel _ _ hgrow; clear hgrow hat hlt rel)
      go_roundw
      case rel => exact ⟨k + 1, by omega, by go_num, by rw [bs.out]; exact hown1, rel1⟩
      case measure => simp only [intOf]; omega
    · obtain rfl : k = n := by omega
      have fin := bools_own hown
      clear hown
      go_wp2
      go_ret
      exact ⟨u3, rfl, fin, hbr⟩

/-- what the document's Set answers, Less -/
def lessE (n m : Nat) : Int := if n = m then 0 else 2
def lessF (n : Nat) (f : Nat → Bool) (m : Nat) (o : Nat → Bool) : Nat → Bool := if n = m then fun i => f i && !o i else f

set_option maxHeartbeats 2000000 in
theorem rless_ok {v u : Value} {n : Nat} {f o : Nat → Bool} (w : World) (hv : Bools w v n f) (hu : Bools w u n o) (hn : n ≤ 100000) :
    Calls Tryd.prog 22 #[v, u] w fun e w' => ∃ r, e = .returned (.tuple #[r, .int .i64 0]) ∧ Bools w' r n (fun i => f i && !o i) ∧ Bel w w' := by
  obtain ⟨i0, hi, hz0, hz1, hz2⟩ := info_parts info4
  obtain ⟨p, cap, rfl⟩ := hv.slice
  obtain ⟨p2, cap2, rfl⟩ := hu.slice
  have hv := hv.row
  have hu := hu.row
  go_enter Tryd.func22, Tryd.ntmps22
  go_wp2
  go_loopw [6, 7] (fun a i wr => ∃ k : Nat, k ≤ n ∧ i = .int .i64 (k : Nat) ∧ wr.ownsRow w.heap.size 4 1 a k (bl (fun i => f i && !o i) k) ∧ Bel w wr) (fun _ i _ => n - (intOf i).toNat)
  case atStart => exact ⟨0, Nat.zero_le _, rfl, World.ownsRow_nil _ _ _ _, Bel.refl _⟩
  case round =>
    obtain ⟨k, hk, rfl, hown, hbr⟩ := hrel
    by_cases ck : k < n
    · rcases hv with ⟨e, _⟩ | ⟨b, off, _, e, _, _, hbig, hc⟩
      · omega
      cases e
      rcases hu with ⟨e, _⟩ | ⟨b2, off2, _, e, _, _, hbig2, hc2⟩
      · omega
      cases e
      have c : wr.cell? ⟨b, off + k, none⟩ = some (.bool (f k)) := cell_bel hbr (hc k ck)
      have c2 : wr.cell? ⟨b2, off2 + k, none⟩ = some (.bool (o k)) := cell_bel hbr (hc2 k ck)
      have hbB := hbr.size
      have rel : ∀ w1 v, (wr.alloc (.cells #[v] 4)).grownBy w1 u6.ownBlock → Bel w w1 := fun w1 v hg =>
        ((hbr.alloc _).grown hg (by rw [size_alloc1]; omega) (fun x hx => (hown.lt x hx).1))
      have m1 : k + 1 ≤ maxLen := by unfold maxLen; omega
      have m2 : (k + 1) * 1 ≤ 140737488355328 := by omega
      have kI : (k : Int) < (n : Int) := by omega
      have k0 : (0 : Int) ≤ (k : Int) := by omega
      have bs : bl (fun i => f i && !o i) (k + 1) = bl (fun i => f i && !o i) k ++ [.bool (f k && !o k)] := bl_succ (fun i => f i && !o i) k
      clear hbr hc hc2
      generalize bl (fun i => f i && !o i) k = L at *
      generalize f k = s at *
      generalize o k = t at *
      cases s
      · simp only [Bool.false_and] at bs
        have bs := Lib.hid bs
        go_wp2_with (at_builtin; refine wpList_append_lies _ rfl (.tmp 20) (.tmp 32) 29 rfl w.heap.size 4 i0 (.bool false) 1 1 Tryd.underlying29 hi hz0 hz1 hz2 rfl (by decide) u6 k L rfl (hown.alloc _) ⟨wr.heap.size, 0, none⟩ 1 1 [.bool false] rfl rfl (World.news_of_block (cs := #[.bool false]) (t := 4) (fr := (0, 0)) (heap_alloc_new _ _)) (by simp [Value.oneCell']) (by omega) m1 m2 (by simp; omega) (wr.heap.size + 1) (by simp) ?_; intro gg cap w1 hown1 hgrow hat hlt; have rel1 := rel _ _ hgrow; clear hgrow hat hlt rel)
        go_roundw
        case rel => exact ⟨k + 1, by omega, by go_num, by rw [bs.out]; exact hown1, rel1⟩
        case measure => simp only [intOf]; omega
      · simp only [Bool.true_and] at bs
        cases t
        all_goals
          simp only [Bool.not_false, Bool.not_true] at bs
          have bs := Lib.hid bs
        · go_wp2_with (at_builtin; refine wpList_append_lies _ rfl (.tmp 20) (.tmp 32) 29 rfl w.heap.size 4 i0 (.bool false) 1 1 Tryd.underlying29 hi hz0 hz1 hz2 rfl (by decide) u6 k L rfl (hown.alloc _) ⟨wr.heap.size, 0, none⟩ 1 1 [.bool true] rfl rfl (World.news_of_block (cs := #[.bool true]) (t := 4) (fr := (0, 0)) (heap_alloc_new _ _)) (by simp [Value.oneCell']) (by omega) m1 m2 (by simp; omega) (wr.heap.size + 1) (by simp) ?_; intro gg cap w1 hown1 hgrow hat hlt; have rel1 := rel _ _ hgrow; clear hgrow hat hlt rel)
          go_roundw
          case rel => exact ⟨k + 1, by omega, by go_num, by rw [bs.out]; exact hown1, rel1⟩
          case measure => simp only [intOf]; omega
        · go_wp2_with (at_builtin; refine wpList_append_lies _ rfl (.tmp 20) (.tmp 32) 29 rfl w.heap.size 4 i0 (.bool false) 1 1 Tryd.underlying29 hi hz0 hz1 hz2 rfl (by decide) u6 k L rfl (hown.alloc _) ⟨wr.heap.size, 0, none⟩ 1 1 [.bool false] rfl rfl (World.news_of_block (cs := #[.bool false]) (t := 4) (fr := (0, 0)) (heap_alloc_new _ _)) (by simp [Value.oneCell']) (by omega) m1 m2 (by simp; omega) (wr.heap.size + 1) (by simp) ?_; intro gg cap w1 hown1 hgrow hat hlt; have rel1 := rel _ _ hgrow; clear hgrow hat hlt rel)
          go_roundw
          case rel => exact ⟨k + 1, by omega, by go_num, by rw [bs.out]; exact hown1, rel1⟩
          case measure => simp only [intOf]; omega
    · obtain rfl : k = n := by omega
      have fin := bools_own hown
      clear hown hv hu
      go_wp2
      go_ret2
      exact ⟨u6, rfl, fin, hbr⟩

/-- Less of the document -/
theorem rless_any {v u : Value} {n m : Nat} {f o : Nat → Bool} (w : World) (hv : Bools w v n f) (hu : Bools w u m o) (hn : n ≤ 100000) :
    Calls Tryd.prog 22 #[v, u] w fun e w' => ∃ r, e = .returned (.tuple #[r, .int .i64 (lessE n m)]) ∧ Bools w' r n (lessF n f m o) ∧ Bel w w' := by
  unfold lessE lessF
  by_cases c : n = m
  · subst c
    rw [if_pos rfl, if_pos rfl]
    exact rless_ok w hv hu hn
  · rw [if_neg c, if_neg c]
    obtain ⟨p, cap, rfl⟩ := hv.slice
    obtain ⟨p2, cap2, rfl⟩ := hu.slice
    have c2 : ((n : Int) != (m : Int)) = true := by rw [bne_iff_ne]; omega
    have hv := Lib.hid hv
    clear hu
    go_enter Tryd.func22, Tryd.ntmps22
    go_wp2
    go_ret2
    exact ⟨_, rfl, hv.out, Bel.refl _⟩

theorem rset_out {v : Value} {n : Nat} {f : Nat → Bool} (i : Int) (is : Bool) (w : World) (h : Bools w v n f) (no : there n i = false) :
    Calls Tryd.prog 17 #[v, .int .i64 i, .bool is] w fun e w' => e = .returned (.tuple #[v, .int .i64 2]) ∧ w' = w := by
  obtain ⟨p, cap, rfl⟩ := h.slice
  clear h
  have no := of_decide_eq_false no
  by_cases h0 : i < 0
  · have d : decide (i < 0) = true := decide_eq_true h0
    go_enter Tryd.func17, Tryd.ntmps17
    go_wp2
    go_ret2
    exact ⟨rfl, rfl⟩
  · have d : decide (i < 0) = false := decide_eq_false h0
    have d2 : decide ((n : Int) ≤ i) = true := decide_eq_true (by omega)
    clear no
    go_enter Tryd.func17, Tryd.ntmps17
    go_wp2
    go_ret2
    exact ⟨rfl, rfl⟩

set_option maxHeartbeats 2000000 in
theorem rset_in {v : Value} {n : Nat} {f : Nat → Bool} (i : Nat) (is : Bool) (w : World) (h : Bools w v n f) (hi : i < n) (hn : n ≤ 100000) :
    Calls Tryd.prog 17 #[v, .int .i64 (i : Nat), .bool is] w fun e w' => ∃ r, e = .returned (.tuple #[r, .int .i64 0]) ∧ Bools w' r n (upd f i is) ∧ Bel w w' := by
  obtain ⟨i0, hi0, hz0, hz1, hz2⟩ := info_parts info4
  rcases h.row with ⟨rfl, _⟩ | ⟨b, off, ca, rfl, h1, _, hbig, hc⟩
  · omega
  have news : ∀ j u, (bl f n)[j]? = some u → (w.alloc (.cells #[] 4)).cell? ((⟨b, off, none⟩ : Addr).add j) = some u := fun j u hj => by
    have hjn : j < n := by
      have := (List.getElem?_eq_some_iff.1 hj).1
      rwa [bl_length] at this
    rw [bl_at f hjn] at hj
    have hadd : (⟨b, off, none⟩ : Addr).add j = ⟨b, off + j, none⟩ := by unfold Addr.add; split <;> simp_all
    rw [hadd, ← hj]
    exact cell_bel ((Bel.refl w).alloc _) (hc j hjn)
  have fin : ∀ gg cap w1, w1.ownsRow w.heap.size 4 1 (.slice (some ⟨gg, 0, none⟩) n cap) n (bl f n) → Bel w w1 → w.heap.size ≤ gg → Bools (w1.setCell ⟨gg, i, none⟩ (.bool is)) (.slice (some ⟨gg, 0, none⟩) n cap) n (upd f i is) ∧ Bel w (w1.setCell ⟨gg, i, none⟩ (.bool is)) ∧ w1.cell? ⟨gg, i, none⟩ = some (.bool (f i)) ∧ w1.frozen? ⟨gg, i, none⟩ = false := fun gg cap w1 h1 h2 h3 => by
    have st := h1.stored i (.bool is)
    rw [bl_set] at st
    refine ⟨bools_own st.1, h2.setCell (p := ⟨gg, i, none⟩) h3 _, ?_, h1.frozenAt i⟩
    rw [h1.cellAt i (by omega)]
    exact bl_at f hi
  have d1 : decide ((i : Int) < 0) = false := decide_eq_false (by omega)
  have d2 : decide ((n : Int) ≤ (i : Int)) = false := decide_eq_false (by omega)
  have kI : (i : Int) < (n : Int) := by omega
  have k0 : (0 : Int) ≤ (i : Int) := by omega
  have hl := bl_length f n
  have one : ∀ u ∈ bl f n, u.oneCell' = true := fun u hu => by obtain ⟨x, _, rfl⟩ := List.mem_map.1 hu; rfl
  clear h hc
  generalize bl f n = L at *
  have hnews := Lib.hid news
  have hone := Lib.hid one
  have hll := Lib.hid hl
  have hfin := Lib.hid fin
  clear news one hl fin
  go_enter Tryd.func17, Tryd.ntmps17
  go_wp2_with (at_builtin; refine wpList_append_lies _ rfl (.tmp 18) (.tmp 19) 29 rfl w.heap.size 4 i0 (.bool false) 1 1 Tryd.underlying29 hi0 hz0 hz1 hz2 rfl (by decide) _ 0 [] rfl (World.ownsRow_made w #[] 0 (Nat.le_refl _) (Nat.zero_le _) rfl) ⟨b, off, none⟩ n ca L rfl ?qc1 hnews.out hone.out ?qc2 ?qc3 ?qc4 ?qc5 (w.heap.size + 1) ?qc6 ?_)
  case qc1 => rw [hll.out]; omega
  case qc2 => omega
  case qc3 => unfold maxLen; omega
  case qc4 => omega
  case qc5 => simp
  case qc6 => simp
  intro gg cap w1 hown1 hgrow hat hlt
  have bw : Bel w w1 := ((Bel.refl w).alloc _).grown hgrow (by rw [size_alloc1]; omega) (fun x hx => by simp [Value.ownBlock] at hx; omega)
  have hgg : w.heap.size ≤ gg := by
    rcases hat with e | e
    · simp [Value.ownBlock] at e; omega
    · omega
  obtain ⟨f1, f2, f3, f4⟩ := hfin.out gg cap w1 hown1 bw hgg
  have f1 := Lib.hid f1
  have f2 := Lib.hid f2
  clear hgrow hat hown1
  go_wp2
  go_ret2
  exact ⟨_, rfl, f1.out, f2.out⟩

/-- Set of the document -/
theorem rset_any {v : Value} {n : Nat} {f : Nat → Bool} (i : Int) (is : Bool) (w : World) (h : Bools w v n f) (hn : n ≤ 100000) :
    Calls Tryd.prog 17 #[v, .int .i64 i, .bool is] w fun e w' => ∃ r, e = .returned (.tuple #[r, .int .i64 (setE n i)]) ∧ Bools w' r n (setF n f i is) ∧ Bel w w' := by
  unfold setE setF
  cases c : there n i
  · refine (rset_out i is w h c).mono ?_
    rintro e w' ⟨rfl, rfl⟩
    exact ⟨v, rfl, h, Bel.refl _⟩
  · have := of_decide_eq_true c
    obtain ⟨k, rfl⟩ : ∃ k : Nat, i = k := ⟨i.toNat, by omega⟩
    rw [Int.toNat_natCast]
    exact rset_in k is w h (by omega) hn

end Go.Proofs.YtebcmfggmlapdaaDoor
