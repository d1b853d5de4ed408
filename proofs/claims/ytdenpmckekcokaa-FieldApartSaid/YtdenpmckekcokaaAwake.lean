/- The calls whose answers the document fixes (awake) answer true. -/
import Derived.Test.YtdenpmckekcokaaRu
namespace Go.Proofs.Ytdenpmckekcokaa
open Go.ChangeShapes Go.WideShapes Go.ChangeAt Go.RowKit

theorem aw_get1 (w : World) : Calls Try.prog 9 #[.int .u64 65280, .int .i64 8, .int .i64 4] w fun e w' => e = .returned (.tuple #[.int .u64 15, .int .i64 0]) ∧ Bel w w' := by
  have h := get_any 65280 8 4 w (by omega) (by omega) (by omega) (by omega) (by omega)
  rw [show getR 65280 8 4 = 15 by kernel_rfl, show getE 8 4 = 0 by kernel_rfl] at h
  exact h.mono fun e w' ⟨a, b⟩ => ⟨a, Bel.of_drew b⟩
theorem aw_get2 (w : World) : Calls Try.prog 9 #[.int .u64 1, .int .i64 63, .int .i64 2] w fun e w' => e = .returned (.tuple #[.int .u64 0, .int .i64 2]) ∧ Bel w w' := by
  have h := get_any 1 63 2 w (by omega) (by omega) (by omega) (by omega) (by omega)
  rw [show getR 1 63 2 = 0 by kernel_rfl, show getE 63 2 = 2 by kernel_rfl] at h
  exact h.mono fun e w' ⟨a, b⟩ => ⟨a, Bel.of_drew b⟩
theorem aw_set1 (w : World) : Calls Try.prog 11 #[.int .u64 0, .int .i64 60, .int .i64 4, .int .u64 9] w fun e w' => e = .returned (.tuple #[.int .u64 10376293541461622784, .int .i64 0]) ∧ Bel w w' := by
  have h := set_any 0 60 4 9 w (by omega) (by omega) (by omega) (by omega) (by omega) (by omega)
  rw [show setR 0 60 4 9 = 10376293541461622784 by kernel_rfl, show setE 60 4 9 = 0 by kernel_rfl] at h
  exact h.mono fun e w' ⟨a, b⟩ => ⟨a, Bel.of_drew b⟩
theorem aw_set2 (w : World) : Calls Try.prog 11 #[.int .u64 0, .int .i64 0, .int .i64 3, .int .u64 8] w fun e w' => e = .returned (.tuple #[.int .u64 0, .int .i64 4]) ∧ Bel w w' := by
  have h := set_any 0 0 3 8 w (by omega) (by omega) (by omega) (by omega) (by omega) (by omega)
  rw [show setR 0 0 3 8 = 0 by kernel_rfl, show setE 0 3 8 = 4 by kernel_rfl] at h
  exact h.mono fun e w' ⟨a, b⟩ => ⟨a, Bel.of_drew b⟩

theorem made_words (w : World) (l : List Nat) {c : Array Value} (hl : 1 ≤ l.length) (hb : l.length ≤ 9223372036854775807) (hc : c = (l.map (fun x : Nat => Value.int .u64 (x : Int))).toArray) :
    Words (w.alloc (.cells c 22)) (.slice (some ⟨w.heap.size, 0, none⟩) l.length l.length) l.length (fun j => l.getD j 0) := by
  subst hc
  refine Or.inr ⟨_, 0, _, rfl, hl, Nat.le_refl _, hb, fun j hj => ?_⟩
  have e1 := (MapKept.heap_alloc w (.cells (l.map (fun x : Nat => Value.int .u64 (x : Int))).toArray 22)).1
  unfold World.cell?
  rw [e1]
  show (l.map (fun x : Nat => Value.int .u64 (x : Int))).toArray[0 + j]? = _
  show _ = some (Value.int _ ((l.getD j 0 : _) : Int))
  rw [Nat.zero_add, List.getElem?_toArray, List.getElem?_map, List.getD_eq_getElem?_getD, List.getElem?_eq_getElem hj]
  rfl
theorem made_nums (w : World) (l : List Int) {c : Array Value} (hl : 1 ≤ l.length) (hb : l.length ≤ 9223372036854775807) (hc : c = (l.map (fun x : Int => Value.int .i64 x)).toArray) :
    Nums (w.alloc (.cells c 3)) (.slice (some ⟨w.heap.size, 0, none⟩) l.length l.length) l.length (fun j => l.getD j 0) := by
  subst hc
  refine Or.inr ⟨_, 0, _, rfl, hl, Nat.le_refl _, hb, fun j hj => ?_⟩
  have e1 := (MapKept.heap_alloc w (.cells (l.map (fun x : Int => Value.int .i64 x)).toArray 3)).1
  unfold World.cell?
  rw [e1]
  show (l.map (fun x : Int => Value.int .i64 x)).toArray[0 + j]? = _
  show _ = some (Value.int _ ((l.getD j 0 : _) : Int))
  rw [Nat.zero_add, List.getElem?_toArray, List.getElem?_map, List.getD_eq_getElem?_getD, List.getElem?_eq_getElem hj]
  rfl

theorem small_words (l : List Nat) (h : ∀ x ∈ l, x < 18446744073709551616) (j : Nat) : l.getD j 0 < 18446744073709551616 := by
  rw [List.getD_eq_getElem?_getD]
  by_cases c : j < l.length
  · rw [List.getElem?_eq_getElem c]; exact h _ (List.getElem_mem c)
  · rw [List.getElem?_eq_none (by omega)]; exact (by omega : (0 : Nat) < 18446744073709551616)
theorem small_nums (l : List Int) (h : ∀ x ∈ l, -9223372036854775808 ≤ x ∧ x ≤ 9223372036854775807) (j : Nat) : -9223372036854775808 ≤ l.getD j 0 ∧ l.getD j 0 ≤ 9223372036854775807 := by
  rw [List.getD_eq_getElem?_getD]
  by_cases c : j < l.length
  · rw [List.getElem?_eq_getElem c]; exact h _ (List.getElem_mem c)
  · rw [List.getElem?_eq_none (by omega)]; exact (by omega : (-9223372036854775808 : Int) ≤ 0 ∧ (0 : Int) ≤ 9223372036854775807)

/-- the widths, and the values, of the examples -/
def exW : Nat → Int := fun j => ([8, 4] : List Int).getD j 0
def exV : Nat → Nat := fun j => ([18, 3] : List Nat).getD j 0
theorem exW_b (j : Nat) : -9223372036854775808 ≤ exW j ∧ exW j ≤ 9223372036854775807 := small_nums _ (by decide) j
theorem exV_b (j : Nat) : exV j < 18446744073709551616 := small_words _ (by decide) j

theorem aw_pack (w : World) : Calls Try.prog 14 #[.slice (some ⟨w.heap.size, 0, none⟩) 2 2, .slice (some ⟨w.heap.size + 1, 0, none⟩) 2 2] ((w.alloc (.cells #[.int .i64 8, .int .i64 4] 3)).alloc (.cells #[.int .u64 18, .int .u64 3] 22)) fun e w' => e = .returned (.tuple #[.int .u64 786, .int .i64 0]) ∧ Bel w w' := by
  have h1 := (made_nums w [8, 4] (c := #[.int .i64 8, .int .i64 4]) (by decide) (by decide) rfl).bel ((Bel.refl _).alloc (.cells #[.int .u64 18, .int .u64 3] 22))
  have h2 := made_words (w.alloc (.cells #[.int .i64 8, .int .i64 4] 3)) [18, 3] (c := #[.int .u64 18, .int .u64 3]) (by decide) (by decide) rfl
  have s : (w.alloc (.cells #[.int .i64 8, .int .i64 4] 3)).heap.size = w.heap.size + 1 := by show (w.heap.push _).size = _; simp
  rw [s] at h2
  have h := pack_any _ _ 2 2 exW exV _ h1 h2 exW_b exV_b
  rw [show packR exW 2 exV 2 = 786 by kernel_rfl, show packE exW 2 exV 2 = 0 by kernel_rfl] at h
  exact h.mono fun e w' ⟨a, b⟩ => ⟨a, (bel_two w _ _).trans b⟩

theorem aw_un1 (w : World) : Calls Try.prog 16 #[.slice (some ⟨w.heap.size, 0, none⟩) 2 2, .int .u64 786] (w.alloc (.cells #[.int .i64 8, .int .i64 4] 3)) fun e w' => ∃ v, e = .returned (.tuple #[v, .int .i64 0]) ∧ Words w' v 2 exV ∧ Bel w w' := by
  have h1 := made_nums w [8, 4] (c := #[.int .i64 8, .int .i64 4]) (by decide) (by decide) rfl
  have h := unpack_any _ 2 786 exW _ h1 exW_b (by decide)
  refine h.mono fun e w' ⟨v, a, b, c⟩ => ⟨v, a, ?_, ((Bel.refl w).alloc _).trans c⟩
  have b' : Words w' v 2 (unG exW 786) := b
  refine (show unG exW 786 0 = 18 ∧ unG exW 786 1 = 3 from ⟨by kernel_rfl, by kernel_rfl⟩).elim fun e0 e1 => ?_
  rcases b' with ⟨h, _⟩ | ⟨bb, off, cap, x1, x2, x3, x4, x5⟩
  · omega
  · refine Or.inr ⟨bb, off, cap, x1, x2, x3, x4, fun j hj => ?_⟩
    rw [x5 j hj]
    have : j = 0 ∨ j = 1 := by omega
    rcases this with rfl | rfl
    · show some (Value.int .u64 ((unG exW 786 0 : Nat) : Int)) = _
      rw [e0]; rfl
    · show some (Value.int .u64 ((unG exW 786 1 : Nat) : Int)) = _
      rw [e1]; rfl

theorem aw_un2 (w : World) : Calls Try.prog 16 #[.slice (some ⟨w.heap.size, 0, none⟩) 2 2, .int .u64 4096] (w.alloc (.cells #[.int .i64 8, .int .i64 4] 3)) fun e w' => ∃ v, e = .returned (.tuple #[v, .int .i64 5]) ∧ Bel w w' := by
  have h1 := made_nums w [8, 4] (c := #[.int .i64 8, .int .i64 4]) (by decide) (by decide) rfl
  have h := unpack_any _ 2 4096 exW _ h1 exW_b (by decide)
  exact h.mono fun e w' ⟨v, a, b, c⟩ => ⟨v, a, ((Bel.refl w).alloc _).trans c⟩

theorem aw_same (w : World) (v : Value) (hv : Words w v 2 exV) : Calls Try.prog 18 #[v, .slice (some ⟨w.heap.size, 0, none⟩) 2 2] (w.alloc (.cells #[.int .u64 18, .int .u64 3] 22)) fun e w' => e = .returned (.bool true) ∧ Bel w w' := by
  have h1 := hv.bel ((Bel.refl w).alloc (.cells #[.int .u64 18, .int .u64 3] 22))
  have h2 := made_words w [18, 3] (c := #[.int .u64 18, .int .u64 3]) (by decide) (by decide) rfl
  have h := same_any _ _ 2 2 exV exV _ h1 h2
  rw [sameB_refl] at h
  exact h.mono fun e w' ⟨a, b⟩ => ⟨a, ((Bel.refl w).alloc _).trans b⟩

set_option maxRecDepth 100000 in
set_option maxHeartbeats 2000000 in
theorem awake_any (w : World) : Calls Try.prog 13 #[] w fun e w' => e = .returned (.bool true) ∧ Bel w w' := by
  go_enter Try.func13, Try.ntmps13
  go_wp2_with (first
    | (go_at_call 9; ((with_reducible refine (aw_get1 _).mono ?_); rintro e w' ⟨rfl, hg1⟩))
    | (go_at_call 9; ((with_reducible refine (aw_get2 _).mono ?_); rintro e w' ⟨rfl, hg2⟩))
    | (go_at_call 11; ((with_reducible refine (aw_set1 _).mono ?_); rintro e w' ⟨rfl, hg3⟩))
    | (go_at_call 11; ((with_reducible refine (aw_set2 _).mono ?_); rintro e w' ⟨rfl, hg4⟩))
    | (go_at_call 14; ((with_reducible refine (aw_pack _).mono ?_); rintro e w' ⟨rfl, hg5⟩))
    | (go_at_call 16; ((with_reducible refine (aw_un1 _).mono ?_); rintro e w' ⟨v1, rfl, hv, hg6⟩))
    | (go_at_call 16; ((with_reducible refine (aw_un2 _).mono ?_); rintro e w' ⟨v2, rfl, hg7⟩))
    | (go_at_call 18; (refine (aw_same _ _ (hv.bel hg7)).mono ?_); rintro e w' ⟨rfl, hg8⟩))
  go_ret
  refine ⟨rfl, ?_⟩
  exact hg1.trans (hg2.trans (hg3.trans (hg4.trans (hg5.trans (hg6.trans (hg7.trans hg8))))))

end Go.Proofs.Ytdenpmckekcokaa
