/- The calls whose answers the document fixes (awake) answer true. -/
import Derived.Test.YtacncopgmleoeaaRw
namespace Go.Proofs.Ytacncopgmleoeaa
open Go.ChangeShapes Go.WideShapes Go.ChangeAt Go.RowKit

theorem made_nums (w : World) (l : List Int) {c : Array Value} (hl : 1 ≤ l.length) (hb : l.length ≤ 9223372036854775807) (hc : c = (l.map (fun x : Int => Value.int .i64 x)).toArray) :
    Nums (w.alloc (.cells c 3)) (.slice (some ⟨w.heap.size, 0, none⟩) l.length l.length) l.length (fun j => l.getD j 0) := by
  subst hc
  refine Or.inr ⟨_, 0, _, rfl, hl, Nat.le_refl _, hb, fun j hj => ?_⟩
  have e1 := (MapKept.heap_alloc w (.cells (l.map (fun x : Int => Value.int .i64 x)).toArray 3)).1
  unfold World.cell?
  rw [e1]
  show (l.map (fun x : Int => Value.int .i64 x)).toArray[0 + j]? = _
  show _ = some (Value.int _ ((l.getD j 0 : _) : Int))
  rw [Nat.zero_add, List.getElem?_toArray, List.getElem?_map, List.getD_eq_getElem?_getD, List.getElem?_eq_getElem hj]
  rfl

def ex : Nat → Int := fun j => ([2, 4, 8] : List Int).getD j 0
def ex4 : Nat → Int := fun j => ([4, 4] : List Int).getD j 0
def ex65 : Nat → Int := fun j => ([2, 65] : List Int).getD j 0

theorem aw_check4 (w : World) : Calls Try.prog 13 #[.slice (some ⟨w.heap.size, 0, none⟩) 2 2] (w.alloc (.cells #[.int .i64 4, .int .i64 4] 3)) fun e w' => e = .returned (.int .i64 2) ∧ Bel w w' := by
  have h := check_any _ 2 ex4 _ (made_nums w [4, 4] (c := #[.int .i64 4, .int .i64 4]) (by decide) (by decide) rfl)
  rw [show checkV 2 ex4 = 2 by kernel_rfl] at h
  exact h.mono fun e w' ⟨a, b⟩ => ⟨a, b ▸ (Bel.refl w).alloc _⟩
theorem aw_check65 (w : World) : Calls Try.prog 13 #[.slice (some ⟨w.heap.size, 0, none⟩) 2 2] (w.alloc (.cells #[.int .i64 2, .int .i64 65] 3)) fun e w' => e = .returned (.int .i64 2) ∧ Bel w w' := by
  have h := check_any _ 2 ex65 _ (made_nums w [2, 65] (c := #[.int .i64 2, .int .i64 65]) (by decide) (by decide) rfl)
  rw [show checkV 2 ex65 = 2 by kernel_rfl] at h
  exact h.mono fun e w' ⟨a, b⟩ => ⟨a, b ▸ (Bel.refl w).alloc _⟩

theorem aw_of (w0 : World) (v : Value) (hN : Nums w0 v 3 ex) (u : Int) {k : Nat} {E : Int} (hk : ofN 3 ex u = k) (hE : ofE 3 ex u = E) (w : World) (g : Bel w0 w) :
    Calls Try.prog 7 #[v, .int .i64 u] w fun e w' => e = .returned (.tuple #[.int .i64 (k : Nat), .int .i64 E]) ∧ Bel w0 w' := by
  have h := of_any v 3 ex u w (hN.bel g)
  rw [hk, hE] at h
  exact h.mono fun e w' ⟨a, b⟩ => ⟨a, g.trans b⟩
theorem aw_round (w0 : World) (v : Value) (hN : Nums w0 v 3 ex) (u : Int) {k : Int} {E : Int} (hk : roundV 3 ex u = k) (hE : ofE 3 ex u = E) (w : World) (g : Bel w0 w) :
    Calls Try.prog 9 #[v, .int .i64 u] w fun e w' => e = .returned (.tuple #[.int .i64 k, .int .i64 E]) ∧ Bel w0 w' := by
  have h := round_any v 3 ex u w (hN.bel g)
  rw [hk, hE] at h
  exact h.mono fun e w' ⟨a, b⟩ => ⟨a, g.trans b⟩
theorem aw_waste (w0 : World) (v : Value) (hN : Nums w0 v 3 ex) (u : Int) {k : Int} {E : Int} (hk : wasteV 3 ex u = k) (hE : ofE 3 ex u = E) (w : World) (g : Bel w0 w) :
    Calls Try.prog 11 #[v, .int .i64 u] w fun e w' => e = .returned (.tuple #[.int .i64 k, .int .i64 E]) ∧ Bel w0 w' := by
  have h := waste_any v 3 ex u w (hN.bel g)
  rw [hk, hE] at h
  exact h.mono fun e w' ⟨a, b⟩ => ⟨a, g.trans b⟩

set_option maxRecDepth 100000 in
set_option maxHeartbeats 2000000 in
theorem awake_any (w : World) : Calls Try.prog 6 #[] w fun e w' => e = .returned (.bool true) ∧ Bel w w' := by
  have hN : Nums (w.alloc (.cells #[.int .i64 2, .int .i64 4, .int .i64 8] 3)) (.slice (some ⟨w.heap.size, 0, none⟩) 3 3) 3 ex := made_nums w [2, 4, 8] (c := #[.int .i64 2, .int .i64 4, .int .i64 8]) (by decide) (by decide) rfl
  have o1 := aw_of _ _ hN 3 (k := 1) (E := 0) (by kernel_rfl) (by kernel_rfl)
  have o2 := aw_of _ _ hN 9 (k := 0) (E := 50) (by kernel_rfl) (by kernel_rfl)
  have o3 := aw_of _ _ hN 0 (k := 0) (E := 50) (by kernel_rfl) (by kernel_rfl)
  have o4 := aw_round _ _ hN 5 (k := 8) (E := 0) (by kernel_rfl) (by kernel_rfl)
  have o5 := aw_waste _ _ hN 5 (k := 3) (E := 0) (by kernel_rfl) (by kernel_rfl)
  have hb : Bel w (w.alloc (.cells #[.int .i64 2, .int .i64 4, .int .i64 8] 3)) := (Bel.refl w).alloc _
  have g0 := Bel.refl (w.alloc (.cells #[.int .i64 2, .int .i64 4, .int .i64 8] 3))
  clear hN
  go_enter Try.func6, Try.ntmps6
  go_wp2_with (first
    | (go_at_call 7; ((with_reducible refine (o1 _ (by assumption)).mono ?_); rintro e w' ⟨rfl, hg1⟩))
    | (go_at_call 7; ((with_reducible refine (o2 _ (by assumption)).mono ?_); rintro e w' ⟨rfl, hg2⟩))
    | (go_at_call 7; ((with_reducible refine (o3 _ (by assumption)).mono ?_); rintro e w' ⟨rfl, hg3⟩))
    | (go_at_call 9; ((with_reducible refine (o4 _ (by assumption)).mono ?_); rintro e w' ⟨rfl, hg4⟩))
    | (go_at_call 11; ((with_reducible refine (o5 _ (by assumption)).mono ?_); rintro e w' ⟨rfl, hg5⟩))
    | (go_at_call 13; ((with_reducible refine (aw_check4 _).mono ?_); rintro e w' ⟨rfl, hg6⟩))
    | (go_at_call 13; ((with_reducible refine (aw_check65 _).mono ?_); rintro e w' ⟨rfl, hg7⟩)))
  go_ret
  exact ⟨rfl, hb.trans (hg5.trans (hg6.trans hg7))⟩

end Go.Proofs.Ytacncopgmleoeaa
