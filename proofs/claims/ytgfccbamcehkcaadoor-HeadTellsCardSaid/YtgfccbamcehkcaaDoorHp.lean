/- The table of widths; pack and unpack. -/
import Derived.Test.YtgfccbamcehkcaaDoorHl
import Derived.Deep.Cut
import Derived.Laws.Rows
import Derived.Laws.ResultCell
import Derived.Deep.DeepCutAuto
namespace Go.Proofs.YtgfccbamcehkcaaDoor
open Go.ChangeShapes Go.WideShapes Go.ChangeAt Go.RowKit

/-- the table in its variable -/
def TabW (w : World) : Prop := ∀ j, j < 5 → w.cell? ⟨0, j, none⟩ = some (.int .i64 (hF j))
theorem TabW.bel {w w' : World} (h : TabW w) (k : Bel w w') : TabW w' := fun j hj => cell_bel k (h j hj)

theorem TabW.five {w : World} (hT : TabW w) : w.cell? ⟨0, 0, none⟩ = some (.int .i64 16) ∧ w.cell? ⟨0, 1, none⟩ = some (.int .i64 16) ∧ w.cell? ⟨0, 2, none⟩ = some (.int .i64 16) ∧ w.cell? ⟨0, 3, none⟩ = some (.int .i64 8) ∧ w.cell? ⟨0, 4, none⟩ = some (.int .i64 8) :=
  ⟨hT 0 (by decide), hT 1 (by decide), hT 2 (by decide), hT 3 (by decide), hT 4 (by decide)⟩
theorem heap_bel {w w' : World} (g : Bel w w') {k : Nat} {o : Obj} (h : w.heap[k]? = some o) : w'.heap[k]? = some o := by
  have lt : k < w.heap.size := by
    by_cases c : k < w.heap.size
    · exact c
    · rw [Array.getElem?_eq_none_iff.2 (by omega)] at h; cases h
  rw [g.block _ lt]; exact h

/-- three cells of a box -/
theorem box3 {w : World} {b : Nat} {x y z : Value} {t : TypeId} (h : w.heap[b]? = some (.cells #[x, y, z] t (0, 0))) :
    w.cell? ⟨b, 0, none⟩ = some x ∧ w.cell? ⟨b, 1, none⟩ = some y ∧ w.cell? ⟨b, 2, none⟩ = some z ∧ w.frozen? ⟨b, 0, none⟩ = false ∧ w.frozen? ⟨b, 1, none⟩ = false ∧ w.frozen? ⟨b, 2, none⟩ = false := by
  refine ⟨?_, ?_, ?_, ?_, ?_, ?_⟩
  all_goals first
    | (unfold World.cell?; rw [h]; rfl)
    | (unfold World.frozen?; rw [h]; rfl)

theorem made_row (w : World) (T : TypeId) (l : List Int) {c : Array Value} (hl : 1 ≤ l.length) (hb : l.length ≤ 9223372036854775807) (hc : c = (l.map (fun x : Int => Value.int .i64 x)).toArray) :
    Nums (w.alloc (.cells c T)) (.slice (some ⟨w.heap.size, 0, none⟩) l.length l.length) l.length (fun j => l.getD j 0) := by
  subst hc
  refine Or.inr ⟨_, 0, _, rfl, hl, Nat.le_refl _, hb, fun j hj => ?_⟩
  have e1 := (MapKept.heap_alloc w (.cells (l.map (fun x : Int => Value.int .i64 x)).toArray T)).1
  unfold World.cell?
  rw [e1]
  show (l.map (fun x : Int => Value.int .i64 x)).toArray[0 + j]? = _
  show _ = some (Value.int _ ((l.getD j 0 : _) : Int))
  rw [Nat.zero_add, List.getElem?_toArray, List.getElem?_map, List.getD_eq_getElem?_getD, List.getElem?_eq_getElem hj]
  rfl

theorem made_table (w : World) (T : TypeId) : Nums (w.alloc (.cells #[.int .i64 16, .int .i64 16, .int .i64 16, .int .i64 8, .int .i64 8] T)) (.slice (some ⟨w.heap.size, 0, none⟩) 5 5) 5 hF :=
  made_row w T [16, 16, 16, 8, 8] (by decide) (by decide) rfl

theorem pack_h (v : Value) (g : Nat → Nat) (w : World) (hT : TabW w) (hV : Words w v 5 g) (hg : ∀ j, g j < 18446744073709551616) :
    Calls Tryd.prog 16 #[v] w fun e w' => e = .returned (.tuple #[.int .u64 (packR hF 5 g 5 : Nat), .int .i64 (packE hF 5 g 5)]) ∧ Bel w w' := by
  obtain ⟨t0, t1, t2, t3, t4⟩ := hT.five
  have hb := (Bel.refl w).alloc (.cells #[.int .i64 16, .int .i64 16, .int .i64 16, .int .i64 8, .int .i64 8] 51)
  have pk := pack_any _ v 5 5 hF g _ (made_table w 51) (hV.bel hb) hF_b hg
  obtain ⟨p, cap, rfl⟩ := slice_cases hV
  generalize packR hF 5 g 5 = R at *
  generalize packE hF 5 g 5 = E at *
  clear hT hV hg
  go_enter Tryd.func16, Tryd.ntmps16
  go_wp2_with (go_at_call 19; refine pk.mono ?_; rintro e w' ⟨rfl, h⟩)
  go_ret2
  exact ⟨rfl, hb.trans h⟩

theorem info_head : (Tryd.prog.info? 23).map (·.size) = some 3 := by kernel_rfl
/-- a box of three cells behind three stores -/
theorem three_row {w : World} {g : Nat} {a b c : Value} {t : TypeId} (h : w.heap[g]? = some (.cells #[a, b, c] t (0, 0))) (a' b' c' : Value) :
    (((w.setCell ⟨g, 0, none⟩ a').setCell ⟨g, 1, none⟩ b').setCell ⟨g, 2, none⟩ c').heap[g]? = some (.cells #[a', b', c'] t (0, 0)) :=
  heap_setCell_same _ g 2 _ t c' (heap_setCell_same _ g 1 _ t b' (heap_setCell_same w g 0 _ t a' h))
theorem set_bel3 {w w' : World} {g : Nat} (h : Bel w w') (hg : w.heap.size ≤ g) (a b c : Value) : Bel w (((w'.setCell ⟨g, 0, none⟩ a).setCell ⟨g, 1, none⟩ b).setCell ⟨g, 2, none⟩ c) :=
  (((show Below w.heap.size w w' from h).setCell hg a).setCell hg b).setCell hg c

set_option maxHeartbeats 400000 in
theorem unpack_h (u : Nat) (w : World) (hT : TabW w) (hu : u < 18446744073709551616) :
    Calls Tryd.prog 18 #[.int .u64 (u : Nat)] w fun e w' => e = .returned (.agg #[.int .i64 (cOf u : Nat), .int .i64 (rOf u : Nat), .int .i64 (nOf u : Nat)]) ∧ Bel w w' := by
  have hb1 := (Bel.refl w).alloc (.cells #[.int .i64 0, .int .i64 0, .int .i64 0] 23)
  obtain ⟨t0, t1, t2, t3, t4⟩ := (hT.bel hb1).five
  obtain ⟨lc, lr, ln⟩ := parts_lt u
  have up := unpack_any _ 5 u hF _ (made_table (w.alloc (.cells #[.int .i64 0, .int .i64 0, .int .i64 0] 23)) 51) hF_b hu
  have up2 := up.mono (R' := fun e w' => ∃ b off cap, e = .returned (.tuple #[.slice (some ⟨b, off, none⟩) 5 cap, .int .i64 0]) ∧ w'.cell? ⟨b, off + 1, none⟩ = some (.int .u64 (nOf u : Nat)) ∧ w'.cell? ⟨b, off + 2, none⟩ = some (.int .u64 (rOf u : Nat)) ∧ w'.cell? ⟨b, off + 3, none⟩ = some (.int .u64 (cOf u : Nat)) ∧
      Bel ((w.alloc (.cells #[.int .i64 0, .int .i64 0, .int .i64 0] 23)).alloc (.cells #[.int .i64 16, .int .i64 16, .int .i64 16, .int .i64 8, .int .i64 8] 51)) w') (fun e w' ⟨v, h1, h2, h3⟩ => by
    have hu' : u < 2 ^ start hF 5 := by rw [hF_end]; exact hu
    rw [unE_ok (by omega) hF_ok hu'] at h1
    rw [unN_ok (by omega) hF_ok hu'] at h2
    rcases h2 with ⟨h, _⟩ | ⟨b, off, cap, rfl, _, _, _, hc⟩
    · omega
    · refine ⟨b, off, cap, h1, ?_, ?_, ?_, h3⟩
      · rw [hc 1 (by omega), ← un_n]; rfl
      · rw [hc 2 (by omega), ← un_r]; rfl
      · rw [hc 3 (by omega), ← un_c]; rfl)
  generalize cOf u = C at *
  generalize rOf u = R at *
  generalize nOf u = N at *
  clear up hT
  obtain ⟨x1, x2⟩ := two w (.cells #[.int .i64 0, .int .i64 0, .int .i64 0] 23) (.cells #[.int .i64 16, .int .i64 16, .int .i64 16, .int .i64 8, .int .i64 8] 51)
  go_enter Tryd.func18, Tryd.ntmps18
  go_upto_region 1 with fail
  generalize w.alloc (.cells #[.int .i64 0, .int .i64 0, .int .i64 0] 23) = W at *
  go_wp2_with (go_at_call 20; refine up2.mono ?_; rintro e w' ⟨b, off, cap, rfl, h1, h2, h3, h⟩; have hx := heap_bel h x1; obtain ⟨k0, k1, k2, f0, f1, f2⟩ := box3 hx)
  go_region
  go_wp2
  (try simp only [Exit.inBlock, Exit.then])
  refine bodyPost_ret (results_cell_row rfl _ _ _ 23 _ (0, 0) _ rfl (three_row hx _ _ _) Tryd.underlying23 rfl info_head) rfl ?_
  exact ⟨rfl, (set_bel3 (hb1.trans (((Bel.refl W).alloc _).trans h)) (Nat.le_refl _) _ _ _).drew⟩

end Go.Proofs.YtgfccbamcehkcaaDoor
