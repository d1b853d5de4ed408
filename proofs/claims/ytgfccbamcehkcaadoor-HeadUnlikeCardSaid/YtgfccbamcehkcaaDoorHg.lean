/- Put, Get, Need, Field of the program. -/
import Derived.Test.YtgfccbamcehkcaaDoorHp
namespace Go.Proofs.YtgfccbamcehkcaaDoor
open Go.ChangeShapes Go.WideShapes Go.ChangeAt Go.RowKit

theorem made_words (w : World) (T : TypeId) (l : List Nat) {c : Array Value} (hl : 1 ≤ l.length) (hb : l.length ≤ 9223372036854775807) (hc : c = (l.map (fun x : Nat => Value.int .u64 (x : Int))).toArray) :
    Words (w.alloc (.cells c T)) (.slice (some ⟨w.heap.size, 0, none⟩) l.length l.length) l.length (fun j => l.getD j 0) := by
  subst hc
  refine Or.inr ⟨_, 0, _, rfl, hl, Nat.le_refl _, hb, fun j hj => ?_⟩
  have e1 := (MapKept.heap_alloc w (.cells (l.map (fun x : Nat => Value.int .u64 (x : Int))).toArray T)).1
  unfold World.cell?
  rw [e1]
  show (l.map (fun x : Nat => Value.int .u64 (x : Int))).toArray[0 + j]? = _
  show _ = some (Value.int _ ((l.getD j 0 : _) : Int))
  rw [Nat.zero_add, List.getElem?_toArray, List.getElem?_map, List.getD_eq_getElem?_getD, List.getElem?_eq_getElem hj]
  rfl

/-- the values of a head's parts -/
def hG (C R N : Nat) (j : Nat) : Nat := ([0, N, R, C, 199] : List Nat).getD j 0
theorem hG_b {C R N : Nat} (h1 : C ≤ 7) (h2 : R + N ≤ 63) (j : Nat) : hG C R N j < 18446744073709551616 := by
  match j with
  | 0 => show 0 < _; omega
  | 1 => show N < _; omega
  | 2 => show R < _; omega
  | 3 => show C < _; omega
  | 4 => show 199 < _; omega
  | j + 5 => show 0 < _; omega

theorem pack_nat (C R N : Nat) (w : World) (T : TypeId) (hT : TabW w) (h1 : C ≤ 7) (h2 : R + N ≤ 63) :
    Calls Tryd.prog 16 #[.slice (some ⟨w.heap.size, 0, none⟩) 5 5] (w.alloc (.cells #[.int .u64 0, .int .u64 (N : Nat), .int .u64 (R : Nat), .int .u64 (C : Nat), .int .u64 199] T)) fun e w' => e = .returned (.tuple #[.int .u64 (wordN C R N : Nat), .int .i64 0]) ∧ Bel w w' := by
  have hb := (Bel.refl w).alloc (.cells #[.int .u64 0, .int .u64 (N : Nat), .int .u64 (R : Nat), .int .u64 (C : Nat), .int .u64 199] T)
  have k := pack_h _ (hG C R N) _ (hT.bel hb) (made_words w T [0, N, R, C, 199] (by simp) (by simp) rfl) (hG_b h1 h2)
  obtain ⟨k1, k2⟩ := packs (g := hG C R N) rfl (show N ≤ 63 by omega) (show R ≤ 63 by omega) h1 rfl
  have e1 : packR hF 5 (hG C R N) 5 = wordN C R N := by unfold packR; rw [if_pos ⟨rfl, by omega, hF_ok, k1⟩, k2]; rfl
  have e2 : packE hF 5 (hG C R N) 5 = 0 := by unfold packE; rw [if_pos ⟨rfl, by omega, hF_ok⟩, if_pos k1]
  rw [e1, e2] at k
  exact k.mono fun e w' ⟨a, b⟩ => ⟨a, hb.trans b⟩

theorem box_at {w W : World} {o : Obj} (h : Bel (w.alloc o) W) : W.heap[w.heap.size]? = some o := heap_bel h (MapKept.heap_alloc w o).1

/-- Put of the program -/
theorem put_h (c r n : Int) (w : World) (hT : TabW w) (hc : i64b c) (hr : i64b r) (hn : i64b n) :
    Calls Tryd.prog 6 #[.agg #[.int .i64 c, .int .i64 r, .int .i64 n]] w fun e w' => e = .returned (.tuple #[.int .u64 (putR c r n : Nat), .int .i64 (putE c r n)]) ∧ Bel w w' := by
  have hb0 : ∀ o, Bel w (w.alloc o) := fun o => (Bel.refl w).alloc o
  have hb := hb0 (.cells #[.int .i64 c, .int .i64 r, .int .i64 n] 23)
  clear hb0
  have va := valid_h c r n (w.alloc (.cells #[.int .i64 c, .int .i64 r, .int .i64 n] 23)) hc hr hn
  cases ok : okH c r n
  · rw [putR_no ok, putE_no ok]
    rw [ok] at va
    clear hc hr hn ok hT
    go_enter Tryd.func6, Tryd.ntmps6
    go_wp2_with (go_at_call 15; refine va.mono ?_; rintro e w1 ⟨rfl, h⟩)
    go_ret2
    exact ⟨rfl, hb.trans h⟩
  · obtain ⟨C, R, N, rfl, rfl, rfl, h1, h2⟩ := okH_true ok
    rw [putR_ok h1 h2, putE_ok ok]
    rw [ok] at va
    have pk := fun W (g : Bel w W) => pack_nat C R N W 24 (hT.bel g) h1 h2
    generalize wordN C R N = A at *
    clear hc hr hn ok hT
    go_enter Tryd.func6, Tryd.ntmps6
    go_wp2_with (first
      | (go_at_call 15; refine va.mono ?_; rintro e w1 ⟨rfl, h⟩; have g := hb.trans h; obtain ⟨k0, k1, k2, _, _, _⟩ := box3 (box_at h))
      | (go_at_call 16; refine (pk _ g).mono ?_; rintro e w2 ⟨rfl, h3⟩))
    go_ret2
    exact ⟨rfl, g.trans h3⟩

theorem results_cell_row2 {P : Program} {fn : Func} {p u : Tmp} {ty : TypeId} (h : fn.results = #[.cell p ty, .tmp u]) (tmps : Array Value) (w : World) (g : Nat) (t : TypeId) (cs : Array Value) (fr : Nat × Nat) (d : TypeDesc)
    (hp : tmps.getD p undef = .pointer (some ⟨g, 0, none⟩)) (hg : w.heap[g]? = some (.cells cs t fr))
    (hu : P.underlying ty = some d) (hd : (match d with | .struct _ | .array _ _ => true | _ => false) = true) (hi : (P.info? ty).map (·.size) = some cs.size) :
    (results fn tmps).run P w = .ok (.tuple #[.agg cs, tmps.getD u undef]) w := by
  rw [results_cell_tmp h, hp]
  simp [asAddr, run_loadVar_row w g t ty cs fr d hg hu hd hi]

/-- what the tests of Get say of a word -/
theorem get_ways (u : Nat) : (∃ A : Nat, putR (cOf u) (rOf u) (nOf u) = A ∧ putE (cOf u) (rOf u) (nOf u) = 2 ∧ isW u = false) ∨
    (∃ A : Nat, putR (cOf u) (rOf u) (nOf u) = A ∧ A ≠ u ∧ putE (cOf u) (rOf u) (nOf u) = 0 ∧ isW u = false) ∨
    (putR (cOf u) (rOf u) (nOf u) = u ∧ putE (cOf u) (rOf u) (nOf u) = 0 ∧ isW u = true) := by
  have h := isW_put u
  cases ok : okH (cOf u) (rOf u) (nOf u)
  · rw [ok, Bool.false_and] at h
    exact Or.inl ⟨_, rfl, putE_no ok, h⟩
  · rw [ok, Bool.true_and] at h
    by_cases e : putR (cOf u) (rOf u) (nOf u) = u
    · exact Or.inr (Or.inr ⟨e, putE_ok ok, by rw [h]; exact decide_eq_true e⟩)
    · exact Or.inr (Or.inl ⟨_, rfl, e, putE_ok ok, by rw [h]; exact decide_eq_false e⟩)

theorem g_no {u : Nat} (h : isW u = false) : gC u = 0 ∧ gR u = 0 ∧ gN u = 0 ∧ gE u = 5 := by unfold gC gR gN gE; rw [h]; exact ⟨rfl, rfl, rfl, rfl⟩
theorem g_yes {u : Nat} (h : isW u = true) : gC u = cOf u ∧ gR u = rOf u ∧ gN u = nOf u ∧ gE u = 0 := by unfold gC gR gN gE; rw [h]; exact ⟨rfl, rfl, rfl, rfl⟩

/-- Get of the program -/
theorem get_h (u : Nat) (w : World) (hT : TabW w) (hu : u < 18446744073709551616) :
    Calls Tryd.prog 8 #[.int .u64 (u : Nat)] w fun e w' => e = .returned (.tuple #[.agg #[.int .i64 (gC u : Nat), .int .i64 (gR u : Nat), .int .i64 (gN u : Nat)], .int .i64 (gE u)]) ∧ Bel w w' := by
  have hb := (Bel.refl w).alloc (.cells #[.int .i64 0, .int .i64 0, .int .i64 0] 23)
  obtain ⟨lc, lr, ln⟩ := parts_lt u
  have un := unpack_h u _ (hT.bel hb) hu
  have pt := fun W (g : Bel w W) => put_h (cOf u) (rOf u) (nOf u) W (hT.bel g) ⟨by omega, by omega⟩ ⟨by omega, by omega⟩ ⟨by omega, by omega⟩
  have gw := get_ways u
  have gn := @g_no u
  have gy := @g_yes u
  generalize gC u = C' at *
  generalize gR u = R' at *
  generalize gN u = N' at *
  generalize gE u = E' at *
  generalize putR (cOf u) (rOf u) (nOf u) = A at *
  generalize putE (cOf u) (rOf u) (nOf u) = E at *
  generalize cOf u = C at *
  generalize rOf u = R at *
  generalize nOf u = N at *
  clear hT
  rcases gw with ⟨_, rfl, rfl, h⟩ | ⟨_, rfl, ne, rfl, h⟩ | ⟨rfl, rfl, h⟩
  · obtain ⟨rfl, rfl, rfl, rfl⟩ := gn h
    clear gn gy h hu
    go_enter Tryd.func8, Tryd.ntmps8
    go_wp2_with (first
      | (go_at_call 18; refine un.mono ?_; rintro e w1 ⟨rfl, h1⟩; have g1 := (hb.trans h1).alloc (.cells #[.int .i64 (C : Nat), .int .i64 (R : Nat), .int .i64 (N : Nat)] 23))
      | (go_at_call 6; refine (pt _ g1).mono ?_; rintro e w2 ⟨rfl, h2⟩; have hx := heap_bel h2 (heap_bel ((Bel.refl _).alloc _) (box_at h1)); obtain ⟨k0, k1, k2, f0, f1, f2⟩ := box3 hx))
    (try simp only [Exit.inBlock, Exit.then])
    refine bodyPost_ret (results_cell_row2 rfl _ _ _ 23 _ (0, 0) _ rfl (three_row hx _ _ _) Tryd.underlying23 rfl info_head) rfl ?_
    exact ⟨rfl, set_bel3 (g1.trans h2) (Nat.le_refl _) _ _ _⟩
  · obtain ⟨rfl, rfl, rfl, rfl⟩ := gn h
    have d : ((A : Int) == (u : Int)) = false := by simp; omega
    have d1 : decide (A = u) = false := decide_eq_false ne
    clear gn gy h hu
    go_enter Tryd.func8, Tryd.ntmps8
    go_wp2_with (first
      | (go_at_call 18; refine un.mono ?_; rintro e w1 ⟨rfl, h1⟩; have g1 := (hb.trans h1).alloc (.cells #[.int .i64 (C : Nat), .int .i64 (R : Nat), .int .i64 (N : Nat)] 23))
      | (go_at_call 6; refine (pt _ g1).mono ?_; rintro e w2 ⟨rfl, h2⟩; have hx := heap_bel h2 (heap_bel ((Bel.refl _).alloc _) (box_at h1)); obtain ⟨k0, k1, k2, f0, f1, f2⟩ := box3 hx))
    (try simp only [Exit.inBlock, Exit.then])
    refine bodyPost_ret (results_cell_row2 rfl _ _ _ 23 _ (0, 0) _ rfl (three_row hx _ _ _) Tryd.underlying23 rfl info_head) rfl ?_
    exact ⟨rfl, set_bel3 (g1.trans h2) (Nat.le_refl _) _ _ _⟩
  · obtain ⟨rfl, rfl, rfl, rfl⟩ := gy h
    clear gn gy h hu
    go_enter Tryd.func8, Tryd.ntmps8
    go_wp2_with (first
      | (go_at_call 18; refine un.mono ?_; rintro e w1 ⟨rfl, h1⟩; have g1 := (hb.trans h1).alloc (.cells #[.int .i64 (C' : Nat), .int .i64 (R' : Nat), .int .i64 (N' : Nat)] 23))
      | (go_at_call 6; refine (pt _ g1).mono ?_; rintro e w2 ⟨rfl, h2⟩; have hx := heap_bel h2 (heap_bel ((Bel.refl _).alloc _) (box_at h1)); obtain ⟨k0, k1, k2, f0, f1, f2⟩ := box3 hx; have hy := box_at h2; obtain ⟨l0, l1, l2, _, _, _⟩ := box3 hy))
    (try simp only [Exit.inBlock, Exit.then])
    refine bodyPost_ret (results_cell_row2 rfl _ _ _ 23 _ (0, 0) _ rfl (three_row hx _ _ _) Tryd.underlying23 rfl info_head) rfl ?_
    exact ⟨rfl, set_bel3 (g1.trans h2) (Nat.le_refl _) _ _ _⟩

/-- Need of the program -/
theorem need_h (c r n : Int) (w : World) (hc : i64b c) (hr : i64b r) (hn : i64b n) :
    Calls Tryd.prog 10 #[.agg #[.int .i64 c, .int .i64 r, .int .i64 n]] w fun e w' => e = .returned (.tuple #[.int .i64 (needR c r n), .int .i64 (putE c r n)]) ∧ Bel w w' := by
  have hb0 : ∀ o, Bel w (w.alloc o) := fun o => (Bel.refl w).alloc o
  have hb := hb0 (.cells #[.int .i64 c, .int .i64 r, .int .i64 n] 23)
  clear hb0
  have va := valid_h c r n (w.alloc (.cells #[.int .i64 c, .int .i64 r, .int .i64 n] 23)) hc hr hn
  cases ok : okH c r n
  · have e1 : needR c r n = 0 := by unfold needR; rw [ok]; rfl
    rw [e1, putE_no ok]
    rw [ok] at va
    clear hc hr hn ok e1
    go_enter Tryd.func10, Tryd.ntmps10
    go_wp2_with (go_at_call 15; refine va.mono ?_; rintro e w1 ⟨rfl, h⟩)
    go_ret2
    exact ⟨rfl, hb.trans h⟩
  · have e1 : needR c r n = r + n + 1 := by unfold needR; rw [ok]; rfl
    obtain ⟨C, R, N, rfl, rfl, rfl, h1, h2⟩ := okH_true ok
    rw [e1, putE_ok ok]
    rw [ok] at va
    have n1 : R ≤ 63 := by omega
    have n2 : N ≤ 63 := by omega
    clear hc hr hn ok e1 h2
    go_enter Tryd.func10, Tryd.ntmps10
    go_wp2_with (go_at_call 15; refine va.mono ?_; rintro e w1 ⟨rfl, h⟩; obtain ⟨k0, k1, k2, _, _, _⟩ := box3 (box_at h))
    go_ret2
    exact ⟨rfl, hb.trans h⟩

end Go.Proofs.YtgfccbamcehkcaaDoor
