/- Store and Zero of the program's memories. -/
import Derived.Test.YteipadpifmjnmaaPld
import Derived.Lib.SliceRun
namespace Go.Proofs.Yteipadpifmjnmaa
open Go.ChangeShapes Go.WideShapes Go.ChangeAt Go.RowKit Go.Deep
set_option linter.unusedVariables false

theorem Exc.new {X Z : Nat → Prop} {a b c : World} (h : Exc X a b) (g : Exc Z b c) (hz : ∀ k, Z k → a.heap.size ≤ k ∨ X k) : Exc X a c :=
  ⟨g.os.trans h.os, g.tape.trans h.tape, g.output.trans h.output, Nat.le_trans h.size g.size, fun k hk hx => (g.block k (Nat.lt_of_lt_of_le hk h.size) fun y => by rcases hz k y with e | e; · omega
                                                                                                                                                                   · exact hx e).trans (h.block k hk hx)⟩
theorem MemAt.away {w w' : World} {p g1 k1 g2 k2 : Nat} {R : List (List Nat)} (h : MemAt w p g1 k1 g2 k2 R) {Z : Nat → Prop} (g : Exc Z w w') (h1 : ¬ Z p) (h2 : ¬ Z g1) (h3 : ¬ Z g2) : MemAt w' p g1 k1 g2 k2 R :=
  h.heap (g.block _ h.lt.1 h1) (g.block _ h.lt.2.1 h2) (g.block _ h.lt.2.2 h3)
theorem Bx.far {w W W' : World} {a : Value} {t : TypeId} (h : Bx w W a t) {Z : Nat → Prop} (g : Exc Z W W') (hz : ¬ Z w.heap.size) : W'.heap[w.heap.size]? = some (.cells #[a] t (0, 0)) :=
  (g.block _ (heap_lt h.heap) hz).trans h.heap

theorem ps_no (v : Value) (t a x : Int) (u : Nat) (w : World) (h : ∀ W, Bel w W → Calls Try.prog 38 #[v, .int .i64 t, .int .i64 a, .int .i64 1] W fun e w' => e = gaveUp x ∧ Bel W w') :
    Calls Try.prog 16 #[v, .int .i64 t, .int .i64 a, .int .u64 (u : Nat)] w fun e w' => e = .returned (.int .i64 x) ∧ Bel w w' := by
  have hm := hmf
  go_enter_defers Try.func16, Try.ntmps16
  go_wp2_with (go_at_call 38; refine (h _ ((Bel.refl w).alloc _)).mono ?_; rintro e w' ⟨rfl, hg⟩)
  have B := Bx.made hg
  have B1 := B.set (.int .i64 x)
  refine leaves_cons (f := 39) (args := #[.pointer (some ⟨w.heap.size, 0, none⟩)]) (by simp) (by simp [go_sem]) ?_
  refine (store_catch _ 0 x [] _ B.cell B.free).mono ?_
  rintro e u' w'' ⟨rfl, rfl, rfl⟩
  simp [Leaves, settle, results, Try.results16, go_sem, B1.cell, B1.bel]

theorem ps_yes (p g1 k1 g2 k2 : Nat) (R : List (List Nat)) (t a u : Nat) (l : List Nat) (T A : Int) (w : World) (hM : MemAt w p g1 k1 g2 k2 R) (ht : R[t]? = some l) (ha : a < l.length)
    (h : ∀ W, Bel w W → Calls Try.prog 38 #[.pointer (some ⟨p, 0, none⟩), .int .i64 T, .int .i64 A, .int .i64 1] W fun e w' => e = .returned (.int .i64 (offR R t + a : Nat)) ∧ Bel W w') :
    Calls Try.prog 16 #[.pointer (some ⟨p, 0, none⟩), .int .i64 T, .int .i64 A, .int .u64 (u : Nat)] w fun e w' => e = .returned (.int .i64 0) ∧ MemAt w' p g1 k1 g2 k2 (setR R t a u) ∧ Exc (fun k => k = g1) w w' := by
  have hm := hmf
  have hlt := hM.lt
  have fl := flat_len ht
  have flu := flat_at ht ha
  rw [List.getElem?_eq_getElem ha] at flu
  obtain ⟨y, hy⟩ : ∃ y, l[a] = y := ⟨_, rfl⟩
  rw [hy] at flu
  have set1 := fun W (g : Bel w W) => (hM.bel g).set ht ha u
  obtain ⟨j, hj⟩ : ∃ j, offR R t + a = j := ⟨_, rfl⟩
  obtain ⟨n, hn⟩ : ∃ n, R.flatten.length = n := ⟨_, rfl⟩
  have j1 : (j : Int) < (n : Int) := by omega
  have j0 : (0 : Int) ≤ (j : Int) := by omega
  rw [hj] at flu set1 h
  have c0 : ∀ W, Bel w W → W.cell? ⟨p, 0, none⟩ = some (.slice (some ⟨g1, 0, none⟩) n k1) := fun W g => hn ▸ (hM.bel g).c0
  have cj := fun W (g : Bel w W) => (hM.bel g).word flu
  have fj := fun W (g : Bel w W) => World.ownsRow.frozenAt (hM.bel g).row j
  have hid := Lib.hid (And.intro hM (And.intro hlt set1))
  clear hM hlt set1 fl flu hy ht ha hj hn
  go_enter_defers Try.func16, Try.ntmps16
  go_wp2_with (go_at_call 38
               refine (h _ ((Bel.refl w).alloc _)).mono ?_
               rintro e w' ⟨rfl, hg⟩
               have G := ((Bel.refl w).alloc (.cells #[.int .i64 0] 30)).trans hg
               have q0 := c0 _ G
               have qj := cj _ G
               have qf := fj _ G
               obtain ⟨W1, hW1⟩ : ∃ W1, w'.setCell ⟨g1, j, none⟩ (.int .u64 (u : Nat)) = W1 := ⟨_, rfl⟩
               have X1 : Exc (fun k => k = g1) w' W1 := hW1 ▸ exc_set w' g1 j _
               have hb1 := (Bx.made hg).far X1 (by have := hid.out.2.1; omega)
               have c1 := cell_of_row _ _ 0 _ _ (0, 0) hb1
               have f1 := frozen_of_row _ _ 0 _ _ hb1
               have hid1 := Lib.hid (And.intro X1 hb1)
               clear X1 hb1)
  obtain ⟨X1, hb1⟩ := hid1.out
  obtain ⟨hM, hlt, set1⟩ := hid.out
  have M1 := hW1 ▸ set1 _ G
  obtain ⟨_, _, W2, hW2, hb2, c2, X2⟩ := box_store (x := .int .i64 0) hb1
  obtain ⟨f2, _, W3, hW3, hb3, c3, X3⟩ := box_store (x := .int .i64 0) hb2
  have M3 := (M1.away X2 (by omega) (by omega) (by omega)).away X3 (by omega) (by omega) (by omega)
  have E3 : Exc (fun k => k = g1) w W3 := (((G.exc (X := fun k => k = g1)).trans X1).new X2 (fun k hk => Or.inl (by omega))).new X3 (fun k hk => Or.inl (by omega))
  rw [hW2]
  refine leaves_cons (f := 39) (args := #[.pointer (some ⟨w.heap.size, 0, none⟩)]) (by simp) (by simp [go_sem]) ?_
  refine (store_idle _ 0 _ c2 f2).mono ?_
  rintro e u' w'' ⟨rfl, rfl, rfl⟩
  rw [hW3]
  simp [Leaves, settle, results, Try.results16, go_sem, c3]
  exact ⟨M3, E3⟩

theorem pz_no (v : Value) (t a n x : Int) (w : World) (h : ∀ W, Bel w W → Calls Try.prog 38 #[v, .int .i64 t, .int .i64 a, .int .i64 n] W fun e w' => e = gaveUp x ∧ Bel W w') :
    Calls Try.prog 15 #[v, .int .i64 t, .int .i64 a, .int .i64 n] w fun e w' => e = .returned (.int .i64 x) ∧ Bel w w' := by
  have hm := hmf
  go_enter_defers Try.func15, Try.ntmps15
  go_wp2_with (go_at_call 38; refine (h _ ((Bel.refl w).alloc _)).mono ?_; rintro e w' ⟨rfl, hg⟩)
  have B := Bx.made hg
  have B1 := B.set (.int .i64 x)
  refine leaves_cons (f := 37) (args := #[.pointer (some ⟨w.heap.size, 0, none⟩)]) (by simp) (by simp [go_sem]) ?_
  refine (zero_catch _ 0 x [] _ B.cell B.free).mono ?_
  rintro e u' w'' ⟨rfl, rfl, rfl⟩
  simp [Leaves, settle, results, Try.results15, go_sem, B1.cell, B1.bel]

/-- a part of a row of words -/
theorem run_cut (g n k l m e : Nat) (he : l + m = e) (h : e ≤ k) : ∃ q c, (∀ w : World, (Instr.slice 45 (.slice (some ⟨g, 0, none⟩) n k) (some (.int .i64 (l : Nat))) (some (.int .i64 (e : Nat))) none).run Try.prog w = .ok (.slice q m c) w) ∧ (0 < m → q = some ⟨g, l, none⟩) ∧ m ≤ c ∧ c ≤ k := by
  obtain ⟨i0, hi, hz0, hz1, hz2⟩ := info_parts info_u64
  refine ⟨if k = l then some ⟨g, 0, none⟩ else some ⟨g, l, none⟩, k - l, fun w => ?_, fun hm => if_neg (by omega), by omega, by omega⟩
  have e2 : l ≤ e := by omega
  have e3 : e - l = m := by omega
  have e4 : (⟨g, 0, none⟩ : Addr).add l = ⟨g, l, none⟩ := by rw [add_plain]; simp
  simp [Instr.slice, Instr.sliceBounds, Instr.sliceBound, run_underlying Try.underlying45, asIntOf, sizeOf, typeInfo, hi, hz1, h, e2, e3, e4]

/-- such a part turned to 0 -/
theorem run_wiped {w : World} {p g1 k1 g2 k2 : Nat} {R : List (List Nat)} (hM : MemAt w p g1 k1 g2 k2 R) (q : Option Addr) (l m c : Nat) (hq : 0 < m → q = some ⟨g1, l, none⟩) (h : l + m ≤ R.flatten.length) (ty : TypeId) :
    (Builtin.clear_ #[45] ty #[.slice q m c]).run Try.prog w = .ok (.tuple #[]) (w.setCells g1 l (List.replicate m (.int .u64 0))) := by
  obtain ⟨i0, hi, hz0, hz1, hz2⟩ := info_parts info_u64
  by_cases hm : 0 < m
  · rw [hq hm]
    refine Lib.run_clear_slice w 45 40 ty (.int .u64 0) Try.underlying45 (fun w => by simp [zeroValue, typeInfo, hi, hz0]) rfl rfl g1 l m c hm (fun j hj => ?_) (fun j hj => World.ownsRow.frozenAt hM.row _)
    rw [hM.word (List.getElem?_eq_getElem (show l + j < R.flatten.length by omega))]
    rfl
  · obtain rfl : m = 0 := by omega
    cases q with
    | none => simp [Builtin.clear_, run_underlying Try.underlying45, World.setCells]
    | some a => simp [Builtin.clear_, run_underlying Try.underlying45, World.setCells]

theorem pz_yes (p g1 k1 g2 k2 : Nat) (R : List (List Nat)) (t a n : Nat) (l : List Nat) (T A : Int) (w : World) (hM : MemAt w p g1 k1 g2 k2 R) (ht : R[t]? = some l) (ha : a + n ≤ l.length)
    (h : ∀ W, Bel w W → Calls Try.prog 38 #[.pointer (some ⟨p, 0, none⟩), .int .i64 T, .int .i64 A, .int .i64 (n : Nat)] W fun e w' => e = .returned (.int .i64 (offR R t + a : Nat)) ∧ Bel W w') :
    Calls Try.prog 15 #[.pointer (some ⟨p, 0, none⟩), .int .i64 T, .int .i64 A, .int .i64 (n : Nat)] w fun e w' => e = .returned (.int .i64 0) ∧ MemAt w' p g1 k1 g2 k2 (wipe R t a n) ∧ Exc (fun k => k = g1) w w' := by
  have hm := hmf
  have hlt := hM.lt
  have fl := flat_len ht
  obtain ⟨nk, kb, _⟩ := own_cap hM.row
  have set1 := fun W (g : Bel w W) => (hM.bel g).wipe ht ha
  obtain ⟨q, c, hsl, hq, _, _⟩ := run_cut g1 R.flatten.length k1 (offR R t + a) n (offR R t + a + n) rfl (by omega)
  have hcl := fun W (g : Bel w W) => run_wiped (hM.bel g) q (offR R t + a) n c hq (by omega)
  have c0 : ∀ W, Bel w W → W.cell? ⟨p, 0, none⟩ = some (.slice (some ⟨g1, 0, none⟩) R.flatten.length k1) := fun W g => (hM.bel g).c0
  have eW : IntKind.i64.wrap (((offR R t + a : Nat) : Int) + ((n : Nat) : Int)) = ((offR R t + a + n : Nat) : Int) := by rw [IntWalk.i64_in _ (by omega)]; omega
  obtain ⟨j, hj⟩ : ∃ j, offR R t + a = j := ⟨_, rfl⟩
  rw [hj] at set1 h hsl hcl eW
  obtain ⟨e, he⟩ : ∃ e, j + n = e := ⟨_, rfl⟩
  rw [he] at hsl eW
  obtain ⟨N, hn⟩ : ∃ N, R.flatten.length = N := ⟨_, rfl⟩
  rw [hn] at hsl c0
  have hid := Lib.hid (And.intro hM (And.intro hlt (And.intro set1 hcl)))
  clear hM hlt set1 hcl fl ht ha hj hn nk kb he hq
  go_enter_defers Try.func15, Try.ntmps15
  go_wp2_with (go_at_call 38
               refine (h _ ((Bel.refl w).alloc _)).mono ?_
               rintro e w' ⟨rfl, hg⟩
               have G := ((Bel.refl w).alloc (.cells #[.int .i64 0] 30)).trans hg
               have q0 := c0 _ G
               have cl := hid.out.2.2.2 _ G
               obtain ⟨W1, hW1⟩ : ∃ W1, w'.setCells g1 j (List.replicate n (.int .u64 0)) = W1 := ⟨_, rfl⟩
               rw [hW1] at cl
               have X1 : Exc (fun k => k = g1) w' W1 := hW1 ▸ exc_sets g1 _ j w'
               have hb1 := (Bx.made hg).far X1 (by have := hid.out.2.1; omega)
               have c1 := cell_of_row _ _ 0 _ _ (0, 0) hb1
               have f1 := frozen_of_row _ _ 0 _ _ hb1
               have hid1 := Lib.hid (And.intro X1 (And.intro hb1 hW1))
               clear X1 hb1 hW1)
  obtain ⟨X1, hb1, hW1⟩ := hid1.out
  obtain ⟨hM, hlt, set1, _⟩ := hid.out
  have M1 := hW1 ▸ set1 _ G
  obtain ⟨_, _, W2, hW2, hb2, c2, X2⟩ := box_store (x := .int .i64 0) hb1
  obtain ⟨f2, _, W3, hW3, hb3, c3, X3⟩ := box_store (x := .int .i64 0) hb2
  have M3 := (M1.away X2 (by omega) (by omega) (by omega)).away X3 (by omega) (by omega) (by omega)
  have E3 : Exc (fun k => k = g1) w W3 := (((G.exc (X := fun k => k = g1)).trans X1).new X2 (fun k hk => Or.inl (by omega))).new X3 (fun k hk => Or.inl (by omega))
  rw [hW2]
  refine leaves_cons (f := 37) (args := #[.pointer (some ⟨w.heap.size, 0, none⟩)]) (by simp) (by simp [go_sem]) ?_
  refine (zero_idle _ 0 _ c2 f2).mono ?_
  rintro e u' w'' ⟨rfl, rfl, rfl⟩
  rw [hW3]
  simp [Leaves, settle, results, Try.results15, go_sem, c3]
  exact ⟨M3, E3⟩

end Go.Proofs.Yteipadpifmjnmaa
