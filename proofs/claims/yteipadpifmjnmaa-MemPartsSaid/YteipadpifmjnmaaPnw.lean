/- New of the program's memories. -/
import Derived.Test.YteipadpifmjnmaaPwo
import Derived.Test.YteipadpifmjnmaaPbt
namespace Go.Proofs.Yteipadpifmjnmaa
open Go.ChangeShapes Go.WideShapes Go.ChangeAt Go.RowKit Go.Deep
set_option linter.unusedVariables false

theorem offR_zeros {c : Cf} (ok : c.ok) : ∀ t, t ≤ c.m → (offR c.zeros t : Int) = c.base t
  | 0, _ => by rw [offR_zero]; rfl
  | t + 1, h => by
    have r := (Cf.region_bd ok (t := t) (by omega)).1
    rw [offR_succ (c.zeros_at (by omega)), List.length_replicate, Int.natCast_add, offR_zeros ok t (by omega), Cf.base_succ]
    omega
theorem flat_zeros {c : Cf} (ok : c.ok) : (c.zeros.flatten.length : Int) = c.base c.m ∧ c.zeros.flatten = List.replicate c.zeros.flatten.length 0 := by
  refine ⟨?_, ?_⟩
  · rw [← offR_all, Cf.zeros_len]
    exact offR_zeros ok _ (Nat.le_refl _)
  · refine List.eq_replicate_iff.2 ⟨rfl, fun b hb => ?_⟩
    obtain ⟨l, hl, hb⟩ := List.mem_flatten.1 hb
    unfold Cf.zeros at hl
    obtain ⟨t, _, rfl⟩ := List.mem_map.1 hl
    exact List.eq_of_mem_replicate hb

/-- one number more, behind an owned row of numbers -/
theorem wpList_pushI {ops : Array Oper} {rest : List Oper} {o : Oper} {a : Act} {Q : Exit → Act → World → Prop} {w : World} (hgd : o.guard = none) (s x : Operand)
    (ho : o.op = .call { callee := .builtin .append, args := #[s, x], argTypes := #[22, 22] })
    (B : Nat) (v : Value) (n : Nat) (xs : List Value) (y : Int) (hs : a.eval s = v) (hown : w.ownsRow B 3 1 v n xs) (hx : a.eval x = .slice (some ⟨w.heap.size, 0, none⟩) 1 1) (hn : n ≤ 1000) (hB : B ≤ w.heap.size)
    (h : ∀ g cap w', w'.ownsRow B 3 1 (.slice (some ⟨g, 0, none⟩) (n + 1) cap) (n + 1) (xs ++ [.int .i64 y]) → Below B w w' → wpList Try.prog ops Q rest (a.put o.dst (.slice (some ⟨g, 0, none⟩) (n + 1) cap)) w') :
    wpList Try.prog ops Q (o :: rest) a (w.alloc (.cells #[.int .i64 y] 3)) := by
  have g := (Bel.refl w).alloc (.cells #[.int .i64 y] 3)
  refine wpList_appI hgd s x ho B v n xs hs (World.ownsRow.alloc hown _) ⟨w.heap.size, 0, none⟩ 1 1 [.int .i64 y] hx rfl (World.news_of_block (cs := #[.int .i64 y]) (t := 3) (fr := (0, 0)) (heap_alloc_new w _)) (by simp [Value.oneCell']) (by omega) (by omega) (by rw [size_alloc1]; omega) ?_
  intro gg cap w' h1 h2 h3
  exact h gg cap w' h1 (Below.trans (g.mono hB) (Below.grown (Below.refl B _) h2 (by rw [size_alloc1]; omega) fun k hk => (hown.lt k hk).1))

theorem pn_no (v : Value) (c : Cf) (w : World) (h : IsCf w v c) (ok : ¬ c.ok) :
    Calls Try.prog 9 #[v] w fun e w' => e = .returned (.tuple #[.pointer none, .int .i64 2]) ∧ Bel w w' := by
  have hI := h
  obtain ⟨vc, vt, rfl, hN, hT⟩ := h
  have hb := (Bel.refl w).alloc (.cells #[vc, .int .i64 c.page, vt, .int .i64 c.wk, .int .i64 c.gr, .int .i64 c.gn] 25)
  have ch := ptot_any _ c _ (hI.bel hb)
  rw [Cf.totR_no ok, Cf.checkC_no ok] at ch
  clear hN hT hI ok
  generalize c.page = pg at *
  generalize c.wk = wk at *
  generalize c.gr = gr at *
  generalize c.gn = gn at *
  go_enter Try.func9, Try.ntmps9
  go_wp2_with (go_at_call 24; refine ch.mono ?_; rintro e w' ⟨rfl, hg⟩)
  go_ret2
  exact ⟨rfl, hb.trans hg⟩

/-- a box of two cells, the second one turned -/
theorem box2_store {w : World} {b : Nat} {a ov x : Value} {t : TypeId} (h : w.heap[b]? = some (.cells #[a, ov] t (0, 0))) :
    w.frozen? ⟨b, 1, none⟩ = false ∧ w.cell? ⟨b, 1, none⟩ = some ov ∧ ∃ W, w.setCell ⟨b, 1, none⟩ x = W ∧ W.heap[b]? = some (.cells #[a, x] t (0, 0)) ∧ Exc (fun k => k = b) w W :=
  ⟨frozen_of_row _ _ 1 _ t h, cell_of_row w b 1 _ t (0, 0) h, _, rfl, heap_setCell_same w b 1 _ t x h, exc_set w b 1 x⟩
theorem own_exc {w w' : World} {B n : Nat} {v : Value} {e : TypeId} {xs : List Value} (h : w.ownsRow B e 1 v n xs) {Z : Nat → Prop} (g : Exc Z w w') (hz : ∀ k, Z k → k < B) : w'.ownsRow B e 1 v n xs := by
  refine ⟨h.1, ?_⟩
  rcases h.2 with hn | ⟨g', cap, cur, hv, hb, hg, rest⟩
  · exact Or.inl hn
  · exact Or.inr ⟨g', cap, cur, hv, hb, (g.block g' (heap_lt hg) fun x => by have := hz g' x; omega).trans hg, rest⟩
theorem eL_take (R : List (List Nat)) {k : Nat} (h : k < R.length + 1) : (eL R).take k ++ [.int .i64 (offR R k : Nat)] = (eL R).take (k + 1) := by
  rw [List.take_add_one, eL_get R h]
  rfl

set_option maxRecDepth 100000 in
set_option maxHeartbeats 2000000 in
theorem pn_yes (v : Value) (c : Cf) (w : World) (h : IsCf w v c) (ok : c.ok) (hT : c.base c.m ≤ 4000) :
    Calls Try.prog 9 #[v] w fun e w' => (∃ p, e = .returned (.tuple #[.pointer (some p), .int .i64 0]) ∧ IsMem w' (.pointer (some p)) w.heap.size w'.heap.size c.zeros) ∧ Bel w w' := by
  have hI := h
  obtain ⟨vc, vt, rfl, hN, hTn⟩ := h
  obtain ⟨p1, c1, rfl, _⟩ := nums_slice hN
  obtain ⟨p2, c2, rfl, _⟩ := tens_slice hTn
  have hb := (Bel.refl w).alloc (.cells #[.slice p1 c.n c1, .int .i64 c.page, .slice p2 c.m c2, .int .i64 c.wk, .int .i64 c.gr, .int .i64 c.gn] 25)
  have ch := ptot_any _ c _ (hI.bel hb)
  rw [Cf.totR_ok ok, Cf.checkC_ok ok] at ch
  obtain ⟨fz1, fz2⟩ := flat_zeros ok
  obtain ⟨N, hNN⟩ : ∃ N, c.zeros.flatten.length = N := ⟨_, rfl⟩
  rw [hNN] at fz1 fz2
  rw [← fz1] at ch
  have cb := fun W (g : Bel (w.alloc (.cells #[.slice p1 c.n c1, .int .i64 c.page, .slice p2 c.m c2, .int .i64 c.wk, .int .i64 c.gr, .int .i64 c.gn] 25)) W) => cf_at g
  have hbx0 := heap_alloc_new w (.cells #[.slice p1 c.n c1, .int .i64 c.page, .slice p2 c.m c2, .int .i64 c.wk, .int .i64 c.gr, .int .i64 c.gn] 25)
  have hs0 := size_alloc1 w (.cells #[.slice p1 c.n c1, .int .i64 c.page, .slice p2 c.m c2, .int .i64 c.wk, .int .i64 c.gr, .int .i64 c.gn] 25)
  have hmk : ∀ W : World, (Instr.makeSlice 45 (.int .i64 (N : Nat)) (.int .i64 (N : Nat))).run Try.prog W = .ok (.slice (some ⟨W.heap.size, 0, none⟩) N N) (W.alloc (.cells (madeCells (#[.int .u64 0] : Array Value) N) 40)) := fun W => by
    obtain ⟨i0, hi, hz0, hz1, hz2⟩ := info_parts info_u64
    have := run_make (P := Try.prog) W 45 40 i0 _ Try.underlying45 hi hz0 .i64 .i64 N N (by omega) (Int.le_refl _) (by rw [hz2]; omega) (by omega)
    rw [this, hz1, Int.toNat_natCast, Nat.mul_one]
    rfl
  have hfull := Cf.zeros_full ok hT
  have hN4 : N ≤ 4000 := by omega
  have hid := Lib.hid (And.intro hI (And.intro ok (And.intro hb (And.intro hfull (And.intro fz2 (And.intro hNN hN4))))))
  have m8 := Cf.ok_m ok
  clear hI hN hTn ok hT hfull fz1 fz2 hNN hb hN4
  go_enter Try.func9, Try.ntmps9
  go_wp2_with (go_at_call 24
               refine ch.mono ?_
               rintro e w1 ⟨rfl, hg⟩
               obtain ⟨k0, k1, k2, k3, k4, k5⟩ := cb _ hg
               have hz := own_zeros w1 N (by have := hid.out.2.2.2.2.2.2; unfold maxLen; omega)
               have hz' := Lib.hid hz
               have G2 := ((Bel.refl w1).alloc (.cells (madeCells (#[.int .u64 0] : Array Value) N) 40)).alloc (.cells #[.slice (some ⟨w1.heap.size, 0, none⟩) N N, .slice none 0 0] 57)
               have q2 := cell_bel G2 k2
               clear hz)
  obtain ⟨W0, hW0⟩ : ∃ W0, (w1.alloc (.cells (madeCells (#[.int .u64 0] : Array Value) N) 40)).alloc (.cells #[.slice (some ⟨w1.heap.size, 0, none⟩) N N, .slice none 0 0] 57) = W0 := ⟨_, rfl⟩
  obtain ⟨m0, m1, m2⟩ := two_boxes w1 (.cells (madeCells (#[.int .u64 0] : Array Value) N) 40) (.cells #[.slice (some ⟨w1.heap.size, 0, none⟩) N N, .slice none 0 0] 57)
  rw [hW0] at G2 q2 m0 m1 m2 ⊢
  have hW := Lib.hid (And.intro hW0 (And.intro m0 (And.intro m1 (And.intro m2 (And.intro hg (heap_bel G2 (heap_bel hg hbx0)))))))
  clear hW0 m0 m1 m2 hbx0 k0 k1 k2 k3 k4 k5 q2 ch cb hmk
  go_loopw [25] (fun i wr => ∃ (k : Nat) (ev : Value), k ≤ c.m ∧ i = .int .i64 (k : Nat) ∧ Below (w1.heap.size + 1) W0 wr ∧ wr.heap[w1.heap.size + 1]? = some (.cells #[.slice (some ⟨w1.heap.size, 0, none⟩) N N, ev] 57 (0, 0)) ∧ wr.ownsRow (w1.heap.size + 2) 3 1 ev k ((eL c.zeros).take k)) (fun i _ => c.m - (intOf i).toNat)
  case atStart => exact ⟨0, _, Nat.zero_le _, rfl, Below.refl _ _, hW.out.2.2.1, World.ownsRow_nil _ _ _ _⟩
  case round =>
    obtain ⟨k, ev, hk, rfl, hbw, hbx, hO⟩ := hrel
    obtain ⟨hW0, m0, m1, m2, hg0, hcfg⟩ := hW.out
    have sz := hbw.size
    have s1 := hg0.size
    have sw : w1.heap.size + 2 ≤ wr.heap.size := by omega
    have e0 : Below w.heap.size w wr := Below.trans (Below.trans (hid.out.2.2.1.trans hg0) (G2.mono (by omega))) (hbw.mono (by omega))
    have hb0 := (hbw.block w.heap.size (by omega)).trans hcfg
    have c0 := cell_of_row _ _ 0 _ _ (0, 0) hb0
    have c1' := cell_of_row _ _ 1 _ _ (0, 0) hb0
    have c2' := cell_of_row _ _ 2 _ _ (0, 0) hb0
    have c3' := cell_of_row _ _ 3 _ _ (0, 0) hb0
    have c4' := cell_of_row _ _ 4 _ _ (0, 0) hb0
    have c5' := cell_of_row _ _ 5 _ _ (0, 0) hb0
    by_cases ck : k < c.m
    · have rg := pbase_any _ c k wr (hid.out.1.bel e0)
      have hz := Cf.has_zero hid.out.2.1 ck
      rw [Cf.baseR_ok hz, Cf.hasE_ok hz, Int.toNat_natCast, ← offR_zeros hid.out.2.1 k (by omega)] at rg
      obtain ⟨bk, hbk⟩ : ∃ bk, offR c.zeros k = bk := ⟨_, rfl⟩
      have hL := eL_take c.zeros (k := k) (by rw [Cf.zeros_len]; omega)
      rw [hbk] at rg hL
      have hidO := Lib.hid (And.intro hO (And.intro hL (And.intro hbw hbx)))
      clear hO hL hbk hz hb0 hcfg hW0 m0 m1 m2 hg0 hbw
      go_wp2_with (first
        | (go_at_call 25; refine rg.mono ?_; rintro e w3 ⟨rfl, hg3⟩
           have ce := cell_of_row _ _ 1 _ _ (0, 0) (heap_bel hg3 hbx))
        | (at_builtin
           refine wpList_pushI rfl (.tmp 38) (.tmp 40) rfl (w1.heap.size + 2) ev k _ _ rfl (own_exc hidO.out.1 hg3.exc (Z := fun _ => False) (fun _ x => x.elim)) rfl (by omega) (by have := hg3.size; omega) ?_
           intro g cap w4 hO4 hB4
           obtain ⟨fz, cx3, W5, hW5, hbx5, hE5⟩ := box2_store (x := .slice (some ⟨g, 0, none⟩) (k + 1) cap) ((hB4.block _ (by omega)).trans (heap_bel hg3 hbx))
           have hid5 := Lib.hid (And.intro hO4 (And.intro hB4 (And.intro hbx5 hE5)))
           clear hO4 hB4 hbx5 hE5))
      go_roundw
      case rel =>
        obtain ⟨hO4, hB4, hbx5, hE5⟩ := hid5.out
        obtain ⟨hO, hL, hbw, _⟩ := hidO.out
        refine ⟨k + 1, _, by omega, by go_num, Below.trans hbw (Below.trans (hg3.mono (by omega)) (Below.trans (hB4.mono (by omega)) (hE5.below (fun x hx => by omega) (by have := hB4.size; have := hg3.size; omega)))), hbx5, ?_⟩
        rw [← hL]
        exact own_exc hO4 hE5 (fun x hx => by omega)
      case measure => simp only [intOf]; omega
    · obtain rfl : k = c.m := by omega
      have hL := eL_take c.zeros (k := c.m) (by rw [Cf.zeros_len]; omega)
      rw [show offR c.zeros c.m = N by rw [← hid.out.2.2.2.2.2.1, ← offR_all, Cf.zeros_len], List.take_of_length_le (show (eL c.zeros).length ≤ c.m + 1 by rw [eL_len, Cf.zeros_len]; omega)] at hL
      have hidO := Lib.hid (And.intro hO (And.intro hL (And.intro hbw (And.intro hbx e0))))
      have ce := cell_of_row _ _ 1 _ _ (0, 0) hbx
      clear hO hL hb0 hcfg hW0 m0 m1 m2 hg0 hbw c0 c1' c2' c3' c4' c5' e0
      go_wp2_with (at_builtin
                   refine wpList_pushI rfl (.tmp 49) (.tmp 51) rfl (w1.heap.size + 2) ev c.m _ _ rfl hidO.out.1 rfl (by omega) (by omega) ?_
                   intro g cap w4 hO4 hB4
                   obtain ⟨fz, cx3, W5, hW5, hbx5, hE5⟩ := box2_store (x := .slice (some ⟨g, 0, none⟩) (c.m + 1) cap) ((hB4.block _ (by omega)).trans hbx)
                   have hid5 := Lib.hid (And.intro hO4 (And.intro hB4 (And.intro hbx5 hE5)))
                   clear hO4 hB4 hbx5 hE5)
      go_ret2
      obtain ⟨hO4, hB4, hbx5, hE5⟩ := hid5.out
      obtain ⟨hO, hL, hbw, _, e0⟩ := hidO.out
      obtain ⟨hW0, m0, m1, m2, hg0, hcfg⟩ := hW.out
      obtain ⟨_, ok, hb, hfull, fz2, hNN, _⟩ := hid.out
      have s0 := hb.size
      have s4 := hB4.size
      have s5 := hE5.size
      have bl : ∀ x, x < w1.heap.size + 1 → W5.heap[x]? = W0.heap[x]? := fun x hx => (hE5.block x (by omega) (by omega)).trans ((hB4.block x (by omega)).trans (hbw.block x hx))
      rw [hL] at hO4
      have hO5 := own_exc hO4 hE5 (fun x hx => by omega)
      obtain ⟨gl, gh⟩ := hO5.lt g rfl
      have hz := hz'.out
      unfold Own64 at hz
      rw [List.length_replicate, ← fz2] at hz
      refine ⟨⟨_, rfl, w1.heap.size + 1, w1.heap.size, N, g, cap, rfl, ⟨by omega, by omega⟩, ⟨by omega, by omega⟩, ⟨by omega, gh⟩, ?_, ?_, ?_, by omega, by omega, by omega, hfull, by rw [Cf.zeros_len]; exact m8.1⟩, Below.trans e0 (Below.trans (hB4.mono (by omega)) (hE5.below (fun x hx => by omega) (by omega)))⟩
      · rw [hNN, Cf.zeros_len]; exact hbx5
      · rw [hNN]
        refine own_base (own_heap (w := W0) (B := w1.heap.size) ?_ (bl _ (by omega))) (Nat.zero_le _)
        rw [← hW0]
        exact own_heap hz (((Bel.refl _).alloc _).block _ (by rw [size_alloc1]; omega))
      · rw [Cf.zeros_len]
        exact own_base hO5 (Nat.zero_le _)

end Go.Proofs.Yteipadpifmjnmaa
