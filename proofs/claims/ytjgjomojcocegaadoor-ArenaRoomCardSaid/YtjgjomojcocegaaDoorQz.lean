/- GiveAll of the program's arenas. -/
import Derived.Test.YtjgjomojcocegaaDoorQy
import Derived.Stop.RegionWithIn
namespace Go.Proofs.YtjgjomojcocegaaDoor
open Go.ChangeShapes Go.WideShapes Go.ChangeAt Go.RowKit Go.Deep Go.Shelf
set_option linter.unusedVariables false
attribute [local go_sem] Oper.semAt_some

set_option maxRecDepth 100000 in
set_option maxHeartbeats 4000000 in
theorem all_same (v : Value) (pl lo hi : Nat) (P : Pl) (T : Nat → Bool) (w : World) (h : IsA w v pl lo hi P T) (hh : hi ≤ w.heap.size) (ht : Tb w) (b g ca : Nat) (R : Nat → Bool) (hR : bt.RowIs w b g ca P.S R) (hb : ¬ Own lo hi b) (hg : ¬ Own lo hi g) :
    Calls Tryd.prog 22 #[v, .pointer (some ⟨b, 0, none⟩)] w fun e w' => (∃ c T', e = .returned (.int .i64 c) ∧ GiveAllR P T R P.S c T' ∧ IsA w' v pl lo hi P T') ∧ Exc (Own lo hi) w w' := by
  have hmx : Tryd.prog.follows .mixedOrders = true := by kernel_rfl
  have hA := h
  obtain ⟨b0, rb, g0, ca0, pb, pg, off, cap, rfl, hb0, hrb, hg0, hp0, hpl, hpb, hpg, h7, h8, h9, h10⟩ := h
  obtain ⟨hs, hB, x0, x1⟩ := two_at (w := w) (a := .cells #[.pointer (some ⟨b0, 0, none⟩)] 27) (c := .cells #[.int .i64 0] 48) rfl
  obtain ⟨W0, hW0⟩ : ∃ W0, (w.alloc (.cells #[.pointer (some ⟨b0, 0, none⟩)] 27)).alloc (.cells #[.int .i64 0] 48) = W0 := ⟨_, rfl⟩
  have he : Calls Tryd.prog 37 #[.pointer (some ⟨b0, 0, none⟩)] ((w.alloc (.cells #[.pointer (some ⟨b0, 0, none⟩)] 27)).alloc (.cells #[.int .i64 0] 48)) fun e w' => e = .returned (.bool true) ∧ w' = W0 :=
    (aex_yes (blk_cell (heap_bel hB h7) 0)).mono fun e w' ⟨a, c⟩ => ⟨a, c.trans hW0⟩
  rw [hW0] at hs hB x0 x1
  clear hW0
  have hS := h10.2.1
  have h1S := h10.T1.1
  have d0 : W0.drew.cell? ⟨w.heap.size, 0, none⟩ = some (.pointer (some ⟨b0, 0, none⟩)) := blk_cell x0 0
  have d1 : W0.drew.cell? ⟨b0, 1, none⟩ = some (.pointer (some ⟨rb, 0, none⟩)) := blk_cell (heap_bel hB h7) 1
  have l1 := bt.len_any W0.drew (((hR.bel hB).bel (Bel.refl W0).drew).hdr)
  have l2 := bt.len_any W0.drew (((h9.bel hB).bel (Bel.refl W0).drew).hdr)
  have keep := Lib.hid (And.intro hA (And.intro hR (And.intro hB (And.intro hs (And.intro x0 (And.intro x1 (And.intro hS (And.intro h1S (And.intro ht hh)))))))))
  clear hA h7 h8 h9 h10 hR hB hs x0 x1 hS h1S ht hh
  generalize hN : P.S = N at *
  refine (callsIn_wide (n := 3)).1 ?_
  refine callsIn_of_wp_marks Tryd.func22 rfl trivial ?_ rfl
  simp only [Tryd.ntmps22, List.size_toArray, List.length_cons, List.length_nil, Nat.reduceAdd, Nat.reduceSub, Array.replicate_succ, Array.replicate_zero, List.push_toArray, List.append_toArray, List.nil_append, List.cons_append]
  gi_wp2_with (refine ⟨trivial, ?_⟩; gi_at_call 37; refine (callsIn_wide.2 he).mono ?_; rintro e w' ⟨rfl, hw⟩; rw [hw])
  clear he hw
  refine wpIn_mono (Q := fun e a' w' => match e with | .normal => a' = { tmps := #[.pointer (some ⟨b0, 0, none⟩), .pointer (some ⟨b, 0, none⟩), .pointer (some ⟨w.heap.size, 0, none⟩), undef, .pointer (some ⟨w.heap.size + 1, 0, none⟩), undef, undef, .bool false, .pointer (some ⟨b0, 0, none⟩), .bool true, .bool false, .bool false, .pointer (some ⟨b, 0, none⟩), .int .i64 (N : Nat), .pointer (some ⟨b0, 0, none⟩), .pointer (some ⟨b0, 0, none⟩), .pointer (some ⟨b0, 1, none⟩), .pointer (some ⟨rb, 0, none⟩), .int .i64 (N : Nat), .bool false, undef, undef, undef, undef, undef, undef, undef, undef, undef, undef, undef, undef, undef], defers := [] } ∧ w' = W0.drew | _ => False) ?_ ?_
  · gi_region_with (first
      | (refine ⟨trivial, ?_⟩; gi_at_call 21; refine (callsIn_wide.2 l1).mono ?_; rintro e w' ⟨rfl, hw⟩; rw [hw]; clear hw)
      | (refine ⟨trivial, ?_⟩; gi_at_call 21; refine (callsIn_wide.2 l2).mono ?_; rintro e w' ⟨rfl, hw⟩; rw [hw]; clear hw))
    all_goals exact ⟨rfl, rfl⟩
  rintro e a' w' hq
  cases e <;> first | exact hq.elim | skip
  obtain ⟨rfl, rfl⟩ := hq
  have z1 := size_al W0.drew (.cells #[.pointer (some ⟨b, 0, none⟩)] 46)
  gi_wp2_with (refine ⟨trivial, ?_⟩; gi_at_call 45; refine (callsIn_wide.2 (slotsOf_any _ _)).mono ?_; rintro e w' ⟨rfl, hw⟩)
  obtain ⟨hA, hR, hB, hs, x0, x1, hS, h1S, htb, hhi⟩ := keep.out
  clear keep l1 l2 d0 d1 z1
  have y2 : w'.heap[W0.heap.size]? = some (.cells #[.pointer (some ⟨b, 0, none⟩)] 46) := by rw [hw]; exact World.alloc_heap_new W0.drew _
  have hsz : w'.heap.size = w.heap.size + 3 := by rw [hw]; have := size_al W0.drew (.cells #[.pointer (some ⟨b, 0, none⟩)] 46); have e : W0.drew.heap.size = W0.heap.size := rfl; omega
  have g1 : Bel W0 w' := by rw [hw]; exact ((Bel.refl W0).drew).alloc _
  rw [show (W0.alloc (.cells #[.pointer (some ⟨b, 0, none⟩)] 46)).drew = w' from hw.symm]
  clear hw
  have y0 := heap_bel g1 x0
  have y1 := heap_bel g1 x1
  have gw := Bel.trans hB g1
  have hA1 := hA.bel gw
  have hR1 := hR.bel gw
  have ht1 := htb.bel gw
  rw [hs] at y2 ⊢
  clear hs
  have fR : b < w'.heap.size ∧ g < w'.heap.size := ⟨heap_lt hR1.2.2.2.1, by obtain ⟨cs, q, _⟩ := hR1.2.2.2.2; exact heap_lt q⟩
  have clN : ∀ x, cl N x < N := fun x => by unfold cl; omega
  refine wpIn_rangeFunc_ownH rfl (by omega) (gf := 68) (lb := #[.pointer (some ⟨w.heap.size + 2, 0, none⟩)]) rfl trivial (enters_of Tryd.func68 (by kernel_rfl) rfl)
    (encs := fun x => #[.int .i64 (cl N x : Nat)]) (Kp := Below w'.heap.size) (S := fun ys => ys = ones R N) (Sp := fun pre => ∃ a, a < N ∧ R a = true ∧ pre = ones R (a + 1)) (N := N) (w0 := w')
    (fun l J Jx W hW hJ _ hY h0 => slots1_row 2 (by omega) l (w.heap.size + 2) b g ca N R (Below w'.heap.size w') (Below w'.heap.size) J Jx W.heap.size hJ (fun X Y hx k => hx.trans k) (fun X Y hx k => hx.trans (Below.mono k hx.size))
      (fun X hx => ⟨hR1.below hx fR.1 fR.2, ht1.below hx (by omega), cell_below hx (show w.heap.size + 2 < _ by omega) (blk_cell y2 0)⟩) hY W hW h0)
    belowK_t (belowK_b (Nat.le_refl _)) (Below.refl _ _) (fun _ => rfl)
    (fun pre W => (∀ z ∈ pre, T (cl N z) = true) ∧ Below w'.heap.size w' W)
    (fun c pre W => (c = .ret ∧ ∃ q y, pre = q ++ [y] ∧ T (cl N y) = false) ∧ W.heap[w.heap.size + 1]? = some (.cells #[.int .i64 9] 48) ∧ Below w.heap.size w' W)
    (OwnFrom.and (ownFrom_pure _ _) (ownFrom_below (Nat.le_refl _) (Nat.le_refl _)))
    (fun c => OwnFrom.and (ownFrom_pure _ _) (OwnFrom.and (fun s A B row hs hg hr => blk_own (β := Unit) _ _ rfl () A B row hs hg (fun r e => (hr r e).2)) (ownFrom_below (by omega) (by omega))))
    ⟨fun y hy => (by cases hy), Below.refl _ _⟩
    (fun x a' W => a' = { tmps := #[.pointer (some ⟨b0, 0, none⟩), .pointer (some ⟨b, 0, none⟩), .pointer (some ⟨w.heap.size, 0, none⟩), undef, .pointer (some ⟨w.heap.size + 1, 0, none⟩), .int .i64 (cl N x : Nat), undef, .bool false, .pointer (some ⟨b0, 0, none⟩), .bool true, .bool false, .bool false, .pointer (some ⟨b, 0, none⟩), .int .i64 (N : Nat), .pointer (some ⟨b0, 0, none⟩), .pointer (some ⟨b0, 0, none⟩), .pointer (some ⟨b0, 1, none⟩), .pointer (some ⟨rb, 0, none⟩), .int .i64 (N : Nat), .bool false, .pointer (some ⟨b, 0, none⟩), .func (.func 68) #[] #[.pointer (some ⟨w.heap.size + 2, 0, none⟩)], .int .i64 (cl N x : Nat), undef, undef, undef, undef, undef, undef, undef, undef, undef, undef], defers := [] })
    (fun x a' => fun s A B row hs hg hr => hs) ?assign ?body ?done ?stop
  case assign =>
    rintro l pre x W K hI hK
    clear hA hR hB x0 x1 y0 y1 y2
    gi_wp2
    exact hK _ _ (KeepsFrom.refl _ _) (Below.refl _ _) hI rfl
  case body =>
    rintro l pre x a' W hl ⟨r, hr⟩ ⟨hT, hBW⟩ rfl hlt
    have hAW := hA1.bel hBW
    have hsm := has_same (.pointer (some ⟨b0, 0, none⟩)) pl lo hi P T W hAW (by have := hBW.size; omega) (ht1.bel hBW) (cl N x : Nat)
    rw [hN, getB_in (clN x)] at hsm
    have c0 := cell_below hBW (show w.heap.size < _ by omega) (blk_cell y0 0)
    have e1 := blk_below hBW (show w.heap.size + 1 < _ by omega) y1
    have c1 := blk_cell e1 0
    have f1 := frozen_of_row _ _ 0 _ _ e1
    cases hTx : T (cl N x)
    · rw [hTx] at hsm
      have hid := Lib.hid (And.intro hT (And.intro hBW (And.intro e1 hTx)))
      clear hT hBW e1 hTx hAW hA1 hR1 ht1 y0 y1 y2 hA hR hB x0 x1 htb g1 gw hr
      generalize hK : cl N x = K at *
      have hK := Lib.hid hK
      gi_wp2_with (refine ⟨trivial, ?_⟩; gi_at_call 16; refine (CallsIn.inRound l (callsIn_wide.2 hsm)).mono ?_; rintro e w1 ⟨rfl, hw1⟩; rw [hw1]; clear hw1)
      refine ⟨(KeepsOthers.setCell _ _ _).from _, ⟨rfl, pre, x, rfl, by rw [hK.out]; exact hid.out.2.2.2⟩, heap_setCell_same W (w.heap.size + 1) 0 _ 48 (.int .i64 9) hid.out.2.2.1, ?_⟩
      exact (hid.out.2.1.mono (by omega)).setCell (p := ⟨w.heap.size + 1, 0, none⟩) (by show w.heap.size ≤ w.heap.size + 1; omega) _
    · rw [hTx] at hsm
      have hid := Lib.hid (And.intro hT (And.intro hBW hTx))
      clear hT hBW hTx hAW hA1 hR1 ht1 y0 y1 y2 hA hR hB x0 x1 htb g1 gw hr
      gi_wp2_with (refine ⟨trivial, ?_⟩; gi_at_call 16; refine (CallsIn.inRound l (callsIn_wide.2 hsm)).mono ?_; rintro e w1 ⟨rfl, hw1⟩; rw [hw1]; clear hw1)
      refine ⟨KeepsFrom.refl _ _, Below.refl _ _, fun z hz => ?_, hid.out.2.1⟩
      rcases List.mem_append.1 hz with hz | hz
      · exact hid.out.1 z hz
      · rw [List.mem_singleton.1 hz]; exact hid.out.2.2
  case done =>
    rintro D ys W2 hD rfl ⟨hT, hBW⟩ hKD
    have hall : ∀ i, i < N → R i = true → T i = true := fun i hi hRi => by
      have := hT i (ones_mem.2 ⟨hi, hRi⟩)
      rwa [cl_eq hi] at this
    have gw2 : Bel w W2 := Bel.trans gw hBW
    have y0' := blk_below hBW (by omega) y0
    have y1' := blk_below hBW (by omega) y1
    have hA2 := hA1.bel hBW
    have hR2 := hR1.bel hBW
    have ht2 := ht1.bel hBW
    have s2 := hBW.size
    have keep2 := Lib.hid (And.intro hall (And.intro gw2 (And.intro y0' (And.intro y1' (And.intro hA2 (And.intro hR2 (And.intro ht2 (And.intro hKD (And.intro s2 (And.intro hsz (And.intro hD (And.intro fR (And.intro clN (And.intro hA (And.intro hS (And.intro h1S (And.intro hhi hN)))))))))))))))))
    clear hT hBW hall gw2 y0' y1' hA2 hR2 ht2 s2 hKD hA hR hB x0 x1 y0 y1 y2 hA1 hR1 ht1 htb g1 gw fR
    gi_wp2_with (refine ⟨trivial, ?_⟩; gi_at_call 45; refine (callsIn_wide.2 (slotsOf_any _ _)).mono ?_; rintro e w3 ⟨rfl, hw⟩)
    obtain ⟨hall, gw2, y0, y1, hA2, hR2, ht2, hKD, s2, hsz, hD, fR, clN, hA, hS, h1S, hhi, hN⟩ := keep2.out
    clear keep2
    have y2 : w3.heap[W2.heap.size]? = some (.cells #[.pointer (some ⟨b, 0, none⟩)] 46) := by rw [hw]; exact World.alloc_heap_new W2 _
    have hs3 : w3.heap.size = W2.heap.size + 1 := by rw [hw]; exact size_al W2 _
    have g2 : Bel W2 w3 := by rw [hw]; exact (Bel.refl W2).alloc _
    rw [← hw]
    clear hw
    have y0 := heap_bel g2 y0
    have y1 := heap_bel g2 y1
    have hKD := heap_bel g2 hKD
    have gw := Bel.trans gw2 g2
    have hA3 := hA2.bel g2
    have hR3 := hR2.bel g2
    have ht3 := ht2.bel g2
    have hlo := hA.low
    have hok := hA.ok
    have hlh : lo < hi := by have := hb0.1; have := hb0.2; omega
    have noK : ∀ k, ¬ Own lo hi k → k < w3.heap.size → ¬ (Own lo hi k ∨ w3.heap.size ≤ k) := fun k h1 h2 h => by
      rcases h with h | h
      · exact h1 h
      · omega
    have noO : ∀ k, w.heap.size ≤ k → ¬ Own lo hi k := fun k h1 h => by have := h.2; omega
    have hu := used_bd hok T P.S (Nat.le_refl _)
    refine wpIn_rangeFunc_ownH rfl (by omega) (gf := 68) (lb := #[.pointer (some ⟨W2.heap.size, 0, none⟩)]) rfl trivial (enters_of Tryd.func68 (by kernel_rfl) rfl)
      (encs := fun x => #[.int .i64 (cl N x : Nat)]) (Kp := KpX (Own lo hi) w3.heap.size) (S := fun ys => ys = ones R N) (Sp := fun pre => ∃ a, a < N ∧ R a = true ∧ pre = ones R (a + 1)) (N := N) (w0 := w3)
      (fun l J Jx W hW hJ _ hY h0 => slots1_row 2 (by omega) l W2.heap.size b g ca N R (KpX (Own lo hi) w3.heap.size w3) (KpX (Own lo hi) w3.heap.size) J Jx W.heap.size hJ (fun X Y hx k => kpX_t hx k) (fun X Y hx k => kpX_t hx (kpX_below (Below.mono k hx.size)))
        (fun X hx => ⟨row_exc hR3 hx (noK b hb (by omega)) (noK g hg (by omega)), fun j hj => cell_exc hx (ht3 j hj) (noK 0 (fun h => by have := h.1; omega) (by omega)), cell_exc hx (blk_cell y2 0) (noK W2.heap.size (noO _ (by omega)) (by omega))⟩) hY W (kpX_below hW) h0)
      kpX_t (kpX_b (Nat.le_refl _)) (Below.refl _ _) (fun _ => rfl)
      (fun pre W => IsAi W (.pointer (some ⟨b0, 0, none⟩)) pl lo hi P (dropL N T pre) (subL P (P.used T P.S : Nat) pre) ∧ KpX (Own lo hi) w3.heap.size w3 W)
      (fun c pre W => False)
      (fun s A B row hs hg hr => ⟨hs.1.grown hg (fun r e => by have := (hr r e).1; omega), exc_grown hs.2 hg (fun r e => (hr r e).1)⟩)
      (fun c s A B row hs hg hr => hs)
      ⟨hA3.i, Exc.refl _ _⟩
      (fun x a' W => a' = { tmps := #[.pointer (some ⟨b0, 0, none⟩), .pointer (some ⟨b, 0, none⟩), .pointer (some ⟨w.heap.size, 0, none⟩), undef, .pointer (some ⟨w.heap.size + 1, 0, none⟩), undef, .int .i64 (cl N x : Nat), .bool false, .pointer (some ⟨b0, 0, none⟩), .bool true, .bool false, .bool false, .pointer (some ⟨b, 0, none⟩), .int .i64 (N : Nat), .pointer (some ⟨b0, 0, none⟩), .pointer (some ⟨b0, 0, none⟩), .pointer (some ⟨b0, 1, none⟩), .pointer (some ⟨rb, 0, none⟩), .int .i64 (N : Nat), .bool false, .pointer (some ⟨b, 0, none⟩), .func (.func 68) #[] #[.pointer (some ⟨w.heap.size + 2, 0, none⟩)], undef, undef, undef, undef, undef, .pointer (some ⟨b, 0, none⟩), .func (.func 68) #[] #[.pointer (some ⟨W2.heap.size, 0, none⟩)], .int .i64 (cl N x : Nat), undef, undef, undef], defers := [] })
      (fun x a' => fun s A B row hs hg hr => hs) ?assign2 ?body2 ?done2 ?stop2
    case assign2 =>
      rintro l pre x W K hI hK
      clear hA hR2 y0 y1 y2 hA2 hA3 hR3 ht2 ht3 gw gw2 g2 hKD
      gi_wp2
      exact hK _ _ (KeepsFrom.refl _ _) (Exc.refl _ _) hI rfl
    case body2 =>
      rintro l pre x a' W hl ⟨r, hr⟩ ⟨hAi, hKW⟩ rfl hlt
      have hWs := hKW.size
      have bd := subL_bound hok (by omega) pre (P.used T P.S : Nat)
      have hsz1 := sz_le hok (show cl N x < P.S by rw [hN]; exact clN x)
      have fr := free_i W (.pointer (some ⟨b0, 0, none⟩)) pl lo hi (cl N x) P (dropL N T pre) _ _ hAi (by omega) (by rw [hN]; exact clN x) rfl (by omega) (by omega)
      have c0 := cell_exc hKW (blk_cell y0 0) (noK w.heap.size (noO _ (Nat.le_refl _)) (by omega))
      have e1 := dropL_snoc N T pre x
      have e2 := subL_snoc P (P.used T P.S : Nat) pre x
      rw [show cl P.S x = cl N x by rw [hN]] at e2
      have hid := Lib.hid (And.intro hKW (And.intro e1 e2))
      have noO := Lib.hid noO
      clear hAi hKW hA hR2 y0 y1 y2 hA2 hA3 hR3 ht2 ht3 gw gw2 g2 hKD bd e1 e2 noK hall hr
      generalize dropL N T pre = TT at *
      generalize subL P (P.used T P.S : Nat) pre = UU at *
      generalize UU - (P.sz (cl N x) : Nat) = UV at *
      gi_wp2_with (refine ⟨trivial, ?_⟩; gi_at_call 46; refine (CallsIn.inRound l (callsIn_wide.2 fr)).mono ?_; rintro e w5 ⟨rfl, a5, x5⟩)
      refine ⟨⟨x5.size, fun k o hk ho _ => (x5.block k (heap_lt ho) (noO.out k (by omega))).trans ho⟩, x5.mono fun k hk => Or.inl hk, ?_, kpX_t hid.out.1 (x5.mono fun k hk => Or.inl hk)⟩
      rw [hid.out.2.1, hid.out.2.2]
      exact a5
    case done2 =>
      rintro D2 ys W5 hD2 rfl ⟨hAi, hK5⟩ hKD2
      obtain ⟨q1, q2⟩ := drop_ones (P := P) (T := T) (R := R) (by rw [hN]; exact hall) N (by omega)
      rw [hN] at q1
      rw [q1, q2] at hAi
      have hfit : ∀ i, N ≤ i → T i = false := by rw [← hN]; exact hA.fits
      rw [less_all hfit] at hAi
      have eE := blk_exc hK5 y1 (noK _ (noO _ (by omega)) (by omega))
      have cE := blk_cell eE 0
      have fE := frozen_of_row _ _ 0 _ _ eE
      have hKD5 := blk_exc hK5 hKD (noK D (noO _ (by omega)) (heap_lt hKD))
      have nD : D ≠ D2 := by have := heap_lt hKD; omega
      have hK5s := hK5.size
      have hid := Lib.hid (And.intro hAi (And.intro hK5 (And.intro gw (And.intro hKD2 (And.intro hKD5 (And.intro nD (And.intro eE (And.intro noO (And.intro hall hN)))))))))
      clear hAi hK5 hKD2 hKD5 eE noO hall hA hR2 y0 y1 y2 hA2 hA3 hR3 ht2 ht3 gw gw2 g2 hKD noK q1 q2 hfit
      gi_wp2
      obtain ⟨hAi, hK5, gw, hKD2, hKD5, nD, eE, noO, hall, hN⟩ := hid.out
      have k2 : (W5.setCell ⟨w.heap.size + 1, 0, none⟩ (.int .i64 0)).heap[D2]? = some (.deferred (some [])) := heap_set_other _ (show D2 ≠ w.heap.size + 1 by omega) hKD2
      have k1 : ((W5.setCell ⟨w.heap.size + 1, 0, none⟩ (.int .i64 0)).putObj D2 (.deferred none)).heap[D]? = some (.deferred (some [])) := put_other nD (heap_set_other _ (show D ≠ w.heap.size + 1 by omega) hKD5)
      have kE : (((W5.setCell ⟨w.heap.size + 1, 0, none⟩ (.int .i64 0)).putObj D2 (.deferred none)).putObj D (.deferred none)).heap[w.heap.size + 1]? = some (.cells #[.int .i64 0] 48) :=
        put_other (by omega) (put_other (by omega) (heap_setCell_same W5 (w.heap.size + 1) 0 _ 48 (.int .i64 0) eE))
      refine ⟨by simp, .inl ⟨_, _, rfl, run_takeDeferred k2, ?_⟩⟩
      refine ⟨by simp, .inl ⟨_, _, rfl, run_takeDeferred k1, ?_⟩⟩
      have hh2 : ∀ k, k < w.heap.size → (((W5.setCell ⟨w.heap.size + 1, 0, none⟩ (.int .i64 0)).putObj D2 (.deferred none)).putObj D (.deferred none)).heap[k]? = W5.heap[k]? := fun k hk =>
        (World.putObj_heap_other (by omega)).trans ((World.putObj_heap_other (by omega)).trans (heap_setCell_other W5 ⟨w.heap.size + 1, 0, none⟩ k _ (by show k ≠ w.heap.size + 1; omega)))
      have b5 := (Below.refl w.heap.size W5).setCell (p := ⟨w.heap.size + 1, 0, none⟩) (by show w.heap.size ≤ w.heap.size + 1; omega) (.int .i64 0)
      have b6 := b5.trans (belowK_b (w := w) (Nat.le_refl _) _ D2 _ (.deferred none) (by omega) k2 rfl rfl)
      have b7 := b6.trans (belowK_b (w := w) (Nat.le_refl _) _ D _ (.deferred none) (by omega) k1 rfl rfl)
      refine ⟨.int .i64 0, results_one rfl _ _ (w.heap.size + 1) (.int .i64 0) rfl (load_errno (blk_cell kE 0)), ⟨0, _, rfl, Or.inr (Or.inr ⟨hN.symm, by rw [hN]; exact hall, rfl, rfl⟩), ?_⟩, ?_⟩
      · have := hAi.keep (w' := ((W5.setCell ⟨w.heap.size + 1, 0, none⟩ (.int .i64 0)).putObj D2 (.deferred none)).putObj D (.deferred none)) (fun x hx _ => hh2 x (by
          rcases hx with hx | hx
          · omega
          · have := hx.2; omega)) b7.size
        exact this
      · have e1 := Bel.exc (X := Own lo hi) gw
        have gs := gw.size
        exact ⟨b7.os.trans (hK5.os.trans gw.os), b7.tape.trans (hK5.tape.trans gw.tape), b7.output.trans (hK5.output.trans gw.output), by have := b7.size; omega, fun k hk hx => (b7.block k hk).trans ((hK5.block k (by omega) (by rintro (h | h) <;> first | exact hx h | omega)).trans (gw.block k hk))⟩
    case stop2 =>
      intro D2 c pre W5 _ _ hf
      exact hf.elim
  case stop =>
    rintro D c pre W1 hD ⟨a, ha, hRa, rfl⟩ ⟨⟨rfl, q, y, hq, hTy⟩, hE, hBW⟩ hKD
    rw [ones_yes hRa] at hq
    obtain ⟨_, hy⟩ := List.append_inj' hq rfl
    have hy : a = y := by simpa using hy
    subst hy
    rw [cl_eq ha] at hTy
    have b7 := (Below.trans gw hBW).trans (belowK_b (w := w) (Nat.le_refl _) _ D _ (.deferred none) (by omega) hKD rfl rfl)
    have kE : (W1.putObj D (.deferred none)).heap[w.heap.size + 1]? = some (.cells #[.int .i64 9] 48) := put_other (by omega) hE
    have hid := Lib.hid (And.intro hA (And.intro b7 (And.intro kE (And.intro hTy hN))))
    clear hA hR hB x0 x1 y0 y1 y2 hA1 hR1 ht1 htb g1 gw fR hE hBW hq hTy b7 kE
    gi_wp2
    obtain ⟨hA, b7, kE, hTy, hN⟩ := hid.out
    refine ⟨by simp, .inl ⟨_, _, rfl, run_takeDeferred hKD, ?_⟩⟩
    refine ⟨.int .i64 9, results_one rfl _ _ (w.heap.size + 1) (.int .i64 9) rfl (load_errno (blk_cell kE 0)), ?_, Bel.exc b7⟩
    refine ⟨9, rfl, T, Or.inr (Or.inl ⟨hN.symm, ⟨a, ?_, hRa, hTy⟩, rfl, rfl⟩), hA.bel b7⟩
    rw [hN]
    exact ha

end Go.Proofs.YtjgjomojcocegaaDoor
