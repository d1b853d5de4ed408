/- Clear, Words, Copy of the program. -/
import Derived.Test.YtebcmfggmlapdaaDoorSet
import Derived.Lib.SliceRun
import Derived.Deep.LoopGhost
import Derived.Lib.Walk
namespace Go.Proofs.YtebcmfggmlapdaaDoor
open Go.ChangeShapes Go.WideShapes Go.ChangeAt Go.RowKit

theorem blk_setCells (g : Nat) (t : TypeId) : ∀ (vs : List Value) (o : Nat) (w : World) (cs : Array Value), w.heap[g]? = some (.cells cs t (0, 0)) →
    ∃ cs', (w.setCells g o vs).heap[g]? = some (.cells cs' t (0, 0)) ∧ cs'.size = cs.size ∧ But g w (w.setCells g o vs) ∧ ∀ j, j < cs.size → cs'[j]? = if o ≤ j ∧ j < o + vs.length then vs[j - o]? else cs[j]?
  | [], o, w, cs, h => ⟨cs, h, rfl, But.refl _ _, fun j hj => by rw [if_neg (by simp)]⟩
  | v :: r, o, w, cs, h => by
    have h1 : (w.setCell ⟨g, o, none⟩ v).heap[g]? = some (.cells (cs.setIfInBounds o v) t (0, 0)) := by
      simp [World.setCell, Array.getElem?_modify, h]
    obtain ⟨cs', k1, k2, k3, k4⟩ := blk_setCells g t r (o + 1) _ _ h1
    refine ⟨cs', k1, by rw [k2]; simp, (((But.refl g w).set o v).trans k3), fun j hj => ?_⟩
    rw [k4 j (by simp; exact hj)]
    by_cases c : o = j
    · subst c
      rw [if_neg (by omega), if_pos (by simp), Array.getElem?_setIfInBounds]
      simp [hj]
    · rw [Array.getElem?_setIfInBounds, if_neg c]
      by_cases d : o + 1 ≤ j ∧ j < o + 1 + r.length
      · rw [if_pos d, if_pos (by simp; omega)]
        obtain ⟨m, rfl⟩ : ∃ m, j = o + 1 + m := ⟨j - (o + 1), by omega⟩
        rw [show o + 1 + m - (o + 1) = m by omega, show o + 1 + m - o = m + 1 by omega]
        rfl
      · rw [if_neg d, if_neg (by simp; omega)]

theorem row_clear {w : World} {b g ca n : Nat} {f : Nat → Bool} (h : RowIs w b g ca n f) :
    RowIs (w.setCells g 0 (List.replicate (nw n) (.int .u64 0))) b g ca n (fun _ => false) ∧ But g w (w.setCells g 0 (List.replicate (nw n) (.int .u64 0))) := by
  have hb := h.ne h.at
  obtain ⟨h1, h2, h0, h3, cs, h4, h6⟩ := h
  obtain ⟨cs', k1, k2, k3, k4⟩ := blk_setCells g 53 (List.replicate (nw n) (.int .u64 0)) 0 w cs h4
  refine ⟨⟨h1, fits_none n, h0, (k3.2.2.2.2 _ (block_lt h3) hb).trans h3, cs', k1, fun k hk => ?_⟩, k3⟩
  have hs := (Array.getElem?_eq_some_iff.1 (h6 k hk)).1
  rw [k4 k hs, if_pos (by simp; exact hk), W_none]
  simp [hk]

theorem clear_nil (w : World) (ty : TypeId) : (Builtin.clear_ #[51] ty #[.slice none 0 0]).run Tryd.prog w = .ok (.tuple #[]) w := by
  simp [Builtin.clear_, run_underlying Tryd.underlying51]
theorem clear_zero (w : World) (ty : TypeId) (a : Option Addr) (c : Nat) : (Builtin.clear_ #[51] ty #[.slice a 0 c]).run Tryd.prog w = .ok (.tuple #[]) w := by
  cases a <;> simp [Builtin.clear_, run_underlying Tryd.underlying51]
theorem q51 (w : World) (a : Option Addr) (n c n' c' : Nat) : (binOp .eql 51 (.slice a n c) (.slice none n' c')).run Tryd.prog w = .ok (.bool a.isNone) w := Lib.run_eql_slice_nil w _ _ a n c n' c' Tryd.underlying51

theorem clear_none {p : Value} {n : Nat} {m : Bool} (w : World) (h : Hdr w p n (.slice none 0 0) m) :
    Calls Tryd.prog 16 #[p] w fun e w' => e = .returned (.tuple #[]) ∧ w' = w := by
  have c := held_any w h
  have z := clear_nil
  clear h
  go_enter Tryd.func16, Tryd.ntmps16
  go_wp2_with (go_at_call 31; refine c.mono ?_; rintro e w' ⟨rfl, hw⟩; rw [hw])
  go_end0
  exact ⟨rfl, rfl⟩

theorem clear_any {b g ca n : Nat} {f : Nat → Bool} (w : World) (h : RowIs w b g ca n f) :
    Calls Tryd.prog 16 #[.pointer (some ⟨b, 0, none⟩)] w fun e w' => e = .returned (.tuple #[]) ∧ RowIs w' b g ca n (fun _ => false) ∧ But g w w' := by
  have c := held_any w h.hdr
  by_cases h0 : nw n = 0
  · have r := row_clear h
    have z := clear_zero
    rw [h0] at r c
    clear h
    go_enter Tryd.func16, Tryd.ntmps16
    go_wp2_with (go_at_call 31; refine c.mono ?_; rintro e w' ⟨rfl, hw⟩; rw [hw])
    go_end0
    exact ⟨rfl, r⟩
  · have r := row_clear h
    have hcl : ∀ ty, (Builtin.clear_ #[51] ty #[.slice (some ⟨g, 0, none⟩) (nw n) ca]).run Tryd.prog w = .ok (.tuple #[]) (w.setCells g 0 (List.replicate (nw n) (.int .u64 0))) :=
      fun ty => Lib.run_clear_slice w _ _ ty _ Tryd.underlying51 Tryd.zeroValue53 rfl rfl g 0 _ _ (by omega) (fun j hj => by rw [Nat.zero_add, (h.word hj).1]; rfl) (fun j hj => by rw [Nat.zero_add]; exact (h.word hj).2)
    clear h
    generalize w.setCells g 0 (List.replicate (nw n) (.int .u64 0)) = w2 at *
    generalize nw n = N at *
    go_enter Tryd.func16, Tryd.ntmps16
    go_wp2_with (go_at_call 31; refine c.mono ?_; rintro e w' ⟨rfl, hw⟩; rw [hw])
    go_end0
    exact ⟨rfl, r⟩

/-- a slice of words of one's own: its block -/
def OwnWords (w : World) (v : Value) (B n : Nat) (x : Nat → Nat) : Prop := w.ownsRow B 53 1 v n ((List.range n).map fun k => Value.int .u64 (x k : Nat))

theorem OwnWords.words {w : World} {v : Value} {B n : Nat} {x : Nat → Nat} (h : OwnWords w v B n x) : Words w v n x := by
  rcases h.2 with ⟨rfl, rfl⟩ | ⟨G, cap, cur, rfl, _, hg, hn, hc, _, _⟩
  · exact Or.inl ⟨rfl, none, 0, rfl⟩
  · by_cases c : n = 0
    · subst c; exact Or.inl ⟨rfl, _, _, rfl⟩
    · refine Or.inr ⟨G, 0, cap, rfl, by omega, hn, by unfold maxLen at hc; omega, fun j hj => ?_⟩
      have := World.ownsRow.cells h (g := G) rfl j (Value.int .u64 ((x j : Nat) : Int)) (by
        rw [List.getElem?_map, List.getElem?_range hj]; rfl)
      have hadd : (⟨G, 0, none⟩ : Addr).add j = ⟨G, 0 + j, none⟩ := by unfold Addr.add; split <;> simp_all
      rw [hadd] at this
      exact this

set_option maxHeartbeats 2000000 in
set_option maxRecDepth 100000 in
theorem clone_any {b g ca n : Nat} {f : Nat → Bool} (w : World) (h : RowIs w b g ca n f) :
    Calls Tryd.prog 38 #[.slice (some ⟨g, 0, none⟩) (nw n) ca] w fun e w' => ∃ v, e = .returned v ∧ OwnWords w' v w.heap.size (nw n) (W f) ∧ v ≠ .slice none 0 0 ∧ Bel w w' := by
  obtain ⟨i0, hi, hz0, hz1, hz2⟩ := info_parts info53
  have hn : nw n ≤ 65536 := by have := h.1; unfold nw; omega
  have cells : ∀ k, k < nw n → (w.alloc (.cells #[] 53)).cell? ⟨g, k, none⟩ = some (.int .u64 (W f k : Nat)) := fun k hk => cell_bel ((Bel.refl w).alloc _) (h.word hk).1
  have q := q51
  have hx := Lib.hid cells
  have hx2 : ∀ k, k < nw n → ((List.range (nw n)).map fun k => Value.int .u64 (W f k : Nat))[k]? = some (.int .u64 (W f k : Nat)) := fun k hk => by
    rw [List.getElem?_map, List.getElem?_range hk]; rfl
  have hx3 := Lib.hid hx2
  clear cells h hx2
  generalize nw n = N at *
  generalize W f = F at *
  unfold OwnWords
  go_enter Tryd.func38, Tryd.ntmps38
  go_wp2_with (at_builtin; refine wpList_append_own _ rfl _ _ 51 rfl w.heap.size 53 i0 (.int .u64 0) 1 8 Tryd.underlying51 hi hz0 hz1 hz2 rfl (by decide) _ _ _ rfl (World.ownsRow_made w #[] 0 (Nat.le_refl _) (Nat.zero_le _) rfl) ⟨g, 0, none⟩ N ca ((List.range N).map fun k => Value.int .u64 (F k : Nat)) rfl ?qc1 ?qc2 ?qc3 ?qc4 ?qc5 ?qc6 ?_)
  case qc1 => simp
  case qc2 =>
    intro j u hj
    have hjn : j < N := by
      have := (List.getElem?_eq_some_iff.1 hj).1
      simpa using this
    rw [hx3.out j hjn] at hj
    have hadd : (⟨g, 0, none⟩ : Addr).add j = ⟨g, j, none⟩ := by unfold Addr.add; split <;> simp_all
    rw [hadd, ← hj]
    exact hx.out j hjn
  case qc3 => intro u hu; obtain ⟨x, _, rfl⟩ := List.mem_map.1 hu; rfl
  case qc4 => unfold maxLen; omega
  case qc5 => omega
  case qc6 => simp
  intro v' w1 hown hgrow hnil
  go_wp2
  go_ret
  refine ⟨v', rfl, by simpa using hown, hnil, ?_⟩
  exact ((Bel.refl w).alloc _).grown hgrow (by simp) (by intro k hk; simp [Value.ownBlock] at hk; omega)

theorem words_none (w : World) (p : Value) (h : Hdr w p 0 (.slice none 0 0) false) :
    Calls Tryd.prog 26 #[p] w fun e w' => e = .returned (.slice none 0 0) ∧ w' = w := by
  have c := held_any w h
  have d : Calls Tryd.prog 38 #[.slice none 0 0] w fun e w' => e = .returned (.slice none 0 0) ∧ w' = w := by
    have q := q51
    go_enter Tryd.func38, Tryd.ntmps38
    go_wp2
    go_ret
    exact ⟨rfl, rfl⟩
  clear h
  go_enter Tryd.func26, Tryd.ntmps26
  go_wp2_with (first | (go_at_call 31; refine c.mono ?_; rintro e w' ⟨rfl, hw⟩; rw [hw]) | (go_at_call 38; refine d.mono ?_; rintro e w' ⟨rfl, hw⟩; rw [hw]))
  go_ret
  exact ⟨rfl, rfl⟩

theorem words_any {b g ca n : Nat} {f : Nat → Bool} (w : World) (h : RowIs w b g ca n f) :
    Calls Tryd.prog 26 #[.pointer (some ⟨b, 0, none⟩)] w fun e w' => ∃ v, e = .returned v ∧ OwnWords w' v w.heap.size (nw n) (W f) ∧ v ≠ .slice none 0 0 ∧ Bel w w' := by
  have c := held_any w h.hdr
  have d := clone_any w h
  clear h
  generalize nw n = N at *
  generalize W f = F at *
  go_enter Tryd.func26, Tryd.ntmps26
  go_wp2_with (first | (go_at_call 31; refine c.mono ?_; rintro e w' ⟨rfl, hw⟩; rw [hw]) | (go_at_call 38; refine d.mono ?_; rintro e w' ⟨v, rfl, h1, h2, h3⟩))
  go_ret
  exact ⟨v, rfl, h1, h2, h3⟩

end Go.Proofs.YtebcmfggmlapdaaDoor
