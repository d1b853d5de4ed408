/- Less, Copy of the program. -/
import Derived.Test.YtebcmfggmlapdaaDoorCn
import Derived.Deep.RegionLaw
namespace Go.Proofs.YtebcmfggmlapdaaDoor
open Go.ChangeShapes Go.WideShapes Go.ChangeAt Go.RowKit

theorem less_none {p : Value} {n : Nat} {s : Value} (o : Value) (w : World) (h : Hdr w p n s false) :
    Calls Tryd.prog 21 #[p, o] w fun e w' => e = .returned (.int .i64 1) ∧ w' = w := by
  have c := exists_any w h
  clear h
  go_enter Tryd.func21, Tryd.ntmps21
  go_wp2_with (go_at_call 32; refine c.mono ?_; rintro e w' ⟨rfl, hw⟩; rw [hw])
  go_ret
  exact ⟨rfl, rfl⟩

theorem less_nil {b g ca n : Nat} {f : Nat → Bool} (w : World) (h : RowIs w b g ca n f) :
    Calls Tryd.prog 21 #[.pointer (some ⟨b, 0, none⟩), .pointer none] w fun e w' => e = .returned (.int .i64 2) ∧ Bel w w' := by
  have c := exists_any w h.hdr
  have d := fun w => exists_any w (hdr_nil w)
  clear h
  go_enter Tryd.func21, Tryd.ntmps21
  go_wp2_with (go_at_call 32; ((with_reducible refine c.mono ?_); rintro e w' ⟨rfl, hw⟩; rw [hw]))
  clear c
  go_quiet (first | (go_at_call 32; refine Calls.quiet_of_same (d _)))
  go_wp2
  go_ret
  exact ⟨rfl, Bel.drewN _ _⟩

theorem less_other {b g ca n b' g' ca' n' : Nat} {f f' : Nat → Bool} (w : World) (h : RowIs w b g ca n f) (h' : RowIs w b' g' ca' n' f') (hne : n' ≠ n) :
    Calls Tryd.prog 21 #[.pointer (some ⟨b, 0, none⟩), .pointer (some ⟨b', 0, none⟩)] w fun e w' => e = .returned (.int .i64 2) ∧ Bel w w' := by
  have c := exists_any w h.hdr
  have d := fun k => exists_any _ (h'.bel (Bel.drewN w k)).hdr
  obtain ⟨h0, _, _⟩ := h.head
  obtain ⟨k0, _, _⟩ := h'.head
  have hd : decide ((n' : Int) = (n : Int)) = false := decide_eq_false (by omega)
  have hd2 : ((n' : Int) == (n : Int)) = false := by simp; omega
  have hd3 : (n' == n) = false := by simp; omega
  have hd4 : decide (n' = n) = false := decide_eq_false (by omega)
  clear h h' hne
  go_enter Tryd.func21, Tryd.ntmps21
  go_wp2_with (go_at_call 32; ((with_reducible refine c.mono ?_); rintro e w' ⟨rfl, hw⟩; rw [hw]))
  clear c
  go_quiet (first | (go_at_call 32; refine Calls.quiet_of_same (d _)))
  go_wp2
  go_ret
  exact ⟨rfl, Bel.drewN _ _⟩

/-- some words less another row's -/
def mix (f o : Nat → Bool) (k : Nat) : Nat → Bool := fun i => if i < 64 * k then f i && !o i else f i

theorem mix_fits {n : Nat} {f : Nat → Bool} (h : Fits n f) (o : Nat → Bool) (k : Nat) : Fits n (mix f o k) := fun i hi => by
  unfold mix
  rw [h i hi]
  simp
theorem mix_at (f o : Nat → Bool) (k : Nat) : W (mix f o k) k = W f k := W_congr fun j hj => by unfold mix; rw [if_neg (by omega)]
theorem mix_new (f o : Nat → Bool) (k : Nat) : minus (W (mix f o k) k) (W o k) = W (mix f o (k + 1)) k := by
  rw [mix_at, W_minus]
  exact W_congr fun j hj => by unfold mix; rw [if_pos (by omega)]
theorem mix_other (f o : Nat → Bool) {k j : Nat} (h : j ≠ k) : W (mix f o (k + 1)) j = W (mix f o k) j := W_congr fun i hi => by
  unfold mix
  by_cases c : j < k
  · rw [if_pos (by omega), if_pos (by omega)]
  · rw [if_neg (by omega), if_neg (by omega)]
theorem mix_all {n : Nat} {f : Nat → Bool} (h : Fits n f) (o : Nat → Bool) : mix f o (nw n) = fun i => f i && !o i := by
  funext i
  unfold mix
  by_cases c : i < 64 * nw n
  · rw [if_pos c]
  · rw [if_neg c, h i (by unfold nw at c; omega)]; rfl
theorem mix_none (f o : Nat → Bool) : mix f o 0 = f := by
  funext i
  unfold mix
  rw [if_neg (by omega)]

theorem less_ok {b g ca n b' g' ca' : Nat} {f o : Nat → Bool} (w : World) (h : RowIs w b g ca n f) (h' : RowIs w b' g' ca' n o) (hne : g' ≠ g) :
    Calls Tryd.prog 21 #[.pointer (some ⟨b, 0, none⟩), .pointer (some ⟨b', 0, none⟩)] w fun e w' => e = .returned (.int .i64 0) ∧ RowIs w' b g ca n (fun i => f i && !o i) ∧ RowIs w' b' g' ca' n o ∧ But g w w' := by
  have c := exists_any w h.hdr
  have d := fun k => exists_any _ (h'.bel (Bel.drewN w k)).hdr
  have ff := mix_all h.2.1 o
  have fit := fun k => mix_fits h.2.1 o k
  obtain ⟨h0, _, _⟩ := h.head
  obtain ⟨k0, k1, _⟩ := h'.head
  rw [← mix_none f o] at h
  have start : ∀ q, RowIs (w.drewN q) b g ca n (mix f o 0) ∧ RowIs (w.drewN q) b' g' ca' n o ∧ But g w (w.drewN q) := fun q => ⟨h.bel (Bel.drewN w q), h'.bel (Bel.drewN w q), (Bel.drewN w q).but g⟩
  have hn : nw n ≤ 65536 := by have := h.1; unfold nw; omega
  have hid := Lib.hid start
  have hff := Lib.hid ff
  clear h h' start ff
  generalize hN : nw n = N at *
  go_enter Tryd.func21, Tryd.ntmps21
  go_wp2_with (go_at_call 32; ((with_reducible refine c.mono ?_); rintro e w' ⟨rfl, hw⟩; rw [hw]))
  clear c
  go_quiet (first | (go_at_call 32; refine Calls.quiet_of_same (d _)))
  clear d
  go_wp2
  go_loopw [31] (fun i wr => ∃ k : Nat, k ≤ N ∧ i = .int .i64 (k : Nat) ∧ RowIs wr b g ca n (mix f o k) ∧ RowIs wr b' g' ca' n o ∧ But g w wr) (fun i _ => N - (intOf i).toNat)
  case atStart => exact ⟨0, Nat.zero_le _, rfl, hid.out _⟩
  case round =>
    obtain ⟨k, hk, rfl, hr, hr', hb⟩ := hrel
    clear hid
    by_cases ck : k < N
    · obtain ⟨_, r1, _⟩ := hr.head
      obtain ⟨x1, x2⟩ := hr.word (k := k) (by omega)
      obtain ⟨y1, _⟩ := hr'.word (k := k) (by omega)
      have e1 := u64_andNot_nat (W (mix f o k) k) (W o k) (W_lt _ _) (W_lt _ _)
      rw [mix_new] at e1
      have nxt : RowIs (wr.setCell ⟨g, k, none⟩ (.int .u64 (W (mix f o (k + 1)) k : Nat))) b g ca n (mix f o (k + 1)) ∧ RowIs (wr.setCell ⟨g, k, none⟩ (.int .u64 (W (mix f o (k + 1)) k : Nat))) b' g' ca' n o ∧ But g w (wr.setCell ⟨g, k, none⟩ (.int .u64 (W (mix f o (k + 1)) k : Nat))) :=
        ⟨hr.put (by omega) (fit _) fun j _ hj => mix_other f o hj, hr'.but ((But.refl g wr).set _ _) hr.at hne, hb.set _ _⟩
      rw [hN] at r1
      have kI : (k : Int) < (N : Int) := by omega
      have kO : (0 : Int) ≤ (k : Int) := by omega
      have hid := Lib.hid nxt
      clear hr hr' hb nxt fit hff hN
      generalize hR : W (mix f o (k + 1)) k = R at *
      generalize W (mix f o k) k = R1 at *
      generalize W o k = R2 at *
      clear hR
      go_wp2
      go_roundw
      case rel => exact ⟨k + 1, by omega, by go_num, hid.out⟩
      case measure => simp only [intOf]; omega
    · obtain rfl : k = N := by omega
      subst hN
      rw [hff.out] at hr
      go_wp2
      go_ret
      exact ⟨rfl, hr, hr', hb⟩

theorem copy_none {p : Value} {n : Nat} {s : Value} (w : World) (h : Hdr w p n s false) :
    Calls Tryd.prog 25 #[p] w fun e w' => e = .returned (.pointer none) ∧ w' = w := by
  have c := exists_any w h
  clear h
  go_enter Tryd.func25, Tryd.ntmps25
  go_wp2_with (go_at_call 32; refine c.mono ?_; rintro e w' ⟨rfl, hw⟩; rw [hw])
  go_ret
  exact ⟨rfl, rfl⟩

theorem row_copy {w1 : World} {B n : Nat} {f : Nat → Bool} {v : Value} (hn : n ≤ 65536) (hf : Fits n f) (h : OwnWords w1 v B (nw n) (W f)) (hne : v ≠ .slice none 0 0) :
    ∃ g ca, v = .slice (some ⟨g, 0, none⟩) (nw n) ca ∧ B ≤ g ∧ RowIs (w1.alloc (.cells #[.int .i64 (n : Nat), v, .bool true] 55)) w1.heap.size g ca n f := by
  have hc := h
  rcases h.2 with ⟨h, _⟩ | ⟨g, cap, cur, rfl, hB, hg, hle, _, hs, ht⟩
  · exact absurd h hne
  · refine ⟨g, cap, rfl, hB, hn, hf, hle, heap_alloc_new _ _, cur, ?_, fun k hk => ?_⟩
    · rw [Below.heap_alloc _ _ _ (block_lt hg)]; exact hg
    · have hz : ((List.range (nw n)).map fun k => Value.int .u64 (W f k : Nat))[k]? = some (.int .u64 (W f k : Nat)) := by
        rw [List.getElem?_map, List.getElem?_range hk]; rfl
      rw [← ht, List.getElem?_take] at hz
      simpa [hk] using hz

theorem copy_any {b g ca n : Nat} {f : Nat → Bool} (w : World) (h : RowIs w b g ca n f) :
    Calls Tryd.prog 25 #[.pointer (some ⟨b, 0, none⟩)] w fun e w' => ∃ b2 g2 ca2, e = .returned (.pointer (some ⟨b2, 0, none⟩)) ∧ RowIs w' b2 g2 ca2 n f ∧ w.heap.size ≤ g2 ∧ w.heap.size ≤ b2 ∧ Bel w w' := by
  have c := exists_any w h.hdr
  have hd : (w.drew).cell? ⟨b, 0, none⟩ = some (.int .i64 (n : Nat)) := h.head.1
  have wd := words_any w.drew (h.bel (Bel.refl w).drew)
  have fin := fun (w1 : World) (v : Value) (h1 : OwnWords w1 v w.heap.size (nw n) (W f)) h2 => row_copy h.1 h.2.1 h1 h2
  obtain ⟨h0, _, _⟩ := h.head
  have h0' : ∀ w', Bel w w' → w'.cell? ⟨b, 0, none⟩ = some (.int .i64 (n : Nat)) := fun w' k => cell_bel k h0
  clear h
  generalize OwnWords = O at *
  go_enter Tryd.func25, Tryd.ntmps25
  go_wp2_with (go_at_call 32; ((with_reducible refine c.mono ?_); rintro e w' ⟨rfl, hw⟩; rw [hw]))
  clear c
  go_region_law (first | (go_simp; go_at_call 26; refine wd.mono ?_; rintro e w' ⟨v, rfl, k1, k2, k3⟩; have hc := h0' _ (Bel.trans (Bel.refl w).drew k3); obtain ⟨g2, ca2, rfl, r1, r2⟩ := fin _ _ k1 k2))
  all_goals go_wp2
  all_goals go_ret
  all_goals
    exact ⟨_, g2, ca2, rfl, r2, r1, k3.size, (Bel.trans (Bel.refl w).drew k3).alloc _⟩

end Go.Proofs.YtebcmfggmlapdaaDoor
