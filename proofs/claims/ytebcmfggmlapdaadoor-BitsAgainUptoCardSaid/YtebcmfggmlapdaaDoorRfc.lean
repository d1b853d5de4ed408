/- The document's words of a row. -/
import Derived.Test.YtebcmfggmlapdaaDoorRfb
import Derived.Test.YtebcmfggmlapdaaDoorLe
namespace Go.Proofs.YtebcmfggmlapdaaDoor
open Go.ChangeShapes Go.WideShapes Go.ChangeAt Go.RowKit

/-- the bits below k -/
def cut (f : Nat → Bool) (k : Nat) : Nat → Bool := fun i => decide (i < k) && f i
theorem cut_all {n : Nat} {f : Nat → Bool} (h : Fits n f) : cut f n = f := by
  funext i
  unfold cut
  by_cases c : i < n
  · rw [decide_eq_true c, Bool.true_and]
  · rw [decide_eq_false c, Bool.false_and, h i (by omega)]
theorem cut_zero (f : Nat → Bool) : cut f 0 = fun _ => false := by
  funext i; simp [cut]
theorem cut_no {f : Nat → Bool} {k : Nat} (h : f k = false) : cut f (k + 1) = cut f k := by
  funext i
  unfold cut
  by_cases c : i = k
  · subst c; simp [h]
  · rw [show decide (i < k + 1) = decide (i < k) from decide_eq_decide.2 (by omega)]

theorem wd_cut (h : Nat → Bool) {m : Nat} (hm : m ≤ 64) : wd (fun j => decide (j < m) && h j) 64 = wd h m := by
  apply Nat.eq_of_testBit_eq
  intro i
  rw [bit_wd, bit_wd]
  by_cases c : i < m
  · simp [c, (by omega : i < 64)]
  · simp [c]

theorem W_cut (f : Nat → Bool) (k m : Nat) (h : k = 64 * (k / 64) + m) : W (cut f k) (k / 64) = wd (fun j => f (64 * (k / 64) + j)) m := by
  rw [← wd_cut _ (show m ≤ 64 by omega)]
  exact wd_congr fun j hj => by
    unfold cut
    rw [show decide (64 * (k / 64) + j < k) = decide (j < m) from decide_eq_decide.2 (by omega)]

theorem W_cut_next (f : Nat → Bool) (k : Nat) : W (cut f (k + 1)) (k / 64) = wd (fun j => f (64 * (k / 64) + j)) (k % 64 + 1) := by
  rw [← wd_cut _ (show k % 64 + 1 ≤ 64 by omega)]
  exact wd_congr fun j hj => by
    unfold cut
    rw [show decide (64 * (k / 64) + j < k + 1) = decide (j < k % 64 + 1) from decide_eq_decide.2 (by omega)]

theorem W_cut_add {f : Nat → Bool} {k : Nat} (h : f k = true) : W (cut f k) (k / 64) + 2 ^ (k % 64) = W (cut f (k + 1)) (k / 64) := by
  rw [W_cut f k (k % 64) (by omega), W_cut_next]
  show _ = wd _ (k % 64) + if f (64 * (k / 64) + k % 64) then 2 ^ (k % 64) else 0
  rw [show 64 * (k / 64) + k % 64 = k by omega, h]
  rfl

theorem W_cut_other {f : Nat → Bool} {k j : Nat} (h : j ≠ k / 64) : W (cut f (k + 1)) j = W (cut f k) j := W_congr fun i hi => by
  unfold cut
  rw [show decide (64 * j + i < k + 1) = decide (64 * j + i < k) from decide_eq_decide.2 (by omega)]

theorem W_cut_none {f : Nat → Bool} {k : Nat} (h : k % 64 = 0) : W (cut f k) (nw k) = 0 := wd_zero fun j _ => by
  unfold cut nw
  rw [decide_eq_false (by omega), Bool.false_and]

/-- words, listed -/
def wl (f : Nat → Bool) (m : Nat) : List Value := (List.range m).map fun j => .int .u64 (W f j : Nat)
theorem wl_succ (f : Nat → Bool) (m : Nat) : wl f (m + 1) = wl f m ++ [.int .u64 (W f m : Nat)] := by simp [wl, List.range_succ]
theorem wl_at (f : Nat → Bool) {m j : Nat} (h : j < m) : (wl f m)[j]? = some (.int .u64 (W f j : Nat)) := by
  unfold wl; rw [List.getElem?_map, List.getElem?_range h]; rfl
theorem wl_length (f : Nat → Bool) (m : Nat) : (wl f m).length = m := by simp [wl]
theorem wl_set (f : Nat → Bool) (k m : Nat) : (wl (cut f k) m).set (k / 64) (.int .u64 (W (cut f (k + 1)) (k / 64) : Nat)) = wl (cut f (k + 1)) m := by
  apply List.ext_getElem?
  intro j
  rw [List.getElem?_set]
  by_cases hj : j < m
  · rw [wl_at _ hj, wl_at _ hj, wl_length]
    by_cases e : k / 64 = j
    · subst e; rw [if_pos rfl, if_pos hj]
    · rw [if_neg e, W_cut_other (fun h => e h.symm)]
  · have e1 : (wl (cut f k) m)[j]? = none := List.getElem?_eq_none (by rw [wl_length]; omega)
    have e2 : (wl (cut f (k + 1)) m)[j]? = none := List.getElem?_eq_none (by rw [wl_length]; omega)
    rw [e1, e2, wl_length]
    by_cases e : k / 64 = j
    · rw [if_pos e, if_neg (by omega)]
    · rw [if_neg e]

set_option maxRecDepth 100000 in
set_option maxHeartbeats 4000000 in
theorem rwords_any {v : Value} {n : Nat} {f : Nat → Bool} (w : World) (h : Bools w v n f) (hf : Fits n f) (hn : n ≤ 100000) :
    Calls Tryd.prog 35 #[v] w fun e w' => ∃ r, e = .returned r ∧ Words w' r (nw n) (W f) ∧ Bel w w' := by
  obtain ⟨i0, hi, hz0, hz1, hz2⟩ := info_parts info53
  obtain ⟨p, cap, rfl⟩ := h.slice
  have h := h.row
  have hall := Lib.hid (cut_all hf)
  clear hf
  go_enter Tryd.func35, Tryd.ntmps35
  go_wp2
  go_loopw [3, 4] (fun a i wr => ∃ k : Nat, k ≤ n ∧ i = .int .i64 (k : Nat) ∧ wr.ownsRow w.heap.size 53 1 a (nw k) (wl (cut f k) (nw k)) ∧ Bel w wr) (fun _ i _ => n - (intOf i).toNat)
  case atStart => exact ⟨0, Nat.zero_le _, rfl, World.ownsRow_nil _ _ _ _, Bel.refl _⟩
  case round =>
    obtain ⟨k, hk, rfl, hown, hbr⟩ := hrel
    by_cases ck : k < n
    · rcases h with ⟨e, _⟩ | ⟨b, off, _, e, _, _, hbig, hc⟩
      · omega
      cases e
      have kI : (k : Int) < (n : Int) := by omega
      have k0 : (0 : Int) ≤ (k : Int) := by omega
      have hbB := hbr.size
      have q1 := quo64 k
      have q2 := rem64 k
      have q3 : (k : Int) % 64 = ((k % 64 : Nat) : Int) := by omega
      have q4 : (k : Int) / 64 = ((k / 64 : Nat) : Int) := by omega
      have pw := wrap_pow (show k % 64 < 64 by omega)
      have no := cut_no (f := f) (k := k)
      have yes : f k = true → IntKind.u64.wrap (((W (cut f k) (k / 64) : Nat) : Int) + ((2 ^ (k % 64) : Nat) : Int)) = ((W (cut f (k + 1)) (k / 64) : Nat) : Int) := fun h => wrap_add (W_cut_add h) (W_lt _ _)
      have stt : ∀ gg cp w1, w1.ownsRow w.heap.size 53 1 (.slice (some ⟨gg, 0, none⟩) (nw (k + 1)) cp) (nw (k + 1)) (wl (cut f k) (nw (k + 1))) → Bel w w1 → w.heap.size ≤ gg →
          (w1.setCell ⟨gg, k / 64, none⟩ (.int .u64 (W (cut f (k + 1)) (k / 64) : Nat))).ownsRow w.heap.size 53 1 (.slice (some ⟨gg, 0, none⟩) (nw (k + 1)) cp) (nw (k + 1)) (wl (cut f (k + 1)) (nw (k + 1))) ∧
          Bel w (w1.setCell ⟨gg, k / 64, none⟩ (.int .u64 (W (cut f (k + 1)) (k / 64) : Nat))) ∧ w1.cell? ⟨gg, k / 64, none⟩ = some (.int .u64 (W (cut f k) (k / 64) : Nat)) ∧ w1.frozen? ⟨gg, k / 64, none⟩ = false ∧ w1.cell? ⟨b, off + k, none⟩ = some (.bool (f k)) := fun gg cp w1 h1 h2 h3 => by
        have st := h1.stored (k / 64) (.int .u64 (W (cut f (k + 1)) (k / 64) : Nat))
        rw [wl_set] at st
        have hlt : k / 64 < nw (k + 1) := by unfold nw; omega
        refine ⟨st.1, h2.setCell (p := ⟨gg, k / 64, none⟩) h3 _, ?_, h1.frozenAt _, cell_bel h2 (hc k ck)⟩
        rw [h1.cellAt _ (by omega)]
        exact wl_at _ hlt
      by_cases km : k % 64 = 0
      · have en : nw (k + 1) = nw k + 1 := by unfold nw; omega
        have en2 : k / 64 = nw k := by unfold nw; omega
        have ws : wl (cut f k) (nw k + 1) = wl (cut f k) (nw k) ++ [.int .u64 0] := by rw [wl_succ, W_cut_none km]; rfl
        have rel : ∀ w1 v, (wr.alloc (.cells #[v] 53)).grownBy w1 u3.ownBlock → Bel w w1 := fun w1 v hg =>
          ((hbr.alloc _).grown hg (by rw [size_alloc1]; omega) (fun x hx => (hown.lt x hx).1))
        have hge : ∀ gg, u3.ownBlock = some gg ∨ gg = wr.heap.size + 1 → w.heap.size ≤ gg := fun gg e => by
          rcases e with e | e
          · exact (hown.lt gg e).1
          · omega
        have hN : nw k ≤ 65536 := by unfold nw; omega
        have jd := show ((k % 64 : Nat) : Int) = 0 by omega
        have jd1 : decide (((k % 64 : Nat) : Int) = 0) = true := decide_eq_true jd
        have jd2 : (((k % 64 : Nat) : Int) == 0) = true := by simp; omega
        have jd3 : decide (k % 64 = 0) = true := decide_eq_true km
        have jd4 : (k % 64 == 0) = true := by simp; omega
        have hJ : k % 64 < 64 := by omega
        have hKN : ((k / 64 : Nat) : Int) < ((nw (k + 1) : Nat) : Int) := by omega
        have ws := Lib.hid ws
        have hid := Lib.hid (And.intro rel (And.intro hge stt))
        clear jd km hbr q4 rel hge stt en2
        rw [en] at hKN hid
        have en2 := Lib.hid en
        clear en
        generalize W (cut f (k + 1)) (k / 64) = B at *
        generalize W (cut f k) (k / 64) = A at *
        generalize 2 ^ (k % 64) = P at *
        generalize k % 64 = J at *
        generalize k / 64 = K at *
        have ws2 := ws
        clear ws
        cases hfk : f k
        · have no2 := Lib.hid (no hfk)
          clear yes no
          go_wp2_with (at_builtin; refine wpList_append_lies _ rfl (.tmp 14) (.tmp 15) 51 rfl w.heap.size 53 i0 (.int .u64 0) 1 8 Tryd.underlying51 hi hz0 hz1 hz2 rfl (by decide) u3 (nw k) (wl (cut f k) (nw k)) rfl (hown.alloc _) ⟨wr.heap.size, 0, none⟩ 1 1 [.int .u64 0] rfl rfl (World.news_of_block (cs := #[.int .u64 0]) (t := 53) (fr := (0, 0)) (heap_alloc_new _ _)) (by simp [Value.oneCell']) (by omega) (by unfold maxLen; omega) (by omega) (by simp; omega) (wr.heap.size + 1) (by simp) ?_; intro gg cap w1 hown1 hgrow hat hlt; rw [← ws2.out] at hown1; have rel1 := Lib.hid (hid.out.1 _ _ hgrow); obtain ⟨s1, s2, s3, s4, s5⟩ := hid.out.2.2 gg cap w1 hown1 rel1.out (hid.out.2.1 gg hat); have s1 := Lib.hid s1; have s2 := Lib.hid s2; rw [hfk] at s5; clear hgrow hat hlt)
          go_roundw
          case rel => exact ⟨k + 1, by omega, by go_num, by rw [en2.out, no2.out]; exact hown1, rel1.out⟩
          case measure => simp only [intOf]; omega
        · have yes2 := yes hfk
          clear yes no
          go_wp2_with (at_builtin; refine wpList_append_lies _ rfl (.tmp 14) (.tmp 15) 51 rfl w.heap.size 53 i0 (.int .u64 0) 1 8 Tryd.underlying51 hi hz0 hz1 hz2 rfl (by decide) u3 (nw k) (wl (cut f k) (nw k)) rfl (hown.alloc _) ⟨wr.heap.size, 0, none⟩ 1 1 [.int .u64 0] rfl rfl (World.news_of_block (cs := #[.int .u64 0]) (t := 53) (fr := (0, 0)) (heap_alloc_new _ _)) (by simp [Value.oneCell']) (by omega) (by unfold maxLen; omega) (by omega) (by simp; omega) (wr.heap.size + 1) (by simp) ?_; intro gg cap w1 hown1 hgrow hat hlt; rw [← ws2.out] at hown1; have rel1 := Lib.hid (hid.out.1 _ _ hgrow); obtain ⟨s1, s2, s3, s4, s5⟩ := hid.out.2.2 gg cap w1 hown1 rel1.out (hid.out.2.1 gg hat); have s1 := Lib.hid s1; have s2 := Lib.hid s2; rw [hfk] at s5; clear hgrow hat hlt)
          go_roundw
          case rel => exact ⟨k + 1, by omega, by go_num, by rw [en2.out]; exact s1.out, s2.out⟩
          case measure => simp only [intOf]; omega
      · have en : nw (k + 1) = nw k := by unfold nw; omega
        have jd : ¬ ((k % 64 : Nat) : Int) = 0 := by omega
        have jd1 : decide (((k % 64 : Nat) : Int) = 0) = false := decide_eq_false jd
        have jd2 : (((k % 64 : Nat) : Int) == 0) = false := by simp; omega
        have jd3 : decide (k % 64 = 0) = false := decide_eq_false km
        have jd4 : (k % 64 == 0) = false := by simp; omega
        have hJ : k % 64 < 64 := by omega
        have hKw0 := Lib.hid (wrap64_nat (show k / 64 ≤ 1000000000 by omega))
        have hKN : ((k / 64 : Nat) : Int) < ((nw (k + 1) : Nat) : Int) := by unfold nw; omega
        obtain ⟨gg, cp, rfl, hgg, _⟩ := hown.form (show 0 < nw k by unfold nw; omega)
        rw [en] at stt hKN
        obtain ⟨s1, s2, s3, s4, s5⟩ := stt gg cp wr hown hbr hgg
        have en2 := Lib.hid en
        have s1 := Lib.hid s1
        have s2 := Lib.hid s2
        have hid := Lib.hid (And.intro hown hbr)
        clear jd km hbr hown q4 stt en
        generalize W (cut f (k + 1)) (k / 64) = B at *
        generalize W (cut f k) (k / 64) = A at *
        generalize 2 ^ (k % 64) = P at *
        generalize k % 64 = J at *
        generalize k / 64 = K at *
        cases hfk : f k
        · have no2 := Lib.hid (no hfk)
          rw [hfk] at s5
          clear yes no
          go_wp2
          go_roundw
          case rel => exact ⟨k + 1, by omega, by go_num, by rw [en2.out, no2.out]; exact hid.out.1, hid.out.2⟩
          case measure => simp only [intOf]; omega
        · have yes2 := yes hfk
          have hKw := hKw0.out
          rw [hfk] at s5
          clear yes no
          go_wp2
          go_roundw
          case rel => exact ⟨k + 1, by omega, by go_num, by rw [en2.out]; exact s1.out, s2.out⟩
          case measure => simp only [intOf]; omega
    · obtain rfl : k = n := by omega
      have fin := OwnWords.words (show OwnWords wr u3 w.heap.size (nw k) (W (cut f k)) from hown)
      rw [hall.out] at fin
      clear hown h
      go_wp2
      go_ret
      exact ⟨u3, rfl, fin, hbr⟩

end Go.Proofs.YtebcmfggmlapdaaDoor
