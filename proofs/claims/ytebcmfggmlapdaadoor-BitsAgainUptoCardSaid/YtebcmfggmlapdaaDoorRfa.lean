/- The document's answers that read: Get, Next, Count; Same. -/
import Derived.Test.YtebcmfggmlapdaaDoorNxp
namespace Go.Proofs.YtebcmfggmlapdaaDoor
open Go.ChangeShapes Go.WideShapes Go.ChangeAt Go.RowKit

theorem rget_any {v : Value} {n : Nat} {f : Nat → Bool} (i : Int) (w : World) (h : Bools w v n f) :
    Calls Tryd.prog 36 #[v, .int .i64 i] w fun e w' => e = .returned (.bool (getB n f i)) ∧ w' = w := by
  unfold getB there
  by_cases h0 : 0 ≤ i
  · by_cases h1 : i < n
    · have e : decide (0 ≤ i ∧ i < (n : Int)) = true := decide_eq_true ⟨h0, h1⟩
      rw [e, Bool.true_and]
      obtain ⟨k, rfl⟩ : ∃ k : Nat, i = k := ⟨i.toNat, by omega⟩
      rcases h.row with ⟨rfl, _⟩ | ⟨b, off, cap, rfl, _, _, hbig, hc⟩
      · omega
      have c : w.cell? ⟨b, off + k, none⟩ = some (.bool (f k)) := hc k (by omega)
      have d0 : decide (0 ≤ (k : Int)) = true := decide_eq_true h0
      have d1 : decide ((k : Int) < (n : Int)) = true := decide_eq_true h1
      rw [Int.toNat_natCast]
      clear h hc e
      generalize f k = t at *
      go_enter Tryd.func36, Tryd.ntmps36
      go_wp2
      go_ret
      exact ⟨rfl, rfl⟩
    · have e : decide (0 ≤ i ∧ i < (n : Int)) = false := decide_eq_false (by omega)
      rw [e, Bool.false_and]
      obtain ⟨p, cap, rfl⟩ := h.slice
      have d0 : decide (0 ≤ i) = true := decide_eq_true h0
      have d1 : decide (i < (n : Int)) = false := decide_eq_false h1
      clear h
      go_enter Tryd.func36, Tryd.ntmps36
      go_wp2
      go_ret
      exact ⟨rfl, rfl⟩
  · have e : decide (0 ≤ i ∧ i < (n : Int)) = false := decide_eq_false (by omega)
    rw [e, Bool.false_and]
    obtain ⟨p, cap, rfl⟩ := h.slice
    have d0 : decide (0 ≤ i) = false := decide_eq_false h0
    clear h
    go_enter Tryd.func36, Tryd.ntmps36
    go_wp2
    go_ret
    exact ⟨rfl, rfl⟩

theorem rcount_any {v : Value} {n : Nat} {f : Nat → Bool} (w : World) (h : Bools w v n f) (hn : n ≤ 100000) :
    Calls Tryd.prog 34 #[v] w fun e w' => e = .returned (.int .i64 (cnt f n : Nat)) ∧ w' = w := by
  obtain ⟨p, cap, rfl⟩ := h.slice
  have hc := h.row
  clear h
  go_enter Tryd.func34, Tryd.ntmps34
  go_wp2
  go_loop [3, 4] (fun a i => ∃ k : Nat, k ≤ n ∧ a = .int .i64 (cnt f k : Nat) ∧ i = .int .i64 (k : Nat)) (fun _ i => n - (intOf i).toNat)
  case atStart => exact ⟨0, Nat.zero_le _, rfl, rfl⟩
  case round =>
    obtain ⟨k, hk, rfl, rfl⟩ := hrel
    by_cases ck : k < n
    · rcases hc with ⟨e, _⟩ | ⟨b, off, cap, e, _, _, hbig, hc⟩
      · omega
      cases e
      have c : w.cell? ⟨b, off + k, none⟩ = some (.bool (f k)) := hc k ck
      have s : cnt f (k + 1) = cnt f k + if f k then 1 else 0 := rfl
      have l1 := cnt_le f k
      have kI : (k : Int) < (n : Int) := by omega
      have k0 : (0 : Int) ≤ (k : Int) := by omega
      have hs := Lib.hid s
      clear s hc
      generalize cnt f k = A at *
      cases hf : f k
      · rw [hf] at hs c
        go_wp2
        go_round
        case rel => exact ⟨k + 1, by omega, by rw [hs.out]; rfl, by go_num⟩
        case measure => simp only [intOf]; omega
      · rw [hf] at hs c
        go_wp2
        go_round
        case rel => exact ⟨k + 1, by omega, by rw [hs.out]; go_num, by go_num⟩
        case measure => simp only [intOf]; omega
    · obtain rfl : k = n := by omega
      clear hc
      go_wp2
      go_ret
      exact ⟨rfl, rfl⟩

theorem first_step {h : Nat → Bool} {n k : Nat} (hk : k < n) : first h (n - k) k = if h k then some k else first h (n - (k + 1)) (k + 1) := by
  obtain ⟨c, hc⟩ : ∃ c, n - k = c + 1 := ⟨n - k - 1, by omega⟩
  rw [hc, show n - (k + 1) = c by omega]
  rfl

theorem rnext_any {v : Value} {n : Nat} {f : Nat → Bool} (x : Int) (is : Bool) (w : World) (h : Bools w v n f) (hn : n ≤ 100000) (hx : x ≤ 9223372036854775807) :
    Calls Tryd.prog 15 #[v, .int .i64 x, .bool is] w fun e w' => e = .returned (.tuple #[.int .i64 (nxA (nxt f n (start x) is)), .bool (nxt f n (start x) is).isSome]) ∧ w' = w := by
  obtain ⟨p, cap, rfl⟩ := h.slice
  have hc := h.row
  have hMx : max x 0 = ((start x : Nat) : Int) := by unfold start; omega
  have hM : start x ≤ 9223372036854775807 := by unfold start; omega
  generalize start x = m at *
  obtain ⟨R, hR⟩ : ∃ R, nxt f n m is = R := ⟨_, rfl⟩
  rw [hR]
  have hR := Lib.hid hR
  clear h
  go_enter Tryd.func15, Tryd.ntmps15
  go_wp2
  go_loop [8] (fun i => ∃ k : Nat, i = .int .i64 (k : Nat) ∧ k ≤ 9223372036854775807 ∧ first (sel f n is) (n - k) k = R) (fun i => n - (intOf i).toNat)
  case atStart => exact ⟨m, rfl, hM, hR.out⟩
  case round =>
    obtain ⟨k, rfl, hk, hF⟩ := hrel
    by_cases ck : k < n
    · rcases hc with ⟨e, _⟩ | ⟨b, off, cap, e, _, _, hbig, hc⟩
      · omega
      cases e
      have c : w.cell? ⟨b, off + k, none⟩ = some (.bool (f k)) := hc k ck
      have kI : (k : Int) < (n : Int) := by omega
      have k0 : (0 : Int) ≤ (k : Int) := by omega
      rw [first_step ck] at hF
      have hs : sel f n is k = (f k == is) := by unfold sel; rw [decide_eq_true ck, Bool.true_and]
      rw [hs] at hF
      clear hs hc hR
      generalize f k = t at *
      cases ht : (t == is)
      · rw [ht] at hF
        simp only [Bool.false_eq_true, if_false] at hF
        have hid := Lib.hid hF
        clear hF
        have hne : t ≠ is := by simpa using ht
        have hdec : decide (t = is) = false := decide_eq_false hne
        go_wp2
        go_round
        case rel => exact ⟨k + 1, by go_num, by omega, hid.out⟩
        case measure => simp only [intOf]; omega
      · rw [ht] at hF
        simp only [if_true] at hF
        obtain rfl : t = is := by simpa using ht
        have hid := Lib.hid hF
        clear hF
        go_wp2
        go_ret2
        rw [← hid.out]
        exact ⟨rfl, rfl⟩
    · have kI : ¬ ((k : Int) < (n : Int)) := by omega
      rw [show n - k = 0 by omega] at hF
      have hid := Lib.hid hF
      clear hF hc hR
      go_wp2
      go_ret2
      rw [← hid.out]
      exact ⟨rfl, rfl⟩

theorem slice_cases {w : World} {v : Value} {n : Nat} {x : Nat → Value} (h : Row w v n x) : ∃ p cap, v = .slice p n cap := h.slice

/-- are two rows of words the same? -/
def sameB (n : Nat) (g : Nat → Nat) (m : Nat) (h : Nat → Nat) : Bool := decide (n = m ∧ ∀ i, i < n → g i = h i)

theorem sameB_true {n : Nat} {g h : Nat → Nat} (k : ∀ i, i < n → g i = h i) : sameB n g n h = true := decide_eq_true ⟨rfl, k⟩
theorem sameB_refl (n : Nat) (g : Nat → Nat) : sameB n g n g = true := sameB_true fun _ _ => rfl

theorem same_any (a b : Value) (n m : Nat) (g h : Nat → Nat) (w : World) (hg : Words w a n g) (hh : Words w b m h) :
    Calls Tryd.prog 27 #[a, b] w fun e w' => e = .returned (.bool (sameB n g m h)) ∧ Bel w w' := by
  by_cases c : n = m
  · subst c
    rcases hg with ⟨rfl, p, cap, rfl⟩ | ⟨b1, off1, cap1, rfl, hn, hc, hbig, hg⟩
    · obtain ⟨q, cap2, rfl⟩ := slice_cases hh
      rw [sameB_true fun i hi => by omega]
      clear hh
      go_enter Tryd.func27, Tryd.ntmps27
      go_wp2
      go_loop [5] (fun i => i = .int .i64 0) (fun _ => 0)
      case atStart => rfl
      case round =>
        obtain rfl := hrel
        go_wp2
        go_ret
        exact ⟨rfl, Bel.refl _⟩
    · rcases hh with ⟨h, _⟩ | ⟨b2, off2, cap2, rfl, _, hc2, hbig2, hh⟩
      · omega
      · obtain ⟨R, hR⟩ : ∃ R, sameB n g n h = R := ⟨_, rfl⟩
        rw [hR]
        have hidR := Lib.hid hR
        clear hR
        go_enter Tryd.func27, Tryd.ntmps27
        go_wp2
        go_loopw [5] (fun i wr => ∃ k : Nat, k ≤ n ∧ i = .int .i64 (k : Nat) ∧ (∀ j, j < k → g j = h j) ∧ Bel w wr) (fun i _ => n - (intOf i).toNat)
        case atStart => exact ⟨0, Nat.zero_le _, rfl, fun j hj => by omega, Bel.refl _⟩
        case round =>
          obtain ⟨k, hk, rfl, hall, hbr⟩ := hrel
          by_cases ck : k < n
          · have c1 : wr.cell? ⟨b1, off1 + k, none⟩ = some (.int .u64 (g k : Nat)) := cell_bel hbr (hg k ck)
            have c2 : wr.cell? ⟨b2, off2 + k, none⟩ = some (.int .u64 (h k : Nat)) := cell_bel hbr (hh k ck)
            have kI : (k : Int) < (n : Int) := by omega
            have k0 : (0 : Int) ≤ (k : Int) := by omega
            by_cases e : g k = h k
            · rw [← e] at c2
              have hid := Lib.hid (And.intro hall (And.intro e hbr))
              clear hall e hbr hg hh
              generalize hG : g k = G at *
              have hidG := Lib.hid hG
              clear hG
              go_wp2
              go_region
              go_wp2
              go_roundw
              case rel => exact ⟨k + 1, by omega, by go_num, fun j hj => by
                by_cases d : j = k
                · rw [d, hidG.out]; exact hid.out.2.1
                · exact hid.out.1 j (by omega), hid.out.2.2.drew⟩
              case measure => simp only [intOf]; omega
            · have hR := hidR.out
              have no : sameB n g n h = false := decide_eq_false fun x => e (x.2 k ck)
              rw [no] at hR
              subst hR
              have e2 : ((g k : Int) != (h k : Int)) = true := by rw [bne_iff_ne]; omega
              have e3 : ¬ ((g k : Int) = (h k : Int)) := by omega
              clear hall hg hh no e
              generalize g k = G at *
              generalize h k = H at *
              go_wp2
              go_region
              go_wp2
              go_ret
              exact ⟨rfl, hbr.drew⟩
          · obtain rfl : k = n := by omega
            have hR := hidR.out
            rw [sameB_true hall] at hR
            subst hR
            clear hall hg hh
            go_wp2
            go_ret
            exact ⟨rfl, hbr⟩
  · obtain ⟨p, cap1, rfl⟩ := slice_cases hg
    obtain ⟨q, cap2, rfl⟩ := slice_cases hh
    have no : sameB n g m h = false := decide_eq_false fun x => c x.1
    rw [no]
    have c2 : ((n : Int) != (m : Int)) = true := by rw [bne_iff_ne]; omega
    clear hg hh no
    go_enter Tryd.func27, Tryd.ntmps27
    go_wp2
    go_ret
    exact ⟨rfl, Bel.refl _⟩

end Go.Proofs.YtebcmfggmlapdaaDoor
