/- Unpack of the document; Same. -/
import Derived.Test.YtdenpmckekcokaaUn
namespace Go.Proofs.Ytdenpmckekcokaa
open Go.ChangeShapes Go.WideShapes Go.ChangeAt Go.RowKit

set_option maxHeartbeats 2000000 in
theorem runpack_ok (b1 off1 cap1 n u : Nat) (F : Nat → Int) (w : World) (hn : 1 ≤ n) (hc1 : n ≤ cap1) (hbig : cap1 ≤ 9223372036854775807)
    (hF : ∀ j, j < n → w.cell? ⟨b1, off1 + j, none⟩ = some (.int .i64 (F j))) (hFb : ∀ j, -9223372036854775808 ≤ F j ∧ F j ≤ 9223372036854775807) (hu : u < 18446744073709551616)
    (ok : okTo F n) (hfit : u < 2 ^ start F n) :
    Calls Try.prog 17 #[.slice (some ⟨b1, off1, none⟩) n cap1, .int .u64 (u : Nat)] w (UnAns F n u w) := by
  obtain ⟨i0, hi, hz0, hz1, hz2⟩ := info_parts info22
  have al := fun w' h => all_some b1 off1 cap1 n F w' hn hc1 hbig h hFb
  rw [allR_ok hn ok] at al
  have s64 := start_le ok
  have sge := start_ge ok
  have ft := fun w => rfits_any u (start F n) w hu s64
  rw [decide_eq_true hfit] at ft
  have fin : ∀ (v : Value) (w' : World), Words w' v n (unG F u) → Bel w w' → UnAns F n u w (.returned (.tuple #[v, .int .i64 0])) w' := fun v w' h1 h2 =>
    ⟨v, by rw [unE_ok hn ok hfit], by rw [unN_ok hn ok hfit]; exact h1, h2⟩
  have al1 := al w hF
  obtain ⟨S0, hS0⟩ : ∃ S0 : Nat, start F n = S0 := ⟨_, rfl⟩
  rw [hS0] at al1 ft s64 sge
  clear al hfit hS0
  go_enter Try.func17, Try.ntmps17
  go_wp2_with (first | (go_at_call 28; refine al1.mono ?_; rintro e w' ⟨rfl, hw⟩; rw [hw]) | (go_at_call 25; refine (ft _).mono ?_; rintro e w' ⟨rfl, hw⟩; rw [hw]))
  clear al1 ft
  go_loopw [7, 8, 9] (fun a s i wr => ∃ k : Nat, k ≤ n ∧ s = .int .i64 (start F k : Nat) ∧ i = .int .i64 (k : Nat) ∧ wr.ownsRow w.heap.size 22 1 a k (valsTo F u k) ∧ Bel w wr) (fun _ _ i _ => n - (intOf i).toNat)
  case atStart => exact ⟨0, Nat.zero_le _, rfl, rfl, World.ownsRow_nil _ _ _ _, Bel.refl _⟩
  case round =>

    obtain ⟨k, hk, rfl, rfl, hown, hbr⟩ := hrel
    have hok := okTo_le ok hk
    have sk := start_le hok
    by_cases ck : k < n
    · have cF : wr.cell? ⟨b1, off1 + k, none⟩ = some (.int .i64 (F k)) := cell_bel hbr (hF k ck)
      obtain ⟨o1, o2⟩ := ok k ck
      obtain ⟨M, hM⟩ : ∃ M : Nat, F k = M := ⟨(F k).toNat, by omega⟩
      have gt := fun w => rget_any u (start F k) (F k) w hu (by omega) (by omega) (hFb k).1 (hFb k).2
      rw [hM] at gt o1 o2
      rw [getR_ok (by omega) (by omega), getE_ok (by omega) (by omega)] at gt
      have sS : start F (k + 1) = start F k + (F k).toNat := rfl
      have vS := valsTo_succ F u k
      have hbB := hbr.size
      have cF2 : ∀ w1 v, (wr.alloc (.cells #[v] 22)).grownBy w1 u7.ownBlock → w1.cell? ⟨b1, off1 + k, none⟩ = some (.int .i64 (F k)) := fun w1 v hg =>
        cell_bel ((hbr.alloc _).grown hg (Nat.le_trans hbr.size (by show _ ≤ (wr.heap.push _).size; simp)) (fun x hx => (hown.lt x hx).1)) (hF k ck)
      have rel : ∀ w1 v, (wr.alloc (.cells #[v] 22)).grownBy w1 u7.ownBlock → Bel w w1 := fun w1 v hg =>
        ((hbr.alloc _).grown hg (Nat.le_trans hbr.size (by show _ ≤ (wr.heap.push _).size; simp)) (fun x hx => (hown.lt x hx).1))
      rw [hM] at sS vS cF
      simp only [hM] at cF2
      rw [Int.toNat_natCast] at sS vS
      have m1 : k + 1 ≤ maxLen := by unfold maxLen; omega
      have m2 : (k + 1) * 8 ≤ 140737488355328 := by omega
      have s2 : start F k + M ≤ 64 := by omega
      have kI : (k : Int) < (n : Int) := by omega
      have k0 : (0 : Int) ≤ (k : Int) := by omega
      generalize getV u (start F k) M = R at *
      have hid := Lib.hid (And.intro sS (And.intro vS (And.intro hM fin)))
      clear hF hFb hok ok sS vS hM fin
      generalize start F k = S at *
      clear hbr
      go_wp2_with (first
        | (go_at_call 10; refine (gt _).mono ?_; rintro e w' ⟨rfl, hw⟩; rw [hw])
        | (at_builtin; refine wpList_append_lies _ rfl (.tmp 36) (.tmp 38) 35 rfl w.heap.size 22 i0 (.int .u64 0) 1 8 Try.underlying35 hi hz0 hz1 hz2 rfl (by decide) u7 k (valsTo F u k) rfl (hown.alloc _) ⟨wr.heap.size, 0, none⟩ 1 1 [.int .u64 (R : Nat)] rfl rfl (World.news_of_block (cs := #[.int .u64 (R : Nat)]) (t := 22) (fr := (0, 0)) (heap_alloc_new _ _)) (by simp [Value.oneCell']) (by omega) m1 m2 (by simp; omega) (wr.heap.size + 1) (by simp) ?_
           intro gg cap w1 hown1 hgrow hat hlt
           have cF3 := cF2 _ _ hgrow
           have rel1 := rel _ _ hgrow
           clear hgrow hat hlt cF2 rel))
      go_roundw
      case rel => exact ⟨k + 1, by omega, by rw [hid.out.1]; go_num, by go_num, by rw [hid.out.2.1]; exact hown1, rel1⟩
      case measure => simp only [intOf]; omega
    · obtain rfl : k = n := by omega
      have fin' := fin u7 wr (words_vals hown) hbr
      clear fin hF hFb hown hok ok
      go_wp2
      go_ret2
      exact fin'

/-- Unpack of the document -/
theorem runpack_any (ws : Value) (n u : Nat) (F : Nat → Int) (w : World) (hF : Nums w ws n F) (hFb : ∀ j, -9223372036854775808 ≤ F j ∧ F j ≤ 9223372036854775807) (hu : u < 18446744073709551616) :
    Calls Try.prog 17 #[ws, .int .u64 (u : Nat)] w (UnAns F n u w) := by
  have al2 := all_any ws n F w hF hFb
  by_cases ok : 1 ≤ n ∧ okTo F n
  · rcases hF with ⟨h, _⟩ | ⟨b1, off1, cap1, rfl, hn, hc, hbig, hF⟩
    · omega
    · by_cases hfit : u < 2 ^ start F n
      · exact runpack_ok b1 off1 cap1 n u F w hn hc hbig hF hFb hu ok.2 hfit
      · rw [allR_ok ok.1 ok.2] at al2
        have s64 := start_le ok.2
        have ft := fun w => rfits_any u (start F n) w hu s64
        rw [decide_eq_false hfit] at ft
        have fin : UnAns F n u w (.returned (.tuple #[.slice none 0 0, .int .i64 5])) w :=
          ⟨.slice none 0 0, by rw [unE_form ok.1 ok.2 hfit], by rw [unN_form hfit]; exact words_none _ _, Bel.refl _⟩
        generalize start F n = S at *
        clear hF hFb ok hfit
        go_enter Try.func17, Try.ntmps17
        go_wp2_with (first | (go_at_call 28; refine al2.mono ?_; rintro e w' ⟨rfl, hw⟩; rw [hw]) | (go_at_call 25; refine (ft _).mono ?_; rintro e w' ⟨rfl, hw⟩; rw [hw]))
        go_ret2
        exact fin
  · rw [allR_no ok] at al2
    obtain ⟨p, cap1, rfl⟩ := slice_cases hF
    have fin : UnAns F n u w (.returned (.tuple #[.slice none 0 0, .int .i64 2])) w :=
      ⟨.slice none 0 0, by rw [unE_no ok], by rw [unN_no ok]; exact words_none _ _, Bel.refl _⟩
    clear hF hFb ok
    go_enter Try.func17, Try.ntmps17
    go_wp2_with (go_at_call 28; refine al2.mono ?_; rintro e w' ⟨rfl, hw⟩; rw [hw])
    go_ret2
    exact fin

/-- are two rows the same? -/
def sameB (n : Nat) (g : Nat → Nat) (m : Nat) (h : Nat → Nat) : Bool := decide (n = m ∧ ∀ i, i < n → g i = h i)

theorem sameB_true {n : Nat} {g h : Nat → Nat} (k : ∀ i, i < n → g i = h i) : sameB n g n h = true := decide_eq_true ⟨rfl, k⟩
theorem sameB_refl (n : Nat) (g : Nat → Nat) : sameB n g n g = true := sameB_true fun _ _ => rfl

theorem same_any (a b : Value) (n m : Nat) (g h : Nat → Nat) (w : World) (hg : Words w a n g) (hh : Words w b m h) :
    Calls Try.prog 18 #[a, b] w fun e w' => e = .returned (.bool (sameB n g m h)) ∧ Bel w w' := by
  by_cases c : n = m
  · subst c
    rcases hg with ⟨rfl, p, cap, rfl⟩ | ⟨b1, off1, cap1, rfl, hn, hc, hbig, hg⟩
    · obtain ⟨q, cap2, rfl⟩ := slice_cases hh
      rw [sameB_true fun i hi => by omega]
      clear hh
      go_enter Try.func18, Try.ntmps18
      go_wp2
      go_loop [5] (fun i => i = .int .i64 0) (fun _ => 0)
      case atStart => rfl
      case round =>
        obtain rfl := hrel
        go_wp2
        go_ret
        exact ⟨rfl, Bel.refl _⟩
    · rcases hh with ⟨h, _⟩ | ⟨b2, off2, cap2, rfl, _, hc2, hbig2, hh⟩
      · omega
      · obtain ⟨R, hR⟩ : ∃ R, sameB n g n h = R := ⟨_, rfl⟩
        rw [hR]
        have hidR := Lib.hid hR
        clear hR
        go_enter Try.func18, Try.ntmps18
        go_wp2
        go_loopw [5] (fun i wr => ∃ k : Nat, k ≤ n ∧ i = .int .i64 (k : Nat) ∧ (∀ j, j < k → g j = h j) ∧ Bel w wr) (fun i _ => n - (intOf i).toNat)
        case atStart => exact ⟨0, Nat.zero_le _, rfl, fun j hj => by omega, Bel.refl _⟩
        case round =>
          obtain ⟨k, hk, rfl, hall, hbr⟩ := hrel
          by_cases ck : k < n
          · have c1 : wr.cell? ⟨b1, off1 + k, none⟩ = some (.int .u64 (g k : Nat)) := cell_bel hbr (hg k ck)
            have c2 : wr.cell? ⟨b2, off2 + k, none⟩ = some (.int .u64 (h k : Nat)) := cell_bel hbr (hh k ck)
            have kI : (k : Int) < (n : Int) := by omega
            have k0 : (0 : Int) ≤ (k : Int) := by omega
            by_cases e : g k = h k
            · rw [← e] at c2
              have hid := Lib.hid (And.intro hall (And.intro e hbr))
              clear hall e hbr hg hh
              generalize hG : g k = G at *
              have hidG := Lib.hid hG
              clear hG
              go_wp2
              go_region
              go_wp2
              go_roundw
              case rel => exact ⟨k + 1, by omega, by go_num, fun j hj => by
                by_cases d : j = k
                · rw [d, hidG.out]; exact hid.out.2.1
                · exact hid.out.1 j (by omega), hid.out.2.2.drew⟩
              case measure => simp only [intOf]; omega
            · have hR := hidR.out
              have no : sameB n g n h = false := decide_eq_false fun x => e (x.2 k ck)
              rw [no] at hR
              subst hR
              have e2 : ((g k : Int) != (h k : Int)) = true := by rw [bne_iff_ne]; omega
              have e3 : ¬ ((g k : Int) = (h k : Int)) := by omega
              clear hall hg hh no e
              generalize g k = G at *
              generalize h k = H at *
              go_wp2
              go_region
              go_wp2
              go_ret
              exact ⟨rfl, hbr.drew⟩
          · obtain rfl : k = n := by omega
            have hR := hidR.out
            rw [sameB_true hall] at hR
            subst hR
            clear hall hg hh
            go_wp2
            go_ret
            exact ⟨rfl, hbr⟩
  · obtain ⟨p, cap1, rfl⟩ := slice_cases hg
    obtain ⟨q, cap2, rfl⟩ := slice_cases hh
    have no : sameB n g m h = false := decide_eq_false fun x => c x.1
    rw [no]
    have c2 : ((n : Int) != (m : Int)) = true := by rw [bne_iff_ne]; omega
    clear hg hh no
    go_enter Try.func18, Try.ntmps18
    go_wp2
    go_ret
    exact ⟨rfl, Bel.refl _⟩

end Go.Proofs.Ytdenpmckekcokaa
