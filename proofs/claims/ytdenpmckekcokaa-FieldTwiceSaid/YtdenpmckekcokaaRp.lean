/- All and Pack of the document. -/
import Derived.Test.YtdenpmckekcokaaEa
namespace Go.Proofs.Ytdenpmckekcokaa
open Go.ChangeShapes Go.WideShapes Go.ChangeAt Go.RowKit

/-- what All answers -/
def allR (F : Nat → Int) (n : Nat) : Int := if 1 ≤ n ∧ okTo F n then (start F n : Nat) else -1

theorem allR_ok {F : Nat → Int} {n : Nat} (hn : 1 ≤ n) (h : okTo F n) : allR F n = (start F n : Nat) := if_pos ⟨hn, h⟩
theorem allR_no {F : Nat → Int} {n : Nat} (h : ¬ (1 ≤ n ∧ okTo F n)) : allR F n = -1 := if_neg h

theorem all_none (p : Option Addr) (cap : Nat) (w : World) :
    Calls Try.prog 28 #[.slice p 0 cap] w fun e w' => e = .returned (.int .i64 (-1)) ∧ w' = w := by
  go_enter Try.func28, Try.ntmps28
  go_wp2
  go_loop [3, 4] (fun a i => a = .int .i64 0 ∧ i = .int .i64 0) (fun _ _ => 0)
  case atStart => exact ⟨rfl, rfl⟩
  case round =>
    obtain ⟨rfl, rfl⟩ := hrel
    go_wp2
    go_ret
    exact ⟨rfl, rfl⟩

theorem all_some (b off cap n : Nat) (F : Nat → Int) (w : World) (hn : 1 ≤ n) (hc : n ≤ cap) (hbig : cap ≤ 9223372036854775807)
    (hF : ∀ j, j < n → w.cell? ⟨b, off + j, none⟩ = some (.int .i64 (F j))) (hFb : ∀ j, -9223372036854775808 ≤ F j ∧ F j ≤ 9223372036854775807) :
    Calls Try.prog 28 #[.slice (some ⟨b, off, none⟩) n cap] w fun e w' => e = .returned (.int .i64 (allR F n)) ∧ w' = w := by
  obtain ⟨R, hR⟩ : ∃ R, allR F n = R := ⟨_, rfl⟩
  rw [hR]
  have hidR := Lib.hid hR
  clear hR
  go_enter Try.func28, Try.ntmps28
  go_wp2
  go_loop [3, 4] (fun a i => ∃ k : Nat, k ≤ n ∧ a = .int .i64 (start F k : Nat) ∧ i = .int .i64 (k : Nat) ∧ okTo F k) (fun _ i => n - (intOf i).toNat)
  case atStart => exact ⟨0, Nat.zero_le _, rfl, rfl, fun i hi => by omega⟩
  case round =>
    obtain ⟨k, hk, rfl, rfl, hok⟩ := hrel
    have s64 := start_le hok
    by_cases ck : k < n
    · have cF := hF k ck
      obtain ⟨f0, f1⟩ := hFb k
      by_cases c : 1 ≤ F k ∧ (start F k : Int) + F k ≤ 64
      · have hok' := okTo_succ hok c.1 c.2
        obtain ⟨M, hM⟩ : ∃ M : Nat, F k = M := ⟨(F k).toNat, by omega⟩
        have sS : start F (k + 1) = start F k + (F k).toNat := rfl
        rw [hM] at cF sS c
        rw [Int.toNat_natCast] at sS
        generalize hS' : start F (k + 1) = S' at *
        have hid := Lib.hid (And.intro hok' hS')
        clear hF hFb hok hok' hM hS' f0 f1
        generalize start F k = S at *
        obtain ⟨c1, c2⟩ := c
        have t1 : ¬ (64 - (S : Int)) < (M : Int) := by omega
        have t2 : ¬ (M : Int) < 1 := by omega
        go_wp2
        go_round
        case rel => exact ⟨k + 1, by omega, by rw [hid.out.2]; go_num, by go_num, hid.out.1⟩
        case measure => simp only [intOf]; omega
      · have hR := hidR.out
        rw [allR_no (fun h => c (h.2 k ck))] at hR
        subst hR
        generalize start F k = S at *
        generalize F k = f at *
        clear hF hFb hok
        by_cases c1 : f < 1
        · clear c
          go_wp2
          go_ret
          exact ⟨rfl, rfl⟩
        · have c2 : (64 - (S : Int)) < f := by omega
          clear c
          go_wp2
          go_ret
          exact ⟨rfl, rfl⟩
    · obtain rfl : k = n := by omega
      have hR := hidR.out
      rw [allR_ok hn hok] at hR
      clear hF hFb
      have k0 : ¬ (k : Int) = 0 := by omega
      go_wp2
      go_ret
      exact ⟨rfl, rfl⟩

theorem all_any (ws : Value) (n : Nat) (F : Nat → Int) (w : World) (hF : Nums w ws n F) (hFb : ∀ j, -9223372036854775808 ≤ F j ∧ F j ≤ 9223372036854775807) :
    Calls Try.prog 28 #[ws] w fun e w' => e = .returned (.int .i64 (allR F n)) ∧ w' = w := by
  rcases hF with ⟨rfl, p, cap, rfl⟩ | ⟨b1, off1, cap1, rfl, hn, hc, hbig, hF⟩
  · rw [allR_no (fun h => absurd h.1 (by omega))]
    exact all_none p cap w
  · exact all_some b1 off1 cap1 n F w hn hc hbig hF hFb

set_option maxHeartbeats 1000000 in
theorem rpack_some (b1 off1 cap1 b2 off2 cap2 n : Nat) (F : Nat → Int) (g : Nat → Nat) (w : World) (hn : 1 ≤ n) (hc1 : n ≤ cap1) (hbig : cap1 ≤ 9223372036854775807) (hc2 : n ≤ cap2)
    (hF : ∀ j, j < n → w.cell? ⟨b1, off1 + j, none⟩ = some (.int .i64 (F j))) (hg : ∀ j, j < n → w.cell? ⟨b2, off2 + j, none⟩ = some (.int .u64 (g j : Nat)))
    (hFb : ∀ j, -9223372036854775808 ≤ F j ∧ F j ≤ 9223372036854775807) (hgb : ∀ j, g j < 18446744073709551616) (ok : okTo F n) :
    Calls Try.prog 15 #[.slice (some ⟨b1, off1, none⟩) n cap1, .slice (some ⟨b2, off2, none⟩) n cap2] w fun e w' => e = .returned (.tuple #[.int .u64 (packR F n g n : Nat), .int .i64 (packE F n g n)]) ∧ Bel w w' := by
  have al := fun w' h => all_some b1 off1 cap1 n F w' hn hc1 hbig h hFb
  rw [allR_ok hn ok] at al
  obtain ⟨P, hP⟩ : ∃ P, packR F n g n = P := ⟨_, rfl⟩
  obtain ⟨E, hE⟩ : ∃ E, packE F n g n = E := ⟨_, rfl⟩
  rw [hP, hE]
  have hid0 := Lib.hid (And.intro hP hE)
  clear hP hE
  have s64 := start_le ok
  go_enter Try.func15, Try.ntmps15
  go_wp2_with (go_at_call 28; refine (al _ hF).mono ?_; rintro e w' ⟨rfl, hw⟩; rw [hw])
  go_loopw [6, 7, 8] (fun a s i wr => ∃ k : Nat, k ≤ n ∧ a = .int .u64 (packTo F g k : Nat) ∧ s = .int .i64 (start F k : Nat) ∧ i = .int .i64 (k : Nat) ∧ fitTo F g k ∧ Bel w wr) (fun _ _ i _ => n - (intOf i).toNat)
  case atStart => exact ⟨0, Nat.zero_le _, rfl, rfl, rfl, fun i hi => by omega, Bel.refl _⟩
  case round =>
    obtain ⟨k, hk, rfl, rfl, rfl, hft, hbr⟩ := hrel
    have hok := okTo_le ok hk
    have sk := start_le hok
    by_cases ck : k < n
    · have cF : wr.cell? ⟨b1, off1 + k, none⟩ = some (.int .i64 (F k)) := cell_bel hbr (hF k ck)
      have cg : wr.cell? ⟨b2, off2 + k, none⟩ = some (.int .u64 (g k : Nat)) := cell_bel hbr (hg k ck)
      obtain ⟨o1, o2⟩ := ok k ck
      obtain ⟨M, hM⟩ : ∃ M : Nat, F k = M := ⟨(F k).toNat, by omega⟩
      have pl := Nat.lt_of_lt_of_le (packTo_lt hok hft) (pow_le64 sk)
      have rs := fun q => rset_any (packTo F g k) (start F k) (F k) (g k) (wr.drewN q) pl (hgb k) (by omega) (by omega) (hFb k).1 (hFb k).2
      have kI : (k : Int) < (n : Int) := by omega
      have k0 : (0 : Int) ≤ (k : Int) := by omega
      by_cases d : g k < 2 ^ M
      · rw [hM] at rs
        rw [setR_ok (by omega) (by omega) d, setE_ok (by omega) (by omega) d] at rs
        have hft' : fitTo F g (k + 1) := fitTo_succ hft (by rw [hM, Int.toNat_natCast]; exact d)
        have sS : start F (k + 1) = start F k + (F k).toNat := rfl
        have sP : packTo F g (k + 1) = setV (packTo F g k) (start F k) (F k).toNat (g k) := rfl
        rw [hM, Int.toNat_natCast] at sS sP
        rw [hM] at cF o1 o2
        rw [← sP] at rs
        have s2 := start_le (okTo_le ok ck)
        rw [sS] at s2
        generalize hP' : packTo F g (k + 1) = P' at *
        have hid := Lib.hid (And.intro hft' (And.intro sS (And.intro hbr hP')))
        clear hF hg hFb hgb ok al hft hft' hok sP sS hM pl d hbr s64 hP'
        generalize packTo F g k = P0 at *
        generalize start F k = S at *
        generalize g k = v at *
        go_wp2
        go_quiet (first | (go_at_call 12; refine Calls.quiet_of_same (rs _)))
        go_wp2
        go_roundw
        case rel => exact ⟨k + 1, by omega, by rw [hid.out.2.2.2], by rw [hid.out.2.1]; go_num, by go_num, hid.out.1, hid.out.2.2.1.then_drewN _⟩
        case measure => simp only [intOf]; omega
      · rw [hM] at rs
        rw [setR_big (by omega) (by omega) d, setE_big (by omega) (by omega) d] at rs
        have nf : ¬ fitTo F g n := fun h => by have := h k ck; rw [hM, Int.toNat_natCast] at this; exact d this
        obtain ⟨hP, hE⟩ := hid0.out
        unfold packR at hP
        unfold packE at hE
        rw [if_neg (fun h => nf h.2.2.2)] at hP
        rw [if_pos ⟨rfl, hn, ok⟩, if_neg nf] at hE
        subst hP; subst hE
        rw [hM] at cF
        clear hF hg hFb hgb ok al hft hok hM pl d nf s64
        generalize packTo F g k = P0 at *
        generalize start F k = S at *
        generalize g k = v at *
        go_wp2
        go_quiet (first | (go_at_call 12; refine Calls.quiet_of_same (rs _)))
        go_wp2
        go_ret2
        exact ⟨rfl, hbr.then_drewN _⟩
    · obtain rfl : k = n := by omega
      obtain ⟨hP, hE⟩ := hid0.out
      unfold packR at hP
      unfold packE at hE
      rw [if_pos ⟨rfl, hn, ok, hft⟩] at hP
      rw [if_pos ⟨rfl, hn, ok⟩, if_pos hft] at hE
      subst hE
      have hidP := Lib.hid hP
      clear hP hF hg hFb hgb al hft
      go_wp2
      go_ret2
      exact ⟨by rw [← hidP.out]; rfl, hbr⟩

/-- Pack of the document -/
theorem rpack_any (ws vs : Value) (n m : Nat) (F : Nat → Int) (g : Nat → Nat) (w : World) (hF : Nums w ws n F) (hg : Words w vs m g) (hFb : ∀ j, -9223372036854775808 ≤ F j ∧ F j ≤ 9223372036854775807) (hgb : ∀ j, g j < 18446744073709551616) :
    Calls Try.prog 15 #[ws, vs] w fun e w' => e = .returned (.tuple #[.int .u64 (packR F n g m : Nat), .int .i64 (packE F n g m)]) ∧ Bel w w' := by
  have al := fun w' h => all_any ws n F w' h hFb
  by_cases ok : 1 ≤ n ∧ okTo F n
  · rcases hF with ⟨h, _⟩ | ⟨b1, off1, cap1, rfl, hn, hc, hbig, hF⟩
    · omega
    · by_cases e : m = n
      · subst e
        rcases hg with ⟨h, _⟩ | ⟨b2, off2, cap2, rfl, _, hc2, _, hg⟩
        · omega
        · exact rpack_some b1 off1 cap1 b2 off2 cap2 m F g w hn hc hbig hc2 hF hg hFb hgb ok.2
      · have al2 := al w (Or.inr ⟨b1, off1, cap1, rfl, hn, hc, hbig, hF⟩)
        rw [allR_ok ok.1 ok.2] at al2
        obtain ⟨q, cap2, rfl⟩ := slice_cases hg
        have s64 := start_le ok.2
        unfold packR packE
        rw [if_neg (fun h => e h.1), if_neg (fun h => e h.1)]
        clear hF hg hFb hgb al
        generalize start F n = S at *
        have e' : ((m : Int) != (n : Int)) = true := by rw [bne_iff_ne]; omega
        go_enter Try.func15, Try.ntmps15
        go_wp2_with (go_at_call 28; refine al2.mono ?_; rintro e w' ⟨rfl, hw⟩; rw [hw])
        go_ret2
        exact ⟨rfl, Bel.refl _⟩
  · have al2 := al w hF
    rw [allR_no ok] at al2
    obtain ⟨p, cap1, rfl⟩ := slice_cases hF
    obtain ⟨q, cap2, rfl⟩ := slice_cases hg
    unfold packR packE
    rw [if_neg (fun h => ok ⟨h.2.1, h.2.2.1⟩), if_neg (fun h => ok h.2)]
    clear hF hg hFb hgb al
    go_enter Try.func15, Try.ntmps15
    go_wp2_with (go_at_call 28; refine al2.mono ?_; rintro e w' ⟨rfl, hw⟩; rw [hw])
    go_ret2
    exact ⟨rfl, Bel.refl _⟩

end Go.Proofs.Ytdenpmckekcokaa
