/- The closure of Of, the library's search with it, Of of the program. -/
import Derived.Test.YtacncopgmleoeaaRck
namespace Go.Proofs.Ytacncopgmleoeaa
open Go.ChangeShapes Go.WideShapes Go.ChangeAt Go.RowKit

/-- the closure: is the number at this place not below the words? -/
theorem clos_any (ba bx b off cap n i : Nat) (y u : Int) (w : World) (hi : i < n)
    (ha : w.cell? ⟨ba, 0, none⟩ = some (.slice (some ⟨b, off, none⟩) n cap)) (hx : w.cell? ⟨bx, 0, none⟩ = some (.int .i64 u)) (hc : w.cell? ⟨b, off + i, none⟩ = some (.int .i64 y)) :
    Calls Try.prog 16 #[.int .i64 (i : Nat), .pointer (some ⟨ba, 0, none⟩), .pointer (some ⟨bx, 0, none⟩)] w fun e w' => e = .returned (.bool (decide (u ≤ y))) ∧ Bel w w' := by
  have hiz : (i : Int) < (n : Int) := by omega
  have h0 : (0 : Int) ≤ (i : Int) := by omega
  go_enter Try.func16, Try.ntmps16
  go_wp2
  go_quiet (fail)
  go_wp2
  go_ret
  exact ⟨rfl, Bel.drewN _ _⟩

set_option maxHeartbeats 1000000 in
/-- the search -/
theorem search_any (ba bx b off cap n : Nat) (u : Int) (F : Nat → Int) (w : World) (hn : n ≤ 8) (hok : okTo F n)
    (ha : w.cell? ⟨ba, 0, none⟩ = some (.slice (some ⟨b, off, none⟩) n cap)) (hx : w.cell? ⟨bx, 0, none⟩ = some (.int .i64 u)) (hF : ∀ j, j < n → w.cell? ⟨b, off + j, none⟩ = some (.int .i64 (F j))) :
    Calls Try.prog 15 #[.int .i64 (n : Nat), .func (.func 16) #[] #[.pointer (some ⟨ba, 0, none⟩), .pointer (some ⟨bx, 0, none⟩)]] w fun e w' => e = .returned (.int .i64 (cls F u n : Nat)) ∧ Bel w w' := by
  obtain ⟨R, hR⟩ : ∃ R, cls F u n = R := ⟨_, rfl⟩
  rw [hR]
  have hidR := Lib.hid (And.intro hR hok)
  clear hR hok
  go_enter Try.func15, Try.ntmps15
  go_wp2
  go_loopw [5, 6] (fun a c wr => ∃ lo hi : Nat, lo ≤ hi ∧ hi ≤ n ∧ a = .int .i64 (lo : Nat) ∧ c = .int .i64 (hi : Nat) ∧ (∀ i, i < lo → F i < u) ∧ (∀ i, hi ≤ i → i < n → u ≤ F i) ∧ Bel w wr) (fun a c _ => (intOf c - intOf a).toNat)
  case atStart => exact ⟨0, n, Nat.zero_le _, Nat.le_refl _, rfl, rfl, fun i hi => absurd hi (Nat.not_lt_zero _), fun i h1 h2 => by omega, Bel.refl _⟩
  case round =>
    obtain ⟨lo, hi, hlh, hin, rfl, rfl, hlow, hup, hbr⟩ := hrel
    by_cases cl : lo < hi
    · obtain ⟨m, hm⟩ : ∃ m, (lo + hi) / 2 = m := ⟨_, rfl⟩
      have m1 : lo ≤ m := by omega
      have m2 : m < hi := by omega
      have em : ((lo : Int) + (hi : Int)) / 2 = (m : Int) := by omega
      have cc := fun w1 (g : Bel w w1) => clos_any ba bx b off cap n m (F m) u w1 (by omega) (cell_bel g ha) (cell_bel g hx) (cell_bel g (hF m (by omega)))
      have cc1 := cc _ hbr
      clear hm cc
      by_cases d : u ≤ F m
      · rw [decide_eq_true d] at cc1
        have up2 : ∀ i, m ≤ i → i < n → u ≤ F i := fun i h1 h2 => Int.le_trans d (okTo_mono' hidR.out.2 h1 h2)
        have hid := Lib.hid (And.intro hlow up2)
        clear hlow hup d up2 hF ha hx
        go_wp2_with (go_at_call 16; refine cc1.mono ?_; rintro e w' ⟨rfl, hg⟩)
        go_roundw
        case rel => exact ⟨lo, m, m1, by omega, by go_num, by go_num, hid.out.1, hid.out.2, hbr.trans hg⟩
        case measure => simp only [intOf]; omega
      · rw [decide_eq_false d] at cc1
        have lo2 : ∀ i, i < m + 1 → F i < u := fun i h1 => by
          have := okTo_mono' hidR.out.2 (show i ≤ m by omega) (show m < n by omega)
          omega
        have hid := Lib.hid (And.intro lo2 hup)
        clear hlow hup d lo2 hF ha hx
        go_wp2_with (go_at_call 16; refine cc1.mono ?_; rintro e w' ⟨rfl, hg⟩)
        go_roundw
        case rel => exact ⟨m + 1, hi, by omega, hin, by go_num, by go_num, hid.out.1, hid.out.2, hbr.trans hg⟩
        case measure => simp only [intOf]; omega
    · obtain rfl : lo = hi := by omega
      have hR := hidR.out.1
      rw [cls_eq hin hlow (hup lo (Nat.le_refl _))] at hR
      subst hR
      clear hlow hup hF ha hx
      go_wp2
      go_ret
      exact ⟨rfl, hbr⟩

end Go.Proofs.Ytacncopgmleoeaa
