/- Check of the document. -/
import Derived.Test.YthokalcibjjihaaGreatDoorLow
namespace Go.Proofs.YthokalcibjjihaaGreatDoor
open Go.ChangeShapes Go.WideShapes Go.ChangeAt Go.RowKit

set_option maxHeartbeats 1000000 in
/-- Check of the document, of a row that is short enough -/
theorem rcheck_row (b off cap n : Nat) (F : Nat → Int) (w : World) (h1 : 1 ≤ n) (h8 : n ≤ 8) (hc : n ≤ cap) (hbig : cap ≤ 9223372036854775807) (hF : ∀ j, j < n → w.cell? ⟨b, off + j, none⟩ = some (.int .i64 (F j))) :
    Calls Tryz.prog 78 #[.slice (some ⟨b, off, none⟩) n cap] w fun e w' => e = .returned (.int .i64 (checkV n F)) ∧ Bel w w' := by
  obtain ⟨R, hR⟩ : ∃ R, checkV n F = R := ⟨_, rfl⟩
  rw [hR]
  have hidR := Lib.hid hR
  clear hR
  have n1 : decide ((n : Int) < 1) = false := decide_eq_false (by omega)
  have n8 : decide (8 < n) = false := decide_eq_false (by omega)
  go_enter Tryz.func78, Tryz.ntmps78
  go_wp2
  go_loopw [3] (fun i wr => ∃ k : Nat, k ≤ n ∧ i = .int .i64 (k : Nat) ∧ okTo F k ∧ Bel w wr) (fun i _ => n - (intOf i).toNat)
  case atStart => exact ⟨0, Nat.zero_le _, rfl, okTo_zero F, Bel.refl _⟩
  case round =>
    obtain ⟨k, hk, rfl, hok, hbr⟩ := hrel
    by_cases ck : k < n
    · have cF : wr.cell? ⟨b, off + k, none⟩ = some (.int .i64 (F k)) := cell_bel hbr (hF k ck)
      have kI : (k : Int) < (n : Int) := by omega
      have k0 : (0 : Int) ≤ (k : Int) := by omega
      by_cases c1 : bef F k < F k ∧ F k ≤ 64
      · have hn := okTo_succ hok c1.1 c1.2
        have two : decide (F k < 2) = false := decide_eq_false (by have := (hn k (by omega)).1; omega)
        have six : decide (64 < F k) = false := decide_eq_false (by omega)
        by_cases kz : k = 0
        · subst kz
          have cF0 : wr.cell? ⟨b, off, none⟩ = some (.int .i64 (F 0)) := cF
          have hid := Lib.hid (And.intro hn hbr)
          clear hn hok hF hbr c1 cF
          generalize F 0 = y at *
          go_wp2
          go_quiet (fail)
          go_wp2
          go_roundw
          case rel => exact ⟨1, by omega, by go_num, hid.out.1, hid.out.2.then_drewN _⟩
          case measure => simp only [intOf]; omega
        · obtain ⟨m, rfl⟩ : ∃ m, k = m + 1 := ⟨k - 1, by omega⟩
          have cG : wr.cell? ⟨b, off + m, none⟩ = some (.int .i64 (F m)) := cell_bel hbr (hF m (by omega))
          have c4 : decide (F (m + 1) ≤ F m) = false := decide_eq_false (by have : F m < F (m + 1) := c1.1; omega)
          obtain ⟨k, hkm⟩ : ∃ k, m + 1 = k := ⟨_, rfl⟩
          rw [hkm] at cF c4 two six hn hk ck kI k0 kz ⊢
          have e1 : (k : Int) - 1 = (m : Int) := by omega
          have m0 : (0 : Int) ≤ (m : Int) := by omega
          have mI : (m : Int) < (n : Int) := by omega
          have kp : (0 : Int) < (k : Int) := by omega
          have kn : decide (0 < k) = true := decide_eq_true (by omega)
          have hid := Lib.hid (And.intro hn hbr)
          clear hn hok hF hbr c1 hkm
          generalize F k = y at *
          generalize F m = z at *
          go_wp2
          go_quiet (fail)
          go_wp2
          go_roundw
          case rel => exact ⟨k + 1, by omega, by go_num, hid.out.1, hid.out.2.then_drewN _⟩
          case measure => simp only [intOf]; omega
      · have no := okTo_fail ck c1
        have hR := hidR.out
        rw [checkV_no fun h => no h.2.2] at hR
        subst hR
        by_cases d1 : F k < 2
        · clear no hok hF c1
          generalize F k = y at *
          go_wp2
          go_quiet (fail)
          go_wp2
          go_ret
          exact ⟨rfl, hbr.then_drewN _⟩
        · have two : decide (F k < 2) = false := decide_eq_false d1
          by_cases d2 : 64 < F k
          · clear no hok hF c1 d1
            generalize F k = y at *
            go_wp2
            go_quiet (fail)
            go_wp2
            go_ret
            exact ⟨rfl, hbr.then_drewN _⟩
          · have six : decide (64 < F k) = false := decide_eq_false d2
            by_cases kz : k = 0
            · subst kz
              exact absurd ⟨(by show (1 : Int) < F 0; omega), by omega⟩ c1
            · obtain ⟨m, rfl⟩ : ∃ m, k = m + 1 := ⟨k - 1, by omega⟩
              have cG : wr.cell? ⟨b, off + m, none⟩ = some (.int .i64 (F m)) := cell_bel hbr (hF m (by omega))
              have c4 : F (m + 1) ≤ F m := by
                by_cases x : F m < F (m + 1)
                · exact absurd ⟨x, by omega⟩ c1
                · omega
              obtain ⟨k, hkm⟩ : ∃ k, m + 1 = k := ⟨_, rfl⟩
              rw [hkm] at cF c4 two six hk ck kI k0 kz ⊢
              have e1 : (k : Int) - 1 = (m : Int) := by omega
              have m0 : (0 : Int) ≤ (m : Int) := by omega
              have mI : (m : Int) < (n : Int) := by omega
              have kp : (0 : Int) < (k : Int) := by omega
              have kn : decide (0 < k) = true := decide_eq_true (by omega)
              clear no hok hF c1 d1 d2 hkm
              generalize F k = y at *
              generalize F m = z at *
              go_wp2
              go_quiet (fail)
              go_wp2
              go_ret
              exact ⟨rfl, hbr.then_drewN _⟩
    · obtain rfl : k = n := by omega
      have hR := hidR.out
      rw [checkV_ok ⟨h1, h8, hok⟩] at hR
      subst hR
      clear hok hF
      go_wp2
      go_ret
      exact ⟨rfl, hbr⟩

/-- Check of the document -/
theorem rcheck_any (v : Value) (n : Nat) (F : Nat → Int) (w : World) (h : Nums w v n F) :
    Calls Tryz.prog 78 #[v] w fun e w' => e = .returned (.int .i64 (checkV n F)) ∧ Bel w w' := by
  by_cases c : 1 ≤ n ∧ n ≤ 8
  · rcases h with ⟨rfl, _⟩ | ⟨b, off, cap, rfl, h1, h2, h3, h4⟩
    · omega
    · exact rcheck_row b off cap n F w c.1 c.2 h2 h3 h4
  · rw [checkV_no fun h => c ⟨h.1, h.2.1⟩]
    obtain ⟨p, cap, rfl, hb⟩ := nums_slice h
    clear h
    by_cases c0 : n = 0
    · subst c0
      go_enter Tryz.func78, Tryz.ntmps78
      go_wp2
      go_ret
      exact ⟨rfl, Bel.refl _⟩
    · have n1 : decide ((n : Int) < 1) = false := decide_eq_false (by omega)
      have n8 : (8 : Int) < (n : Int) := by omega
      clear c c0
      go_enter Tryz.func78, Tryz.ntmps78
      go_wp2
      go_ret
      exact ⟨rfl, Bel.refl _⟩

end Go.Proofs.YthokalcibjjihaaGreatDoor
