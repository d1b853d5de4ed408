/- Of of the document; Round and Waste of the program and of the document. -/
import Derived.Test.YtacncopgmleoeaaOf
namespace Go.Proofs.Ytacncopgmleoeaa
open Go.ChangeShapes Go.WideShapes Go.ChangeAt Go.RowKit

set_option maxHeartbeats 1000000 in
/-- Of of the document, of valid classes -/
theorem rof_row (b off cap n : Nat) (F : Nat → Int) (u : Int) (w : World) (ok : Valid n F) (hc : n ≤ cap) (hbig : cap ≤ 9223372036854775807) (hF : ∀ j, j < n → w.cell? ⟨b, off + j, none⟩ = some (.int .i64 (F j))) :
    Calls Try.prog 8 #[.slice (some ⟨b, off, none⟩) n cap, .int .i64 u] w fun e w' => e = .returned (.tuple #[.int .i64 (ofN n F u : Nat), .int .i64 (ofE n F u)]) ∧ Bel w w' := by
  have n8 := ok.2.1
  have ch := rcheck_any (.slice (some ⟨b, off, none⟩) n cap) n F w (Or.inr ⟨b, off, cap, rfl, ok.1, hc, hbig, hF⟩)
  rw [checkV_ok ok] at ch
  obtain ⟨R, hR⟩ : ∃ R, ofN n F u = R := ⟨_, rfl⟩
  obtain ⟨E, hE⟩ : ∃ E, ofE n F u = E := ⟨_, rfl⟩
  rw [hR, hE]
  have hidR := Lib.hid (And.intro hR (And.intro hE ok))
  clear hR hE ok
  by_cases d : 0 < u
  · go_enter Try.func8, Try.ntmps8
    go_wp2_with (go_at_call 14; refine ch.mono ?_; rintro e w' ⟨rfl, hg⟩)
    go_loopw [6] (fun i wr => ∃ k : Nat, k ≤ n ∧ i = .int .i64 (k : Nat) ∧ (∀ j, j < k → F j < u) ∧ Bel w wr) (fun i _ => n - (intOf i).toNat)
    case atStart => exact ⟨0, Nat.zero_le _, rfl, fun j hj => absurd hj (Nat.not_lt_zero _), hg⟩
    case round =>
      obtain ⟨k, hk, rfl, hall, hbr⟩ := hrel
      by_cases ck : k < n
      · have cF : wr.cell? ⟨b, off + k, none⟩ = some (.int .i64 (F k)) := cell_bel hbr (hF k ck)
        have kI : (k : Int) < (n : Int) := by omega
        have k0 : (0 : Int) ≤ (k : Int) := by omega
        by_cases c : u ≤ F k
        · have e : cls F u n = k := cls_eq hk hall fun _ => c
          obtain ⟨hR, hE, ok⟩ := hidR.out
          obtain ⟨e1, e2, _, _⟩ := of_fits (n := n) (F := F) (u := u) ⟨ok, by omega, by omega⟩
          rw [e2, e] at hR
          rw [e1] at hE
          subst hR; subst hE
          clear e e1 e2 ok hall hF
          generalize F k = y at *
          go_wp2
          go_ret2
          exact ⟨rfl, hbr⟩
        · have ha2 : ∀ j, j < k + 1 → F j < u := fun j hj => by
            by_cases x : j < k
            · exact hall j x
            · obtain rfl : j = k := by omega
              omega
          have hid := Lib.hid ha2
          clear hall ha2 hF
          generalize F k = y at *
          go_wp2
          go_roundw
          case rel => exact ⟨k + 1, by omega, by go_num, hid.out, hbr⟩
          case measure => simp only [intOf]; omega
      · obtain rfl : k = n := by omega
        have e : cls F u k = k := cls_eq hk hall fun x => absurd x (Nat.lt_irrefl _)
        obtain ⟨hR, hE, ok⟩ := hidR.out
        obtain ⟨e1, e2, _, _⟩ := of_none (n := k) (F := F) (u := u) ok fun x => by have := x.2.2; omega
        rw [e2] at hR
        rw [e1] at hE
        subst hR; subst hE
        clear e e1 e2 ok hall hF
        go_wp2
        go_ret2
        exact ⟨rfl, hbr⟩
  · obtain ⟨hR, hE, ok⟩ := hidR.out
    obtain ⟨e1, e2, _, _⟩ := of_none (n := n) (F := F) (u := u) ok fun x => by have := x.2.1; omega
    have n1 := ok.1
    rw [e2] at hR
    rw [e1] at hE
    subst hR; subst hE
    have du : decide (0 < u) = false := decide_eq_false d
    clear e1 e2 ok hF d hidR
    go_enter Try.func8, Try.ntmps8
    go_wp2_with (go_at_call 14; refine ch.mono ?_; rintro e w' ⟨rfl, hg⟩)
    go_loopw [6] (fun i wr => i = .int .i64 0 ∧ Bel w wr) (fun _ _ => 0)
    case atStart => exact ⟨rfl, hg⟩
    case round =>
      obtain ⟨rfl, hbr⟩ := hrel
      have nI : (0 : Int) < (n : Int) := by omega
      go_wp2
      go_ret2
      exact ⟨rfl, hbr⟩

/-- Of of the document -/
theorem rof_any (v : Value) (n : Nat) (F : Nat → Int) (u : Int) (w : World) (h : Nums w v n F) :
    Calls Try.prog 8 #[v, .int .i64 u] w fun e w' => e = .returned (.tuple #[.int .i64 (ofN n F u : Nat), .int .i64 (ofE n F u)]) ∧ Bel w w' := by
  by_cases ok : Valid n F
  · rcases h with ⟨rfl, _⟩ | ⟨b, off, cap, rfl, h1, h2, h3, h4⟩
    · exact absurd ok.1 (by omega)
    · exact rof_row b off cap n F u w ok h2 h3 h4
  · obtain ⟨e1, e2, _, _⟩ := of_bad (u := u) ok
    rw [e1, e2]
    have ch := rcheck_any v n F w h
    rw [checkV_no ok] at ch
    clear h ok e1 e2
    go_enter Try.func8, Try.ntmps8
    go_wp2_with (go_at_call 14; refine ch.mono ?_; rintro e w' ⟨rfl, hw⟩)
    go_ret2
    exact ⟨rfl, hw⟩

/-- Round of the program -/
theorem round_any (v : Value) (n : Nat) (F : Nat → Int) (u : Int) (w : World) (h : Nums w v n F) :
    Calls Try.prog 9 #[v, .int .i64 u] w fun e w' => e = .returned (.tuple #[.int .i64 (roundV n F u), .int .i64 (ofE n F u)]) ∧ Bel w w' := by
  have oc := of_any v n F u w h
  by_cases f : fits n F u
  · obtain ⟨e1, e2, e3, _⟩ := of_fits f
    rw [e1, e2] at oc
    rw [e1, e3]
    obtain ⟨ok, f1, f2⟩ := f
    rcases h with ⟨rfl, _⟩ | ⟨b, off, cap, rfl, h1, h2, h3, h4⟩
    · exact absurd ok.1 (by omega)
    · have cF := h4 _ f2
      have kI : (cls F u n : Int) < (n : Int) := by omega
      have k0 : (0 : Int) ≤ (cls F u n : Int) := by omega
      clear h4 e1 e2 e3 ok f1 f2
      generalize F (cls F u n) = y at *
      generalize cls F u n = k at *
      go_enter Try.func9, Try.ntmps9
      go_wp2_with (go_at_call 7; refine oc.mono ?_; rintro e w' ⟨rfl, hw⟩; have cF1 := cell_bel hw cF)
      go_ret2
      exact ⟨rfl, hw⟩
  · have e3 : roundV n F u = 0 := if_neg f
    have e4 : ¬ (ofE n F u = 0) := fun x => f (fits_of x)
    have e5 : (ofE n F u != 0) = true := by rw [bne_iff_ne]; exact e4
    rw [e3]
    clear h f e3
    generalize ofE n F u = E at *
    generalize ofN n F u = N at *
    go_enter Try.func9, Try.ntmps9
    go_wp2_with (go_at_call 7; refine oc.mono ?_; rintro e w' ⟨rfl, hw⟩)
    go_ret2
    exact ⟨rfl, hw⟩

/-- Round of the document -/
theorem rround_any (v : Value) (n : Nat) (F : Nat → Int) (u : Int) (w : World) (h : Nums w v n F) :
    Calls Try.prog 10 #[v, .int .i64 u] w fun e w' => e = .returned (.tuple #[.int .i64 (roundV n F u), .int .i64 (ofE n F u)]) ∧ Bel w w' := by
  have oc := rof_any v n F u w h
  by_cases f : fits n F u
  · obtain ⟨e1, e2, e3, _⟩ := of_fits f
    rw [e1, e2] at oc
    rw [e1, e3]
    obtain ⟨ok, f1, f2⟩ := f
    rcases h with ⟨rfl, _⟩ | ⟨b, off, cap, rfl, h1, h2, h3, h4⟩
    · exact absurd ok.1 (by omega)
    · have cF := h4 _ f2
      have kI : (cls F u n : Int) < (n : Int) := by omega
      have k0 : (0 : Int) ≤ (cls F u n : Int) := by omega
      clear h4 e1 e2 e3 ok f1 f2
      generalize F (cls F u n) = y at *
      generalize cls F u n = k at *
      go_enter Try.func10, Try.ntmps10
      go_wp2_with (go_at_call 8; refine oc.mono ?_; rintro e w' ⟨rfl, hw⟩; have cF1 := cell_bel hw cF)
      go_ret2
      exact ⟨rfl, hw⟩
  · have e3 : roundV n F u = 0 := if_neg f
    have e4 : ¬ (ofE n F u = 0) := fun x => f (fits_of x)
    have e5 : (ofE n F u != 0) = true := by rw [bne_iff_ne]; exact e4
    rw [e3]
    clear h f e3
    generalize ofE n F u = E at *
    generalize ofN n F u = N at *
    go_enter Try.func10, Try.ntmps10
    go_wp2_with (go_at_call 8; refine oc.mono ?_; rintro e w' ⟨rfl, hw⟩)
    go_ret2
    exact ⟨rfl, hw⟩

/-- Waste of the program -/
theorem waste_any (v : Value) (n : Nat) (F : Nat → Int) (u : Int) (w : World) (h : Nums w v n F) :
    Calls Try.prog 11 #[v, .int .i64 u] w fun e w' => e = .returned (.tuple #[.int .i64 (wasteV n F u), .int .i64 (ofE n F u)]) ∧ Bel w w' := by
  have oc := round_any v n F u w h
  by_cases f : fits n F u
  · obtain ⟨e1, _, e3, e4⟩ := of_fits f
    rw [e1, e3] at oc
    rw [e1, e4]
    have b1 := f.1.2.2 _ f.2.2
    have b0 := f.2.1
    have b2 := (cls_spec F u n).2.2 f.2.2
    clear e1 e3 e4 f h
    generalize F (cls F u n) = y at *
    have y1 : y ≤ 64 := b1.2.1
    clear b1
    go_enter Try.func11, Try.ntmps11
    go_wp2_with (go_at_call 9; refine oc.mono ?_; rintro e w' ⟨rfl, hw⟩)
    go_ret2
    exact ⟨rfl, hw⟩
  · have e3 : wasteV n F u = 0 := if_neg f
    have e4 : ¬ (ofE n F u = 0) := fun x => f (fits_of x)
    have e5 : (ofE n F u != 0) = true := by rw [bne_iff_ne]; exact e4
    rw [e3]
    clear h f e3
    generalize ofE n F u = E at *
    generalize roundV n F u = N at *
    go_enter Try.func11, Try.ntmps11
    go_wp2_with (go_at_call 9; refine oc.mono ?_; rintro e w' ⟨rfl, hw⟩)
    go_ret2
    exact ⟨rfl, hw⟩

/-- Waste of the document -/
theorem rwaste_any (v : Value) (n : Nat) (F : Nat → Int) (u : Int) (w : World) (h : Nums w v n F) :
    Calls Try.prog 12 #[v, .int .i64 u] w fun e w' => e = .returned (.tuple #[.int .i64 (wasteV n F u), .int .i64 (ofE n F u)]) ∧ Bel w w' := by
  have oc := rround_any v n F u w h
  by_cases f : fits n F u
  · obtain ⟨e1, _, e3, e4⟩ := of_fits f
    rw [e1, e3] at oc
    rw [e1, e4]
    have b1 := f.1.2.2 _ f.2.2
    have b0 := f.2.1
    have b2 := (cls_spec F u n).2.2 f.2.2
    clear e1 e3 e4 f h
    generalize F (cls F u n) = y at *
    have y1 : y ≤ 64 := b1.2.1
    clear b1
    go_enter Try.func12, Try.ntmps12
    go_wp2_with (go_at_call 10; refine oc.mono ?_; rintro e w' ⟨rfl, hw⟩)
    go_ret2
    exact ⟨rfl, hw⟩
  · have e3 : wasteV n F u = 0 := if_neg f
    have e4 : ¬ (ofE n F u = 0) := fun x => f (fits_of x)
    have e5 : (ofE n F u != 0) = true := by rw [bne_iff_ne]; exact e4
    rw [e3]
    clear h f e3
    generalize ofE n F u = E at *
    generalize roundV n F u = N at *
    go_enter Try.func12, Try.ntmps12
    go_wp2_with (go_at_call 10; refine oc.mono ?_; rintro e w' ⟨rfl, hw⟩)
    go_ret2
    exact ⟨rfl, hw⟩

end Go.Proofs.Ytacncopgmleoeaa
