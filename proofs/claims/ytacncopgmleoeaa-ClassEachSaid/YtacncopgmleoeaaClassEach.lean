/- Each class takes itself, one word more is the next one's or none's, and one word is the first one's; for every input, no condition. -/
import Derived.Lib.MinMax
import Derived.Test.YtacncopgmleoeaaRowk
import Derived.Test.YtacncopgmleoeaaOpen
namespace Go.Proofs.Ytacncopgmleoeaa.classEach
open Go.ChangeShapes Go.WideShapes Go.ChangeAt Go.RowKit
set_option linter.unusedVariables false

/-! The walk. -/
theorem cls_self {F : Nat → Int} {n k : Nat} (h : okTo F n) (hk : k < n) : cls F (F k) n = k :=
  cls_eq (by omega) (fun i hi => okTo_mono h i hi hk) fun _ => Int.le_refl _
theorem of_self {F : Nat → Int} {n k : Nat} (h : Valid n F) (hk : k < n) : ofN n F (F k) = k ∧ ofE n F (F k) = 0 := by
  have f : fits n F (F k) := ⟨h, by have := (h.2.2 k hk).1; omega, by rw [cls_self h.2.2 hk]; exact hk⟩
  obtain ⟨a, b, _, _⟩ := of_fits f
  exact ⟨by rw [b, cls_self h.2.2 hk], a⟩
theorem cls_over {F : Nat → Int} {n k : Nat} (h : okTo F n) (hk : k < n) : cls F (F k + 1) n = k + 1 :=
  cls_eq (by omega) (fun i hi => by have := okTo_mono' h (show i ≤ k by omega) hk; omega) fun hh => by have := okTo_mono h k (show k < k + 1 by omega) hh; omega
theorem of_next {F : Nat → Int} {n k : Nat} (h : Valid n F) (hk : k + 1 < n) : ofN n F (F k + 1) = k + 1 ∧ ofE n F (F k + 1) = 0 := by
  have e := cls_over h.2.2 (show k < n by omega)
  have f : fits n F (F k + 1) := ⟨h, by have := (h.2.2 k (by omega)).1; omega, by rw [e]; exact hk⟩
  obtain ⟨a, b, _, _⟩ := of_fits f
  exact ⟨by rw [b, e], a⟩
theorem of_over {F : Nat → Int} {n k : Nat} (h : Valid n F) (hk : k + 1 = n) : ofE n F (F k + 1) = 50 :=
  (of_none h fun f => by have := f.2.2; rw [cls_over h.2.2 (show k < n by omega)] at this; omega).1
theorem of_one {F : Nat → Int} {n : Nat} (h : Valid n F) : ofN n F 1 = 0 ∧ ofE n F 1 = 0 := by
  have n1 := h.1
  have e : cls F 1 n = 0 := cls_eq (Nat.zero_le _) (fun i hi => absurd hi (Nat.not_lt_zero _)) fun _ => by have := (h.2.2 0 (by omega)).1; omega
  obtain ⟨a, b, _, _⟩ := of_fits (n := n) (F := F) (u := 1) ⟨h, Int.le_refl _, by rw [e]; exact n1⟩
  exact ⟨by rw [b, e], a⟩

set_option maxRecDepth 100000 in
set_option maxHeartbeats 2000000 in
theorem walk_valid (b off cap n : Nat) (F : Nat → Int) (w : World) (ok : Valid n F) (h2 : n ≤ cap) (h3 : cap ≤ 9223372036854775807) (h4 : ∀ j, j < n → w.cell? ⟨b, off + j, none⟩ = some (.int .i64 (F j))) :
    Calls Try.prog 5 #[.slice (some ⟨b, off, none⟩) n cap] w fun e w' => e = .returned (.bool true) ∧ Bel w w' := by
  have hN : Nums w (.slice (some ⟨b, off, none⟩) n cap) n F := Or.inr ⟨b, off, cap, rfl, ok.1, h2, h3, h4⟩
  have n8 := ok.2.1
  have g0 := Bel.refl w
  have aw := fun w1 (g : Bel w w1) => (awake_any w1).mono fun e w' ⟨a, b⟩ => (⟨a, g.trans b⟩ : _ ∧ Bel w w')
  have o0 := fun w1 (g : Bel w w1) => (check_any _ n F w1 (hN.bel g)).mono fun e w' ⟨a, b⟩ => (⟨a, g.trans (Bel.of_eq b)⟩ : _ ∧ Bel w w')
  rw [checkV_ok ok] at o0
  have o3 := fun w1 (g : Bel w w1) => (of_any _ n F 1 w1 (hN.bel g)).mono fun e w' ⟨a, b⟩ => (⟨a, g.trans b⟩ : _ ∧ Bel w w')
  rw [(of_one ok).1, (of_one ok).2] at o3
  have c1 : decide (50 < n) = false := decide_eq_false (by omega)
  have c2 : decide ((50 : Int) < (n : Int)) = false := decide_eq_false (by omega)
  have hidN := Lib.hid (And.intro hN (And.intro ok h4))
  clear hN ok h4
  go_enter Try.func5, Try.ntmps5
  go_wp2_with (go_at_call 13; refine (o0 _ (by assumption)).mono ?_; rintro e w' ⟨rfl, hg0⟩)
  go_loopw [3] (fun i wr => ∃ k : Nat, k ≤ n ∧ i = .int .i64 (k : Nat) ∧ Bel w wr) (fun i _ => n - (intOf i).toNat)
  case atStart => exact ⟨0, Nat.zero_le _, rfl, hg0⟩
  case round =>
    obtain ⟨k, hk, rfl, hbr⟩ := hrel
    by_cases ck : k < n
    · obtain ⟨hN, ok, h4⟩ := hidN.out
      have cF0 := h4 k ck
      have cF := cell_bel hbr cF0
      have kI : (k : Int) < (n : Int) := by omega
      have k0 : (0 : Int) ≤ (k : Int) := by omega
      have o1 := fun w1 (g : Bel w w1) => (of_any _ n F (F k) w1 (hN.bel g)).mono fun e w' ⟨a, b⟩ => (⟨a, g.trans b⟩ : _ ∧ Bel w w')
      have o2 := fun w1 (g : Bel w w1) => (of_any _ n F (F k + 1) w1 (hN.bel g)).mono fun e w' ⟨a, b⟩ => (⟨a, g.trans b⟩ : _ ∧ Bel w w')
      rw [(of_self ok ck).1, (of_self ok ck).2] at o1
      obtain ⟨y2, y64, _⟩ := ok.2.2 k ck
      by_cases cn : k + 1 < n
      · rw [(of_next ok cn).1, (of_next ok cn).2, show (((k + 1 : Nat)) : Int) = (k : Int) + 1 from by omega] at o2
        have t1 : decide (k + 1 < n) = true := decide_eq_true cn
        have t2 : decide ((k : Int) + 1 < (n : Int)) = true := decide_eq_true (by omega)
        have t3 : (k : Int) + 1 < (n : Int) := by omega
        clear hN ok h4
        generalize F k = y at *
        go_wp2_with (first
          | (go_at_call 7; ((with_reducible refine (o1 _ (by assumption)).mono ?_); rintro e w' ⟨rfl, hg1⟩; have cF1 := cell_bel hg1 cF0))
          | (go_at_call 7; ((with_reducible refine (o2 _ (by assumption)).mono ?_); rintro e w' ⟨rfl, hg2⟩)))
        go_roundw
        case rel => exact ⟨k + 1, by omega, by go_num, hg2⟩
        case measure => simp only [intOf]; omega
      · rw [of_over ok (by omega)] at o2
        have t1 : decide (k + 1 < n) = false := decide_eq_false cn
        have t2 : decide ((k : Int) + 1 < (n : Int)) = false := decide_eq_false (by omega)
        clear hN ok h4
        generalize ofN n F (F k + 1) = Z at *
        generalize F k = y at *
        go_wp2_with (first
          | (go_at_call 7; ((with_reducible refine (o1 _ (by assumption)).mono ?_); rintro e w' ⟨rfl, hg1⟩; have cF1 := cell_bel hg1 cF0))
          | (go_at_call 7; ((with_reducible refine (o2 _ (by assumption)).mono ?_); rintro e w' ⟨rfl, hg2⟩)))
        go_roundw
        case rel => exact ⟨k + 1, by omega, by go_num, hg2⟩
        case measure => simp only [intOf]; omega
    · obtain rfl : k = n := by omega
      go_wp2_with (first
        | (go_at_call 7; ((with_reducible refine (o3 _ (by assumption)).mono ?_); rintro e w' ⟨rfl, hg3⟩))
        | (go_at_call 6; refine (aw _ (by assumption)).mono ?_; rintro e w' ⟨rfl, hg9⟩))
      go_ret
      exact ⟨rfl, hg9⟩

set_option maxRecDepth 100000 in
set_option maxHeartbeats 2000000 in
theorem walk (v : Value) (n : Nat) (F : Nat → Int) (w : World) (hN : Nums w v n F) :
    Calls Try.prog 5 #[v] w fun e w' => e = .returned (.bool true) ∧ Below w.heap.size w w' := by
  by_cases ok : Valid n F
  · rcases hN with ⟨rfl, _⟩ | ⟨b, off, cap, rfl, h1, h2, h3, h4⟩
    · exact absurd ok.1 (by omega)
    · exact walk_valid b off cap n F w ok h2 h3 h4
  · have aw := fun w1 (g : Bel w w1) => (awake_any w1).mono fun e w' ⟨a, b⟩ => (⟨a, g.trans b⟩ : _ ∧ Bel w w')
    have o0 := fun w1 (g : Bel w w1) => (check_any _ n F w1 (hN.bel g)).mono fun e w' ⟨a, b⟩ => (⟨a, g.trans (Bel.of_eq b)⟩ : _ ∧ Bel w w')
    rw [checkV_no ok] at o0
    obtain ⟨p, cap, rfl, hb⟩ := nums_slice hN
    have g0 := Bel.refl w
    clear hN ok
    by_cases c0 : 50 < n
    · have cI : (50 : Int) < (n : Int) := by omega
      go_enter Try.func5, Try.ntmps5
      go_wp2_with (go_at_call 6; refine (aw _ (by assumption)).mono ?_; rintro e w' ⟨rfl, hg⟩)
      go_ret
      exact ⟨rfl, hg⟩
    · have c1 : decide (50 < n) = false := decide_eq_false c0
      have c2 : decide ((50 : Int) < (n : Int)) = false := decide_eq_false (by omega)
      clear c0
      go_enter Try.func5, Try.ntmps5
      go_wp2_with (first
        | (go_at_call 13; refine (o0 _ (by assumption)).mono ?_; rintro e w' ⟨rfl, hg0⟩)
        | (go_at_call 6; refine (aw _ (by assumption)).mono ?_; rintro e w' ⟨rfl, hg⟩))
      go_ret
      exact ⟨rfl, hg⟩

/-! The row. -/
set_option maxRecDepth 100000 in
theorem lifted (os : Os) (started : os.Started) (H : Type) (enc : TypeId × Value → H) :
    ReturnsInHanded {} Try.checked os 5 .any (Rows.classEachSpec.pre6 enc Try.prog Try.f5 Rows.classEachRow.domain false) (Rows.classEachSpec.post enc Try.prog Try.f5 false true false false) := by
  refine lift_law (C := Try.checked) own started (by kernel_rfl) Try.func5 laid rowed full (by rw [Try.params5]; decide) rfl (by kernel_rfl) Try.underlying4
    (fun ds h => by rw [Try.params5] at h; match ds, h with | [_], _ => rfl)
    (ChangeSpec.witness6 (enc := enc) (C := Try.checked) false ⟨#[], #[.slice none 0 0], []⟩ 8 (by kernel_rfl) (by kernel_rfl) (by kernel_rfl) (by kernel_rfl)) ?_
  intro W base args ds p hval hA
  change ∀ (j : Nat) t v, Try.f5.params[j]? = some t → args[j]? = some v → Value.okWide Try.prog W .any base t v at hval
  change DataW.TrodAll enc Try.prog W 0 (fun _ => true) true Try.f5.params.toList args.toList ds p at hA
  rw [Try.params5] at hA hval
  obtain ⟨v0, vs0, d0, ds0, p0, q0, hargs, rfl, rfl, h0, r0⟩ := trodAll_cons hA
  obtain ⟨rfl, rfl, rfl⟩ := trodAll_nil r0
  obtain rfl : args = #[v0] := by cases args; simp_all
  obtain ⟨n, F, hN, hF, _⟩ := get_nums Try.underlying22 Try.underlying3 cells3 (hval 0 22 v0 rfl rfl) h0
  exact walk v0 n F W hN

theorem over : Rows.classEachRow.holds Try.pinned (OpenSpec.ofChange Rows.classEachSpec) :=
  OpenClaim.holds_of_wide 5 Try.f5 rfl rfl rfl rfl rfl rfl rfl ⟨rfl, rfl, rfl, rfl, rfl⟩ rfl rfl rfl rfl rfl (by kernel_rfl) Try.func5 (by kernel_rfl)
    (of_decide_eq_true (by kernel_rfl)) (by unfold Func.isWrapper; first | (rw [if_pos (by decide +kernel)]; kernel_rfl) | (rw [if_neg (by decide +kernel)]; exact ⟨rfl, rfl⟩))
    (fun os started H enc _ => lifted os started H enc)

/-- The statement. -/
theorem proved : Rows.ClassEachSaid :=
  over
#print axioms proved
end Go.Proofs.Ytacncopgmleoeaa.classEach
