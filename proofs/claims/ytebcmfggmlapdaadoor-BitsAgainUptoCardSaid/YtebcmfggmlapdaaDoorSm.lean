/- The helpers of the laws: same, made. -/
import Derived.Test.YtebcmfggmlapdaaDoorRfc
namespace Go.Proofs.YtebcmfggmlapdaaDoor
open Go.ChangeShapes Go.WideShapes Go.ChangeAt Go.RowKit

set_option maxRecDepth 100000 in
set_option maxHeartbeats 4000000 in
/-- a row has the document's bits -/
theorem same_true {b g ca n : Nat} {f : Nat → Bool} {q : Value} (w : World) (h : RowIs w b g ca n f) (hq : Bools w q n f) :
    Calls Tryd.prog 19 #[.pointer (some ⟨b, 0, none⟩), q] w fun e w' => e = .returned (.bool true) ∧ Bel w w' := by
  have hn := h.1
  have ln := fun w' (k : Bel w w') => len_any w' (h.bel k).hdr
  have co := fun w' (k : Bel w w') => count_any w' (h.bel k)
  have rco := fun w' (k : Bel w w') => rcount_any w' (hq.bel k) (by omega)
  have wo := fun w' (k : Bel w w') => words_any w' (h.bel k)
  have rwo := fun w' (k : Bel w w') => rwords_any w' (hq.bel k) h.2.1 (by omega)
  have sa := fun a b' w' (h1 : Words w' a (nw n) (W f)) (h2 : Words w' b' (nw n) (W f)) => same_any a b' _ _ _ _ w' h1 h2
  simp only [sameB_refl] at sa
  have ge := fun (i : Int) w' (k : Bel w w') => get_any i w' (h.bel k)
  have rge := fun (i : Int) w' (k : Bel w w') => rget_any i w' (hq.bel k)
  obtain ⟨p, cap, rfl⟩ := hq.slice
  have own := fun (w' w2 : World) v (h1 : OwnWords w' v w.heap.size (nw n) (W f)) (k : Bel w' w2) => h1.words.bel k
  clear h hq
  have r0 := Lib.hid (Bel.refl w)
  generalize nw n = N at *
  generalize W f = F at *
  generalize cnt f n = C at *
  generalize OwnWords = O at *
  generalize Words = WW at *
  go_enter Tryd.func19, Tryd.ntmps19
  go_wp2_with (first
    | (go_at_call 12; refine (ln _ r0.out).mono ?_; rintro e w' ⟨rfl, hw⟩; rw [hw]; clear hw)
    | (go_at_call 24; refine (co _ r0.out).mono ?_; rintro e w' ⟨rfl, hw⟩; rw [hw]; clear hw)
    | (go_at_call 34; refine (rco _ r0.out).mono ?_; rintro e w' ⟨rfl, hw⟩; rw [hw]; clear hw)
    | (go_at_call 26; refine (wo _ r0.out).mono ?_; rintro e w1 ⟨v1, rfl, o1, _, k1⟩)
    | (go_at_call 35; refine (rwo _ k1).mono ?_; rintro e w2 ⟨v2, rfl, o2, k2⟩)
    | (go_at_call 27; refine (sa _ _ _ (own _ _ _ o1 k2) o2).mono ?_; rintro e w3 ⟨rfl, k3⟩))
  have kk := Lib.hid ((k1.trans k2).trans k3)
  clear o1 o2 k1 k2 k3 own sa wo rwo co rco ln
  go_loopw [5] (fun i wr => ∃ k : Nat, k ≤ n + 2 ∧ i = .int .i64 ((k : Int) - 1) ∧ wr = w3) (fun i _ => ((n : Int) + 2 - intOf i).toNat)
  case atStart => exact ⟨0, by omega, rfl, rfl⟩
  case round =>
    obtain ⟨k, hk, rfl, rfl⟩ := hrel
    by_cases ck : k < n + 2
    · have d : decide ((k : Int) - 1 ≤ (n : Int)) = true := decide_eq_true (by omega)
      have g1 := ge ((k : Int) - 1) _ kk.out
      have g2 := rge ((k : Int) - 1) _ kk.out
      generalize getB n f ((k : Int) - 1) = T at *
      clear ge rge
      go_wp2_with (first
        | (go_at_call 23; refine g1.mono ?_; rintro e w' ⟨rfl, hw⟩; rw [hw]; clear hw)
        | (go_at_call 36; refine g2.mono ?_; rintro e w' ⟨rfl, hw⟩; rw [hw]; clear hw))
      go_roundw
      case rel => exact ⟨k + 1, by omega, by go_num, by trivial⟩
      case measure => simp only [intOf]; omega
    · have d : decide ((k : Int) - 1 ≤ (n : Int)) = false := decide_eq_false (by omega)
      clear ge rge
      go_wp2
      go_ret
      exact ⟨rfl, kk.out⟩

end Go.Proofs.YtebcmfggmlapdaaDoor
