/- The helper of the laws that makes a row: made. -/
import Derived.Test.YtebcmfggmlapdaaDoorSm
namespace Go.Proofs.YtebcmfggmlapdaaDoor
open Go.ChangeShapes Go.WideShapes Go.ChangeAt Go.RowKit

/-- a slice of small numbers -/
def U16s (w : World) (v : Value) (n : Nat) (x : Nat → Nat) : Prop := Row w v n fun j => .int .u16 (x j : Nat)

/-- the bits that made makes -/
def mk (n : Nat) (x : Nat → Nat) : Nat → Nat → Bool
  | 0 => fun _ => false
  | k + 1 => setF n (mk n x k) ((x k % 301 : Nat) : Int) true

theorem mk_fits (n : Nat) (x : Nat → Nat) : ∀ k, Fits n (mk n x k)
  | 0 => fits_none n
  | k + 1 => fits_set (mk_fits n x k) _ _

/-- what made makes -/
def MadeAt (m : Nat) (c : Nat) (x : Nat → Nat) (w : World) (e : Ending) (w' : World) : Prop :=
  ∃ b g ca q, e = .returned (.tuple #[.pointer (some ⟨b, 0, none⟩), q]) ∧ RowIs w' b g ca (m % 301) (mk (m % 301) x (min c 300)) ∧ Bools w' q (m % 301) (mk (m % 301) x (min c 300)) ∧ w.heap.size ≤ g ∧ w.heap.size ≤ b ∧ Bel w w'

set_option maxRecDepth 100000 in
set_option maxHeartbeats 4000000 in
theorem made_any (m : Nat) (v : Value) (c : Nat) (x : Nat → Nat) (w : World) (hm : m < 65536) (hx : ∀ j, x j < 65536) (h : U16s w v c x) :
    Calls Tryd.prog 20 #[.int .u16 (m : Nat), v] w (MadeAt m c x w) := by
  unfold MadeAt
  obtain ⟨N, hN⟩ : ∃ N, m % 301 = N := ⟨_, rfl⟩
  have hN3 : N < 301 := by omega
  have q1 : (m : Int) % 301 = (N : Int) := by omega
  have q2 : Int.tmod (m : Int) 301 = (N : Int) := by rw [Int.tmod_eq_emod_of_nonneg (by omega)]; omega
  have nw0 := new_ok N (by omega) w
  have rn := fun w => rnew_any N (by omega) w
  rw [hN]
  obtain ⟨p, cap, rfl⟩ := h.slice
  unfold NewRow at nw0
  clear hN hm
  go_enter Tryd.func20, Tryd.ntmps20
  go_wp2_with (first
    | (go_at_call 10; refine nw0.mono ?_; rintro e w1 ⟨b, g, ca, rfl, r1, hg, hb, k1⟩)
    | (go_at_call 13; refine (rn _).mono ?_; rintro e w2 ⟨q, rfl, b2, k2⟩))
  have R0 := r1.bel k2
  have kk := k1.trans k2
  clear nw0 rn r1 k1 k2
  go_loopw [9, 10] (fun a i wr => ∃ k : Nat, k ≤ min c 300 ∧ i = .int .i64 (k : Nat) ∧ RowIs wr b g ca N (mk N x k) ∧ Bools wr a N (mk N x k) ∧ Bel w wr) (fun _ i _ => 300 - (intOf i).toNat)
  case atStart => exact ⟨0, Nat.zero_le _, rfl, R0, b2, kk⟩
  case round =>
    obtain ⟨k, hk, rfl, hr, hq, hbr⟩ := hrel
    by_cases ck : k < min c 300
    · rcases h with ⟨e, _⟩ | ⟨vb, off, _, e, _, _, hbig, hc⟩
      · omega
      cases e
      have c0 : ∀ wr, Bel w wr → wr.cell? ⟨vb, off + k, none⟩ = some (.int .u16 (x k : Nat)) := fun wr h => cell_bel h (hc k (by omega))
      have c1 := c0 wr hbr
      have kI : (k : Int) < (c : Int) := by omega
      have kT : (k : Int) < 300 := by omega
      have k0 : (0 : Int) ≤ (k : Int) := by omega
      have x1 := hx k
      have y1 : ((x k : Nat) : Int) % 301 = ((x k % 301 : Nat) : Int) := by omega
      have y2 : Int.tmod ((x k : Nat) : Int) 301 = ((x k % 301 : Nat) : Int) := by rw [Int.tmod_eq_emod_of_nonneg (by omega)]; omega
      have st := set_any ((x k % 301 : Nat) : Int) true wr hr
      have hbw : ∀ w1, But g wr w1 → Bel w w1 := fun w1 hb => hb.below hbr hg hbr.size
      have qs : ∀ w1, But g wr w1 → _ := fun w1 hb => rset_any ((x k % 301 : Nat) : Int) true w1 (hq.but hb hr.at) (by omega)
      have fin : ∀ w1 w2 a, RowIs w1 b g ca N (setF N (mk N x k) ((x k % 301 : Nat) : Int) true) → But g wr w1 → Bools w2 a N (setF N (mk N x k) ((x k % 301 : Nat) : Int) true) → Bel w1 w2 →
          RowIs w2 b g ca N (mk N x (k + 1)) ∧ Bools w2 a N (mk N x (k + 1)) ∧ Bel w w2 := fun w1 w2 a h1 h2 h3 h4 =>
        ⟨h1.bel h4, h3, (hbw w1 h2).trans h4⟩
      have hid := Lib.hid fin
      clear fin hr hq hbr R0 b2 kk
      have y3 : x k % 301 < 301 := by omega
      generalize x k % 301 = Y at *
      generalize x k = X at *
      generalize setF N (mk N x k) (Y : Int) true = F at *
      generalize setE N (Y : Int) = E at *
      go_wp2_with (first
        | (go_at_call 18; refine st.mono ?_; rintro e w1 ⟨rfl, s1, s2⟩; have c2 := c0 w1 (hbw w1 s2))
        | (go_at_call 17; refine (qs _ s2).mono ?_; rintro e w2 ⟨a, rfl, s3, s4⟩))
      go_roundw
      case rel => exact ⟨k + 1, by omega, by go_num, hid.out _ _ _ s1 s2 s3 s4⟩
      case measure => simp only [intOf]; omega
    · have ck' : c ≤ k ∨ 300 ≤ k := by omega
      have e : k = min c 300 := by omega
      rw [e] at hr hq
      have d : decide ((k : Int) < 300) = decide ((k : Nat) < 300) := by
        exact decide_eq_decide.2 (by omega)
      have hid := Lib.hid (And.intro hr (And.intro hq hbr))
      clear hr hq hbr R0 b2 kk h d e
      rcases ck' with ck' | ck'
      · have d1 : decide ((k : Int) < (c : Int)) = false := decide_eq_false (by omega)
        go_wp2
        go_ret2
        exact ⟨b, g, ca, u9, rfl, hid.out.1, hid.out.2.1, hg, hb, hid.out.2.2⟩
      · have d1 : decide ((k : Int) < 300) = false := decide_eq_false (by omega)
        by_cases cc : (k : Int) < (c : Int)
        · go_wp2
          go_ret2
          exact ⟨b, g, ca, u9, rfl, hid.out.1, hid.out.2.1, hg, hb, hid.out.2.2⟩
        · have d2 : decide ((k : Int) < (c : Int)) = false := decide_eq_false cc
          go_wp2
          go_ret2
          exact ⟨b, g, ca, u9, rfl, hid.out.1, hid.out.2.1, hg, hb, hid.out.2.2⟩

end Go.Proofs.YtebcmfggmlapdaaDoor
