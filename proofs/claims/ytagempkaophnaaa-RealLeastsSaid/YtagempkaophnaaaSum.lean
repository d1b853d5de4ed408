/- Sum, of the program and of the document. -/
import Derived.Test.YtagempkaophnaaaRof
namespace Go.Proofs.Ytagempkaophnaaa
open Go.ChangeShapes Go.WideShapes Go.ChangeAt Go.RowKit

/-- the same memory, perhaps behind some draws -/
def Same (w w' : World) : Prop := w'.heap = w.heap ∧ Grown w w'

theorem Same.refl (w : World) : Same w w := ⟨rfl, Grown.refl w⟩
theorem Same.drew {w w' : World} (h : Same w w') : Same w w'.drew := ⟨h.1, h.2.drew⟩
theorem grown_trans {a b c : World} (h : Grown a b) (g : Grown b c) : Grown a c :=
  ⟨World.keptBut_trans h.1 g.1, fun x => (g.2.1 x).trans (h.2.1 x), Nat.le_trans h.2.2 g.2.2⟩
theorem Same.trans {a b c : World} (h : Same a b) (g : Same b c) : Same a c := ⟨g.1.trans h.1, grown_trans h.2 g.2⟩
theorem Same.cell {w w' : World} (h : Same w w') (a : Addr) : w'.cell? a = w.cell? a := by
  unfold World.cell?; rw [h.1]

/-- one more word in a sum -/
def addN (x y : Nat) : Nat := match Ieee.Format.add Ieee.double x y with
  | some r => r
  | none => 9221120237041090560

/-- the sum of the first words, in order -/
def sumTo (f : Nat → Nat) : Nat → Nat
  | 0 => f 0
  | k + 1 => addN (sumTo f k) (f (k + 1))

/-- the answer of Sum -/
def sumN (f : Nat → Nat) : Nat → Nat
  | 0 => 0
  | k + 1 => canonN (sumTo f k)

/-- what the machine's addition does -/
theorem add_run (x y : Nat) (w : World) : ∃ r w', (binOp .add 45 (.float .f64 x) (.float .f64 y)).run Try.prog w = .ok (.float .f64 r) w' ∧ Same w w' ∧
    (Ieee.Format.add Ieee.double x y = some r ∨ (Ieee.Format.add Ieee.double x y = none ∧ nanN r = true ∧ r < 18446744073709551616)) := by
  cases h : Ieee.Format.add Ieee.double x y with
  | some r => exact ⟨r, w, run_float_arith w .add 45 .f64 x y r h, Same.refl w, Or.inl rfl⟩
  | none =>
    refine ⟨(Question.nanBits .f64 x y).cut (w.tape w.drawn (Question.nanBits .f64 x y)), w.drew, ?_, (Same.refl w).drew, Or.inr ⟨rfl, ?_⟩⟩
    · have h' : (FloatKind.f64).format.add x y = none := h
      simp [binOp, Op.floatArith, h', Question.forced]
    · generalize w.tape w.drawn (Question.nanBits .f64 x y) = t
      show nanN ((t % 2) * 2 ^ 63 + 0x7ff0000000000000 + 1 + (t / 2) % (2 ^ 52 - 1)) = true ∧ (t % 2) * 2 ^ 63 + 0x7ff0000000000000 + 1 + (t / 2) % (2 ^ 52 - 1) < 18446744073709551616
      have hp : t % 2 < 2 := Nat.mod_lt _ (by omega)
      have hq : (t / 2) % (2 ^ 52 - 1) < 2 ^ 52 - 1 := Nat.mod_lt _ (by omega)
      generalize t % 2 = p at *
      generalize (t / 2) % (2 ^ 52 - 1) = q at *
      have hp2 : p = 0 ∨ p = 1 := by omega
      refine ⟨decide_eq_true ?_, by omega⟩
      unfold rung
      rcases hp2 with rfl | rfl <;> omega

theorem floatBits_lt {s y r : Nat} (hr : Ieee.Format.add Ieee.double s y = some r) : r < 18446744073709551616 := Ieee.Format.add_lt Ieee.double hr

/-- one more word, whatever NaN the machine took -/
theorem add_step {s t y r : Nat} (h : canonN s = canonN t) (hr : Ieee.Format.add Ieee.double s y = some r ∨ (Ieee.Format.add Ieee.double s y = none ∧ nanN r = true ∧ r < 18446744073709551616)) :
    canonN r = canonN (addN t y) := by
  have key : nanN s = true ∧ nanN t = true ∨ s = t := by
    unfold canonN at h
    cases hs : nanN s <;> cases ht : nanN t
    · rw [hs, ht] at h; exact Or.inr h
    · rw [hs, ht] at h
      have h' : s = 9221120237041090560 := h
      rw [h'] at hs; exact absurd hs (by decide)
    · rw [hs, ht] at h
      have h' : 9221120237041090560 = t := h
      rw [← h'] at ht; exact absurd ht (by decide)
    · exact Or.inl ⟨rfl, rfl⟩
  rcases key with ⟨a, b⟩ | rfl
  · have e1 : Ieee.Format.add Ieee.double s y = none := add_nan_left (of_decide_eq_true a)
    have e2 : Ieee.Format.add Ieee.double t y = none := add_nan_left (of_decide_eq_true b)
    rcases hr with hr | ⟨_, hn, _⟩
    · rw [e1] at hr; cases hr
    · unfold addN; rw [e2]
      unfold canonN; rw [hn, if_pos rfl]; rfl
  · rcases hr with hr | ⟨e, hn, _⟩
    · unfold addN; rw [hr]
    · unfold addN; rw [e]
      unfold canonN; rw [hn, if_pos rfl]; rfl

theorem add_lt64 {s y r : Nat} (hr : Ieee.Format.add Ieee.double s y = some r ∨ (Ieee.Format.add Ieee.double s y = none ∧ nanN r = true ∧ r < 18446744073709551616)) : r < 18446744073709551616 := by
  rcases hr with hr | ⟨_, _, h⟩
  · exact floatBits_lt hr
  · exact h

theorem sum_none (cap : Nat) (p : Option Addr) (w : World) : Calls Try.prog 24 #[.slice p 0 cap] w fun e w' => e = .returned (.int .u64 0) ∧ Same w w' := by
  go_enter Try.func24, Try.ntmps24
  go_wp2
  go_ret; exact ⟨rfl, Same.refl w⟩

theorem sum_one (b off cap : Nat) (f : Nat → Nat) (w : World) (hl : 1 ≤ cap) (hbig : cap ≤ 9223372036854775807) (c0 : w.cell? ⟨b, off, none⟩ = some (.int .u64 (f 0 : Nat))) (hf : ∀ j, f j < 18446744073709551616) :
    Calls Try.prog 24 #[.slice (some ⟨b, off, none⟩) 1 cap] w fun e w' => e = .returned (.int .u64 (canonN (f 0) : Nat)) ∧ Same w w' := by
  have h1 := run_from
  have h2 := run_bits
  have hc := canon_any (f 0 : Nat) w (by omega) (by have := hf 0; omega)
  rw [Int.toNat_natCast] at hc
  by_cases c : cap = 1
  · subst c
    go_enter Try.func24, Try.ntmps24
    go_wp2
    go_loop [3, 16] (fun s i => s = .float .f64 (f 0) ∧ i = .int .i64 0) (fun _ _ => 0)
    case atStart => exact ⟨rfl, rfl⟩
    case round =>
      obtain ⟨rfl, rfl⟩ := hrel
      go_wp2_with (go_at_call 17; refine hc.mono ?_; rintro e w' ⟨rfl, hw⟩; rw [hw])
      go_ret; exact ⟨rfl, Same.refl w⟩
  · obtain ⟨c', rfl⟩ : ∃ c', cap = c' + 2 := ⟨cap - 2, by omega⟩
    go_enter Try.func24, Try.ntmps24
    go_wp2
    go_loop [3, 16] (fun s i => s = .float .f64 (f 0) ∧ i = .int .i64 0) (fun _ _ => 0)
    case atStart => exact ⟨rfl, rfl⟩
    case round =>
      obtain ⟨rfl, rfl⟩ := hrel
      go_wp2_with (go_at_call 17; refine hc.mono ?_; rintro e w' ⟨rfl, hw⟩; rw [hw])
      go_ret; exact ⟨rfl, Same.refl w⟩

theorem sum_more (b off len cap : Nat) (f : Nat → Nat) (w : World) (hl : len + 2 ≤ cap + 2) (hbig : cap + 2 ≤ 9223372036854775807) (hc : ∀ j, j < len + 2 → w.cell? ⟨b, off + j, none⟩ = some (.int .u64 (f j : Nat))) (hf : ∀ j, f j < 18446744073709551616) :
    Calls Try.prog 24 #[.slice (some ⟨b, off, none⟩) (len + 2) (cap + 2)] w fun e w' => e = .returned (.int .u64 (sumN f (len + 2) : Nat)) ∧ Same w w' := by
  have h1 := run_from
  have h2 := run_bits
  have c0 : w.cell? ⟨b, off, none⟩ = some (.int .u64 (f 0 : Nat)) := hc 0 (by omega)
  go_enter Try.func24, Try.ntmps24
  go_wp2
  go_loopw [3, 16] (fun s i wr => ∃ k r : Nat, k ≤ len + 1 ∧ i = .int .i64 (k : Nat) ∧ s = .float .f64 r ∧ canonN r = canonN (sumTo f k) ∧ r < 18446744073709551616 ∧ Same w wr) (fun _ i _ => len + 1 - (intOf i).toNat)
  case atStart => exact ⟨0, f 0, Nat.zero_le _, rfl, rfl, rfl, hf 0, Same.refl w⟩
  case round =>
    obtain ⟨k, r, hk, rfl, rfl, hcr, hr, hs⟩ := hrel
    by_cases c : k < len + 1
    · have hcell : wr.cell? ⟨b, off + 1 + k, none⟩ = some (.int .u64 (f (k + 1) : Nat)) := by
        rw [hs.cell, show off + 1 + k = off + (k + 1) by omega]
        exact hc (k + 1) (by omega)
      obtain ⟨r', w1, hrun, hs1, hadd⟩ := add_run r (f (k + 1)) wr
      have hrel := And.intro (add_step hcr hadd) (And.intro (add_lt64 hadd) (hs.trans hs1))
      have hid := Lib.hid hrel
      clear hrel hadd hcr hs hs1
      go_wp2
      go_roundw
      case rel => exact ⟨k + 1, r', by omega, by go_num, rfl, hid.out⟩
      case measure => simp only [intOf]; omega
    · obtain rfl : k = len + 1 := by omega
      have hcn := canon_any (r : Nat) wr (by omega) (by omega)
      rw [Int.toNat_natCast, hcr] at hcn
      have hid := Lib.hid hs
      clear hs hcr
      go_wp2_with (go_at_call 17; refine hcn.mono ?_; rintro e w' ⟨rfl, hw⟩; rw [hw])
      go_ret; exact ⟨rfl, hid.out⟩

/-- a slice of words -/
def Words (w : World) (v : Value) (n : Nat) (f : Nat → Nat) : Prop :=
  (n = 0 ∧ ∃ p cap, v = .slice p 0 cap) ∨
  ∃ b off cap, v = .slice (some ⟨b, off, none⟩) n cap ∧ 1 ≤ n ∧ n ≤ cap ∧ cap ≤ 9223372036854775807 ∧ ∀ j, j < n → w.cell? ⟨b, off + j, none⟩ = some (.int .u64 (f j : Nat))

theorem Words.same {w w' : World} {v : Value} {n : Nat} {f : Nat → Nat} (h : Words w v n f) (g : Same w w') : Words w' v n f := by
  rcases h with h | ⟨b, off, cap, h1, h2, h3, h4, h5⟩
  · exact Or.inl h
  · exact Or.inr ⟨b, off, cap, h1, h2, h3, h4, fun j hj => (g.cell _).trans (h5 j hj)⟩

theorem sum_any (v : Value) (n : Nat) (f : Nat → Nat) (w : World) (h : Words w v n f) (hf : ∀ j, f j < 18446744073709551616) :
    Calls Try.prog 24 #[v] w fun e w' => e = .returned (.int .u64 (sumN f n : Nat)) ∧ Same w w' := by
  rcases h with ⟨rfl, p, cap, rfl⟩ | ⟨b, off, cap, rfl, h1, h2, h3, hc⟩
  · exact sum_none cap p w
  · by_cases c : n = 1
    · subst c
      exact sum_one b off cap f w h2 h3 (hc 0 (by omega)) hf
    · obtain ⟨m, rfl⟩ : ∃ m, n = m + 2 := ⟨n - 2, by omega⟩
      obtain ⟨c', rfl⟩ : ∃ c', cap = c' + 2 := ⟨cap - 2, by omega⟩
      exact sum_more b off m c' f w h2 h3 hc hf

theorem rsum_any (v : Value) (n : Nat) (f : Nat → Nat) (w : World) (h : Words w v n f) (hf : ∀ j, f j < 18446744073709551616) :
    Calls Try.prog 25 #[v] w fun e w' => e = .returned (.int .u64 (sumN f n : Nat)) ∧ Same w w' := by
  rcases h with ⟨rfl, p, cap, rfl⟩ | ⟨b, off, cap, rfl, h1, h2, h3, hc⟩
  · go_enter Try.func25, Try.ntmps25
    go_wp2
    go_ret; exact ⟨rfl, Same.refl w⟩
  · obtain ⟨m, rfl⟩ : ∃ m, n = m + 1 := ⟨n - 1, by omega⟩
    have r1 := run_from
    have r2 := run_bits
    have c0 : w.cell? ⟨b, off, none⟩ = some (.int .u64 (f 0 : Nat)) := hc 0 (by omega)
    go_enter Try.func25, Try.ntmps25
    go_wp2
    go_loopw [3, 4] (fun s i wr => ∃ k r : Nat, k ≤ m ∧ i = .int .i64 ((k : Nat) + 1 : Int) ∧ s = .float .f64 r ∧ canonN r = canonN (sumTo f k) ∧ r < 18446744073709551616 ∧ Same w wr) (fun _ i _ => m + 1 - (intOf i).toNat)
    case atStart => exact ⟨0, f 0, Nat.zero_le _, rfl, rfl, rfl, hf 0, Same.refl w⟩
    case round =>
      obtain ⟨k, r, hk, rfl, rfl, hcr, hr, hs⟩ := hrel
      by_cases c : k < m
      · have hcell : wr.cell? ⟨b, off + (k + 1), none⟩ = some (.int .u64 (f (k + 1) : Nat)) := by
          rw [hs.cell]
          exact hc (k + 1) (by omega)
        obtain ⟨r', w1, hrun, hs1, hadd⟩ := add_run r (f (k + 1)) wr
        have hrel := And.intro (add_step hcr hadd) (And.intro (add_lt64 hadd) (hs.trans hs1))
        have hid := Lib.hid hrel
        clear hrel hadd hcr hs hs1
        go_wp2
        go_roundw
        case rel => exact ⟨k + 1, r', by omega, by go_num, rfl, hid.out⟩
        case measure => simp only [intOf]; omega
      · obtain rfl : k = m := by omega
        have hcn := rcanon_any (r : Nat) wr (by omega) (by omega)
        rw [Int.toNat_natCast, hcr] at hcn
        have hid := Lib.hid hs
        clear hs hcr
        go_wp2_with (go_at_call 18; refine hcn.mono ?_; rintro e w' ⟨rfl, hw⟩; rw [hw])
        go_ret; exact ⟨rfl, hid.out⟩

/-- the first in the order -/
def leastN (f : Nat → Nat) : Nat → Nat
  | 0 => 9221120237041090560
  | k + 1 => if cmpN (f k) (leastN f k) < 0 then f k else leastN f k

theorem leastN_lt {f : Nat → Nat} (hf : ∀ j, f j < 18446744073709551616) (n : Nat) : leastN f n < 18446744073709551616 := by
  induction n with
  | zero => exact (by omega : 9221120237041090560 < 18446744073709551616)
  | succ k ih => unfold leastN; split <;> first | exact hf k | exact ih

theorem cmpN_nan {a b : Nat} (hb : b < 18446744073709551616) (h : nanN a = true) : ¬ cmpN a b < 0 := by
  have e : canonN a = 9221120237041090560 := by unfold canonN; rw [h]; rfl
  unfold cmpN cmpI
  rw [e]
  have : rk (canonN b) ≤ 9221120237041090560 := by
    unfold rk canonN
    cases hn : nanN b
    · rw [if_neg Bool.false_ne_true]
      have h2 := of_decide_eq_false hn
      split
      · omega
      · unfold rung at h2; omega
    · rw [if_pos rfl]; decide
  have e2 : rk 9221120237041090560 = 9221120237041090560 := rfl
  rw [e2, if_neg (by omega)]
  split <;> omega

theorem leastN_canon {f : Nat → Nat} (hf : ∀ j, f j < 18446744073709551616) (n : Nat) : canonN (leastN f n) = leastN f n := by
  induction n with
  | zero => rfl
  | succ k ih =>
    unfold leastN
    by_cases c : cmpN (f k) (leastN f k) < 0
    · rw [if_pos c]
      cases h : nanN (f k)
      · unfold canonN; rw [h]; rfl
      · exact absurd c (cmpN_nan (leastN_lt hf k) h)
    · rw [if_neg c]; exact ih

theorem least_any (v : Value) (n : Nat) (f : Nat → Nat) (w : World) (h : Words w v n f) (hf : ∀ j, f j < 18446744073709551616) :
    Calls Try.prog 26 #[v] w fun e w' => e = .returned (.int .u64 (leastN f n : Nat)) ∧ w' = w := by
  rcases h with ⟨rfl, p, cap, rfl⟩ | ⟨b, off, cap, rfl, h1, h2, h3, hc⟩
  · go_enter Try.func26, Try.ntmps26
    go_wp2
    go_loop [3, 8] (fun s i => s = .int .u64 9221120237041090560 ∧ i = .int .i64 0) (fun _ _ => 0)
    case atStart => exact ⟨rfl, rfl⟩
    case round =>
      obtain ⟨rfl, rfl⟩ := hrel
      go_wp2
      go_ret; exact ⟨rfl, rfl⟩
  · go_enter Try.func26, Try.ntmps26
    go_wp2
    go_loop [3, 8] (fun s i => ∃ k : Nat, k ≤ n ∧ i = .int .i64 (k : Nat) ∧ s = .int .u64 (leastN f k : Nat)) (fun _ i => n - (intOf i).toNat)
    case atStart => exact ⟨0, Nat.zero_le _, rfl, rfl⟩
    case round =>
      obtain ⟨k, hk, rfl, rfl⟩ := hrel
      by_cases c : k < n
      · have hcell : w.cell? ⟨b, off + k, none⟩ = some (.int .u64 (f k : Nat)) := hc k c
        have hcm := compare_any (f k : Nat) (leastN f k : Nat) w (by omega) (by have := hf k; omega) (by omega) (by have := leastN_lt hf k; omega)
        simp only [Int.toNat_natCast] at hcm
        by_cases d : cmpN (f k) (leastN f k) < 0
        · have e : leastN f (k + 1) = f k := if_pos d
          go_wp2_with (go_at_call 22; refine hcm.mono ?_; rintro e w' ⟨rfl, hw⟩; rw [hw])
          go_round
          case rel => exact ⟨k + 1, by omega, by go_num, by rw [e]⟩
          case measure => simp only [intOf]; omega
        · have e : leastN f (k + 1) = leastN f k := if_neg d
          go_wp2_with (go_at_call 22; refine hcm.mono ?_; rintro e w' ⟨rfl, hw⟩; rw [hw])
          go_round
          case rel => exact ⟨k + 1, by omega, by go_num, by rw [e]⟩
          case measure => simp only [intOf]; omega
      · obtain rfl : k = n := by omega
        go_wp2
        go_ret; exact ⟨rfl, rfl⟩

theorem rleast_any (v : Value) (n : Nat) (f : Nat → Nat) (w : World) (h : Words w v n f) (hf : ∀ j, f j < 18446744073709551616) :
    Calls Try.prog 27 #[v] w fun e w' => e = .returned (.int .u64 (leastN f n : Nat)) ∧ w' = w := by
  have hcn := rcanon_any (leastN f n : Nat) w (by omega) (by have := leastN_lt hf n; omega)
  rw [Int.toNat_natCast, leastN_canon hf] at hcn
  rcases h with ⟨rfl, p, cap, rfl⟩ | ⟨b, off, cap, rfl, h1, h2, h3, hc⟩
  · have hcn' : Calls Try.prog 18 #[.int .u64 9221120237041090560] w fun e w' => e = .returned (.int .u64 9221120237041090560) ∧ w' = w := hcn
    go_enter Try.func27, Try.ntmps27
    go_wp2
    go_loop [3, 4] (fun s i => s = .int .u64 9221120237041090560 ∧ i = .int .i64 0) (fun _ _ => 0)
    case atStart => exact ⟨rfl, rfl⟩
    case round =>
      obtain ⟨rfl, rfl⟩ := hrel
      go_wp2_with (go_at_call 18; refine hcn'.mono ?_; rintro e w' ⟨rfl, hw⟩; rw [hw])
      go_ret; exact ⟨rfl, rfl⟩
  · go_enter Try.func27, Try.ntmps27
    go_wp2
    go_loop [3, 4] (fun s i => ∃ k : Nat, k ≤ n ∧ i = .int .i64 (k : Nat) ∧ s = .int .u64 (leastN f k : Nat)) (fun _ i => n - (intOf i).toNat)
    case atStart => exact ⟨0, Nat.zero_le _, rfl, rfl⟩
    case round =>
      obtain ⟨k, hk, rfl, rfl⟩ := hrel
      by_cases c : k < n
      · have hcell : w.cell? ⟨b, off + k, none⟩ = some (.int .u64 (f k : Nat)) := hc k c
        have hcm := rcompare_any (f k : Nat) (leastN f k : Nat) w (by omega) (by have := hf k; omega) (by omega) (by have := leastN_lt hf k; omega)
        simp only [Int.toNat_natCast] at hcm
        by_cases d : cmpN (f k) (leastN f k) < 0
        · have e : leastN f (k + 1) = f k := if_pos d
          go_wp2_with (go_at_call 23; refine hcm.mono ?_; rintro e w' ⟨rfl, hw⟩; rw [hw])
          go_round
          case rel => exact ⟨k + 1, by omega, by go_num, by rw [e]⟩
          case measure => simp only [intOf]; omega
        · have e : leastN f (k + 1) = leastN f k := if_neg d
          go_wp2_with (go_at_call 23; refine hcm.mono ?_; rintro e w' ⟨rfl, hw⟩; rw [hw])
          go_round
          case rel => exact ⟨k + 1, by omega, by go_num, by rw [e]⟩
          case measure => simp only [intOf]; omega
      · obtain rfl : k = n := by omega
        go_wp2_with (go_at_call 18; refine hcn.mono ?_; rintro e w' ⟨rfl, hw⟩; rw [hw])
        go_ret; exact ⟨rfl, rfl⟩

end Go.Proofs.Ytagempkaophnaaa
