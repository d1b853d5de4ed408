/- Slots, pages, regions, bases and the total, of the program: the small functions, the closures, the sums. -/
import Derived.Test.YtjgjomojcocegaaDoorPck
import Derived.Test.YtjgjomojcocegaaDoorReg
import Derived.Deep.RegionHeld3
namespace Go.Proofs.YtjgjomojcocegaaDoor
open Go.ChangeShapes Go.WideShapes Go.ChangeAt Go.RowKit
set_option linter.unusedVariables false

/-- the cells of a tenant that was boxed -/
theorem ten_at {w W' : World} {a b c d : Value} {t : TypeId} (h : Bel (w.alloc (.cells #[a, b, c, d] t)) W') :
    W'.cell? ⟨w.heap.size, 0, none⟩ = some a ∧ W'.cell? ⟨w.heap.size, 1, none⟩ = some b ∧ W'.cell? ⟨w.heap.size, 2, none⟩ = some c ∧ W'.cell? ⟨w.heap.size, 3, none⟩ = some d :=
  ⟨agg_at h 0, agg_at h 1, agg_at h 2, agg_at h 3⟩

theorem slots1_any (q tr cp sz f : Int) (w : World) {S : Int} (eS : q / f = S) (hq : 0 ≤ q) (hq2 : q ≤ 4096) (hf : 2 ≤ f) (hf2 : f ≤ 64) (hs : 0 ≤ S) (hs2 : S ≤ 4096) :
    Calls Tryd.prog 74 #[.agg #[.int .i64 q, .int .i64 tr, .int .i64 cp, .int .i64 sz], .int .i64 f] w fun e w' => e = .returned (.int .i64 S) ∧ Bel w w' := by
  have hb : ∀ o, Bel w (w.alloc o) := fun o => (Bel.refl w).alloc o
  have eW : IntKind.i64.wrap (q.tdiv f) = S := by rw [Int.tdiv_eq_ediv_of_nonneg hq, eS, IntKind.wrap_i64]; omega
  go_enter Tryd.func74, Tryd.ntmps74
  go_wp2
  go_ret
  exact ⟨by go_num, hb _⟩

theorem pages1_any (pg q tr cp sz f : Int) (w : World) {S E Z : Int} (eS : q / f = S) (eE : pg / f = E) (eZ : (S + E - 1) / E = Z) (hp : 0 ≤ pg) (hp2 : pg ≤ 64) (hq : 0 ≤ q) (hq2 : q ≤ 4096) (hf : 2 ≤ f) (hf2 : f ≤ 64) (hs : 1 ≤ S) (hs2 : S ≤ 4096) (he : 1 ≤ E) (he2 : E ≤ 64) (hz : 1 ≤ Z) (hz2 : Z ≤ 4096) :
    Calls Tryd.prog 75 #[.int .i64 pg, .agg #[.int .i64 q, .int .i64 tr, .int .i64 cp, .int .i64 sz], .int .i64 f] w fun e w' => e = .returned (.int .i64 Z) ∧ Bel w w' := by
  have hb : ∀ o, Bel w (w.alloc o) := fun o => (Bel.refl w).alloc o
  have sl := fun W => slots1_any q tr cp sz f W eS hq hq2 hf hf2 (by omega) hs2
  have eW : IntKind.i64.wrap (pg.tdiv f) = E := by rw [Int.tdiv_eq_ediv_of_nonneg hp, eE, IntKind.wrap_i64]; omega
  have eV : (S + E - 1).tdiv E = Z := by rw [Int.tdiv_eq_ediv_of_nonneg (by omega), eZ]
  have eU : IntKind.i64.wrap Z = Z := by rw [IntKind.wrap_i64]; omega
  go_enter Tryd.func75, Tryd.ntmps75
  go_wp2_with (go_at_call 74; refine (sl _).mono ?_; rintro e w' ⟨rfl, hg⟩)
  go_ret
  exact ⟨by go_num, (hb _).trans hg⟩

/-- the closure over a class -/
theorem clos_c (bc bt : Nat) (pg q tr cp sz f : Int) (w : World) {Z : Int}
    (hp : ∀ W, Calls Tryd.prog 75 #[.int .i64 pg, .agg #[.int .i64 q, .int .i64 tr, .int .i64 cp, .int .i64 sz], .int .i64 f] W fun e w' => e = .returned (.int .i64 Z) ∧ Bel W w')
    (k1 : w.cell? ⟨bc, 1, none⟩ = some (.int .i64 pg)) (t0 : w.cell? ⟨bt, 0, none⟩ = some (.int .i64 q)) (t1 : w.cell? ⟨bt, 1, none⟩ = some (.int .i64 tr)) (t2 : w.cell? ⟨bt, 2, none⟩ = some (.int .i64 cp)) (t3 : w.cell? ⟨bt, 3, none⟩ = some (.int .i64 sz)) :
    Calls Tryd.prog 87 #[.int .i64 f, .pointer (some ⟨bc, 0, none⟩), .pointer (some ⟨bt, 0, none⟩)] w fun e w' => e = .returned (.int .i64 Z) ∧ Bel w w' := by
  go_enter Tryd.func87, Tryd.ntmps87
  go_wp2_with (go_at_call 75; refine (hp _).mono ?_; rintro e w' ⟨rfl, hg⟩)
  go_ret
  exact ⟨rfl, hg⟩

set_option maxHeartbeats 1000000 in
/-- the sum over the classes -/
theorem sumc_any (b off n cap bc bt : Nat) (F P : Nat → Int) (w : World) (n1 : 1 ≤ n) (n8 : n ≤ 8) (hc : n ≤ cap) (hbig : cap ≤ 9223372036854775807) (hP : ∀ j, j < n → 0 ≤ P j ∧ P j ≤ 4096)
    (hF : ∀ j, j < n → w.cell? ⟨b, off + j, none⟩ = some (.int .i64 (F j)))
    (cl : ∀ W j, Bel w W → j < n → Calls Tryd.prog 87 #[.int .i64 (F j), .pointer (some ⟨bc, 0, none⟩), .pointer (some ⟨bt, 0, none⟩)] W fun e w' => e = .returned (.int .i64 (P j)) ∧ Bel W w') :
    Calls Tryd.prog 86 #[.slice (some ⟨b, off, none⟩) n cap, .func (.func 87) #[] #[.pointer (some ⟨bc, 0, none⟩), .pointer (some ⟨bt, 0, none⟩)]] w fun e w' => e = .returned (.int .i64 (sumTo P n)) ∧ Bel w w' := by
  go_enter Tryd.func86, Tryd.ntmps86
  go_wp2
  go_loopw [5, 10] (fun a i wr => ∃ k : Nat, k ≤ n ∧ i = .int .i64 (k : Nat) ∧ a = .int .i64 (sumTo P k) ∧ Bel w wr) (fun _ i _ => n - (intOf i).toNat)
  case atStart => exact ⟨0, Nat.zero_le _, rfl, rfl, Bel.refl _⟩
  case round =>
    obtain ⟨k, hk, rfl, rfl, hbr⟩ := hrel
    by_cases ck : k < n
    · have cF := cell_bel hbr (hF k ck)
      have cc := cl _ k hbr ck
      have kI : (k : Int) < (n : Int) := by omega
      have kz : (0 : Int) ≤ (k : Int) := by omega
      obtain ⟨b1, b2⟩ := hP k ck
      obtain ⟨s1, s2⟩ := sumTo_bd (f := P) (B := 4096) (n := k) fun j hj => hP j (by omega)
      have hS : sumTo P (k + 1) = sumTo P k + P k := rfl
      have hid := Lib.hid hS
      clear hS hF cl hP
      generalize sumTo P k = S at *
      generalize P k = X at *
      generalize F k = y at *
      go_wp2_with (go_at_call 87; refine cc.mono ?_; rintro e w' ⟨rfl, hg⟩)
      go_roundw
      case rel => exact ⟨k + 1, by omega, by go_num, by rw [hid.out], hbr.trans hg⟩
      case measure => simp only [intOf]; omega
    · obtain rfl : k = n := by omega
      clear hF cl hP
      go_wp2
      go_ret
      exact ⟨rfl, hbr⟩

end Go.Proofs.YtjgjomojcocegaaDoor
