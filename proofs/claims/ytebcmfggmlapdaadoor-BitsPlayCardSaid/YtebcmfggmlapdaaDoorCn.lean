/- Count of the program, with the library's count of a word's bits. -/
import Derived.Test.YtebcmfggmlapdaaDoorCl
namespace Go.Proofs.YtebcmfggmlapdaaDoor
open Go.ChangeShapes Go.WideShapes Go.ChangeAt Go.RowKit

theorem i64_and_nat (a b : Nat) (ha : a < 9223372036854775808) (hb : b < 9223372036854775808) : bits .and .i64 (a : Int) (b : Int) = ((a &&& b : Nat) : Int) := by
  have hx : a &&& b < 2 ^ 63 := Nat.and_lt_two_pow _ (by omega)
  have h1 : (BitVec.ofInt 64 (a : Int)).toNat = a := by
    rw [BitVec.ofInt_natCast, BitVec.toNat_ofNat]; exact Nat.mod_eq_of_lt (by omega)
  have h2 : (BitVec.ofInt 64 (b : Int)).toNat = b := by
    rw [BitVec.ofInt_natCast, BitVec.toNat_ofNat]; exact Nat.mod_eq_of_lt (by omega)
  show IntKind.i64.wrap ((BitVec.ofInt 64 (a : Int) &&& BitVec.ofInt 64 (b : Int)).toNat : Int) = _
  rw [BitVec.toNat_and, h1, h2]
  simp [IntKind.wrap, IntKind.signed, IntKind.bits]
  omega

theorem wrap_nat {n : Nat} (h : n < 18446744073709551616) : IntKind.u64.wrap (n : Int) = (n : Int) := by rw [IntKind.wrap_u64]; omega
theorem wrap_add {a b c : Nat} (h : a + b = c) (hc : c < 18446744073709551616) : IntKind.u64.wrap ((a : Int) + (b : Int)) = (c : Int) := by
  subst h; rw [← Int.natCast_add]; exact wrap_nat hc

theorem rep55 : rep 85 8 = 6148914691236517205 := rfl
theorem rep33 : rep 51 8 = 3689348814741910323 := rfl
theorem rep0f : rep 15 8 = 1085102592571150095 := rfl

theorem and_le_right (a b : Nat) : a &&& b ≤ b := Nat.and_le_right

set_option maxRecDepth 100000 in
theorem ones_count (x : Nat) (hx : x < 18446744073709551616) (w : World) :
    Calls Tryd.prog 37 #[.int .u64 (x : Nat)] w fun e w' => e = .returned (.int .i64 (pc x 64 : Nat)) ∧ w' = w := by
  obtain ⟨A1, hA1⟩ : ∃ A1, x / 2 &&& rep 85 8 = A1 := ⟨_, rfl⟩
  obtain ⟨A2, hA2⟩ : ∃ A2, x &&& rep 85 8 = A2 := ⟨_, rfl⟩
  obtain ⟨Y, hY⟩ : ∃ Y, A1 + A2 = Y := ⟨_, rfl⟩
  obtain ⟨B1, hB1⟩ : ∃ B1, Y / 4 &&& rep 51 8 = B1 := ⟨_, rfl⟩
  obtain ⟨B2, hB2⟩ : ∃ B2, Y &&& rep 51 8 = B2 := ⟨_, rfl⟩
  obtain ⟨Z, hZ⟩ : ∃ Z, B1 + B2 = Z := ⟨_, rfl⟩
  obtain ⟨C, hC⟩ : ∃ C, Z / 16 + Z = C := ⟨_, rfl⟩
  obtain ⟨U, hU⟩ : ∃ U, C &&& rep 15 8 = U := ⟨_, rfl⟩
  obtain ⟨y1, hy1⟩ : ∃ y1, U + U / 256 = y1 := ⟨_, rfl⟩
  obtain ⟨y2, hy2⟩ : ∃ y2, y1 + y1 / 65536 = y2 := ⟨_, rfl⟩
  obtain ⟨y3, hy3⟩ : ∃ y3, y2 + y2 / 4294967296 = y3 := ⟨_, rfl⟩
  have t := three x Y Z (by rw [hA1, hA2, hY]) (by rw [hB1, hB2, hZ])
  rw [hC, hU] at t
  obtain ⟨l1, l2, l3, l4⟩ := last x y1 y2 y3 (by rw [← t, hy1]) hy2 hy3
  have a1 : A1 ≤ 6148914691236517205 := by rw [← hA1, ← rep55]; exact and_le_right _ _
  have a2 : A2 ≤ 6148914691236517205 := by rw [← hA2, ← rep55]; exact and_le_right _ _
  have b1 : B1 ≤ 3689348814741910323 := by rw [← hB1, ← rep33]; exact and_le_right _ _
  have b2 : B2 ≤ 3689348814741910323 := by rw [← hB2, ← rep33]; exact and_le_right _ _
  have u1 : U ≤ 1085102592571150095 := by rw [← hU, ← rep0f]; exact and_le_right _ _
  have q3 : y3 < 9223372036854775808 := by omega
  rw [rep55] at hA1 hA2
  rw [rep33] at hB1 hB2
  rw [rep0f] at hU
  have e1 : bits .and .u64 ((x : Int) / 2) 6148914691236517205 = (A1 : Int) := by
    rw [← hA1]; exact u64_and_nat (x / 2) 6148914691236517205 (by omega) (by decide)
  have e2 : bits .and .u64 (x : Int) 6148914691236517205 = (A2 : Int) := by
    rw [← hA2]; exact u64_and_nat x 6148914691236517205 (by omega) (by decide)
  have e3 := wrap_add hY (by omega)
  have e4 : bits .and .u64 ((Y : Int) / 4) 3689348814741910323 = (B1 : Int) := by
    rw [← hB1]; exact u64_and_nat (Y / 4) 3689348814741910323 (by omega) (by decide)
  have e5 : bits .and .u64 (Y : Int) 3689348814741910323 = (B2 : Int) := by
    rw [← hB2]; exact u64_and_nat Y 3689348814741910323 (by omega) (by decide)
  have e6 := wrap_add hZ (by omega)
  have e7 : IntKind.u64.wrap ((Z : Int) / 16 + (Z : Int)) = (C : Int) := wrap_add (a := Z / 16) hC (by omega)
  have e8 : bits .and .u64 (C : Int) 1085102592571150095 = (U : Int) := by
    rw [← hU]; exact u64_and_nat C 1085102592571150095 (by omega) (by decide)
  have e9 : IntKind.u64.wrap ((U : Int) + (U : Int) / 256) = (y1 : Int) := wrap_add (b := U / 256) hy1 (by omega)
  have e10 : IntKind.u64.wrap ((y1 : Int) + (y1 : Int) / 65536) = (y2 : Int) := wrap_add (b := y1 / 65536) hy2 (by omega)
  have e11 : IntKind.u64.wrap ((y2 : Int) + (y2 : Int) / 4294967296) = (y3 : Int) := wrap_add (b := y2 / 4294967296) hy3 (by omega)
  have e12 : bits .and .i64 (y3 : Int) 127 = ((pc x 64 : Nat) : Int) := by
    rw [← l4, ← Nat.and_two_pow_sub_one_eq_mod y3 7]
    exact i64_and_nat y3 127 q3 (by decide)
  have e13 : wrap64 (y3 : Int) = (y3 : Int) := IntWalk.wrap64_in _ ⟨by omega, by omega⟩
  generalize pc x 64 = R at *
  clear hA1 hA2 hY hB1 hB2 hZ hC hU hy1 hy2 hy3 t l1 l2 l3 l4 a1 a2 b1 b2 u1 q3 hx
  go_enter Tryd.func37, Tryd.ntmps37
  go_wp2
  go_ret
  exact ⟨rfl, rfl⟩

theorem count_none {p : Value} {n : Nat} {m : Bool} (w : World) (h : Hdr w p n (.slice none 0 0) m) :
    Calls Tryd.prog 24 #[p] w fun e w' => e = .returned (.int .i64 0) ∧ w' = w := by
  have c := held_any w h
  clear h
  go_enter Tryd.func24, Tryd.ntmps24
  go_wp2_with (go_at_call 31; refine c.mono ?_; rintro e w' ⟨rfl, hw⟩; rw [hw])
  go_loop [3, 9] (fun a i => a = .int .i64 0 ∧ i = .int .i64 0) (fun _ _ => 0)
  case atStart => exact ⟨rfl, rfl⟩
  case round =>
    obtain ⟨rfl, rfl⟩ := hrel
    go_wp2
    go_ret
    exact ⟨rfl, rfl⟩

theorem cnt_word (f : Nat → Bool) (k : Nat) : cnt f (64 * (k + 1)) = cnt f (64 * k) + pc (W f k) 64 := by
  rw [pc_W, ← cnt_add]; rfl

theorem count_any {b g ca n : Nat} {f : Nat → Bool} (w : World) (h : RowIs w b g ca n f) :
    Calls Tryd.prog 24 #[.pointer (some ⟨b, 0, none⟩)] w fun e w' => e = .returned (.int .i64 (cnt f n : Nat)) ∧ w' = w := by
  have c := held_any w h.hdr
  have hcs := fun k hk => (h.word (k := k) hk).1
  have hn : nw n ≤ 65536 := by have := h.1; unfold nw; omega
  have he : cnt f (64 * nw n) = cnt f n := cnt_fits h.2.1 (by unfold nw; omega)
  rw [← he]
  have h0 : cnt f (64 * 0) = 0 := rfl
  clear h he
  generalize nw n = N at *
  go_enter Tryd.func24, Tryd.ntmps24
  go_wp2_with (go_at_call 31; refine c.mono ?_; rintro e w' ⟨rfl, hw⟩; rw [hw])
  go_loop [3, 9] (fun a i => ∃ k : Nat, k ≤ N ∧ a = .int .i64 (cnt f (64 * k) : Nat) ∧ i = .int .i64 (k : Nat)) (fun _ i => N - (intOf i).toNat)
  case atStart => exact ⟨0, Nat.zero_le _, rfl, rfl⟩
  case round =>
    obtain ⟨k, hk, rfl, rfl⟩ := hrel
    by_cases ck : k < N
    · have cw := hcs k ck
      have o := fun w => ones_count (W f k) (W_lt f k) w
      have s := cnt_word f k
      have l1 := cnt_le f (64 * k)
      have l2 : pc (W f k) 64 ≤ 64 := cnt_le _ 64
      have hs := Lib.hid s
      clear s hcs c
      generalize W f k = R at *
      generalize cnt f (64 * k) = A at *
      generalize hP : pc R 64 = P at *
      clear hP
      have hs2 := Lib.hid l1
      go_wp2_with (go_at_call 37; refine (o _).mono ?_; rintro e w' ⟨rfl, hw⟩; rw [hw])
      go_round
      case rel => exact ⟨k + 1, by omega, by rw [hs.out]; go_num, by go_num⟩
      case measure => simp only [intOf]; omega
    · obtain rfl : k = N := by omega
      clear hcs c
      go_wp2
      go_ret
      exact ⟨rfl, rfl⟩

end Go.Proofs.YtebcmfggmlapdaaDoor
