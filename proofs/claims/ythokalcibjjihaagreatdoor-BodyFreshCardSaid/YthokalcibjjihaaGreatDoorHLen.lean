/- The contract of Len64. -/
import Derived.Test.YthokalcibjjihaaGreatDoorProg
import Derived.Lib.Strings
import Derived.Lib.Slices
import Derived.Lib.Small
import Derived.Lib.Walk
import Derived.Lib.BitFns
namespace Go.Proofs.YthokalcibjjihaaGreatDoor.hd

theorem len_at (c : Int) (k P : Nat) (hc : c = k) (hk : k ≤ 56) (hP : P = 2 ^ k) (z x : Int) (hz0 : 0 ≤ z) (hz1 : z ≤ 255) (hx0 : 0 ≤ x) (hx1 : x ≤ 18446744073709551615) (hle : (P : Int) ≤ x ∨ k = 0) (he : z.toNat = x.toNat / P) :
    (c + ((Lib.len8 (z % 256) + 9223372036854775808) % 18446744073709551616 - 9223372036854775808) + 9223372036854775808) % 18446744073709551616 - 9223372036854775808 = (Lib.bitLen x.toNat : Int) := by
  have em : z % 256 = z := by omega
  rw [em, Lib.len8_of z hz0 hz1]
  have hb := Lib.bitLen_le8' z hz0 hz1
  have hs : Lib.bitLen x.toNat = k + Lib.bitLen z.toNat := by
    rcases hle with h | h
    · rw [he, hP]
      exact Lib.bitLen_shift k x.toNat (by rw [← hP]; omega) (by omega)
    · subst h
      rw [he, hP, Nat.pow_zero, Nat.div_one, Nat.zero_add]
  omega

set_option maxHeartbeats 4000000 in
set_option maxRecDepth 100000 in
theorem len64_any (x : Int) (w : World) (h0 : 0 ≤ x) (h1 : x ≤ 18446744073709551615) :
    Calls Tryz.prog 142 #[.int .u64 x] w fun e w' => e = .returned (.int .i64 (Lib.bitLen x.toNat)) ∧ w' = w := by
  go_enter Tryz.func142, Tryz.ntmps142
  go_wp2
  all_goals go_ret
  all_goals refine ⟨congrArg Ending.returned (congrArg (Value.int IntKind.i64) ?_), rfl⟩
  · exact len_at 56 56 72057594037927936 rfl (by omega) (by decide) _ x (by omega) (by omega) h0 h1 (by omega) (by omega)
  · exact len_at 48 48 281474976710656 rfl (by omega) (by decide) _ x (by omega) (by omega) h0 h1 (by omega) (by omega)
  · exact len_at 40 40 1099511627776 rfl (by omega) (by decide) _ x (by omega) (by omega) h0 h1 (by omega) (by omega)
  · exact len_at 32 32 4294967296 rfl (by omega) (by decide) _ x (by omega) (by omega) h0 h1 (by omega) (by omega)
  · exact len_at 24 24 16777216 rfl (by omega) (by decide) _ x (by omega) (by omega) h0 h1 (by omega) (by omega)
  · exact len_at 16 16 65536 rfl (by omega) (by decide) _ x (by omega) (by omega) h0 h1 (by omega) (by omega)
  · exact len_at 8 8 256 rfl (by omega) (by decide) _ x (by omega) (by omega) h0 h1 (by omega) (by omega)
  · have h := len_at 0 0 1 rfl (by omega) (by decide) x x (by omega) (by omega) h0 h1 (by omega) (by omega)
    rw [Int.zero_add] at h
    generalize Lib.len8 (x % 256) = z at h ⊢
    omega

end Go.Proofs.YthokalcibjjihaaGreatDoor.hd
