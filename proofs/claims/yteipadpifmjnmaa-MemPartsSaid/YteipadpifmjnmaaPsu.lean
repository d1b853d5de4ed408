/- Sums of regions, of the program; Slots, Pages, Region, Base, Total. -/
import Derived.Test.YteipadpifmjnmaaPrg
namespace Go.Proofs.Yteipadpifmjnmaa
open Go.ChangeShapes Go.WideShapes Go.ChangeAt Go.RowKit

/-- the closure over a tenant -/
theorem clos_t (bc : Nat) (vc vt : Value) (c : Cf) (t : Nat) (w : World) (ok : c.ok) (ht : t < c.m)
    (h : IsCf w (.agg #[vc, .int .i64 c.page, vt, .int .i64 c.wk, .int .i64 c.gr, .int .i64 c.gn]) c)
    (k0 : w.cell? ⟨bc, 0, none⟩ = some vc) (k1 : w.cell? ⟨bc, 1, none⟩ = some (.int .i64 c.page)) (k2 : w.cell? ⟨bc, 2, none⟩ = some vt) (k3 : w.cell? ⟨bc, 3, none⟩ = some (.int .i64 c.wk)) (k4 : w.cell? ⟨bc, 4, none⟩ = some (.int .i64 c.gr)) (k5 : w.cell? ⟨bc, 5, none⟩ = some (.int .i64 c.gn)) :
    Calls Try.prog 54 #[.agg #[.int .i64 (c.Q t), .int .i64 (c.Tr t), .int .i64 (c.Cp t), .int .i64 (c.As t)], .pointer (some ⟨bc, 0, none⟩)] w fun e w' => e = .returned (.int .i64 (c.region t)) ∧ Bel w w' := by
  have hb := (Bel.refl w).alloc (.cells #[.int .i64 (c.Q t), .int .i64 (c.Tr t), .int .i64 (c.Cp t), .int .i64 (c.As t)] 69)
  have rg := region1_any _ c t _ (h.bel hb) ok ht
  have k0 := cell_bel hb k0
  have k1 := cell_bel hb k1
  have k2 := cell_bel hb k2
  have k3 := cell_bel hb k3
  have k4 := cell_bel hb k4
  have k5 := cell_bel hb k5
  clear h ok ht
  generalize c.region t = Z at *
  generalize c.Q t = q at *
  generalize c.Tr t = tr at *
  generalize c.Cp t = cp at *
  generalize c.As t = sz at *
  generalize c.page = pg at *
  generalize c.wk = wk at *
  generalize c.gr = gr at *
  generalize c.gn = gn at *
  go_enter Try.func54, Try.ntmps54
  go_wp2_with (go_at_call 55; refine rg.mono ?_; rintro e w' ⟨rfl, hg⟩)
  go_ret
  exact ⟨rfl, hb.trans hg⟩

set_option maxHeartbeats 1000000 in
/-- the sum over the tenants -/
theorem sumt_any (b off T cap bc : Nat) (c : Cf) (w : World) (ok : c.ok) (hT : T ≤ c.m) (hc : T ≤ cap) (hbig : cap ≤ 9223372036854775807)
    (hF : ∀ j, j < T → Ten w b (off + j * 4) (c.Q j) (c.Tr j) (c.Cp j) (c.As j))
    (cl : ∀ W j, Bel w W → j < T → Calls Try.prog 54 #[.agg #[.int .i64 (c.Q j), .int .i64 (c.Tr j), .int .i64 (c.Cp j), .int .i64 (c.As j)], .pointer (some ⟨bc, 0, none⟩)] W fun e w' => e = .returned (.int .i64 (c.region j)) ∧ Bel W w') :
    Calls Try.prog 53 #[.slice (some ⟨b, off, none⟩) T cap, .func (.func 54) #[] #[.pointer (some ⟨bc, 0, none⟩)]] w fun e w' => e = .returned (.int .i64 (c.base T)) ∧ Bel w w' := by
  have T8 : T ≤ 8 := by have := (Cf.ok_m ok).2; omega
  have hid0 := Lib.hid ok
  go_enter Try.func53, Try.ntmps53
  clear ok
  go_wp2
  go_loopw [5, 10] (fun a i wr => ∃ k : Nat, k ≤ T ∧ i = .int .i64 (k : Nat) ∧ a = .int .i64 (c.base k) ∧ Bel w wr) (fun _ i _ => T - (intOf i).toNat)
  case atStart => exact ⟨0, Nat.zero_le _, rfl, rfl, Bel.refl _⟩
  case round =>
    obtain ⟨k, hk, rfl, rfl, hbr⟩ := hrel
    by_cases ck : k < T
    · obtain ⟨t0, t1, t2, t3⟩ := (hF k ck).bel hbr
      have cc := cl (wr.alloc (.cells #[.int .i64 (c.Q k), .int .i64 (c.Tr k), .int .i64 (c.Cp k), .int .i64 (c.As k)] 69)) k (hbr.alloc _) ck
      have kI : (k : Int) < (T : Int) := by omega
      have kz : (0 : Int) ≤ (k : Int) := by omega
      obtain ⟨b1, b2⟩ := Cf.region_bd hid0.out (show k < c.m by omega)
      obtain ⟨s1, s2⟩ := Cf.base_bd hid0.out (show k ≤ c.m by omega)
      have hS := Cf.base_succ c k
      have hid := Lib.hid hS
      clear hS hF cl hid0 hT
      generalize c.base k = S at *
      generalize c.region k = X at *
      generalize c.Q k = q at *
      generalize c.Tr k = tr at *
      generalize c.Cp k = cp at *
      generalize c.As k = sz at *
      go_wp2_with (go_at_call 54; refine cc.mono ?_; rintro e w' ⟨rfl, hg⟩)
      go_roundw
      case rel => exact ⟨k + 1, by omega, by go_num, by rw [hid.out], (hbr.alloc _).trans hg⟩
      case measure => simp only [intOf]; omega
    · obtain rfl : k = T := by omega
      clear hF cl
      go_wp2
      go_ret
      exact ⟨rfl, hbr⟩

/-- the words of the regions of the first tenants -/
theorem regions_any (vc : Value) (b2 off2 cap2 M cap T : Nat) (c : Cf) (w : World) (ok : c.ok) (hM : M = c.m)
    (h : IsCf w (.agg #[vc, .int .i64 c.page, .slice (some ⟨b2, off2, none⟩) M cap2, .int .i64 c.wk, .int .i64 c.gr, .int .i64 c.gn]) c) (hT : T ≤ c.m) (hc : T ≤ cap) (hbig : cap ≤ 9223372036854775807)
    (hF : ∀ j, j < T → Ten w b2 (off2 + j * 4) (c.Q j) (c.Tr j) (c.Cp j) (c.As j)) :
    Calls Try.prog 45 #[.agg #[vc, .int .i64 c.page, .slice (some ⟨b2, off2, none⟩) M cap2, .int .i64 c.wk, .int .i64 c.gr, .int .i64 c.gn], .slice (some ⟨b2, off2, none⟩) T cap] w fun e w' => e = .returned (.int .i64 (c.base T)) ∧ Bel w w' := by
  have hb := (Bel.refl w).alloc (.cells #[vc, .int .i64 c.page, .slice (some ⟨b2, off2, none⟩) M cap2, .int .i64 c.wk, .int .i64 c.gr, .int .i64 c.gn] 25)
  have sm := sumt_any b2 off2 T cap w.heap.size c _ ok hT hc hbig (fun j hj => (hF j hj).bel hb) (fun W j g hj => by
    obtain ⟨k0, k1, k2, k3, k4, k5⟩ := cf_at g
    exact clos_t w.heap.size vc _ c j W ok (by omega) (h.bel (hb.trans g)) k0 k1 k2 k3 k4 k5)
  clear h hF ok hT hM
  generalize c.base T = Z at *
  generalize c.page = pg at *
  generalize c.wk = wk at *
  generalize c.gr = gr at *
  generalize c.gn = gn at *
  go_enter Try.func45, Try.ntmps45
  go_wp2_with (go_at_call 53; refine sm.mono ?_; rintro e w' ⟨rfl, hg⟩)
  go_ret
  exact ⟨rfl, hb.trans hg⟩

end Go.Proofs.Yteipadpifmjnmaa
