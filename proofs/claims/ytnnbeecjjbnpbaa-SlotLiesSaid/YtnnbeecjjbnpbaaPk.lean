/- At, Words of the program's plans; plans that are none. -/
import Derived.Test.YtnnbeecjjbnpbaaPj
namespace Go.Proofs.Ytnnbeecjjbnpbaa
open Go.ChangeShapes Go.WideShapes Go.ChangeAt Go.RowKit Go.Deep Go.Shelf

namespace Pl
variable {P : Pl}
theorem at_yes (h : P.Good) {k x r A : Nat} (hk : k < P.n) (hr : r < min (P.e k) (P.s k - x * P.e k)) (hA : (P.po k + x) * P.g + r * P.f k = A) :
    P.fo k + x * P.e k + r < P.S ∧ P.ad (P.fo k + x * P.e k + r) = A := by
  have a := sl_at h hk (x := x) (r := r) (by omega) (by omega)
  have b := fo_S (P := P) hk (show x * P.e k + r < P.s k by omega)
  rw [Nat.add_assoc]
  exact ⟨b, by rw [a.2.2.1]; exact hA⟩
theorem at_page (h : P.Good) {i A : Nat} (hi : i < P.S) (e : P.ad i = A) : A / P.g < P.T := by
  rw [← e, (ad_page h hi).1]
  exact pg_lt h hi
theorem at_no (h : P.Good) {i A k x : Nat} (hi : i < P.S) (e : P.ad i = A) (hk : k < P.n) (hx : x < P.p k) (hq : A / P.g = P.po k + x) :
    A % P.g % P.f k = 0 ∧ A % P.g / P.f k < min (P.e k) (P.s k - x * P.e k) := by
  obtain ⟨k', j, hk', hj, rfl⟩ := slot_of hi
  have a := (ad_page h hi).1
  rw [e, hq, pg_at hk' hj] at a
  have d := div_lt h hk' hj
  have b1 := pcl_at hk hx
  have b2 := pcl_at hk' d
  rw [a, b2] at b1
  subst b1
  have ex : x = j / P.e k' := by omega
  have c := ad_at hk' hj
  rw [e] at c
  have m := Nat.div_add_mod A P.g
  rw [hq, a] at m
  have B : A % P.g = j % P.e k' * P.f k' := by
    rw [Nat.mul_comm] at m
    omega
  have f1 := h.f2 k' hk'
  rw [B]
  refine ⟨Nat.mul_mod_left _ _, ?_⟩
  rw [Nat.mul_div_cancel _ (by omega), ex]
  have g1 := Nat.div_add_mod j (P.e k')
  have g2 := Nat.mod_lt j (h.e1 k' hk')
  rw [Nat.mul_comm] at g1
  omega
end Pl

theorem atR_no {P : Pl} {a r e : Int} (hA : AtR P a r e) (h : ∀ i : Nat, i < P.S → (P.ad i : Int) ≠ a) : r = 0 ∧ e = 7 := by
  rcases hA with ⟨i, h1, h2, _⟩ | ⟨_, h2⟩
  · exact absurd h2 (h i h1)
  · exact h2
theorem atR_yes {P : Pl} {a r e : Int} (hG : P.Good) (hA : AtR P a r e) {i : Nat} (hi : i < P.S) (h : (P.ad i : Int) = a) : r = i ∧ e = 0 := by
  rcases hA with ⟨j, h1, h2, h3, h4⟩ | ⟨h1, _⟩
  · have := Pl.ad_inj hG hi h1 (by omega)
    exact ⟨by rw [h3, this], h4⟩
  · exact absurd h (h1 i hi)

set_option maxHeartbeats 1000000 in
theorem pat_at {b g off cap : Nat} {P : Pl} (w : World) (h : PlanAt w b g off cap P) (ok : PlOk P) (a r e : Int) (ha : i64b' a) (hA : AtR P a r e) :
    Calls Try.prog 11 #[.pointer (some ⟨b, 0, none⟩), .int .i64 a] w fun x w' => x = .returned (.tuple #[.int .i64 r, .int .i64 e]) ∧ Bel w w' := by
  have ex := exists_yes h ok.1.one
  by_cases a0 : a < 0
  · obtain ⟨rfl, rfl⟩ := atR_no hA fun i hi => by omega
    have d0 : decide (a < 0) = true := decide_eq_true a0
    clear hA ok h
    go_enter Try.func11, Try.ntmps11
    go_wp2_with (go_at_call 34; refine ex.mono ?_; rintro e w' ⟨rfl, rfl⟩)
    go_ret2
    exact ⟨rfl, Bel.refl _⟩
  obtain ⟨A, rfl⟩ : ∃ A : Nat, a = A := ⟨a.toNat, by omega⟩
  have d0 : decide ((A : Int) < 0) = false := decide_eq_false a0
  have a1 : (0 : Int) ≤ (A : Int) := by omega
  have bA : A ≤ 9223372036854775807 := by unfold i64b' at ha; omega
  have gp := ok.1.pos
  have bg : P.g ≤ 64 := (ok.2.2.2.2.2 0 ok.1.one).2.2.2.2
  have c0 := h.2.2.1
  obtain ⟨Q, hQ⟩ : ∃ Q, A / P.g = Q := ⟨_, rfl⟩
  have g0 : (P.g : Int) ≠ 0 := by omega
  have eq : (A : Int) / (P.g : Int) = (Q : Int) := by rw [← hQ]; exact (Int.natCast_ediv A P.g).symm
  have bQ : Q ≤ 9223372036854775807 := by rw [← hQ]; exact Nat.le_trans (Nat.div_le_self _ _) bA
  have dn := pin_at w h ok (Q : Nat)
  by_cases hT : P.hasQ (Q : Nat)
  · have hT' : Q < P.T := by unfold Pl.hasQ at hT; omega
    obtain ⟨e1, e2, e3⟩ := Pl.in_ok hT'
    rw [e1, e2, e3] at dn
    clear e1 e2 e3
    obtain ⟨k, x, hk, hx, rfl⟩ := Pl.page_of hT'
    rw [Pl.fi_at hk hx, Pl.mn_at hk hx] at dn
    have few := Pl.mul_few ok.1 hk hx
    have hf2 := ok.1.f2 k hk
    have bf := (ok.2.2.2.2.2 k hk).2.2.2.1
    have be := (ok.2.2.2.2.2 k hk).2.1
    have bfo := (ok.fo k hk)
    have hS := Pl.fo_S hk few
    have sz := fun W (kk : Bel w W) => psize_at W (h.bel kk) ok ((P.fo k + x * P.e k : Nat) : Int)
    have hsz : P.slR P.sz ((P.fo k + x * P.e k : Nat) : Int) = (P.f k : Nat) ∧ P.slE ((P.fo k + x * P.e k : Nat) : Int) = 0 := by
      rw [Pl.slR_ok hS, Pl.slE_ok hS, Pl.sz_at hk few]
      exact ⟨rfl, rfl⟩
    rw [hsz.1, hsz.2] at sz
    clear hsz
    obtain ⟨B, hB⟩ : ∃ B, A % P.g = B := ⟨_, rfl⟩
    have bB : B < 64 := by have := Nat.mod_lt A gp; omega
    have er : (A : Int) % (P.g : Int) = (B : Int) := by rw [← hB]; exact (Int.natCast_emod A P.g).symm
    obtain ⟨R, hR⟩ : ∃ R, B % P.f k = R := ⟨_, rfl⟩
    obtain ⟨D, hD⟩ : ∃ D, B / P.f k = D := ⟨_, rfl⟩
    have bD : D ≤ 64 := by rw [← hD]; exact Nat.le_trans (Nat.div_le_self _ _) (by omega)
    have eR : (B : Int) % (P.f k : Int) = (R : Int) := by rw [← hR]; exact (Int.natCast_emod B (P.f k)).symm
    have eD : (B : Int) / (P.f k : Int) = (D : Int) := by rw [← hD]; exact (Int.natCast_ediv B (P.f k)).symm
    have f0 : (P.f k : Int) ≠ 0 := by omega
    have B0 : (0 : Int) ≤ (B : Int) := by omega
    obtain ⟨F, hF⟩ : ∃ F, P.fo k + x * P.e k = F := ⟨_, rfl⟩
    obtain ⟨M, hM⟩ : ∃ M, min (P.e k) (P.s k - x * P.e k) = M := ⟨_, rfl⟩
    have bF : F ≤ 32768 := by have := ok.2.1; omega
    have bM : M ≤ 64 := by omega
    have fin : (R = 0 ∧ D < M → r = (F + D : Nat) ∧ e = 0) ∧ (¬ (R = 0 ∧ D < M) → r = 0 ∧ e = 7) := by
      refine ⟨fun y => ?_, fun y => atR_no hA fun i hi ei => ?_⟩
      · have dm := Nat.div_add_mod A P.g
        have fm := Nat.div_add_mod B (P.f k)
        rw [hR, hD, y.1, Nat.mul_comm] at fm
        rw [hQ, hB, Nat.mul_comm] at dm
        have z := Pl.at_yes ok.1 (A := A) hk (x := x) (r := D) (by omega) (by omega)
        have z2 := atR_yes ok.1 hA z.1 (by omega)
        rw [hF] at z2
        exact z2
      · have z := Pl.at_no ok.1 hi (A := A) (by omega) hk hx hQ
        rw [hB, hR, hD, hM] at z
        exact y z
    rw [hF, hM] at dn
    rw [hF] at sz
    have c1 := fun W (kk : Bel w W) => cell_bel kk c0
    have e2 : (F : Int) + (D : Int) = ((F + D : Nat) : Int) := by omega
    have b2 : F + D ≤ 65536 := by omega
    clear hA h ok hT hT' hQ hk hx few hf2 bf be bfo hS hB hR hD hF hM bg gp ha
    generalize F + D = Z at *
    generalize P.f k = xf at *
    generalize P.g = pg at *
    generalize P.po k + x = Q at *
    by_cases y : R = 0
    · have R0 : ((R : Int) != 0) = false := by simp; omega
      have R1 : decide ((R : Int) ≠ 0) = false := by simp; omega
      subst y
      by_cases z : D < M
      · obtain ⟨rfl, rfl⟩ := fin.1 ⟨rfl, z⟩
        have z1 : decide ((M : Int) ≤ (D : Int)) = false := decide_eq_false (by omega)
        have z2 : decide (M ≤ D) = false := decide_eq_false (by omega)
        clear fin
        go_enter Try.func11, Try.ntmps11
        go_wp2_with (first
          | (go_at_call 34; refine ex.mono ?_; rintro e w' ⟨rfl, rfl⟩)
          | (go_at_call 24; refine dn.mono ?_; rintro e w' ⟨rfl, hg⟩)
          | (go_at_call 22; refine (sz _ (by assumption)).mono ?_; rintro e w2 ⟨rfl, hg2⟩; have c2 := cell_bel hg2 (c1 _ (by assumption))))
        go_ret2
        exact ⟨by go_num, hg.trans hg2⟩
      · obtain ⟨rfl, rfl⟩ := fin.2 (fun h => z h.2)
        have z1 : decide ((M : Int) ≤ (D : Int)) = true := decide_eq_true (by omega)
        have z2 : decide (M ≤ D) = true := decide_eq_true (by omega)
        clear fin
        go_enter Try.func11, Try.ntmps11
        go_wp2_with (first
          | (go_at_call 34; refine ex.mono ?_; rintro e w' ⟨rfl, rfl⟩)
          | (go_at_call 24; refine dn.mono ?_; rintro e w' ⟨rfl, hg⟩)
          | (go_at_call 22; refine (sz _ (by assumption)).mono ?_; rintro e w2 ⟨rfl, hg2⟩; have c2 := cell_bel hg2 (c1 _ (by assumption))))
        go_ret2
        exact ⟨rfl, hg.trans hg2⟩
    · have R0 : ((R : Int) != 0) = true := by simp; omega
      have R1 : decide ((R : Int) ≠ 0) = true := by simp; omega
      have R2 : decide (R = 0) = false := decide_eq_false y
      have R3 : ((R : Int) == 0) = false := by simp; omega
      obtain ⟨rfl, rfl⟩ := fin.2 (fun h => y h.1)
      clear fin
      go_enter Try.func11, Try.ntmps11
      go_wp2_with (first
        | (go_at_call 34; refine ex.mono ?_; rintro e w' ⟨rfl, rfl⟩)
        | (go_at_call 24; refine dn.mono ?_; rintro e w' ⟨rfl, hg⟩)
        | (go_at_call 22; refine (sz _ (by assumption)).mono ?_; rintro e w2 ⟨rfl, hg2⟩; have c2 := cell_bel hg2 (c1 _ (by assumption))))
      go_ret2
      exact ⟨rfl, hg.trans hg2⟩
  · have no : ∀ i : Nat, i < P.S → (P.ad i : Int) ≠ (A : Nat) := fun i hi e => hT ⟨by omega, by
      have := Pl.at_page ok.1 hi (A := A) (by omega)
      omega⟩
    obtain ⟨rfl, rfl⟩ := atR_no hA no
    obtain ⟨e1, e2, e3⟩ := Pl.in_not hT
    rw [e1, e2, e3] at dn
    clear e1 e2 e3 no hA h ok hT hQ
    generalize P.g = pg at *
    go_enter Try.func11, Try.ntmps11
    go_wp2_with (first
      | (go_at_call 34; refine ex.mono ?_; rintro e w' ⟨rfl, rfl⟩)
      | (go_at_call 24; refine dn.mono ?_; rintro e w' ⟨rfl, hg⟩))
    go_ret2
    exact ⟨rfl, hg⟩

end Go.Proofs.Ytnnbeecjjbnpbaa
