/- What Unpack tells is what Get tells of each field, and a word whose fields are all set to 0 is 0; the law itself lets more than 100 widths go. -/
import Derived.Test.YtdenpmckekcokaaOpen
namespace Go.Proofs.Ytdenpmckekcokaa.fieldParts
open Go.ChangeShapes Go.WideShapes Go.ChangeAt Go.RowKit
set_option linter.unusedVariables false

/-! The walk. -/
/-- the law answers true, and all that lay there lies as it lay -/
def Post (w : World) (e : Ending) (w' : World) : Prop := e = .returned (.bool true) ∧ Below w.heap.size w w'

set_option maxRecDepth 100000 in
theorem walk_big (p : Option Addr) (n cap u : Nat) (w : World) (h : 100 < n) : Calls Try.prog 7 #[.slice p n cap, .int .u64 (u : Nat)] w (Post w) := by
  have d1 : decide (100 < (n : Int)) = true := decide_eq_true (by omega)
  go_enter Try.func7, Try.ntmps7
  go_wp2_with (go_at_call 13; refine (awake_any _).mono ?_; rintro e w' ⟨rfl, hg6⟩)
  go_ret
  exact ⟨rfl, hg6⟩

set_option maxRecDepth 100000 in
theorem walk_no (p : Option Addr) (n cap u : Nat) (E2 : Int) (w : World) (h : n ≤ 100) (hE2 : ((E2 : Int) != 0) = true)
    (a4 : Calls Try.prog 16 #[.slice p n cap, .int .u64 (u : Nat)] w fun e w'' => ∃ r c, e = .returned (.tuple #[.slice r 0 c, .int .i64 E2]) ∧ Bel w w'') :
    Calls Try.prog 7 #[.slice p n cap, .int .u64 (u : Nat)] w (Post w) := by
  have d1 : decide (100 < (n : Int)) = false := decide_eq_false (by omega)
  go_enter Try.func7, Try.ntmps7
  go_wp2_with (first
    | (go_at_call 16; refine a4.mono ?_; rintro e w' ⟨r, c, rfl, hg4⟩)
    | (go_at_call 13; refine (awake_any _).mono ?_; rintro e w' ⟨rfl, hg6⟩))
  go_ret
  exact ⟨rfl, hg4.trans hg6⟩

set_option maxRecDepth 100000 in
set_option maxHeartbeats 4000000 in
theorem walk_yes (b1 off1 n cap u : Nat) (F : Nat → Int) (w : World) (hn : 1 ≤ n) (h : n ≤ 100) (hc : n ≤ cap) (hF : ∀ j, j < n → w.cell? ⟨b1, off1 + j, none⟩ = some (.int .i64 (F j))) (hFb : ∀ j, -9223372036854775808 ≤ F j ∧ F j ≤ 9223372036854775807) (hu : u < 18446744073709551616)
    (ok : okTo F n) (ft : u < 2 ^ start F n)
    (a4 : Calls Try.prog 16 #[.slice (some ⟨b1, off1, none⟩) n cap, .int .u64 (u : Nat)] w fun e w'' => ∃ b2 off2 cap2, e = .returned (.tuple #[.slice (some ⟨b2, off2, none⟩) n cap2, .int .i64 0]) ∧ n ≤ cap2 ∧ cap2 ≤ 9223372036854775807 ∧ (∀ j, j < n → w''.cell? ⟨b2, off2 + j, none⟩ = some (.int .u64 (unG F u j : Nat))) ∧ Bel w w'') :
    Calls Try.prog 7 #[.slice (some ⟨b1, off1, none⟩) n cap, .int .u64 (u : Nat)] w (Post w) := by
  have d1 : decide (100 < (n : Int)) = false := decide_eq_false (by omega)
  have hid0 := Lib.hid (And.intro hF (And.intro hFb (And.intro hu (And.intro ok ft))))
  clear hF hFb hu ok ft
  go_enter Try.func7, Try.ntmps7
  go_wp2_with (go_at_call 16; refine a4.mono ?_; rintro e w1 ⟨b2, off2, cap2, rfl, hc2, hbig2, hl, hg4⟩; have hidl := Lib.hid hl; clear hl a4)
  go_loopw [7, 8, 9] (fun s x i wr => ∃ k : Nat, k ≤ n ∧ s = .int .i64 (start F k : Nat) ∧ x = .int .u64 (zeroTo F u k : Nat) ∧ i = .int .i64 (k : Nat) ∧ Bel w1 wr) (fun _ _ i _ => n - (intOf i).toNat)
  case atStart => exact ⟨0, Nat.zero_le _, rfl, rfl, rfl, Bel.refl _⟩
  case round =>
    obtain ⟨k, hk, rfl, rfl, rfl, hbr⟩ := hrel
    obtain ⟨hF, hFb, hu, ok, ft⟩ := hid0.out
    have hok := okTo_le ok hk
    have sk := start_le hok
    by_cases ck : k < n
    · have cF : wr.cell? ⟨b1, off1 + k, none⟩ = some (.int .i64 (F k)) := cell_bel hbr (cell_bel hg4 (hF k ck))
      have cL : wr.cell? ⟨b2, off2 + k, none⟩ = some (.int .u64 (unG F u k : Nat)) := cell_bel hbr (hidl.out k ck)
      obtain ⟨o1, o2⟩ := ok k ck
      obtain ⟨M, hM⟩ : ∃ M : Nat, F k = M := ⟨(F k).toNat, by omega⟩
      have zl := zeroTo_lt hok hu
      rw [hM] at o1 o2 cF
      have gt := fun w => (get_ok u (start F k) M w hu (by omega) (by omega)).mono fun e w' ⟨a, b⟩ => (⟨a, Bel.of_drew b⟩ : _ ∧ Bel w w')
      have st := fun w => (set_ok (zeroTo F u k) (start F k) M 0 w zl (by omega) (by omega) (Nat.two_pow_pos _)).mono fun e w' ⟨a, b⟩ => (⟨a, Bel.of_drew b⟩ : _ ∧ Bel w w')
      have sS : start F (k + 1) = start F k + (F k).toNat := rfl
      have sZ : zeroTo F u (k + 1) = setV (zeroTo F u k) (start F k) (F k).toNat 0 := rfl
      have eG : unG F u k = getV u (start F k) (F k).toNat := rfl
      rw [hM, Int.toNat_natCast] at sS sZ eG
      rw [eG] at cL
      rw [← sZ] at st
      have s2 : start F k + M ≤ 64 := by omega
      have kI : (k : Int) < (n : Int) := by omega
      have k0 : (0 : Int) ≤ (k : Int) := by omega
      generalize getV u (start F k) M = R at *
      generalize hZ : zeroTo F u (k + 1) = Z at *
      have hid := Lib.hid (And.intro sS (And.intro hZ hbr))
      clear hF hFb hok ok sS sZ hM eG hu ft hbr zl hZ
      generalize start F k = S at *
      generalize zeroTo F u k = Z0 at *
      go_wp2_with (first
        | (go_at_call 9; refine (gt _).mono ?_; rintro e w2 ⟨rfl, hb2⟩; have cF2 := cell_bel hb2 cF; have cL2 := cell_bel hb2 cL)
        | (go_at_call 11; refine (st _).mono ?_; rintro e w3 ⟨rfl, hb3⟩; have cF3 := cell_bel hb3 cF2; have cL3 := cell_bel hb3 cL2))
      go_roundw
      case rel => exact ⟨k + 1, by omega, by rw [hid.out.1]; go_num, by rw [hid.out.2.1], by go_num, (hid.out.2.2.trans hb2).trans hb3⟩
      case measure => simp only [intOf]; omega
    · obtain rfl : k = n := by omega
      have z := zeroTo_all ok hu ft
      rw [z]
      clear hF hFb hok ok ft z
      go_wp2_with (go_at_call 13; refine (awake_any _).mono ?_; rintro e w' ⟨rfl, hg6⟩)
      go_ret
      exact ⟨rfl, hg4.trans (hbr.trans hg6)⟩

theorem walk (ws : Value) (n u : Nat) (F : Nat → Int) (w : World) (hF : Nums w ws n F) (hFb : ∀ j, -9223372036854775808 ≤ F j ∧ F j ≤ 9223372036854775807) (hu : u < 18446744073709551616) :
    Calls Try.prog 7 #[ws, .int .u64 (u : Nat)] w (Post w) := by
  have k := unpack_any ws n u F w hF hFb hu
  unfold UnAns at k
  by_cases big : 100 < n
  · obtain ⟨p, cap, rfl⟩ := slice_cases hF
    exact walk_big p n cap u w big
  · by_cases ok : 1 ≤ n ∧ okTo F n
    · by_cases ft : u < 2 ^ start F n
      · rw [unE_ok ok.1 ok.2 ft, unN_ok ok.1 ok.2 ft] at k
        rcases hF with ⟨h, _⟩ | ⟨b1, off1, cap1, rfl, hn, hc, hbig, hF⟩
        · omega
        · refine walk_yes b1 off1 n cap1 u F w hn (by omega) hc hF hFb hu ok.2 ft (k.mono fun e w'' ⟨l, h1, h2, h3⟩ => ?_)
          rcases h2 with ⟨h, _⟩ | ⟨b2, off2, cap2, rfl, _, x2, x3, x4⟩
          · omega
          · exact ⟨b2, off2, cap2, h1, x2, x3, x4, h3⟩
      · obtain ⟨p, cap, rfl⟩ := slice_cases hF
        rw [unE_form ok.1 ok.2 ft, unN_form ft] at k
        refine walk_no p n cap u 5 w (by omega) rfl (k.mono fun e w'' ⟨l, h1, h2, h3⟩ => ?_)
        obtain ⟨r, c, rfl⟩ := slice_cases h2
        exact ⟨r, c, h1, h3⟩
    · obtain ⟨p, cap, rfl⟩ := slice_cases hF
      rw [unE_no ok, unN_no ok] at k
      refine walk_no p n cap u 2 w (by omega) rfl (k.mono fun e w'' ⟨l, h1, h2, h3⟩ => ?_)
      obtain ⟨r, c, rfl⟩ := slice_cases h2
      exact ⟨r, c, h1, h3⟩

/-! The row. -/
set_option maxRecDepth 100000 in
theorem lifted (os : Os) (started : os.Started) (H : Type) (enc : TypeId × Value → H) :
    ReturnsInHanded {} Try.checked os 7 .any (Rows.fieldPartsSpec.pre6 enc Try.prog Try.f7 Rows.fieldPartsRow.domain false) (Rows.fieldPartsSpec.post enc Try.prog Try.f7 false true false false) := by
  refine lift_law (C := Try.checked) own started (by kernel_rfl) Try.func7 laid rowed full (by rw [Try.params7]; decide) rfl (by kernel_rfl) Try.underlying4
    (fun ds h => by rw [Try.params7] at h; match ds, h with | [_, _], _ => rfl)
    (ChangeSpec.witness6 (enc := enc) (C := Try.checked) false ⟨#[], #[.slice none 0 0, .int .u64 0], []⟩ 8 (by kernel_rfl) (by kernel_rfl) (by kernel_rfl) (by kernel_rfl)) ?_
  intro W base args ds p hval hA
  change ∀ (j : Nat) t v, Try.f7.params[j]? = some t → args[j]? = some v → Value.okWide Try.prog W .any base t v at hval
  change DataW.TrodAll enc Try.prog W 0 (fun _ => true) true Try.f7.params.toList args.toList ds p at hA
  rw [Try.params7] at hA hval
  obtain ⟨v0, vs0, d0, ds0, p0, q0, hargs, rfl, rfl, h0, r0⟩ := trodAll_cons hA
  obtain ⟨v1, vs1, d1, ds1, p1, q1, hargs1, rfl, rfl, h1, r1⟩ := trodAll_cons r0
  obtain ⟨rfl, rfl, rfl⟩ := trodAll_nil r1
  subst hargs1
  obtain rfl : args = #[v0, v1] := by cases args; simp_all
  obtain ⟨n, F, hF, hFb, hn⟩ := get_nums Try.underlying34 Try.underlying3 cells3 (hval 0 34 v0 rfl rfl) h0
  obtain ⟨u, rfl, hu⟩ := get_u64 Try.underlying22 (hval 1 22 v1 rfl rfl) h1
  exact walk v0 n u F W hF hFb hu

theorem over : Rows.fieldPartsRow.holds Try.pinned (OpenSpec.ofChange Rows.fieldPartsSpec) :=
  OpenClaim.holds_of_wide 7 Try.f7 rfl rfl rfl rfl rfl rfl rfl ⟨rfl, rfl, rfl, rfl, rfl⟩ rfl rfl rfl rfl rfl (by kernel_rfl) Try.func7 (by kernel_rfl)
    (of_decide_eq_true (by kernel_rfl)) (by unfold Func.isWrapper; first | (rw [if_pos (by decide +kernel)]; kernel_rfl) | (rw [if_neg (by decide +kernel)]; exact ⟨rfl, rfl⟩))
    (fun os started H enc _ => lifted os started H enc)

/-- The statement. -/
theorem proved : Rows.FieldPartsSaid :=
  over
#print axioms proved
end Go.Proofs.Ytdenpmckekcokaa.fieldParts
