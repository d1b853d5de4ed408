/- The least of words is one of them, canonical, and does not hang on their order, for any list of at most 100 words. -/
import Derived.Test.YtagempkaophnaaaRows
import Derived.Test.YtagempkaophnaaaLeaW
import Derived.WalkKit
import Derived.ProofKit
import Derived.OpenShut
namespace Go.Proofs.Ytagempkaophnaaa.realLeasts
open Go.ChangeShapes Go.WideShapes Go.ChangeAt Go.RowKit
set_option linter.unusedVariables false

theorem own : ownKnob Try.prog.godebug = none := by kernel_rfl

/-! The walk. -/
set_option maxRecDepth 100000 in
set_option maxHeartbeats 4000000 in
theorem walk (p : Option Addr) (n cap : Nat) (f : Nat → Nat) (t : Int) (wt : (Lit.int .i64 t).wf = true) (w : World) (h : Words w (.slice p n cap) n f) (hf : ∀ j, f j < 18446744073709551616) (hb : n ≤ 9223372036854775807) :
    Calls Try.prog 9 #[.slice p n cap, .int .i64 t] w fun e w' => e = .returned (.bool true) ∧ Keeps w w' := by
  have l0 : ∀ w, Calls Try.prog 26 #[.slice none 0 0] w fun e w' => e = .returned (.int .u64 9221120237041090560) ∧ w' = w := fun w => least_any _ 0 (fun _ => 0) w (words_nil w _) (fun _ => by omega)
  by_cases c : n ≤ 100
  · rcases h with ⟨rfl, _⟩ | ⟨b, off, cap', hv, h1, h2, h3, hc⟩
    · clear hf c hb
      go_enter Try.func9, Try.ntmps9
      go_wp2_with (first
        | (go_at_call 26; ((with_reducible refine (l0 _).mono ?_); rintro e w' ⟨rfl, hw⟩; rw [hw]))
        | (go_at_call 19; refine (awake_any _).mono ?_; rintro e w' ⟨rfl, hga⟩))
      go_ret
      exact ⟨rfl, Keeps.of_grown (by assumption)⟩
    · cases hv
      have nb : (t.tmod (n : Int)).natAbs < n := by
        rw [Int.natAbs_tmod, Int.natAbs_natCast]; exact Nat.mod_lt _ (by omega)
      by_cases neg : t.tmod (n : Int) < 0
      · exact leasts_neg b off n cap (t.tmod (n : Int) + (n : Int)).toNat f t (t.tmod (n : Int)) w (Or.inr ⟨b, off, cap, rfl, h1, h2, h3, hc⟩) hf h1 h2 h3 (cell_block (hc 0 (by omega))).1 hc c rfl neg (by omega) (by omega) (by omega)
      · exact leasts_pos b off n cap (t.tmod (n : Int)).toNat f t (t.tmod (n : Int)) w (Or.inr ⟨b, off, cap, rfl, h1, h2, h3, hc⟩) hf h1 h2 h3 (cell_block (hc 0 (by omega))).1 hc c rfl neg (by omega) (by omega)
  · clear h hf
    have big : decide (100 < (n : Int)) = true := decide_eq_true (by omega)
    go_enter Try.func9, Try.ntmps9
    go_wp2_with (first
      | (go_at_call 26; ((with_reducible refine (l0 _).mono ?_); rintro e w' ⟨rfl, hw⟩; rw [hw]))
      | (go_at_call 19; refine (awake_any _).mono ?_; rintro e w' ⟨rfl, hga⟩))
    go_ret
    exact ⟨rfl, Keeps.of_grown (by assumption)⟩

/-! The row. -/
set_option maxRecDepth 100000 in
theorem lifted (os : Os) (started : os.Started) (H : Type) (enc : TypeId × Value → H) :
    ReturnsInHanded {} Try.checked os 9 .any (Rows.realLeastsSpec.pre6 enc Try.prog Try.f9 Rows.realLeastsRow.domain false) (Rows.realLeastsSpec.post enc Try.prog Try.f9 false true false false) := by
  refine returnsInHanded_of_change (C := Try.checked) own started (by kernel_rfl) Try.func9
    (ChangeSpec.witness6 (enc := enc) (C := Try.checked) false ⟨#[], #[.slice none 0 0, .int .i64 0], []⟩ 8 (by kernel_rfl) (by kernel_rfl) (by kernel_rfl) (by kernel_rfl)) ?_
  intro W base args ds gs before hval0 hW hcnd _
  have hval : ∀ (j : Nat) t v, Try.f9.params[j]? = some t → args[j]? = some v → Value.okWide Try.prog W .any base t v := hval0
  have hW' := hW
  obtain ⟨p, q, hA0, hV, rfl, hfz, hnd⟩ := hW
  have hA : DataW.TrodAll enc Try.prog W 0 (fun _ => true) true Try.f9.params.toList args.toList ds p := hA0
  rw [Try.params9] at hA hval
  obtain ⟨v0, vs0, d0, ds0, p0, q0, hargs, rfl, rfl, h0, r0⟩ := trodAll_cons hA
  obtain ⟨v1, vs1, d1, ds1, p1, q1, hargs1, rfl, rfl, h1, r1⟩ := trodAll_cons r0
  obtain ⟨rfl, rfl, rfl⟩ := trodAll_nil r1
  subst hargs1
  obtain rfl : args = #[v0, v1] := by cases args; simp_all
  obtain ⟨rfl, rfl⟩ := trodVars_none hV
  obtain ⟨a0, len, cap, rfl⟩ := okWide_slice Try.underlying32 (hval 0 32 v0 rfl rfl)
  obtain ⟨t, rfl, rfl, rfl, wt⟩ := open_int Try.underlying3 (hval 1 3 v1 rfl rfl) h1
  obtain ⟨fuel, hfu⟩ := h0
  clear hA0 hval0
  simp only [List.append_nil] at hW'
  rcases open_ints Try.underlying32 Try.underlying22 cells22 hfu with ⟨hcs, hx⟩ | ⟨a, len', cap', zs, hcs, _, hl, hm, hz, hx, hcell, hwz⟩
  · simp [Value.cells] at hcs
    obtain ⟨rfl, rfl, rfl⟩ := hcs
    simp only [Prod.mk.injEq] at hx
    obtain ⟨rfl, rfl⟩ := hx
    refine (walk none 0 0 (fun _ => 0)  t wt W (words_nil W _) (fun _ => by omega) (by omega)).mono fun e W' ⟨he, hg⟩ => ?_
    subst he
    exact ⟨_, rfl, post_keeps (pa := []) (pv := []) hW' (fun _ _ _ => (trodAll_cons_mk (shut_bool Try.underlying4 _) trodAll_mk0)) (fun sp _ => (trodAll_cons_mk (shut_slice_nil Try.underlying32) (trodAll_cons_mk (shut_int Try.underlying3 wt) trodAll_mk0))) (fun _ _ => rfl) rfl
      (World.keptBut_mono (fun _ h => h.elim) hg.1)⟩
  · simp [Value.cells] at hcs
    obtain ⟨rfl, rfl, rfl⟩ := hcs
    simp only [Prod.mk.injEq] at hx
    obtain ⟨rfl, rfl⟩ := hx
    simp only [if_true] at hz
    obtain ⟨hw, hf⟩ := words_of hl hm hz hcell hwz
    refine (walk (some a) len cap (fun j => (zs.getD j 0).toNat) t wt W hw hf (le_max (Nat.le_trans hl hm))).mono fun e W' ⟨he, hg⟩ => ?_
    subst he
    exact ⟨_, rfl, post_keeps (pa := MemPlace.row a zs.length) (pv := []) hW' (fun _ _ _ => (trodAll_cons_mk (shut_bool Try.underlying4 _) trodAll_mk0))
      (fun sp hsp => (List.append_nil (MemPlace.row a zs.length)) ▸ (trodAll_cons_mk (again_keeps Try.underlying32 Try.underlying22 cells22 hg hl hm hz hcell hwz sp (fun q hq => hsp q (by simpa using hq))) (trodAll_cons_mk (shut_int Try.underlying3 wt) trodAll_mk0))) (fun _ _ => rfl) (by simp)
      (World.keptBut_mono (fun _ h => h.elim) hg.1)⟩

theorem over : Rows.realLeastsRow.holds Try.pinned (OpenSpec.ofChange Rows.realLeastsSpec) :=
  OpenClaim.holds_of_wide 9 Try.f9 rfl rfl rfl rfl rfl rfl rfl ⟨rfl, rfl, rfl, rfl, rfl⟩ rfl rfl rfl rfl rfl (by kernel_rfl) Try.func9 (by kernel_rfl)
    (of_decide_eq_true (by kernel_rfl)) (by unfold Func.isWrapper; first | (rw [if_pos (by decide +kernel)]; kernel_rfl) | (rw [if_neg (by decide +kernel)]; exact ⟨rfl, rfl⟩))
    (fun os started H enc _ => lifted os started H enc)

/-- The statement. -/
theorem proved : Rows.RealLeastsSaid :=
  over
#print axioms proved
end Go.Proofs.Ytagempkaophnaaa.realLeasts
