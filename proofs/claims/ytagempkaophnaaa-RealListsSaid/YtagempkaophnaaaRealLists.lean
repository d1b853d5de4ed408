/- Sum and Least of the program answer what the document's do, of any list of at most 200 words. -/
import Derived.Test.YtagempkaophnaaaRows
import Derived.Test.YtagempkaophnaaaSlice
import Derived.WalkKit
import Derived.ProofKit
import Derived.OpenShut
namespace Go.Proofs.Ytagempkaophnaaa.realLists
open Go.ChangeShapes Go.WideShapes Go.ChangeAt Go.RowKit
set_option linter.unusedVariables false

theorem own : ownKnob Try.prog.godebug = none := by kernel_rfl

/-! The walk. -/
set_option maxHeartbeats 4000000 in
theorem walk (p : Option Addr) (n cap : Nat) (f : Nat → Nat) (w : World) (h : Words w (.slice p n cap) n f) (hf : ∀ j, f j < 18446744073709551616) (hb : n ≤ 9223372036854775807) :
    Calls Try.prog 5 #[.slice p n cap] w fun e w' => e = .returned (.bool true) ∧ Grown w w' := by
  by_cases c : n ≤ 200
  · have s : ∀ wr, Grown w wr → Calls Try.prog 24 #[.slice p n cap] wr fun e w' => e = .returned (.int .u64 (sumN f n : Nat)) ∧ Grown w w' := fun wr g => sumG h hf g
    have rs : ∀ wr, Grown w wr → Calls Try.prog 25 #[.slice p n cap] wr fun e w' => e = .returned (.int .u64 (sumN f n : Nat)) ∧ Grown w w' := fun wr g => rsumG h hf g
    have l : ∀ wr, Grown w wr → Calls Try.prog 26 #[.slice p n cap] wr fun e w' => e = .returned (.int .u64 (leastN f n : Nat)) ∧ w' = wr := fun wr g => leastG h hf g
    have rl : ∀ wr, Grown w wr → Calls Try.prog 27 #[.slice p n cap] wr fun e w' => e = .returned (.int .u64 (leastN f n : Nat)) ∧ w' = wr := fun wr g => rleastG h hf g
    generalize sumN f n = a at *
    generalize leastN f n = b at *
    clear h hf
    go_enter Try.func5, Try.ntmps5
    go_wp2_with (first
      | (go_at_call 24; refine (s _ (by first | assumption | exact Grown.refl _)).mono ?_; rintro e w' ⟨rfl, hg⟩)
      | (go_at_call 25; refine (rs _ (by first | assumption | exact Grown.refl _)).mono ?_; rintro e w' ⟨rfl, hg⟩)
      | (go_at_call 26; refine (l _ (by first | assumption | exact Grown.refl _)).mono ?_; rintro e w' ⟨rfl, hw⟩; rw [hw])
      | (go_at_call 27; refine (rl _ (by first | assumption | exact Grown.refl _)).mono ?_; rintro e w' ⟨rfl, hw⟩; rw [hw])
      | (go_at_call 19; refine (awake_any _).mono ?_; rintro e w' ⟨rfl, hg⟩))
    go_ret
    refine ⟨rfl, ?_⟩
    repeat (first | assumption | exact Grown.refl _ | refine grown_trans ?_ (by assumption))
  · clear h hf
    go_enter Try.func5, Try.ntmps5
    go_wp2_with (go_at_call 19; refine (awake_any _).mono ?_; rintro e w' ⟨rfl, hg⟩)
    go_ret
    refine ⟨rfl, ?_⟩
    repeat (first | assumption | exact Grown.refl _ | refine grown_trans ?_ (by assumption))

/-! The row. -/
set_option maxRecDepth 100000 in
theorem lifted (os : Os) (started : os.Started) (H : Type) (enc : TypeId × Value → H) :
    ReturnsInHanded {} Try.checked os 5 .any (Rows.realListsSpec.pre6 enc Try.prog Try.f5 Rows.realListsRow.domain false) (Rows.realListsSpec.post enc Try.prog Try.f5 false true false false) := by
  refine returnsInHanded_of_change (C := Try.checked) own started (by kernel_rfl) Try.func5
    (ChangeSpec.witness6 (enc := enc) (C := Try.checked) false ⟨#[], #[.slice none 0 0], []⟩ 8 (by kernel_rfl) (by kernel_rfl) (by kernel_rfl) (by kernel_rfl)) ?_
  intro W base args ds gs before hval0 hW hcnd _
  have hval : ∀ (j : Nat) t v, Try.f5.params[j]? = some t → args[j]? = some v → Value.okWide Try.prog W .any base t v := hval0
  have hW' := hW
  obtain ⟨p, q, hA0, hV, rfl, hfz, hnd⟩ := hW
  have hA : DataW.TrodAll enc Try.prog W 0 (fun _ => true) true Try.f5.params.toList args.toList ds p := hA0
  rw [Try.params5] at hA hval
  obtain ⟨v0, vs0, d0, ds0, p0, q0, hargs, rfl, rfl, h0, r0⟩ := trodAll_cons hA
  obtain ⟨rfl, rfl, rfl⟩ := trodAll_nil r0
  obtain rfl : args = #[v0] := by cases args; simp_all
  obtain ⟨rfl, rfl⟩ := trodVars_none hV
  obtain ⟨a0, len, cap, rfl⟩ := okWide_slice Try.underlying32 (hval 0 32 v0 rfl rfl)
  obtain ⟨fuel, hfu⟩ := h0
  clear hA0 hval0
  simp only [List.append_nil] at hW'
  rcases open_ints Try.underlying32 Try.underlying22 cells22 hfu with ⟨hcs, hx⟩ | ⟨a, len', cap', zs, hcs, _, hl, hm, hz, hx, hcell, hwz⟩
  · simp [Value.cells] at hcs
    obtain ⟨rfl, rfl, rfl⟩ := hcs
    simp only [Prod.mk.injEq] at hx
    obtain ⟨rfl, rfl⟩ := hx
    refine (walk none 0 0 (fun _ => 0)  W (words_nil W _) (fun _ => by omega) (by omega)).mono fun e W' ⟨he, hg⟩ => ?_
    subst he
    exact ⟨_, rfl, post_of_same (pa := []) (pv := []) hW' (fun _ _ _ => (trodAll_cons_mk (shut_bool Try.underlying4 _) trodAll_mk0)) (fun sp _ => (trodAll_cons_mk (shut_slice_nil Try.underlying32) trodAll_mk0)) (fun _ _ => rfl) rfl
      (hg.frame _) hg.2.1 (ok_one (by kernel_rfl) rfl (okWide_bool_mk Try.underlying4 _))⟩
  · simp [Value.cells] at hcs
    obtain ⟨rfl, rfl, rfl⟩ := hcs
    simp only [Prod.mk.injEq] at hx
    obtain ⟨rfl, rfl⟩ := hx
    simp only [if_true] at hz
    obtain ⟨hw, hf⟩ := words_of hl hm hz hcell hwz
    refine (walk (some a) len cap (fun j => (zs.getD j 0).toNat) W hw hf (le_max (Nat.le_trans hl hm))).mono fun e W' ⟨he, hg⟩ => ?_
    subst he
    exact ⟨_, rfl, post_of_same (pa := MemPlace.row a zs.length) (pv := []) hW' (fun _ _ _ => (trodAll_cons_mk (shut_bool Try.underlying4 _) trodAll_mk0))
      (fun sp hsp => (List.append_nil (MemPlace.row a zs.length)) ▸ (trodAll_cons_mk (again_ints Try.underlying32 Try.underlying22 cells22 hg hl hm hz hcell hwz sp (fun q hq => hsp q (by simpa using hq))) trodAll_mk0)) (fun _ _ => rfl) (by simp)
      (hg.frame _) hg.2.1 (ok_one (by kernel_rfl) rfl (okWide_bool_mk Try.underlying4 _))⟩

theorem over : Rows.realListsRow.holds Try.pinned (OpenSpec.ofChange Rows.realListsSpec) :=
  OpenClaim.holds_of_wide 5 Try.f5 rfl rfl rfl rfl rfl rfl rfl ⟨rfl, rfl, rfl, rfl, rfl⟩ rfl rfl rfl rfl rfl (by kernel_rfl) Try.func5 (by kernel_rfl)
    (of_decide_eq_true (by kernel_rfl)) (by unfold Func.isWrapper; first | (rw [if_pos (by decide +kernel)]; kernel_rfl) | (rw [if_neg (by decide +kernel)]; exact ⟨rfl, rfl⟩))
    (fun os started H enc _ => lifted os started H enc)

/-- The statement. -/
theorem proved : Rows.RealListsSaid :=
  over
#print axioms proved
end Go.Proofs.Ytagempkaophnaaa.realLists
