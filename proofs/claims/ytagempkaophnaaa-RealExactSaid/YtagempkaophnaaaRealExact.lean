/- The sum of whole numbers' words is their sum's word, exactly, for at most 100 numbers, each modulo 2^40. -/
import Derived.Test.YtagempkaophnaaaRows
import Derived.Test.YtagempkaophnaaaExW
import Derived.WalkKit
import Derived.ProofKit
import Derived.OpenShut
namespace Go.Proofs.Ytagempkaophnaaa.realExact
open Go.ChangeShapes Go.WideShapes Go.ChangeAt Go.RowKit
set_option linter.unusedVariables false

theorem own : ownKnob Try.prog.godebug = none := by kernel_rfl

/-! The walk. -/
set_option maxRecDepth 100000 in
set_option maxHeartbeats 4000000 in
theorem walk (p : Option Addr) (n cap : Nat) (f : Nat → Int) (w : World) (h : Nums w (.slice p n cap) n f) (hf : ∀ j, -9223372036854775808 ≤ f j ∧ f j ≤ 9223372036854775807) (hb : n ≤ 9223372036854775807) :
    Calls Try.prog 12 #[.slice p n cap] w fun e w' => e = .returned (.bool true) ∧ Keeps w w' := by
  by_cases c : n ≤ 100
  · rcases h with ⟨rfl, _⟩ | ⟨b, off, cap', hv, h1, h2, h3, hc⟩
    · have s := fun w => sum_none 0 none w
      have o1 : ∀ w, Calls Try.prog 28 #[.int .i64 0] w fun e w' => e = .returned (.tuple #[.int .u64 0, .bool true]) ∧ w' = w := by
        intro w
        have o := of_any 0 w (by omega) (by omega)
        rw [exact_small (by decide), show ofN 0 = 0 by unfold ofN; rw [show (0 : Int).natAbs = 0 from rfl, Nat.zero_mul]; rfl] at o
        exact o
      clear hf c hb
      go_enter Try.func12, Try.ntmps12
      go_wp2
      go_loop [3, 4, 5] (fun a v i => a = .int .i64 0 ∧ v = .slice none 0 0 ∧ i = .int .i64 0) (fun _ _ _ => 0)
      case atStart => exact ⟨rfl, rfl, rfl⟩
      case round =>
        obtain ⟨rfl, rfl, rfl⟩ := hrel
        go_wp2_with (first
          | (go_at_call 28; refine (o1 _).mono ?_; rintro e w' ⟨rfl, hw⟩; rw [hw])
          | (go_at_call 24; refine (s _).mono ?_; rintro e w' ⟨rfl, hsm⟩)
          | (go_at_call 19; refine (awake_any _).mono ?_; rintro e w' ⟨rfl, hga⟩))
        go_ret
        exact ⟨rfl, (Keeps.of_grown (by assumption : Same w _).2).grown (by assumption)⟩
    · cases hv
      exact exact_some b off n cap f (fun j => (f j).tmod 1099511627776) w (fun _ => rfl) (fun j => by rw [Int.natAbs_tmod]; exact Nat.mod_lt _ (by decide)) (cell_block (hc 0 (by omega))).1 hc c
  · clear h hf
    go_enter Try.func12, Try.ntmps12
    go_wp2_with (go_at_call 19; refine (awake_any _).mono ?_; rintro e w' ⟨rfl, hg⟩)
    go_ret
    exact ⟨rfl, Keeps.of_grown (by assumption)⟩

/-! The row. -/
set_option maxRecDepth 100000 in
theorem lifted (os : Os) (started : os.Started) (H : Type) (enc : TypeId × Value → H) :
    ReturnsInHanded {} Try.checked os 12 .any (Rows.realExactSpec.pre6 enc Try.prog Try.f12 Rows.realExactRow.domain false) (Rows.realExactSpec.post enc Try.prog Try.f12 false true false false) := by
  refine returnsInHanded_of_change (C := Try.checked) own started (by kernel_rfl) Try.func12
    (ChangeSpec.witness6 (enc := enc) (C := Try.checked) false ⟨#[], #[.slice none 0 0], []⟩ 8 (by kernel_rfl) (by kernel_rfl) (by kernel_rfl) (by kernel_rfl)) ?_
  intro W base args ds gs before hval0 hW hcnd _
  have hval : ∀ (j : Nat) t v, Try.f12.params[j]? = some t → args[j]? = some v → Value.okWide Try.prog W .any base t v := hval0
  have hW' := hW
  obtain ⟨p, q, hA0, hV, rfl, hfz, hnd⟩ := hW
  have hA : DataW.TrodAll enc Try.prog W 0 (fun _ => true) true Try.f12.params.toList args.toList ds p := hA0
  rw [Try.params12] at hA hval
  obtain ⟨v0, vs0, d0, ds0, p0, q0, hargs, rfl, rfl, h0, r0⟩ := trodAll_cons hA
  obtain ⟨rfl, rfl, rfl⟩ := trodAll_nil r0
  obtain rfl : args = #[v0] := by cases args; simp_all
  obtain ⟨rfl, rfl⟩ := trodVars_none hV
  obtain ⟨a0, len, cap, rfl⟩ := okWide_slice Try.underlying42 (hval 0 42 v0 rfl rfl)
  obtain ⟨fuel, hfu⟩ := h0
  clear hA0 hval0
  simp only [List.append_nil] at hW'
  rcases open_ints Try.underlying42 Try.underlying2 cells2 hfu with ⟨hcs, hx⟩ | ⟨a, len', cap', zs, hcs, _, hl, hm, hz, hx, hcell, hwz⟩
  · simp [Value.cells] at hcs
    obtain ⟨rfl, rfl, rfl⟩ := hcs
    simp only [Prod.mk.injEq] at hx
    obtain ⟨rfl, rfl⟩ := hx
    refine (walk none 0 0 (fun _ => 0)  W (nums_nil W _) (fun _ => by omega) (by omega)).mono fun e W' ⟨he, hg⟩ => ?_
    subst he
    exact ⟨_, rfl, post_keeps (pa := []) (pv := []) hW' (fun _ _ _ => (trodAll_cons_mk (shut_bool Try.underlying4 _) trodAll_mk0)) (fun sp _ => (trodAll_cons_mk (shut_slice_nil Try.underlying42) trodAll_mk0)) (fun _ _ => rfl) rfl
      (World.keptBut_mono (fun _ h => h.elim) hg.1)⟩
  · simp [Value.cells] at hcs
    obtain ⟨rfl, rfl, rfl⟩ := hcs
    simp only [Prod.mk.injEq] at hx
    obtain ⟨rfl, rfl⟩ := hx
    simp only [if_true] at hz
    obtain ⟨hw, hf⟩ := nums_of hl hm hz hcell hwz
    refine (walk (some a) len cap (fun j => zs.getD j 0) W hw hf (le_max (Nat.le_trans hl hm))).mono fun e W' ⟨he, hg⟩ => ?_
    subst he
    exact ⟨_, rfl, post_keeps (pa := MemPlace.row a zs.length) (pv := []) hW' (fun _ _ _ => (trodAll_cons_mk (shut_bool Try.underlying4 _) trodAll_mk0))
      (fun sp hsp => (List.append_nil (MemPlace.row a zs.length)) ▸ (trodAll_cons_mk (again_keeps Try.underlying42 Try.underlying2 cells2 hg hl hm hz hcell hwz sp (fun q hq => hsp q (by simpa using hq))) trodAll_mk0)) (fun _ _ => rfl) (by simp)
      (World.keptBut_mono (fun _ h => h.elim) hg.1)⟩

theorem over : Rows.realExactRow.holds Try.pinned (OpenSpec.ofChange Rows.realExactSpec) :=
  OpenClaim.holds_of_wide 12 Try.f12 rfl rfl rfl rfl rfl rfl rfl ⟨rfl, rfl, rfl, rfl, rfl⟩ rfl rfl rfl rfl rfl (by kernel_rfl) Try.func12 (by kernel_rfl)
    (of_decide_eq_true (by kernel_rfl)) (by unfold Func.isWrapper; first | (rw [if_pos (by decide +kernel)]; kernel_rfl) | (rw [if_neg (by decide +kernel)]; exact ⟨rfl, rfl⟩))
    (fun os started H enc _ => lifted os started H enc)

/-- The statement. -/
theorem proved : Rows.RealExactSaid :=
  over
#print axioms proved
end Go.Proofs.Ytagempkaophnaaa.realExact
