/- The deferred closures of the program's memories. -/
import Derived.Test.YteipadpifmjnmaaPex
namespace Go.Proofs.Yteipadpifmjnmaa
open Go.ChangeShapes Go.WideShapes Go.ChangeAt Go.RowKit Go.Deep
set_option linter.unusedVariables false

theorem load_catch (q : Addr) (z x : Int) (older : List PanicEntry) (w : World) (hc : w.cell? q = some (.int .i64 z)) (hz : w.frozen? q = false) :
    CallsD Try.prog 40 #[.pointer (some q)] (.panicking ({ v := .iface 30 (.int .i64 x), recovered := false } :: older)) w fun e u' w' =>
      e = .returned (.tuple #[]) ∧ u' = .panicking ({ v := .iface 30 (.int .i64 x), recovered := true } :: older) ∧ w' = w.setCell q (.int .i64 x) := by
  have hk := caught_some x w
  refine callsD_of_wpS Try.func40 rfl fun c₀ cs hu => ?_
  apply wpS_region
  simp [wpOpsS, go_sem, recoverD, hu, Try.ntmps40]
  refine hk.mono ?_
  rintro e w' ⟨rfl, rfl⟩
  simp [go_sem, hc, hz, bodyPostS, results, Try.results40]
theorem load_idle (q : Addr) (z : Int) (w : World) (hc : w.cell? q = some (.int .i64 z)) (hz : w.frozen? q = false) :
    CallsD Try.prog 40 #[.pointer (some q)] .returning w fun e u' w' =>
      e = .returned (.tuple #[]) ∧ u' = .returning ∧ w' = w.setCell q (.int .i64 0) := by
  have hk := caught_nil w
  refine callsD_of_wpS Try.func40 rfl fun c₀ cs hu => ?_
  apply wpS_region
  simp [wpOpsS, go_sem, recoverD, hu, Try.ntmps40]
  refine hk.mono ?_
  rintro e w' ⟨rfl, rfl⟩
  cases c₀
  simp_all [go_sem, bodyPostS, results, Try.results40]

theorem store_catch (q : Addr) (z x : Int) (older : List PanicEntry) (w : World) (hc : w.cell? q = some (.int .i64 z)) (hz : w.frozen? q = false) :
    CallsD Try.prog 39 #[.pointer (some q)] (.panicking ({ v := .iface 30 (.int .i64 x), recovered := false } :: older)) w fun e u' w' =>
      e = .returned (.tuple #[]) ∧ u' = .panicking ({ v := .iface 30 (.int .i64 x), recovered := true } :: older) ∧ w' = w.setCell q (.int .i64 x) := by
  have hk := caught_some x w
  refine callsD_of_wpS Try.func39 rfl fun c₀ cs hu => ?_
  apply wpS_region
  simp [wpOpsS, go_sem, recoverD, hu, Try.ntmps39]
  refine hk.mono ?_
  rintro e w' ⟨rfl, rfl⟩
  simp [go_sem, hc, hz, bodyPostS, results, Try.results39]
theorem store_idle (q : Addr) (z : Int) (w : World) (hc : w.cell? q = some (.int .i64 z)) (hz : w.frozen? q = false) :
    CallsD Try.prog 39 #[.pointer (some q)] .returning w fun e u' w' =>
      e = .returned (.tuple #[]) ∧ u' = .returning ∧ w' = w.setCell q (.int .i64 0) := by
  have hk := caught_nil w
  refine callsD_of_wpS Try.func39 rfl fun c₀ cs hu => ?_
  apply wpS_region
  simp [wpOpsS, go_sem, recoverD, hu, Try.ntmps39]
  refine hk.mono ?_
  rintro e w' ⟨rfl, rfl⟩
  cases c₀
  simp_all [go_sem, bodyPostS, results, Try.results39]

theorem zero_catch (q : Addr) (z x : Int) (older : List PanicEntry) (w : World) (hc : w.cell? q = some (.int .i64 z)) (hz : w.frozen? q = false) :
    CallsD Try.prog 37 #[.pointer (some q)] (.panicking ({ v := .iface 30 (.int .i64 x), recovered := false } :: older)) w fun e u' w' =>
      e = .returned (.tuple #[]) ∧ u' = .panicking ({ v := .iface 30 (.int .i64 x), recovered := true } :: older) ∧ w' = w.setCell q (.int .i64 x) := by
  have hk := caught_some x w
  refine callsD_of_wpS Try.func37 rfl fun c₀ cs hu => ?_
  apply wpS_region
  simp [wpOpsS, go_sem, recoverD, hu, Try.ntmps37]
  refine hk.mono ?_
  rintro e w' ⟨rfl, rfl⟩
  simp [go_sem, hc, hz, bodyPostS, results, Try.results37]
theorem zero_idle (q : Addr) (z : Int) (w : World) (hc : w.cell? q = some (.int .i64 z)) (hz : w.frozen? q = false) :
    CallsD Try.prog 37 #[.pointer (some q)] .returning w fun e u' w' =>
      e = .returned (.tuple #[]) ∧ u' = .returning ∧ w' = w.setCell q (.int .i64 0) := by
  have hk := caught_nil w
  refine callsD_of_wpS Try.func37 rfl fun c₀ cs hu => ?_
  apply wpS_region
  simp [wpOpsS, go_sem, recoverD, hu, Try.ntmps37]
  refine hk.mono ?_
  rintro e w' ⟨rfl, rfl⟩
  cases c₀
  simp_all [go_sem, bodyPostS, results, Try.results37]

theorem words_catch (q : Addr) (z x : Int) (older : List PanicEntry) (w : World) (hc : w.cell? q = some (.int .i64 z)) (hz : w.frozen? q = false) :
    CallsD Try.prog 33 #[.pointer (some q)] (.panicking ({ v := .iface 30 (.int .i64 x), recovered := false } :: older)) w fun e u' w' =>
      e = .returned (.tuple #[]) ∧ u' = .panicking ({ v := .iface 30 (.int .i64 x), recovered := true } :: older) ∧ w' = w.setCell q (.int .i64 x) := by
  have hk := caught_some x w
  refine callsD_of_wpS Try.func33 rfl fun c₀ cs hu => ?_
  apply wpS_region
  simp [wpOpsS, go_sem, recoverD, hu, Try.ntmps33]
  refine hk.mono ?_
  rintro e w' ⟨rfl, rfl⟩
  simp [go_sem, hc, hz, bodyPostS, results, Try.results33]
theorem words_idle (q : Addr) (z : Int) (w : World) (hc : w.cell? q = some (.int .i64 z)) (hz : w.frozen? q = false) :
    CallsD Try.prog 33 #[.pointer (some q)] .returning w fun e u' w' =>
      e = .returned (.tuple #[]) ∧ u' = .returning ∧ w' = w.setCell q (.int .i64 0) := by
  have hk := caught_nil w
  refine callsD_of_wpS Try.func33 rfl fun c₀ cs hu => ?_
  apply wpS_region
  simp [wpOpsS, go_sem, recoverD, hu, Try.ntmps33]
  refine hk.mono ?_
  rintro e w' ⟨rfl, rfl⟩
  cases c₀
  simp_all [go_sem, bodyPostS, results, Try.results33]

end Go.Proofs.Yteipadpifmjnmaa
