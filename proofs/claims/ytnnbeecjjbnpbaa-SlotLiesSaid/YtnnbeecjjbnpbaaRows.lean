/-
  No cell of these rows narrows 'for every input' (looked for: loops, veiled, ifaces, maps, wideKeys, modest, calm, conditions, laid).
  DERIVED. THE GIVEN ROWS OF THIS SEAT. 4 by the template 'for every input the law returns true; each argument reads behind the call as it read before'; 0 by the template 'total and deterministic' (their statements: YtnnbeecjjbnpbaaTotals.lean).
  GIVEN WITH THE SEED: the statements are not yours to turn. If you find one false, say at which input.
  Laid BY PROGRAM, IN A SANDBOX (cutbox-rows.mjs): the forced cells as the released guide's own fill.sh prints them over the translation da71158401e14d54… (all of the seat's roots in one cut). By AI agents, Wed Nov 11 2026. No macro, syntax, notation, axiom, sorry.
-/
import Derived.Test.YtnnbeecjjbnpbaaChecked
import GoSem.Claim
import GoSem.ClaimJoined
import GoSem.ClaimMapViews
import Derived.JoinedTies
import Derived.KernelRfl
namespace Go.Proofs.Ytnnbeecjjbnpbaa
/- THE CELL 'sum', in the pinned program and in every row, IS THE sha256 OF THE DUMP (.gsa) THAT YtnnbeecjjbnpbaaProg.lean LOADS. Nothing in Lean hashes anything: it is a label: what it is worth is what the hold of that sum in a sandbox is worth. -/
noncomputable def Try.pinned : Pinned := { name := "ytnnbeecjjbnpbaa", sum := "da71158401e14d549149b825a38a545e8969085eccdeae3f88e4d509e81924ec", checked := Try.checked }
namespace Rows
def none {H : Type} : Left H := { results := [], args := [] }

/-- 'commonagelaw09.SlotTells': WHATEVER THE INPUT: true; the input reads as it did. -/
def slotTellsSpec : ChangeSpec := { name := "slotTells", fn := fun _ => fun
  | [d1, d2, d3] => { results := [.lit (.bool true)], args := [d1, d2, d3] }
  | _ => none }
def slotTellsRow : OpenClaim := { program := "ytnnbeecjjbnpbaa", sum := "da71158401e14d549149b825a38a545e8969085eccdeae3f88e4d509e81924ec", func := "commonage/commonagelaw09.SlotTells", spec := "slotTells", unfollowed := true, recurses := true, apart := false }
def SlotTellsSaid : Prop := slotTellsRow.holds Try.pinned (OpenSpec.ofChange slotTellsSpec)

/-- ITS FALSE NEIGHBOUR: 'it returns false'. Refute it at one input. -/
def slotTellsWrong : ChangeSpec := { name := "slotTells", fn := fun _ => fun
  | [d1, d2, d3] => { results := [.lit (.bool false)], args := [d1, d2, d3] }
  | _ => none }
def SlotTellsWrongFalsely : Prop := slotTellsRow.holds Try.pinned (OpenSpec.ofChange slotTellsWrong)

/-- 'commonagelaw09.SlotLies': WHATEVER THE INPUT: true; the input reads as it did. -/
def slotLiesSpec : ChangeSpec := { name := "slotLies", fn := fun _ => fun
  | [d1, d2] => { results := [.lit (.bool true)], args := [d1, d2] }
  | _ => none }
def slotLiesRow : OpenClaim := { program := "ytnnbeecjjbnpbaa", sum := "da71158401e14d549149b825a38a545e8969085eccdeae3f88e4d509e81924ec", func := "commonage/commonagelaw09.SlotLies", spec := "slotLies", unfollowed := true, recurses := true, apart := false }
def SlotLiesSaid : Prop := slotLiesRow.holds Try.pinned (OpenSpec.ofChange slotLiesSpec)

/-- ITS FALSE NEIGHBOUR: 'it returns false'. Refute it at one input. -/
def slotLiesWrong : ChangeSpec := { name := "slotLies", fn := fun _ => fun
  | [d1, d2] => { results := [.lit (.bool false)], args := [d1, d2] }
  | _ => none }
def SlotLiesWrongFalsely : Prop := slotLiesRow.holds Try.pinned (OpenSpec.ofChange slotLiesWrong)

/-- 'commonagelaw09.SlotClasses': WHATEVER THE INPUT: true; the input reads as it did. -/
def slotClassesSpec : ChangeSpec := { name := "slotClasses", fn := fun _ => fun
  | [d1, d2] => { results := [.lit (.bool true)], args := [d1, d2] }
  | _ => none }
def slotClassesRow : OpenClaim := { program := "ytnnbeecjjbnpbaa", sum := "da71158401e14d549149b825a38a545e8969085eccdeae3f88e4d509e81924ec", func := "commonage/commonagelaw09.SlotClasses", spec := "slotClasses", unfollowed := true, recurses := true, apart := false }
def SlotClassesSaid : Prop := slotClassesRow.holds Try.pinned (OpenSpec.ofChange slotClassesSpec)

/-- ITS FALSE NEIGHBOUR: 'it returns false'. Refute it at one input. -/
def slotClassesWrong : ChangeSpec := { name := "slotClasses", fn := fun _ => fun
  | [d1, d2] => { results := [.lit (.bool false)], args := [d1, d2] }
  | _ => none }
def SlotClassesWrongFalsely : Prop := slotClassesRow.holds Try.pinned (OpenSpec.ofChange slotClassesWrong)

/-- 'commonagelaw09.SlotAlike': WHATEVER THE INPUT: true; the input reads as it did. -/
def slotAlikeSpec : ChangeSpec := { name := "slotAlike", fn := fun _ => fun
  | [d1, d2] => { results := [.lit (.bool true)], args := [d1, d2] }
  | _ => none }
def slotAlikeRow : OpenClaim := { program := "ytnnbeecjjbnpbaa", sum := "da71158401e14d549149b825a38a545e8969085eccdeae3f88e4d509e81924ec", func := "commonage/commonagelaw09.SlotAlike", spec := "slotAlike", unfollowed := true, recurses := true, apart := false }
def SlotAlikeSaid : Prop := slotAlikeRow.holds Try.pinned (OpenSpec.ofChange slotAlikeSpec)

/-- ITS FALSE NEIGHBOUR: 'it returns false'. Refute it at one input. -/
def slotAlikeWrong : ChangeSpec := { name := "slotAlike", fn := fun _ => fun
  | [d1, d2] => { results := [.lit (.bool false)], args := [d1, d2] }
  | _ => none }
def SlotAlikeWrongFalsely : Prop := slotAlikeRow.holds Try.pinned (OpenSpec.ofChange slotAlikeWrong)

/- THE SECOND FORM. 'bulk': how many values and letters a reading holds, each counted each time it is reached (what is shared counts as often as it is met; a slice's spare places count too). A statement '..UptoSaid' is the law's where the arguments, and the package variables that the reading takes, are together of bulk at most 1048576: NARROWER than '..Said'. Prove '..Said' where nothing that the law and all that it calls make is longer than what came in: it says more and counts as full. Else prove '..UptoSaid'. A law counts once. -/
mutual
def uptoBulk {H : Type} : DataW H → Nat
  | .lit (.string bytes) => bytes.length + 1
  | .lit _ => 1
  | .nil => 1
  | .ptr d => uptoBulk d + 1
  | .slice elems spare => uptoBulkAll elems + uptoBulkAll spare + 1
  | .agg parts => uptoBulkAll parts + 1
  | .iface _ d => uptoBulk d + 1
  | .map entries => uptoBulkEntries entries + 1
  | .held _ => 1
def uptoBulkAll {H : Type} : List (DataW H) → Nat
  | [] => 0
  | d :: r => uptoBulk d + uptoBulkAll r
def uptoBulkEntries {H : Type} : List (Lit × DataW H) → Nat
  | [] => 0
  | x :: r => uptoBulkEntry x + uptoBulkEntries r
def uptoBulkEntry {H : Type} : Lit × DataW H → Nat
  | (.string bytes, d) => bytes.length + uptoBulk d + 1
  | (_, d) => uptoBulk d + 1
 end
def uptoSmall : (H : Type) → List (DataW H) → Bool := fun _ ds => decide (uptoBulkAll ds ≤ 1048576)
def OpenSpec.upto (s : _root_.Go.ChangeSpec) : _root_.Go.OpenSpec := { _root_.Go.OpenSpec.ofChange s with cond := some uptoSmall }

/-- 'commonagelaw09.SlotTells', WHERE WHAT IT READS IS OF BULK AT MOST 1048576: true; the input reads as it did. -/
def slotTellsUptoRow : OpenClaim := { program := "ytnnbeecjjbnpbaa", sum := "da71158401e14d549149b825a38a545e8969085eccdeae3f88e4d509e81924ec", func := "commonage/commonagelaw09.SlotTells", spec := "slotTells", unfollowed := true, recurses := true, apart := false, narrowed := true }
def SlotTellsUptoSaid : Prop := slotTellsUptoRow.holds Try.pinned (OpenSpec.upto slotTellsSpec)

/-- 'commonagelaw09.SlotLies', WHERE WHAT IT READS IS OF BULK AT MOST 1048576: true; the input reads as it did. -/
def slotLiesUptoRow : OpenClaim := { program := "ytnnbeecjjbnpbaa", sum := "da71158401e14d549149b825a38a545e8969085eccdeae3f88e4d509e81924ec", func := "commonage/commonagelaw09.SlotLies", spec := "slotLies", unfollowed := true, recurses := true, apart := false, narrowed := true }
def SlotLiesUptoSaid : Prop := slotLiesUptoRow.holds Try.pinned (OpenSpec.upto slotLiesSpec)

/-- 'commonagelaw09.SlotClasses', WHERE WHAT IT READS IS OF BULK AT MOST 1048576: true; the input reads as it did. -/
def slotClassesUptoRow : OpenClaim := { program := "ytnnbeecjjbnpbaa", sum := "da71158401e14d549149b825a38a545e8969085eccdeae3f88e4d509e81924ec", func := "commonage/commonagelaw09.SlotClasses", spec := "slotClasses", unfollowed := true, recurses := true, apart := false, narrowed := true }
def SlotClassesUptoSaid : Prop := slotClassesUptoRow.holds Try.pinned (OpenSpec.upto slotClassesSpec)

/-- 'commonagelaw09.SlotAlike', WHERE WHAT IT READS IS OF BULK AT MOST 1048576: true; the input reads as it did. -/
def slotAlikeUptoRow : OpenClaim := { program := "ytnnbeecjjbnpbaa", sum := "da71158401e14d549149b825a38a545e8969085eccdeae3f88e4d509e81924ec", func := "commonage/commonagelaw09.SlotAlike", spec := "slotAlike", unfollowed := true, recurses := true, apart := false, narrowed := true }
def SlotAlikeUptoSaid : Prop := slotAlikeUptoRow.holds Try.pinned (OpenSpec.upto slotAlikeSpec)

end Rows
end Go.Proofs.Ytnnbeecjjbnpbaa
