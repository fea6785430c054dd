/-
  No cell of these rows narrows 'for every input' (looked for: loops, veiled, ifaces, maps, wideKeys, modest, calm, conditions, laid).
  DERIVED. THE GIVEN ROWS OF THIS SEAT. 6 by the template 'for every input the law returns true; each argument reads behind the call as it read before'; 0 by the template 'total and deterministic' (their statements: YtejgbfaampllaaaTotals.lean).
  GIVEN WITH THE SEED: the statements are not yours to turn. If you find one false, say at which input.
  Laid BY PROGRAM, IN A SANDBOX (cutbox-rows.mjs): the forced cells as the released guide's own fill.sh prints them over the translation eff6e823d1cf6b34… (all of the seat's roots in one cut). By AI agents, Wed Nov 11 2026. No macro, syntax, notation, axiom, sorry.
-/
import Derived.Test.YtejgbfaampllaaaChecked
import GoSem.Claim
import GoSem.ClaimJoined
import GoSem.ClaimMapViews
import Derived.JoinedTies
import Derived.KernelRfl
namespace Go.Proofs.Ytejgbfaampllaaa
/- THE CELL 'sum', in the pinned program and in every row, IS THE sha256 OF THE DUMP (.gsa) THAT YtejgbfaampllaaaProg.lean LOADS. Nothing in Lean hashes anything: it is a label: what it is worth is what the hold of that sum in a sandbox is worth. -/
noncomputable def Try.pinned : Pinned := { name := "ytejgbfaampllaaa", sum := "eff6e823d1cf6b34fe5da7394034acf680ad8da16e57557b479e4c6bcf2e8b37", checked := Try.checked }
namespace Rows
def none {H : Type} : Left H := { results := [], args := [] }

/-- 'bogielaw37.TaskMatchesReference': WHATEVER THE INPUT: true; the input reads as it did. -/
def taskMatchesReferenceSpec : ChangeSpec := { name := "taskMatchesReference", fn := fun _ => fun
  | [d1, d2, d3] => { results := [.lit (.bool true)], args := [d1, d2, d3] }
  | _ => none }
def taskMatchesReferenceRow : OpenClaim := { program := "ytejgbfaampllaaa", sum := "eff6e823d1cf6b34fe5da7394034acf680ad8da16e57557b479e4c6bcf2e8b37", func := "bogie/bogielaw37.TaskMatchesReference", spec := "taskMatchesReference", unfollowed := true, recurses := true, apart := false }
def TaskMatchesReferenceSaid : Prop := taskMatchesReferenceRow.holds Try.pinned (OpenSpec.ofChange taskMatchesReferenceSpec)

/-- ITS FALSE NEIGHBOUR: 'it returns false'. Refute it at one input. -/
def taskMatchesReferenceWrong : ChangeSpec := { name := "taskMatchesReference", fn := fun _ => fun
  | [d1, d2, d3] => { results := [.lit (.bool false)], args := [d1, d2, d3] }
  | _ => none }
def TaskMatchesReferenceWrongFalsely : Prop := taskMatchesReferenceRow.holds Try.pinned (OpenSpec.ofChange taskMatchesReferenceWrong)

/-- 'bogielaw37.TaskOrders': WHATEVER THE INPUT: true; the input reads as it did. -/
def taskOrdersSpec : ChangeSpec := { name := "taskOrders", fn := fun _ => fun
  | [d] => { results := [.lit (.bool true)], args := [d] }
  | _ => none }
def taskOrdersRow : OpenClaim := { program := "ytejgbfaampllaaa", sum := "eff6e823d1cf6b34fe5da7394034acf680ad8da16e57557b479e4c6bcf2e8b37", func := "bogie/bogielaw37.TaskOrders", spec := "taskOrders", unfollowed := true, recurses := true, apart := false }
def TaskOrdersSaid : Prop := taskOrdersRow.holds Try.pinned (OpenSpec.ofChange taskOrdersSpec)

/-- ITS FALSE NEIGHBOUR: 'it returns false'. Refute it at one input. -/
def taskOrdersWrong : ChangeSpec := { name := "taskOrders", fn := fun _ => fun
  | [d] => { results := [.lit (.bool false)], args := [d] }
  | _ => none }
def TaskOrdersWrongFalsely : Prop := taskOrdersRow.holds Try.pinned (OpenSpec.ofChange taskOrdersWrong)

/-- 'bogielaw37.TaskWorks': WHATEVER THE INPUT: true; the input reads as it did. -/
def taskWorksSpec : ChangeSpec := { name := "taskWorks", fn := fun _ => fun
  | [d1, d2] => { results := [.lit (.bool true)], args := [d1, d2] }
  | _ => none }
def taskWorksRow : OpenClaim := { program := "ytejgbfaampllaaa", sum := "eff6e823d1cf6b34fe5da7394034acf680ad8da16e57557b479e4c6bcf2e8b37", func := "bogie/bogielaw37.TaskWorks", spec := "taskWorks", unfollowed := true, recurses := true, apart := false }
def TaskWorksSaid : Prop := taskWorksRow.holds Try.pinned (OpenSpec.ofChange taskWorksSpec)

/-- ITS FALSE NEIGHBOUR: 'it returns false'. Refute it at one input. -/
def taskWorksWrong : ChangeSpec := { name := "taskWorks", fn := fun _ => fun
  | [d1, d2] => { results := [.lit (.bool false)], args := [d1, d2] }
  | _ => none }
def TaskWorksWrongFalsely : Prop := taskWorksRow.holds Try.pinned (OpenSpec.ofChange taskWorksWrong)

/-- 'bogielaw37.TaskUndoes': WHATEVER THE INPUT: true; the input reads as it did. -/
def taskUndoesSpec : ChangeSpec := { name := "taskUndoes", fn := fun _ => fun
  | [d1, d2, d3, d4] => { results := [.lit (.bool true)], args := [d1, d2, d3, d4] }
  | _ => none }
def taskUndoesRow : OpenClaim := { program := "ytejgbfaampllaaa", sum := "eff6e823d1cf6b34fe5da7394034acf680ad8da16e57557b479e4c6bcf2e8b37", func := "bogie/bogielaw37.TaskUndoes", spec := "taskUndoes", unfollowed := true, recurses := true, apart := false }
def TaskUndoesSaid : Prop := taskUndoesRow.holds Try.pinned (OpenSpec.ofChange taskUndoesSpec)

/-- ITS FALSE NEIGHBOUR: 'it returns false'. Refute it at one input. -/
def taskUndoesWrong : ChangeSpec := { name := "taskUndoes", fn := fun _ => fun
  | [d1, d2, d3, d4] => { results := [.lit (.bool false)], args := [d1, d2, d3, d4] }
  | _ => none }
def TaskUndoesWrongFalsely : Prop := taskUndoesRow.holds Try.pinned (OpenSpec.ofChange taskUndoesWrong)

/-- 'bogielaw37.TaskHours': WHATEVER THE INPUT: true; the input reads as it did. -/
def taskHoursSpec : ChangeSpec := { name := "taskHours", fn := fun _ => fun
  | [d1, d2, d3, d4] => { results := [.lit (.bool true)], args := [d1, d2, d3, d4] }
  | _ => none }
def taskHoursRow : OpenClaim := { program := "ytejgbfaampllaaa", sum := "eff6e823d1cf6b34fe5da7394034acf680ad8da16e57557b479e4c6bcf2e8b37", func := "bogie/bogielaw37.TaskHours", spec := "taskHours", unfollowed := true, recurses := true, apart := false }
def TaskHoursSaid : Prop := taskHoursRow.holds Try.pinned (OpenSpec.ofChange taskHoursSpec)

/-- ITS FALSE NEIGHBOUR: 'it returns false'. Refute it at one input. -/
def taskHoursWrong : ChangeSpec := { name := "taskHours", fn := fun _ => fun
  | [d1, d2, d3, d4] => { results := [.lit (.bool false)], args := [d1, d2, d3, d4] }
  | _ => none }
def TaskHoursWrongFalsely : Prop := taskHoursRow.holds Try.pinned (OpenSpec.ofChange taskHoursWrong)

/-- 'bogielaw37.TaskFree': WHATEVER THE INPUT: true; the input reads as it did. -/
def taskFreeSpec : ChangeSpec := { name := "taskFree", fn := fun _ => fun
  | [d1, d2, d3] => { results := [.lit (.bool true)], args := [d1, d2, d3] }
  | _ => none }
def taskFreeRow : OpenClaim := { program := "ytejgbfaampllaaa", sum := "eff6e823d1cf6b34fe5da7394034acf680ad8da16e57557b479e4c6bcf2e8b37", func := "bogie/bogielaw37.TaskFree", spec := "taskFree", unfollowed := true, recurses := true, apart := false }
def TaskFreeSaid : Prop := taskFreeRow.holds Try.pinned (OpenSpec.ofChange taskFreeSpec)

/-- ITS FALSE NEIGHBOUR: 'it returns false'. Refute it at one input. -/
def taskFreeWrong : ChangeSpec := { name := "taskFree", fn := fun _ => fun
  | [d1, d2, d3] => { results := [.lit (.bool false)], args := [d1, d2, d3] }
  | _ => none }
def TaskFreeWrongFalsely : Prop := taskFreeRow.holds Try.pinned (OpenSpec.ofChange taskFreeWrong)

/- THE SECOND FORM. 'bulk': how many values and letters a reading holds, each counted each time it is reached (what is shared counts as often as it is met; a slice's spare places count too). A statement '..UptoSaid' is the law's where the arguments, and the package variables that the reading takes, are together of bulk at most 1048576: NARROWER than '..Said'. Prove '..Said' where nothing that the law and all that it calls make is longer than what came in: it says more and counts as full. Else prove '..UptoSaid'. A law counts once. -/
mutual
def uptoBulk {H : Type} : DataW H → Nat
  | .lit (.string bytes) => bytes.length + 1
  | .lit _ => 1
  | .nil => 1
  | .ptr d => uptoBulk d + 1
  | .slice elems spare => uptoBulkAll elems + uptoBulkAll spare + 1
  | .agg parts => uptoBulkAll parts + 1
  | .iface _ d => uptoBulk d + 1
  | .map entries => uptoBulkEntries entries + 1
  | .held _ => 1
def uptoBulkAll {H : Type} : List (DataW H) → Nat
  | [] => 0
  | d :: r => uptoBulk d + uptoBulkAll r
def uptoBulkEntries {H : Type} : List (Lit × DataW H) → Nat
  | [] => 0
  | x :: r => uptoBulkEntry x + uptoBulkEntries r
def uptoBulkEntry {H : Type} : Lit × DataW H → Nat
  | (.string bytes, d) => bytes.length + uptoBulk d + 1
  | (_, d) => uptoBulk d + 1
 end
def uptoSmall : (H : Type) → List (DataW H) → Bool := fun _ ds => decide (uptoBulkAll ds ≤ 1048576)
def OpenSpec.upto (s : _root_.Go.ChangeSpec) : _root_.Go.OpenSpec := { _root_.Go.OpenSpec.ofChange s with cond := some uptoSmall }

/-- 'bogielaw37.TaskMatchesReference', WHERE WHAT IT READS IS OF BULK AT MOST 1048576: true; the input reads as it did. -/
def taskMatchesReferenceUptoRow : OpenClaim := { program := "ytejgbfaampllaaa", sum := "eff6e823d1cf6b34fe5da7394034acf680ad8da16e57557b479e4c6bcf2e8b37", func := "bogie/bogielaw37.TaskMatchesReference", spec := "taskMatchesReference", unfollowed := true, recurses := true, apart := false, narrowed := true }
def TaskMatchesReferenceUptoSaid : Prop := taskMatchesReferenceUptoRow.holds Try.pinned (OpenSpec.upto taskMatchesReferenceSpec)

/-- 'bogielaw37.TaskOrders', WHERE WHAT IT READS IS OF BULK AT MOST 1048576: true; the input reads as it did. -/
def taskOrdersUptoRow : OpenClaim := { program := "ytejgbfaampllaaa", sum := "eff6e823d1cf6b34fe5da7394034acf680ad8da16e57557b479e4c6bcf2e8b37", func := "bogie/bogielaw37.TaskOrders", spec := "taskOrders", unfollowed := true, recurses := true, apart := false, narrowed := true }
def TaskOrdersUptoSaid : Prop := taskOrdersUptoRow.holds Try.pinned (OpenSpec.upto taskOrdersSpec)

/-- 'bogielaw37.TaskWorks', WHERE WHAT IT READS IS OF BULK AT MOST 1048576: true; the input reads as it did. -/
def taskWorksUptoRow : OpenClaim := { program := "ytejgbfaampllaaa", sum := "eff6e823d1cf6b34fe5da7394034acf680ad8da16e57557b479e4c6bcf2e8b37", func := "bogie/bogielaw37.TaskWorks", spec := "taskWorks", unfollowed := true, recurses := true, apart := false, narrowed := true }
def TaskWorksUptoSaid : Prop := taskWorksUptoRow.holds Try.pinned (OpenSpec.upto taskWorksSpec)

/-- 'bogielaw37.TaskUndoes', WHERE WHAT IT READS IS OF BULK AT MOST 1048576: true; the input reads as it did. -/
def taskUndoesUptoRow : OpenClaim := { program := "ytejgbfaampllaaa", sum := "eff6e823d1cf6b34fe5da7394034acf680ad8da16e57557b479e4c6bcf2e8b37", func := "bogie/bogielaw37.TaskUndoes", spec := "taskUndoes", unfollowed := true, recurses := true, apart := false, narrowed := true }
def TaskUndoesUptoSaid : Prop := taskUndoesUptoRow.holds Try.pinned (OpenSpec.upto taskUndoesSpec)

/-- 'bogielaw37.TaskHours', WHERE WHAT IT READS IS OF BULK AT MOST 1048576: true; the input reads as it did. -/
def taskHoursUptoRow : OpenClaim := { program := "ytejgbfaampllaaa", sum := "eff6e823d1cf6b34fe5da7394034acf680ad8da16e57557b479e4c6bcf2e8b37", func := "bogie/bogielaw37.TaskHours", spec := "taskHours", unfollowed := true, recurses := true, apart := false, narrowed := true }
def TaskHoursUptoSaid : Prop := taskHoursUptoRow.holds Try.pinned (OpenSpec.upto taskHoursSpec)

/-- 'bogielaw37.TaskFree', WHERE WHAT IT READS IS OF BULK AT MOST 1048576: true; the input reads as it did. -/
def taskFreeUptoRow : OpenClaim := { program := "ytejgbfaampllaaa", sum := "eff6e823d1cf6b34fe5da7394034acf680ad8da16e57557b479e4c6bcf2e8b37", func := "bogie/bogielaw37.TaskFree", spec := "taskFree", unfollowed := true, recurses := true, apart := false, narrowed := true }
def TaskFreeUptoSaid : Prop := taskFreeUptoRow.holds Try.pinned (OpenSpec.upto taskFreeSpec)

end Rows
end Go.Proofs.Ytejgbfaampllaaa
