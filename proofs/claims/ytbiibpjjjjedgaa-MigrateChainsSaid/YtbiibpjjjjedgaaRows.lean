/-
  No cell of these rows narrows 'for every input' (looked for: loops, veiled, ifaces, maps, wideKeys, modest, calm, conditions, laid).
  DERIVED. THE GIVEN ROWS OF THIS SEAT. 7 by the template 'for every input the law returns true; each argument reads behind the call as it read before'; 0 by the template 'total and deterministic' (their statements: YtbiibpjjjjedgaaTotals.lean).
  GIVEN WITH THE SEED: the statements are not yours to turn. If you find one false, say at which input.
  Laid BY PROGRAM, IN A SANDBOX (cutbox-rows.mjs): the forced cells as the released guide's own fill.sh prints them over the translation 412b0a9ae10be296… (all of the seat's roots in one cut). By AI agents, Wed Nov 11 2026. No macro, syntax, notation, axiom, sorry.
-/
import Derived.Test.YtbiibpjjjjedgaaChecked
import GoSem.Claim
import GoSem.ClaimJoined
import GoSem.ClaimMapViews
import Derived.JoinedTies
import Derived.KernelRfl
namespace Go.Proofs.Ytbiibpjjjjedgaa
/- THE CELL 'sum', in the pinned program and in every row, IS THE sha256 OF THE DUMP (.gsa) THAT YtbiibpjjjjedgaaProg.lean LOADS. Nothing in Lean hashes anything: it is a label: what it is worth is what the hold of that sum in a sandbox is worth. -/
noncomputable def Try.pinned : Pinned := { name := "ytbiibpjjjjedgaa", sum := "412b0a9ae10be296d5c315e4bab10865290c990816e6e9b188435a6410b04d81", checked := Try.checked }
namespace Rows
def none {H : Type} : Left H := { results := [], args := [] }

/-- 'bogielaw25.MigrateMatchesReference': WHATEVER THE INPUT: true; the input reads as it did. -/
def migrateMatchesReferenceSpec : ChangeSpec := { name := "migrateMatchesReference", fn := fun _ => fun
  | [d1, d2, d3, d4] => { results := [.lit (.bool true)], args := [d1, d2, d3, d4] }
  | _ => none }
def migrateMatchesReferenceRow : OpenClaim := { program := "ytbiibpjjjjedgaa", sum := "412b0a9ae10be296d5c315e4bab10865290c990816e6e9b188435a6410b04d81", func := "bogie/bogielaw25.MigrateMatchesReference", spec := "migrateMatchesReference", unfollowed := true, recurses := true, named := ["math/bits.divideError", "math/bits.overflowError"], apart := false }
def MigrateMatchesReferenceSaid : Prop := migrateMatchesReferenceRow.holds Try.pinned (OpenSpec.ofChange migrateMatchesReferenceSpec)

/-- ITS FALSE NEIGHBOUR: 'it returns false'. Refute it at one input. -/
def migrateMatchesReferenceWrong : ChangeSpec := { name := "migrateMatchesReference", fn := fun _ => fun
  | [d1, d2, d3, d4] => { results := [.lit (.bool false)], args := [d1, d2, d3, d4] }
  | _ => none }
def MigrateMatchesReferenceWrongFalsely : Prop := migrateMatchesReferenceRow.holds Try.pinned (OpenSpec.ofChange migrateMatchesReferenceWrong)

/-- 'bogielaw25.MigrateKeeps': WHATEVER THE INPUT: true; the input reads as it did. -/
def migrateKeepsSpec : ChangeSpec := { name := "migrateKeeps", fn := fun _ => fun
  | [d1, d2, d3] => { results := [.lit (.bool true)], args := [d1, d2, d3] }
  | _ => none }
def migrateKeepsRow : OpenClaim := { program := "ytbiibpjjjjedgaa", sum := "412b0a9ae10be296d5c315e4bab10865290c990816e6e9b188435a6410b04d81", func := "bogie/bogielaw25.MigrateKeeps", spec := "migrateKeeps", unfollowed := true, recurses := true, named := ["math/bits.divideError", "math/bits.overflowError"], apart := false }
def MigrateKeepsSaid : Prop := migrateKeepsRow.holds Try.pinned (OpenSpec.ofChange migrateKeepsSpec)

/-- ITS FALSE NEIGHBOUR: 'it returns false'. Refute it at one input. -/
def migrateKeepsWrong : ChangeSpec := { name := "migrateKeeps", fn := fun _ => fun
  | [d1, d2, d3] => { results := [.lit (.bool false)], args := [d1, d2, d3] }
  | _ => none }
def MigrateKeepsWrongFalsely : Prop := migrateKeepsRow.holds Try.pinned (OpenSpec.ofChange migrateKeepsWrong)

/-- 'bogielaw25.MigrateFull': WHATEVER THE INPUT: true; the input reads as it did. -/
def migrateFullSpec : ChangeSpec := { name := "migrateFull", fn := fun _ => fun
  | [d1, d2, d3] => { results := [.lit (.bool true)], args := [d1, d2, d3] }
  | _ => none }
def migrateFullRow : OpenClaim := { program := "ytbiibpjjjjedgaa", sum := "412b0a9ae10be296d5c315e4bab10865290c990816e6e9b188435a6410b04d81", func := "bogie/bogielaw25.MigrateFull", spec := "migrateFull", unfollowed := true, recurses := true, named := ["math/bits.divideError", "math/bits.overflowError"], apart := false }
def MigrateFullSaid : Prop := migrateFullRow.holds Try.pinned (OpenSpec.ofChange migrateFullSpec)

/-- ITS FALSE NEIGHBOUR: 'it returns false'. Refute it at one input. -/
def migrateFullWrong : ChangeSpec := { name := "migrateFull", fn := fun _ => fun
  | [d1, d2, d3] => { results := [.lit (.bool false)], args := [d1, d2, d3] }
  | _ => none }
def MigrateFullWrongFalsely : Prop := migrateFullRow.holds Try.pinned (OpenSpec.ofChange migrateFullWrong)

/-- 'bogielaw25.MigrateOrder': WHATEVER THE INPUT: true; the input reads as it did. -/
def migrateOrderSpec : ChangeSpec := { name := "migrateOrder", fn := fun _ => fun
  | [d1, d2, d3, d4, d5] => { results := [.lit (.bool true)], args := [d1, d2, d3, d4, d5] }
  | _ => none }
def migrateOrderRow : OpenClaim := { program := "ytbiibpjjjjedgaa", sum := "412b0a9ae10be296d5c315e4bab10865290c990816e6e9b188435a6410b04d81", func := "bogie/bogielaw25.MigrateOrder", spec := "migrateOrder", unfollowed := true, recurses := true, named := ["math/bits.divideError", "math/bits.overflowError"], apart := false }
def MigrateOrderSaid : Prop := migrateOrderRow.holds Try.pinned (OpenSpec.ofChange migrateOrderSpec)

/-- ITS FALSE NEIGHBOUR: 'it returns false'. Refute it at one input. -/
def migrateOrderWrong : ChangeSpec := { name := "migrateOrder", fn := fun _ => fun
  | [d1, d2, d3, d4, d5] => { results := [.lit (.bool false)], args := [d1, d2, d3, d4, d5] }
  | _ => none }
def MigrateOrderWrongFalsely : Prop := migrateOrderRow.holds Try.pinned (OpenSpec.ofChange migrateOrderWrong)

/-- 'bogielaw25.MigrateChains': WHATEVER THE INPUT: true; the input reads as it did. -/
def migrateChainsSpec : ChangeSpec := { name := "migrateChains", fn := fun _ => fun
  | [d1, d2, d3] => { results := [.lit (.bool true)], args := [d1, d2, d3] }
  | _ => none }
def migrateChainsRow : OpenClaim := { program := "ytbiibpjjjjedgaa", sum := "412b0a9ae10be296d5c315e4bab10865290c990816e6e9b188435a6410b04d81", func := "bogie/bogielaw25.MigrateChains", spec := "migrateChains", unfollowed := true, recurses := true, named := ["math/bits.divideError", "math/bits.overflowError"], apart := false }
def MigrateChainsSaid : Prop := migrateChainsRow.holds Try.pinned (OpenSpec.ofChange migrateChainsSpec)

/-- ITS FALSE NEIGHBOUR: 'it returns false'. Refute it at one input. -/
def migrateChainsWrong : ChangeSpec := { name := "migrateChains", fn := fun _ => fun
  | [d1, d2, d3] => { results := [.lit (.bool false)], args := [d1, d2, d3] }
  | _ => none }
def MigrateChainsWrongFalsely : Prop := migrateChainsRow.holds Try.pinned (OpenSpec.ofChange migrateChainsWrong)

/-- 'bogielaw25.MigrateLeft': WHATEVER THE INPUT: true; the input reads as it did. -/
def migrateLeftSpec : ChangeSpec := { name := "migrateLeft", fn := fun _ => fun
  | [d1, d2] => { results := [.lit (.bool true)], args := [d1, d2] }
  | _ => none }
def migrateLeftRow : OpenClaim := { program := "ytbiibpjjjjedgaa", sum := "412b0a9ae10be296d5c315e4bab10865290c990816e6e9b188435a6410b04d81", func := "bogie/bogielaw25.MigrateLeft", spec := "migrateLeft", unfollowed := true, recurses := true, named := ["math/bits.divideError", "math/bits.overflowError"], apart := false }
def MigrateLeftSaid : Prop := migrateLeftRow.holds Try.pinned (OpenSpec.ofChange migrateLeftSpec)

/-- ITS FALSE NEIGHBOUR: 'it returns false'. Refute it at one input. -/
def migrateLeftWrong : ChangeSpec := { name := "migrateLeft", fn := fun _ => fun
  | [d1, d2] => { results := [.lit (.bool false)], args := [d1, d2] }
  | _ => none }
def MigrateLeftWrongFalsely : Prop := migrateLeftRow.holds Try.pinned (OpenSpec.ofChange migrateLeftWrong)

/-- 'bogielaw04.IntervalBounds': WHATEVER THE INPUT: true; the input reads as it did. -/
def intervalBoundsSpec : ChangeSpec := { name := "intervalBounds", fn := fun _ => fun
  | [d1, d2] => { results := [.lit (.bool true)], args := [d1, d2] }
  | _ => none }
def intervalBoundsRow : OpenClaim := { program := "ytbiibpjjjjedgaa", sum := "412b0a9ae10be296d5c315e4bab10865290c990816e6e9b188435a6410b04d81", func := "bogie/bogielaw04.IntervalBounds", spec := "intervalBounds", unfollowed := true, recurses := true, apart := false }
def IntervalBoundsSaid : Prop := intervalBoundsRow.holds Try.pinned (OpenSpec.ofChange intervalBoundsSpec)

/-- ITS FALSE NEIGHBOUR: 'it returns false'. Refute it at one input. -/
def intervalBoundsWrong : ChangeSpec := { name := "intervalBounds", fn := fun _ => fun
  | [d1, d2] => { results := [.lit (.bool false)], args := [d1, d2] }
  | _ => none }
def IntervalBoundsWrongFalsely : Prop := intervalBoundsRow.holds Try.pinned (OpenSpec.ofChange intervalBoundsWrong)

/- THE SECOND FORM. 'bulk': how many values and letters a reading holds, each counted each time it is reached (what is shared counts as often as it is met; a slice's spare places count too). A statement '..UptoSaid' is the law's where the arguments, and the package variables that the reading takes, are together of bulk at most 1048576: NARROWER than '..Said'. Prove '..Said' where nothing that the law and all that it calls make is longer than what came in: it says more and counts as full. Else prove '..UptoSaid'. A law counts once. -/
mutual
def uptoBulk {H : Type} : DataW H → Nat
  | .lit (.string bytes) => bytes.length + 1
  | .lit _ => 1
  | .nil => 1
  | .ptr d => uptoBulk d + 1
  | .slice elems spare => uptoBulkAll elems + uptoBulkAll spare + 1
  | .agg parts => uptoBulkAll parts + 1
  | .iface _ d => uptoBulk d + 1
  | .map entries => uptoBulkEntries entries + 1
  | .held _ => 1
def uptoBulkAll {H : Type} : List (DataW H) → Nat
  | [] => 0
  | d :: r => uptoBulk d + uptoBulkAll r
def uptoBulkEntries {H : Type} : List (Lit × DataW H) → Nat
  | [] => 0
  | x :: r => uptoBulkEntry x + uptoBulkEntries r
def uptoBulkEntry {H : Type} : Lit × DataW H → Nat
  | (.string bytes, d) => bytes.length + uptoBulk d + 1
  | (_, d) => uptoBulk d + 1
 end
def uptoSmall : (H : Type) → List (DataW H) → Bool := fun _ ds => decide (uptoBulkAll ds ≤ 1048576)
def OpenSpec.upto (s : _root_.Go.ChangeSpec) : _root_.Go.OpenSpec := { _root_.Go.OpenSpec.ofChange s with cond := some uptoSmall }

/-- 'bogielaw25.MigrateMatchesReference', WHERE WHAT IT READS IS OF BULK AT MOST 1048576: true; the input reads as it did. -/
def migrateMatchesReferenceUptoRow : OpenClaim := { program := "ytbiibpjjjjedgaa", sum := "412b0a9ae10be296d5c315e4bab10865290c990816e6e9b188435a6410b04d81", func := "bogie/bogielaw25.MigrateMatchesReference", spec := "migrateMatchesReference", unfollowed := true, recurses := true, named := ["math/bits.divideError", "math/bits.overflowError"], apart := false, narrowed := true }
def MigrateMatchesReferenceUptoSaid : Prop := migrateMatchesReferenceUptoRow.holds Try.pinned (OpenSpec.upto migrateMatchesReferenceSpec)

/-- 'bogielaw25.MigrateKeeps', WHERE WHAT IT READS IS OF BULK AT MOST 1048576: true; the input reads as it did. -/
def migrateKeepsUptoRow : OpenClaim := { program := "ytbiibpjjjjedgaa", sum := "412b0a9ae10be296d5c315e4bab10865290c990816e6e9b188435a6410b04d81", func := "bogie/bogielaw25.MigrateKeeps", spec := "migrateKeeps", unfollowed := true, recurses := true, named := ["math/bits.divideError", "math/bits.overflowError"], apart := false, narrowed := true }
def MigrateKeepsUptoSaid : Prop := migrateKeepsUptoRow.holds Try.pinned (OpenSpec.upto migrateKeepsSpec)

/-- 'bogielaw25.MigrateFull', WHERE WHAT IT READS IS OF BULK AT MOST 1048576: true; the input reads as it did. -/
def migrateFullUptoRow : OpenClaim := { program := "ytbiibpjjjjedgaa", sum := "412b0a9ae10be296d5c315e4bab10865290c990816e6e9b188435a6410b04d81", func := "bogie/bogielaw25.MigrateFull", spec := "migrateFull", unfollowed := true, recurses := true, named := ["math/bits.divideError", "math/bits.overflowError"], apart := false, narrowed := true }
def MigrateFullUptoSaid : Prop := migrateFullUptoRow.holds Try.pinned (OpenSpec.upto migrateFullSpec)

/-- 'bogielaw25.MigrateOrder', WHERE WHAT IT READS IS OF BULK AT MOST 1048576: true; the input reads as it did. -/
def migrateOrderUptoRow : OpenClaim := { program := "ytbiibpjjjjedgaa", sum := "412b0a9ae10be296d5c315e4bab10865290c990816e6e9b188435a6410b04d81", func := "bogie/bogielaw25.MigrateOrder", spec := "migrateOrder", unfollowed := true, recurses := true, named := ["math/bits.divideError", "math/bits.overflowError"], apart := false, narrowed := true }
def MigrateOrderUptoSaid : Prop := migrateOrderUptoRow.holds Try.pinned (OpenSpec.upto migrateOrderSpec)

/-- 'bogielaw25.MigrateChains', WHERE WHAT IT READS IS OF BULK AT MOST 1048576: true; the input reads as it did. -/
def migrateChainsUptoRow : OpenClaim := { program := "ytbiibpjjjjedgaa", sum := "412b0a9ae10be296d5c315e4bab10865290c990816e6e9b188435a6410b04d81", func := "bogie/bogielaw25.MigrateChains", spec := "migrateChains", unfollowed := true, recurses := true, named := ["math/bits.divideError", "math/bits.overflowError"], apart := false, narrowed := true }
def MigrateChainsUptoSaid : Prop := migrateChainsUptoRow.holds Try.pinned (OpenSpec.upto migrateChainsSpec)

/-- 'bogielaw25.MigrateLeft', WHERE WHAT IT READS IS OF BULK AT MOST 1048576: true; the input reads as it did. -/
def migrateLeftUptoRow : OpenClaim := { program := "ytbiibpjjjjedgaa", sum := "412b0a9ae10be296d5c315e4bab10865290c990816e6e9b188435a6410b04d81", func := "bogie/bogielaw25.MigrateLeft", spec := "migrateLeft", unfollowed := true, recurses := true, named := ["math/bits.divideError", "math/bits.overflowError"], apart := false, narrowed := true }
def MigrateLeftUptoSaid : Prop := migrateLeftUptoRow.holds Try.pinned (OpenSpec.upto migrateLeftSpec)

/-- 'bogielaw04.IntervalBounds', WHERE WHAT IT READS IS OF BULK AT MOST 1048576: true; the input reads as it did. -/
def intervalBoundsUptoRow : OpenClaim := { program := "ytbiibpjjjjedgaa", sum := "412b0a9ae10be296d5c315e4bab10865290c990816e6e9b188435a6410b04d81", func := "bogie/bogielaw04.IntervalBounds", spec := "intervalBounds", unfollowed := true, recurses := true, apart := false, narrowed := true }
def IntervalBoundsUptoSaid : Prop := intervalBoundsUptoRow.holds Try.pinned (OpenSpec.upto intervalBoundsSpec)

end Rows
end Go.Proofs.Ytbiibpjjjjedgaa
