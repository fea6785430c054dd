/-
  NARROWER THAN 'FOR EVERY INPUT', by the rows' own cells (each row's printed sentence says how): HoldMatchesReference: loops · HoldBacks: loops · HoldEverybody: loops · HoldEarly: loops · HoldNew: loops · HoldNobody: loops.
  DERIVED. THE GIVEN ROWS OF THIS SEAT. 6 by the template 'for every input the law returns true; each argument reads behind the call as it read before'; 0 by the template 'total and deterministic' (their statements: YtfokbcakbbdlaaaTotals.lean).
  GIVEN WITH THE SEED: the statements are not yours to turn. If you find one false, say at which input.
  Laid BY PROGRAM, IN A SANDBOX (cutbox-rows.mjs): the forced cells as the released guide's own fill.sh prints them over the translation ee7ba14dc163746d… (all of the seat's roots in one cut). By AI agents, Wed Nov 11 2026. No macro, syntax, notation, axiom, sorry.
-/
import Derived.Test.YtfokbcakbbdlaaaChecked
import GoSem.Claim
import GoSem.ClaimJoined
import GoSem.ClaimMapViews
import Derived.JoinedTies
import Derived.KernelRfl
namespace Go.Proofs.Ytfokbcakbbdlaaa
/- THE CELL 'sum', in the pinned program and in every row, IS THE sha256 OF THE DUMP (.gsa) THAT YtfokbcakbbdlaaaProg.lean LOADS. Nothing in Lean hashes anything: it is a label: what it is worth is what the hold of that sum in a sandbox is worth. -/
noncomputable def Try.pinned : Pinned := { name := "ytfokbcakbbdlaaa", sum := "ee7ba14dc163746d581086652f4b52991cfd5a2dfff88d5de339411263f5a3f1", checked := Try.checked }
namespace Rows
def none {H : Type} : Left H := { results := [], args := [] }

/-- 'bogielaw39.HoldMatchesReference': WHATEVER THE INPUT: true; the input reads as it did. -/
def holdMatchesReferenceSpec : ChangeSpec := { name := "holdMatchesReference", fn := fun _ => fun
  | [d1, d2, d3] => { results := [.lit (.bool true)], args := [d1, d2, d3] }
  | _ => none }
def holdMatchesReferenceRow : OpenClaim := { program := "ytfokbcakbbdlaaa", sum := "ee7ba14dc163746d581086652f4b52991cfd5a2dfff88d5de339411263f5a3f1", func := "bogie/bogielaw39.HoldMatchesReference", spec := "holdMatchesReference", unfollowed := true, recurses := true, loops := true, apart := false }
def HoldMatchesReferenceSaid : Prop := holdMatchesReferenceRow.holds Try.pinned (OpenSpec.ofChange holdMatchesReferenceSpec)

/-- ITS FALSE NEIGHBOUR: 'it returns false'. Refute it at one input. -/
def holdMatchesReferenceWrong : ChangeSpec := { name := "holdMatchesReference", fn := fun _ => fun
  | [d1, d2, d3] => { results := [.lit (.bool false)], args := [d1, d2, d3] }
  | _ => none }
def HoldMatchesReferenceWrongFalsely : Prop := holdMatchesReferenceRow.holds Try.pinned (OpenSpec.ofChange holdMatchesReferenceWrong)

/-- 'bogielaw39.HoldBacks': WHATEVER THE INPUT: true; the input reads as it did. -/
def holdBacksSpec : ChangeSpec := { name := "holdBacks", fn := fun _ => fun
  | [d1, d2, d3, d4] => { results := [.lit (.bool true)], args := [d1, d2, d3, d4] }
  | _ => none }
def holdBacksRow : OpenClaim := { program := "ytfokbcakbbdlaaa", sum := "ee7ba14dc163746d581086652f4b52991cfd5a2dfff88d5de339411263f5a3f1", func := "bogie/bogielaw39.HoldBacks", spec := "holdBacks", unfollowed := true, recurses := true, loops := true, apart := false }
def HoldBacksSaid : Prop := holdBacksRow.holds Try.pinned (OpenSpec.ofChange holdBacksSpec)

/-- ITS FALSE NEIGHBOUR: 'it returns false'. Refute it at one input. -/
def holdBacksWrong : ChangeSpec := { name := "holdBacks", fn := fun _ => fun
  | [d1, d2, d3, d4] => { results := [.lit (.bool false)], args := [d1, d2, d3, d4] }
  | _ => none }
def HoldBacksWrongFalsely : Prop := holdBacksRow.holds Try.pinned (OpenSpec.ofChange holdBacksWrong)

/-- 'bogielaw39.HoldEverybody': WHATEVER THE INPUT: true; the input reads as it did. -/
def holdEverybodySpec : ChangeSpec := { name := "holdEverybody", fn := fun _ => fun
  | [d1, d2, d3] => { results := [.lit (.bool true)], args := [d1, d2, d3] }
  | _ => none }
def holdEverybodyRow : OpenClaim := { program := "ytfokbcakbbdlaaa", sum := "ee7ba14dc163746d581086652f4b52991cfd5a2dfff88d5de339411263f5a3f1", func := "bogie/bogielaw39.HoldEverybody", spec := "holdEverybody", unfollowed := true, recurses := true, loops := true, apart := false }
def HoldEverybodySaid : Prop := holdEverybodyRow.holds Try.pinned (OpenSpec.ofChange holdEverybodySpec)

/-- ITS FALSE NEIGHBOUR: 'it returns false'. Refute it at one input. -/
def holdEverybodyWrong : ChangeSpec := { name := "holdEverybody", fn := fun _ => fun
  | [d1, d2, d3] => { results := [.lit (.bool false)], args := [d1, d2, d3] }
  | _ => none }
def HoldEverybodyWrongFalsely : Prop := holdEverybodyRow.holds Try.pinned (OpenSpec.ofChange holdEverybodyWrong)

/-- 'bogielaw39.HoldEarly': WHATEVER THE INPUT: true; the input reads as it did. -/
def holdEarlySpec : ChangeSpec := { name := "holdEarly", fn := fun _ => fun
  | [d1, d2] => { results := [.lit (.bool true)], args := [d1, d2] }
  | _ => none }
def holdEarlyRow : OpenClaim := { program := "ytfokbcakbbdlaaa", sum := "ee7ba14dc163746d581086652f4b52991cfd5a2dfff88d5de339411263f5a3f1", func := "bogie/bogielaw39.HoldEarly", spec := "holdEarly", unfollowed := true, recurses := true, loops := true, apart := false }
def HoldEarlySaid : Prop := holdEarlyRow.holds Try.pinned (OpenSpec.ofChange holdEarlySpec)

/-- ITS FALSE NEIGHBOUR: 'it returns false'. Refute it at one input. -/
def holdEarlyWrong : ChangeSpec := { name := "holdEarly", fn := fun _ => fun
  | [d1, d2] => { results := [.lit (.bool false)], args := [d1, d2] }
  | _ => none }
def HoldEarlyWrongFalsely : Prop := holdEarlyRow.holds Try.pinned (OpenSpec.ofChange holdEarlyWrong)

/-- 'bogielaw39.HoldNew': WHATEVER THE INPUT: true; the input reads as it did. -/
def holdNewSpec : ChangeSpec := { name := "holdNew", fn := fun _ => fun
  | [d1, d2, d3, d4] => { results := [.lit (.bool true)], args := [d1, d2, d3, d4] }
  | _ => none }
def holdNewRow : OpenClaim := { program := "ytfokbcakbbdlaaa", sum := "ee7ba14dc163746d581086652f4b52991cfd5a2dfff88d5de339411263f5a3f1", func := "bogie/bogielaw39.HoldNew", spec := "holdNew", unfollowed := true, recurses := true, loops := true, apart := false }
def HoldNewSaid : Prop := holdNewRow.holds Try.pinned (OpenSpec.ofChange holdNewSpec)

/-- ITS FALSE NEIGHBOUR: 'it returns false'. Refute it at one input. -/
def holdNewWrong : ChangeSpec := { name := "holdNew", fn := fun _ => fun
  | [d1, d2, d3, d4] => { results := [.lit (.bool false)], args := [d1, d2, d3, d4] }
  | _ => none }
def HoldNewWrongFalsely : Prop := holdNewRow.holds Try.pinned (OpenSpec.ofChange holdNewWrong)

/-- 'bogielaw39.HoldNobody': WHATEVER THE INPUT: true; the input reads as it did. -/
def holdNobodySpec : ChangeSpec := { name := "holdNobody", fn := fun _ => fun
  | [d1, d2, d3] => { results := [.lit (.bool true)], args := [d1, d2, d3] }
  | _ => none }
def holdNobodyRow : OpenClaim := { program := "ytfokbcakbbdlaaa", sum := "ee7ba14dc163746d581086652f4b52991cfd5a2dfff88d5de339411263f5a3f1", func := "bogie/bogielaw39.HoldNobody", spec := "holdNobody", unfollowed := true, recurses := true, loops := true, apart := false }
def HoldNobodySaid : Prop := holdNobodyRow.holds Try.pinned (OpenSpec.ofChange holdNobodySpec)

/-- ITS FALSE NEIGHBOUR: 'it returns false'. Refute it at one input. -/
def holdNobodyWrong : ChangeSpec := { name := "holdNobody", fn := fun _ => fun
  | [d1, d2, d3] => { results := [.lit (.bool false)], args := [d1, d2, d3] }
  | _ => none }
def HoldNobodyWrongFalsely : Prop := holdNobodyRow.holds Try.pinned (OpenSpec.ofChange holdNobodyWrong)

/- THE SECOND FORM. 'bulk': how many values and letters a reading holds, each counted each time it is reached (what is shared counts as often as it is met; a slice's spare places count too). A statement '..UptoSaid' is the law's where the arguments, and the package variables that the reading takes, are together of bulk at most 1048576: NARROWER than '..Said'. Prove '..Said' where nothing that the law and all that it calls make is longer than what came in: it says more and counts as full. Else prove '..UptoSaid'. A law counts once. -/
mutual
def uptoBulk {H : Type} : DataW H → Nat
  | .lit (.string bytes) => bytes.length + 1
  | .lit _ => 1
  | .nil => 1
  | .ptr d => uptoBulk d + 1
  | .slice elems spare => uptoBulkAll elems + uptoBulkAll spare + 1
  | .agg parts => uptoBulkAll parts + 1
  | .iface _ d => uptoBulk d + 1
  | .map entries => uptoBulkEntries entries + 1
  | .held _ => 1
def uptoBulkAll {H : Type} : List (DataW H) → Nat
  | [] => 0
  | d :: r => uptoBulk d + uptoBulkAll r
def uptoBulkEntries {H : Type} : List (Lit × DataW H) → Nat
  | [] => 0
  | x :: r => uptoBulkEntry x + uptoBulkEntries r
def uptoBulkEntry {H : Type} : Lit × DataW H → Nat
  | (.string bytes, d) => bytes.length + uptoBulk d + 1
  | (_, d) => uptoBulk d + 1
 end
def uptoSmall : (H : Type) → List (DataW H) → Bool := fun _ ds => decide (uptoBulkAll ds ≤ 1048576)
def OpenSpec.upto (s : _root_.Go.ChangeSpec) : _root_.Go.OpenSpec := { _root_.Go.OpenSpec.ofChange s with cond := some uptoSmall }

/-- 'bogielaw39.HoldMatchesReference', WHERE WHAT IT READS IS OF BULK AT MOST 1048576: true; the input reads as it did. -/
def holdMatchesReferenceUptoRow : OpenClaim := { program := "ytfokbcakbbdlaaa", sum := "ee7ba14dc163746d581086652f4b52991cfd5a2dfff88d5de339411263f5a3f1", func := "bogie/bogielaw39.HoldMatchesReference", spec := "holdMatchesReference", unfollowed := true, recurses := true, loops := true, apart := false, narrowed := true }
def HoldMatchesReferenceUptoSaid : Prop := holdMatchesReferenceUptoRow.holds Try.pinned (OpenSpec.upto holdMatchesReferenceSpec)

/-- 'bogielaw39.HoldBacks', WHERE WHAT IT READS IS OF BULK AT MOST 1048576: true; the input reads as it did. -/
def holdBacksUptoRow : OpenClaim := { program := "ytfokbcakbbdlaaa", sum := "ee7ba14dc163746d581086652f4b52991cfd5a2dfff88d5de339411263f5a3f1", func := "bogie/bogielaw39.HoldBacks", spec := "holdBacks", unfollowed := true, recurses := true, loops := true, apart := false, narrowed := true }
def HoldBacksUptoSaid : Prop := holdBacksUptoRow.holds Try.pinned (OpenSpec.upto holdBacksSpec)

/-- 'bogielaw39.HoldEverybody', WHERE WHAT IT READS IS OF BULK AT MOST 1048576: true; the input reads as it did. -/
def holdEverybodyUptoRow : OpenClaim := { program := "ytfokbcakbbdlaaa", sum := "ee7ba14dc163746d581086652f4b52991cfd5a2dfff88d5de339411263f5a3f1", func := "bogie/bogielaw39.HoldEverybody", spec := "holdEverybody", unfollowed := true, recurses := true, loops := true, apart := false, narrowed := true }
def HoldEverybodyUptoSaid : Prop := holdEverybodyUptoRow.holds Try.pinned (OpenSpec.upto holdEverybodySpec)

/-- 'bogielaw39.HoldEarly', WHERE WHAT IT READS IS OF BULK AT MOST 1048576: true; the input reads as it did. -/
def holdEarlyUptoRow : OpenClaim := { program := "ytfokbcakbbdlaaa", sum := "ee7ba14dc163746d581086652f4b52991cfd5a2dfff88d5de339411263f5a3f1", func := "bogie/bogielaw39.HoldEarly", spec := "holdEarly", unfollowed := true, recurses := true, loops := true, apart := false, narrowed := true }
def HoldEarlyUptoSaid : Prop := holdEarlyUptoRow.holds Try.pinned (OpenSpec.upto holdEarlySpec)

/-- 'bogielaw39.HoldNew', WHERE WHAT IT READS IS OF BULK AT MOST 1048576: true; the input reads as it did. -/
def holdNewUptoRow : OpenClaim := { program := "ytfokbcakbbdlaaa", sum := "ee7ba14dc163746d581086652f4b52991cfd5a2dfff88d5de339411263f5a3f1", func := "bogie/bogielaw39.HoldNew", spec := "holdNew", unfollowed := true, recurses := true, loops := true, apart := false, narrowed := true }
def HoldNewUptoSaid : Prop := holdNewUptoRow.holds Try.pinned (OpenSpec.upto holdNewSpec)

/-- 'bogielaw39.HoldNobody', WHERE WHAT IT READS IS OF BULK AT MOST 1048576: true; the input reads as it did. -/
def holdNobodyUptoRow : OpenClaim := { program := "ytfokbcakbbdlaaa", sum := "ee7ba14dc163746d581086652f4b52991cfd5a2dfff88d5de339411263f5a3f1", func := "bogie/bogielaw39.HoldNobody", spec := "holdNobody", unfollowed := true, recurses := true, loops := true, apart := false, narrowed := true }
def HoldNobodyUptoSaid : Prop := holdNobodyUptoRow.holds Try.pinned (OpenSpec.upto holdNobodySpec)

end Rows
end Go.Proofs.Ytfokbcakbbdlaaa
