/- What the rows' listed tables give a walk; the start that fits. -/
import Derived.Test.YtfnbdjjobndgfaaDoorShut
import Derived.Test.YtfnbdjjobndgfaaDoorItoa
import Derived.Test.YtfnbdjjobndgfaaDoorCards
import Derived.Test.YtfnbdjjobndgfaaDoorTie
import Derived.LaidMore
import Derived.Stop.Joined
import Derived.Stop.LaidErr
namespace Go.Proofs.YtfnbdjjobndgfaaDoor
open Go.ChangeShapes Go.WideShapes Go.ChangeAt Go.RowKit

/-- The three tables as the rows list them. -/
abbrev laid3 : List (String × DataW Unit) := [("math/bits.deBruijn32tab", Rows.laid_math_bits_deBruijn32tab), ("math/bits.deBruijn64tab", Rows.laid_math_bits_deBruijn64tab), ("internal/strconv.uint64pow10", Rows.laid_internal_strconv_uint64pow10)]
theorem door_met (os : Os) (args : Array Value) : laidMetH Tryd.prog laid3 ((World.doorLaid Tryd.prog 24 os).forCall (fun _ _ => 0) ⟨#[], args, []⟩).memory :=
  laidMetH_of_parts3 (fuel := 8) (laidMet_of_run' 8 (by kernel_rfl) (by kernel_rfl)) (by kernel_rfl) (by kernel_rfl)
theorem tab_of {W : World} (h : laidMetH Tryd.prog laid3 W) : Tab W := by
  rw [MakeChecks.laidMetH_plain _ _ _ (by kernel_rfl)] at h
  exact Lib.tabIs_of_head (rest := []) (g := 0) (by kernel_rfl) (t := 96) (by kernel_rfl) Tryd.underlying96 Tryd.underlying65 (by kernel_rfl) (by kernel_rfl) h.tail.tail

end Go.Proofs.YtfnbdjjobndgfaaDoor
