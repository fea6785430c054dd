/- What the rows' listed tables give a walk over packages event and report; the start that fits. -/
import Derived.Test.YtknphmkblcbabaaGreatDoorShut
import Derived.Test.YtknphmkblcbabaaGreatDoorWords
import Derived.Test.YtknphmkblcbabaaGreatDoorCards
import Derived.Test.YtknphmkblcbabaaGreatDoorTie
import Derived.LaidMore
import Derived.Stop.Joined
import Derived.Stop.LaidErr
namespace Go.Proofs.YtknphmkblcbabaaGreatDoor
open Go.ChangeShapes Go.WideShapes Go.ChangeAt Go.RowKit

/-- The four tables as the rows list them. -/
abbrev laid4 : List (String × DataW Unit) := [("math/bits.deBruijn32tab", Rows.laid_math_bits_deBruijn32tab), ("math/bits.deBruijn64tab", Rows.laid_math_bits_deBruijn64tab), ("internal/strconv.uint64pow10", Rows.laid_internal_strconv_uint64pow10), ("bogie/event.words", Rows.laid_bogie_event_words)]
theorem door_met (os : Os) (args : Array Value) : laidMetH Tryz.prog laid4 ((World.doorLaid Tryz.prog 67 os).forCall (fun _ _ => 0) ⟨#[], args, []⟩).memory :=
  laidMetH_of_parts3 (fuel := 8) (laidMet_of_run' 8 (by kernel_rfl) (by kernel_rfl)) (by kernel_rfl) (by kernel_rfl)
theorem tab_of {W : World} (h : laidMetH Tryz.prog laid4 W) : WTab W ∧ Tab W := by
  rw [MakeChecks.laidMetH_plain _ _ _ (by kernel_rfl)] at h
  refine ⟨?_, ?_⟩
  · exact wtab_of_head (rest := []) h.tail.tail.tail
  · exact Lib.tabIs_of_head (g := 4) (by kernel_rfl) (t := 194) (by kernel_rfl) Tryz.underlying194 Tryz.underlying132 (by kernel_rfl) (by kernel_rfl) h.tail.tail

end Go.Proofs.YtknphmkblcbabaaGreatDoor
