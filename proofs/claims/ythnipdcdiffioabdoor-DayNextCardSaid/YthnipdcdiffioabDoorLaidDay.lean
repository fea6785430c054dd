/- What the rows' listed tables give a walk over package day; the start that fits. -/
import Derived.Test.YthnipdcdiffioabDoorShut
import Derived.Test.YthnipdcdiffioabDoorItoa
import Derived.Test.YthnipdcdiffioabDoorDayWalksA
import Derived.Test.YthnipdcdiffioabDoorCards
import Derived.Test.YthnipdcdiffioabDoorTie
import Derived.LaidMore
import Derived.Stop.Joined
import Derived.Stop.LaidErr
namespace Go.Proofs.YthnipdcdiffioabDoor
open Go.ChangeShapes Go.WideShapes Go.ChangeAt Go.RowKit

/-- The four tables as the rows list them. -/
abbrev laid4 : List (String × DataW Unit) := [("math/bits.deBruijn32tab", Rows.laid_math_bits_deBruijn32tab), ("math/bits.deBruijn64tab", Rows.laid_math_bits_deBruijn64tab), ("internal/strconv.uint64pow10", Rows.laid_internal_strconv_uint64pow10), ("bogie/day.monthLengths", Rows.laid_bogie_day_monthLengths)]
theorem door_met (os : Os) (args : Array Value) : laidMetH Tryd.prog laid4 ((World.doorLaid Tryd.prog 67 os).forCall (fun _ _ => 0) ⟨#[], args, []⟩).memory :=
  laidMetH_of_parts3 (fuel := 8) (laidMet_of_run' 8 (by kernel_rfl) (by kernel_rfl)) (by kernel_rfl) (by kernel_rfl)
theorem tab_of {W : World} (h : laidMetH Tryd.prog laid4 W) : MTab W ∧ Tab W := by
  rw [MakeChecks.laidMetH_plain _ _ _ (by kernel_rfl)] at h
  refine ⟨?_, ?_⟩
  · exact Lib.tabIs_of_head (rest := []) (g := 0) (by kernel_rfl) (t := 56) (by kernel_rfl) Tryd.underlying56 Tryd.underlying3 (by kernel_rfl) (by kernel_rfl) h.tail.tail.tail
  · exact Lib.tabIs_of_head (g := 3) (by kernel_rfl) (t := 81) (by kernel_rfl) Tryd.underlying81 Tryd.underlying67 (by kernel_rfl) (by kernel_rfl) h.tail.tail

end Go.Proofs.YthnipdcdiffioabDoor
