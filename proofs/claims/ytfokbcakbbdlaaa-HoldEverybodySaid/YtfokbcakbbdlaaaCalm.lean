/- What follows a panic, left out of a region's post: in a function that defers it hangs on the frame. -/
import Derived.Test.YtfokbcakbbdlaaaBase
import Derived.Tactics
namespace Go.Proofs.Ytfokbcakbbdlaaa

def calmR (Q : Exit → Act → World → Prop) : Exit → Act → World → Prop := fun e a w => match e with
  | .panic _ => False
  | e => Q e a w
theorem wp_calm {P : Program} {id : Nat} {ops : Array Oper} {b : Bool} {Q : Exit → Act → World → Prop} {a : Act} {w : World} (h : (Code.region id ops b).wp P (calmR Q) a w) : (Code.region id ops b).wp P Q a w :=
  Code.wp_mono (fun e a w h => by cases e <;> first | exact h | exact h.elim) h
theorem calm_normal {Q : Exit → Act → World → Prop} {a : Act} {w : World} (h : Q .normal a w) : calmR Q .normal a w := h

end Go.Proofs.Ytfokbcakbbdlaaa
