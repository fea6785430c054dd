/- EventFields, with what it calls. -/
import Derived.Test.YtbnofoncapaabaaGreatDoorEvtHead
import Derived.Test.YtbnofoncapaabaaGreatDoorEvtShort
import Derived.Test.YtbnofoncapaabaaGreatDoorEvtFields
namespace Go.Proofs.YtbnofoncapaabaaGreatDoor
open Go.RowKit
open Evt

theorem fields_any (x : Ev) (hx : Sz x) (n : Int) (hn : I64 n) (s : ByteArray) (hs : s.size ≤ 140737488351232) (W : World) (hT : WTab W) (ht : Tab W) (hE : Errs W) :
    Calls Tryz.prog 5 #[.agg (evC x).toArray, .int .i64 n, .string s] W fun e w' => e = .returned (.bool true) ∧ Below W.heap.size W w' :=
  fields_walk x hx n hn s hs (shortE x) W (fun w hw => head09_any w (hT.below hw) (ht.below hw) (hE.below hw)) (fun w => short_any x w)
end Go.Proofs.YtbnofoncapaabaaGreatDoor
