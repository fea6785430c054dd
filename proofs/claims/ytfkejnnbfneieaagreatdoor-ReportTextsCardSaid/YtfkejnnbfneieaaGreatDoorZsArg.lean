/- Lists of numbers in memory, and as arguments. -/
import Derived.Test.YtfkejnnbfneieaaGreatDoorEvIs
namespace Go.Proofs.YtfkejnnbfneieaaGreatDoor
open Go.ChangeShapes Go.WideShapes Go.ChangeAt Go.RowKit Go.Deep
open Evt

def ElZ (_ : World) (cs : List Value) (z : Int) : Prop := cs = [.int .i64 z]
theorem stZ : ElStable ElZ := fun _ _ _ _ h _ => h
section
variable {H : Type} {enc : TypeId × Value → H} {W : World} {base : Nat} {spare : Nat → Bool} {held : Bool} {d : DataW H} {p : List MemPlace}
theorem open_zs_arg {ao : Option Addr} {len cap : Nat} (h : DataW.Trod enc Tryz.prog W base spare held 23 (.slice ao len cap) d p) : ∃ l : List Int, len = l.length ∧ IsL 1 ElZ W ao l ∧ len ≤ cap ∧ cap ≤ 9223372036854775807 := by
  obtain ⟨fuel, hf⟩ := h
  obtain ⟨ao', l, cap', e, h1, h2, h3, _⟩ := open_list (size := 1) (El := ElZ) Tryz.underlying23 (show Tryz.prog.cellsOf 3 = 1 by kernel_rfl) (by decide) (fun fuel cs x h => by obtain ⟨z, e, _⟩ := eopen_int h; exact ⟨z, e⟩) hf
  have e : [Value.slice ao len cap] = [.slice ao' l.length cap'] := e
  cases e
  exact ⟨l, rfl, h1, h2, h3⟩
end
end Go.Proofs.YtfkejnnbfneieaaGreatDoor
