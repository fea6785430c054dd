/- An event as an argument. -/
import Derived.Test.YtbnofoncapaabaaGreatDoorEvIs
namespace Go.Proofs.YtbnofoncapaabaaGreatDoor
open Go.ChangeShapes Go.WideShapes Go.ChangeAt Go.RowKit Go.Deep
open Evt

set_option maxRecDepth 100000 in
theorem open_ev_arg {H : Type} {enc : TypeId × Value → H} {W : World} {base : Nat} {spare : Nat → Bool} {held : Bool} {v : Value} {d : DataW H} {p : List MemPlace} {r : Reach} {b0 : Nat} (hv : Value.okWide Tryz.prog W r b0 27 v) (h : DataW.Trod enc Tryz.prog W base spare held 27 v d p) :
    ∃ x : Ev, v = .agg (evC x).toArray ∧ Sz x := by
  obtain ⟨ca, rfl, hsz⟩ := okWide_struct Tryz.underlying27 hv
  obtain ⟨fuel, hf⟩ := h
  have hc : (Value.agg ca).cells.toList = ca.toList := by simp [Value.cells]
  rw [hc] at hf
  obtain ⟨x, e, h1⟩ := eopen_ev hf
  refine ⟨x, ?_, h1⟩
  rw [← Array.toArray_toList (xs := ca), e]
end Go.Proofs.YtbnofoncapaabaaGreatDoor
