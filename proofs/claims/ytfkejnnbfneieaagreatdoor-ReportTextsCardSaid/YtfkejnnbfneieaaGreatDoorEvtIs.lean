/- Reports: in memory, and as arguments. -/
import Derived.Test.YtfkejnnbfneieaaGreatDoorEvIs
namespace Go.Proofs.YtfkejnnbfneieaaGreatDoor
open Go.ChangeShapes Go.WideShapes Go.ChangeAt Go.RowKit Go.Deep
open Evt

theorem eEvs : Tryz.prog.cellsOf 26 = 1 := by kernel_rfl
section
variable {H : Type} {enc : TypeId × Value → H} {W : World} {base : Nat} {spare : Nat → Bool} {held : Bool} {v : Value} {d : DataW H} {p : List MemPlace}
set_option maxRecDepth 100000 in
theorem eopen_rp {fuel : Nat} {cs : List Value} {x : DataW H × List MemPlace} (h : DataW.trod enc Tryz.prog W base spare held fuel 31 cs = some x) : ∃ k, ElRp W cs k := by
  obtain ⟨hl, n, hf⟩ := open_field Tryz.underlying31 h
  rw [show Tryz.prog.cellsOf 31 = 2 by kernel_rfl] at hl
  obtain ⟨y0, g0⟩ := fld hf 0 _ rfl (te := 26) (o := 0) rfl rfl eEvs
  obtain ⟨y1, g1⟩ := fld hf 1 _ rfl (te := 4) (o := 1) rfl rfl eBool
  match cs, hl with
  | [c0, c1], _ =>
    obtain ⟨so, ss, sc, e0, hk, hk1, hk2, _⟩ := open_list (size := 14) (El := ElEv) Tryz.underlying26 (show Tryz.prog.cellsOf 50 = 14 by kernel_rfl) (by decide) (fun fuel cs x h => eopen_ev h) g0
    obtain ⟨b, e1⟩ := eopen_bool g1
    have e0 : [c0] = [.slice so ss.length sc] := e0
    have e1 : [c1] = [.bool b] := e1
    cases e0; cases e1
    exact ⟨⟨ss, b⟩, so, sc, rfl, hk, hk1, hk2⟩
theorem open_rps_arg {ao : Option Addr} {len cap : Nat} (h : DataW.Trod enc Tryz.prog W base spare held 22 (.slice ao len cap) d p) : ∃ l : List Rp, len = l.length ∧ IsL 2 ElRp W ao l ∧ len ≤ cap ∧ cap ≤ 9223372036854775807 := by
  obtain ⟨fuel, hf⟩ := h
  obtain ⟨ao', l, cap', e, h1, h2, h3, _⟩ := open_list (size := 2) (El := ElRp) Tryz.underlying22 (show Tryz.prog.cellsOf 31 = 2 by kernel_rfl) (by decide) (fun fuel cs x h => eopen_rp h) hf
  have e : [Value.slice ao len cap] = [.slice ao' l.length cap'] := e
  cases e
  exact ⟨l, rfl, h1, h2, h3⟩
end
end Go.Proofs.YtfkejnnbfneieaaGreatDoor
