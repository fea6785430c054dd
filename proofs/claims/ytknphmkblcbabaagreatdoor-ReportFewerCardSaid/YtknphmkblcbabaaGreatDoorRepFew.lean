/- The law's few: true only if there are no more than said. -/
import Derived.Test.YtknphmkblcbabaaGreatDoorRpFew
import Derived.Test.YtknphmkblcbabaaGreatDoorZsArg
namespace Go.Proofs.YtknphmkblcbabaaGreatDoor
open Go.RowKit
open Evt

set_option maxRecDepth 100000 in
theorem fewLaw_any (ao : Option Addr) (l : List Rp) (cap : Nat) (hl : l.length ≤ 9223372036854775807) (co : Option Addr) (n c : Nat) (hn : n ≤ 9223372036854775807) (W : World) (hi : IsL 2 ElRp W ao l) :
    Calls Tryz.prog 10 #[.slice ao l.length cap, .slice co n c] W (YN (l.length ≤ 12 ∧ n ≤ 30) W) := by
  have HS := Lib.hid (few13_any 12 ao l cap hl W hi)
  clear hi
  obtain ⟨m, Hm⟩ : ∃ n, Hid (n = l.length) := ⟨_, Lib.hid rfl⟩
  rw [← Hm.out] at HS ⊢
  obtain ⟨y, hy⟩ : ∃ b, decide ((n : Int) ≤ 30) = b := ⟨_, rfl⟩
  have hy2 : decide (n ≤ 30) = y := by rw [← hy]; congr 1; exact propext (by omega)
  have HY : Hid (y = true → n ≤ 30) := Lib.hid (fun h => by rw [← hy2] at h; exact of_decide_eq_true h)
  go_enter Tryz.func10, Tryz.ntmps10
  go_wp2_with fail
  refine HS.out.mono ?_
  rintro e w1 ⟨b, rfl, h, hb⟩
  have HE := Lib.hid h
  have HB := Lib.hid hb
  clear h hb
  cases b with
  | false =>
    go_wp2_with fail
    go_ret
    exact ⟨false, rfl, (fun h => by cases h), HB.out⟩
  | true =>
    have hm := HE.out rfl
    have Hm2 := Lib.hid hm
    clear hm
    go_wp2_with fail
    go_ret
    exact ⟨y, rfl, (fun h => ⟨Hm2.out, HY.out h⟩), HB.out⟩
end Go.Proofs.YtknphmkblcbabaaGreatDoor
