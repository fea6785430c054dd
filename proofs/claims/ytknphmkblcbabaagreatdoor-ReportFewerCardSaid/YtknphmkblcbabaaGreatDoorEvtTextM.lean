/- The text of an event: values. -/
import Derived.Test.YtknphmkblcbabaaGreatDoorWords
import Derived.Test.YtknphmkblcbabaaGreatDoorEvtValid
import Derived.Lib.Join
import Derived.Lib.ItoaLen
namespace Go.Proofs.YtknphmkblcbabaaGreatDoor
open Go.RowKit
open Evt

namespace Evt
/-- A number's digits. -/
def digs (z : Int) : List UInt8 := Lib.decDigits z.toNat
def wordOf (z : Int) : List UInt8 := wordsL.getD z.toNat []
/-- The rows of an event's text. -/
def rowsE (e : Ev) : List (List UInt8) :=
  [wordOf e.op, digs e.day, e.part.data.toList] ++
    (if e.op = 1 then [e.kind.data.toList] else if e.op = 2 then [e.into.data.toList, e.slot.data.toList]
     else if e.op = 4 then [digs e.k0, digs e.k1, digs e.c0, digs e.c1, digs e.d0, digs e.d1]
     else if e.op = 6 then [e.key.data.toList, Lex.quote e.value.data.toList] else [])
def textE (e : Ev) : List UInt8 := Lib.join (rowsE e) [32]
theorem valid_op {e : Ev} (h : valid e = true) : 1 ≤ e.op ∧ e.op ≤ 7 ∧ 0 ≤ e.day ∧ e.day ≤ 40000 ∧ nm e.part = true ∧ okE e = true := by
  unfold valid at h
  simp only [Bool.and_eq_true, Bool.not_eq_true', decide_eq_false_iff_not] at h
  exact ⟨by omega, by omega, by omega, by omega, h.2.2.2.2.1, h.2.2.2.2.2.1⟩
theorem wordOf_at {z : Int} (h1 : 1 ≤ z) (h2 : z ≤ 7) : wordsL[z.toNat]? = some (wordOf z) := by
  have h : z.toNat < wordsL.length := by show z.toNat < 8; omega
  unfold wordOf
  rw [List.getD_eq_getElem?_getD, List.getElem?_eq_getElem h]
  rfl
end Evt
end Go.Proofs.YtknphmkblcbabaaGreatDoor
