/- The laws' head: values. -/
import Derived.Test.YtknphmkblcbabaaGreatDoorRepText
import Derived.Test.YtknphmkblcbabaaGreatDoorRepPick
namespace Go.Proofs.YtknphmkblcbabaaGreatDoor
open Go.RowKit
open Evt

namespace Rph
def e1 : Ev := ⟨1, 3, ⟨#[97]⟩, ⟨#[97, 120, 108, 101]⟩, ⟨#[]⟩, ⟨#[]⟩, ⟨#[]⟩, ⟨#[]⟩, 0, 0, 0, 0, 0, 0⟩
def e2 : Ev := ⟨3, 5, ⟨#[97]⟩, ⟨#[]⟩, ⟨#[]⟩, ⟨#[]⟩, ⟨#[]⟩, ⟨#[]⟩, 0, 0, 0, 0, 0, 0⟩
def e3 : Ev := ⟨3, 5, ⟨#[98]⟩, ⟨#[]⟩, ⟨#[]⟩, ⟨#[]⟩, ⟨#[]⟩, ⟨#[]⟩, 0, 0, 0, 0, 0, 0⟩
def rA : Rp := ⟨[e1], false⟩
def rB : Rp := ⟨[e2, e3], true⟩
theorem evEq_refl (e : Ev) : evEq e e = true := evEq_iff.2 rfl
theorem valid1 : valid e1 = true := by
  unfold valid
  rw [show restOf e1 = zero from rfl, evEq_refl, show nm e1.part = true from by kernel_rfl, show okE e1 = true from by kernel_rfl]
  rfl
theorem valid2 : valid e2 = true := by
  unfold valid
  rw [show restOf e2 = zero from rfl, evEq_refl, show nm e2.part = true from by kernel_rfl, show okE e2 = true from by kernel_rfl]
  rfl
theorem valid3 : valid e3 = true := by
  unfold valid
  rw [show restOf e3 = zero from rfl, evEq_refl, show nm e3.part = true from by kernel_rfl, show okE e3 = true from by kernel_rfl]
  rfl
theorem ne32 : evEq e3 e2 = false := by
  cases h : evEq e3 e2 with
  | false => rfl
  | true => exact absurd (congrArg (fun e : Ev => e.part.data.toList) (evEq_iff.1 h)) (by decide)
theorem validA : validR rA = true := by
  unfold validR okUp rA
  simp [okAt, valid1]
theorem validB : validR rB = true := by
  unfold validR okUp rB
  simp [okAt, valid2, valid3, ne32, List.range_succ]
theorem choicesA : choices rA = 1 := by
  unfold choices
  rw [validA]
  rfl
theorem choicesB : choices rB = 3 := by
  unfold choices
  rw [validB]
  rfl
def tA : ByteArray := ⟨#[115, 117, 114, 101, 10, 109, 97, 107, 101, 32, 51, 32, 97, 32, 97, 120, 108, 101, 10]⟩
def tB : ByteArray := ⟨#[112, 101, 114, 104, 97, 112, 115, 10, 114, 101, 109, 111, 118, 101, 32, 53, 32, 97, 10, 114, 101, 109, 111, 118, 101, 32, 53, 32, 98, 10]⟩
theorem d3 : digs 3 = [51] := by unfold digs; rw [show (3 : Int).toNat = 3 from rfl, Lib.decDigits]; simp
theorem d5 : digs 5 = [53] := by unfold digs; rw [show (5 : Int).toNat = 5 from rfl, Lib.decDigits]; simp
theorem t1 : textE e1 = [109, 97, 107, 101, 32, 51, 32, 97, 32, 97, 120, 108, 101] := by
  unfold textE rowsE
  rw [show e1.day = 3 from rfl, d3]
  rfl
theorem t2 : textE e2 = [114, 101, 109, 111, 118, 101, 32, 53, 32, 97] := by
  unfold textE rowsE
  rw [show e2.day = 5 from rfl, d5]
  rfl
theorem t3 : textE e3 = [114, 101, 109, 111, 118, 101, 32, 53, 32, 98] := by
  unfold textE rowsE
  rw [show e3.day = 5 from rfl, d5]
  rfl
theorem textA : textR rA = tA := by
  show ((headB false ++ (⟨#[10]⟩ : ByteArray)) ++ lineE e1) = tA
  unfold lineE
  rw [t1]
  rfl
theorem textB : textR rB = tB := by
  show (((headB true ++ (⟨#[10]⟩ : ByteArray)) ++ lineE e2) ++ lineE e3) = tB
  unfold lineE
  rw [t2, t3]
  rfl
theorem pickB3 : pickB [rA, rB, rB] [0, 1, 2] = true := by
  unfold pickB pkAll pkOk
  simp [choicesA, choicesB]
theorem pickE3 : pickE [rA, rB, rB] [0, 1, 2] = 0 := by
  unfold pickE
  rw [pickB3]
  rfl
theorem pickF3 : pickF [rA, rB, rB] [0, 1, 2] = [e1, e3] := by
  unfold pickF
  rw [pickB3]
  rfl
theorem sz1 : Sz e1 := ⟨by unfold I64; decide, by unfold I64; decide, by unfold St; decide, by unfold St; decide, st_emp, st_emp, st_emp, st_emp, i64_zero, i64_zero, i64_zero, i64_zero, i64_zero, i64_zero⟩
theorem sz2 : Sz e2 := ⟨by unfold I64; decide, by unfold I64; decide, by unfold St; decide, st_emp, st_emp, st_emp, st_emp, st_emp, i64_zero, i64_zero, i64_zero, i64_zero, i64_zero, i64_zero⟩
theorem sz3 : Sz e3 := ⟨by unfold I64; decide, by unfold I64; decide, by unfold St; decide, st_emp, st_emp, st_emp, st_emp, st_emp, i64_zero, i64_zero, i64_zero, i64_zero, i64_zero, i64_zero⟩
end Rph
open Rph
/-- event.Text at the head's events. -/
def TxtE (e : Ev) : Prop := (textE e).length ≤ 1000000 ∧ ∀ W, WTab W → Tab W → Calls Tryz.prog 34 #[.agg (evC e).toArray] W fun x w' => x = .returned (.tuple #[.string ⟨(textE e).toArray⟩, .int .i64 0]) ∧ Below W.heap.size W w'
theorem txt1 : TxtE e1 := ⟨by rw [t1]; decide, fun W hT ht => evText_good e1 sz1 valid1 (by decide) (by decide) (by rw [t1]; decide) W hT ht⟩
theorem txt2 : TxtE e2 := ⟨by rw [t2]; decide, fun W hT ht => evText_good e2 sz2 valid2 (by decide) (by decide) (by rw [t2]; decide) W hT ht⟩
theorem txt3 : TxtE e3 := ⟨by rw [t3]; decide, fun W hT ht => evText_good e3 sz3 valid3 (by decide) (by decide) (by rw [t3]; decide) W hT ht⟩
theorem textA_any (oo : Option Addr) (oc : Nat) (h1 : 1 ≤ oc) (h2 : oc ≤ 9223372036854775807) (W : World) (hT : WTab W) (ht : Tab W) (hi : IsL 14 ElEv W oo [e1]) :
    Calls Tryz.prog 17 #[.agg #[.slice oo 1 oc, .bool false]] W fun e w' => e = .returned (.tuple #[.string tA, .int .i64 0]) ∧ Below W.heap.size W w' := by
  rw [← textA]
  exact repText_good rA oo oc h1 h2 validA (fun e he => by rw [show e = e1 from List.mem_singleton.1 he]; exact txt1) W hT ht hi
theorem textB_any (oo : Option Addr) (oc : Nat) (h1 : 2 ≤ oc) (h2 : oc ≤ 9223372036854775807) (W : World) (hT : WTab W) (ht : Tab W) (hi : IsL 14 ElEv W oo [e2, e3]) :
    Calls Tryz.prog 17 #[.agg #[.slice oo 2 oc, .bool true]] W fun e w' => e = .returned (.tuple #[.string tB, .int .i64 0]) ∧ Below W.heap.size W w' := by
  rw [← textB]
  refine repText_good rB oo oc h1 h2 validB (fun e he => ?_) W hT ht hi
  have he : e ∈ [e2, e3] := he
  simp only [List.mem_cons, List.not_mem_nil, or_false] at he
  rcases he with rfl | rfl
  · exact txt2
  · exact txt3
end Go.Proofs.YtknphmkblcbabaaGreatDoor
