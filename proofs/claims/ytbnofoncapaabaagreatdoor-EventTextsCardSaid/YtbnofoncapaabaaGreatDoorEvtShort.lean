/- The reference's Short. -/
import Derived.Test.YtbnofoncapaabaaGreatDoorEvtValid
namespace Go.Proofs.YtbnofoncapaabaaGreatDoor
open Go.RowKit
open Evt

namespace Evt
def shortE (e : Ev) : Bool := decide ((e.part.size : Int) ≤ 300) && (decide ((e.kind.size : Int) ≤ 300) && (decide ((e.into.size : Int) ≤ 300) && (decide ((e.slot.size : Int) ≤ 300) && (decide ((e.key.size : Int) ≤ 300) && decide ((e.value.size : Int) ≤ 300)))))
end Evt
set_option maxRecDepth 100000 in
set_option maxHeartbeats 4000000 in
theorem short_any (x : Ev) (W : World) :
    Calls Tryz.prog 8 #[.agg (evC x).toArray] W fun e w' => e = .returned (.bool (shortE x)) ∧ Below W.heap.size W w' := by
  obtain ⟨V, HV⟩ : ∃ w, Hid (w = W.alloc (.cells (evC x).toArray 27)) := ⟨_, Lib.hid rfl⟩
  obtain ⟨N, HN⟩ : ∃ N, Hid (N = W.heap.size) := ⟨_, Lib.hid rfl⟩
  have HB : Hid (Below W.heap.size W V) := Lib.hid (by rw [HV.out]; exact (Below.refl _ _).alloc (Nat.le_refl _) _)
  have HW : Hid (Whole V N 27 (evC x).toArray) := Lib.hid (by rw [HV.out, HN.out]; exact Whole.new _ _ _)
  obtain ⟨R, HR⟩ : ∃ R, Hid (R = shortE x) := ⟨_, Lib.hid rfl⟩
  rw [← HR.out]
  have HRe := Lib.hid (HR.out.trans rfl)
  unfold shortE at HRe
  clear HR
  obtain ⟨x0, x1, x2, x3, x4, x5, x6, x7, x8, x9, xa, xb, xc, xd⟩ := x
  dsimp only at HRe
  have c2 : V.cell? ⟨N, 2, none⟩ = some (.string x2) := HW.out.cell 2
  have c3 : V.cell? ⟨N, 3, none⟩ = some (.string x3) := HW.out.cell 3
  have c4 : V.cell? ⟨N, 4, none⟩ = some (.string x4) := HW.out.cell 4
  have c5 : V.cell? ⟨N, 5, none⟩ = some (.string x5) := HW.out.cell 5
  have c6 : V.cell? ⟨N, 6, none⟩ = some (.string x6) := HW.out.cell 6
  have c7 : V.cell? ⟨N, 7, none⟩ = some (.string x7) := HW.out.cell 7
  obtain ⟨b1, h1⟩ : ∃ b, decide ((x2.size : Int) ≤ 300) = b := ⟨_, rfl⟩
  obtain ⟨b2, h2⟩ : ∃ b, decide ((x3.size : Int) ≤ 300) = b := ⟨_, rfl⟩
  obtain ⟨b3, h3⟩ : ∃ b, decide ((x4.size : Int) ≤ 300) = b := ⟨_, rfl⟩
  obtain ⟨b4, h4⟩ : ∃ b, decide ((x5.size : Int) ≤ 300) = b := ⟨_, rfl⟩
  obtain ⟨b5, h5⟩ : ∃ b, decide ((x6.size : Int) ≤ 300) = b := ⟨_, rfl⟩
  obtain ⟨b6, h6⟩ : ∃ b, decide ((x7.size : Int) ≤ 300) = b := ⟨_, rfl⟩
  have HRq : Hid (R = (b1 && (b2 && (b3 && (b4 && (b5 && b6)))))) := Lib.hid (by rw [HRe.out, h1, h2, h3, h4, h5, h6])
  unfold evC at HV ⊢
  go_enter Tryz.func8, Tryz.ntmps8
  go_wp2_with (first
    | (with_reducible show wpList _ _ _ (Oper.mk _ (Op.fieldAddr _ (.tmp 1) 2) _ _ _ _ :: _) _ _; refine Hid.out ?_))
  refine Lib.hid ?_
  rw [← HV.out, ← HN.out]
  cases b1 with
  | false =>
    obtain rfl : R = false := by rw [HRq.out]; rfl
    go_wp2_with fail
    go_ret
    exact ⟨rfl, HB.out⟩
  | true =>
  cases b2 with
  | false =>
    obtain rfl : R = false := by rw [HRq.out]; rfl
    go_wp2_with fail
    go_ret
    exact ⟨rfl, HB.out⟩
  | true =>
  cases b3 with
  | false =>
    obtain rfl : R = false := by rw [HRq.out]; rfl
    go_wp2_with fail
    go_ret
    exact ⟨rfl, HB.out⟩
  | true =>
  cases b4 with
  | false =>
    obtain rfl : R = false := by rw [HRq.out]; rfl
    go_wp2_with fail
    go_ret
    exact ⟨rfl, HB.out⟩
  | true =>
  cases b5 with
  | false =>
    obtain rfl : R = false := by rw [HRq.out]; rfl
    go_wp2_with fail
    go_ret
    exact ⟨rfl, HB.out⟩
  | true =>
  cases b6 with
  | false =>
    obtain rfl : R = false := by rw [HRq.out]; rfl
    go_wp2_with fail
    go_ret
    exact ⟨rfl, HB.out⟩
  | true =>
  obtain rfl : R = true := by rw [HRq.out]; rfl
  go_wp2_with fail
  go_ret
  exact ⟨rfl, HB.out⟩
end Go.Proofs.YtbnofoncapaabaaGreatDoor
