/- The head's values. -/
import Derived.Test.YtolnpimnoajcaaaLnkMade
import Derived.Test.YtolnpimnoajcaaaLnkDbtM
import Derived.Test.YtolnpimnoajcaaaLnkSame
namespace Go.Proofs.Ytolnpimnoajcaaa
open Go.RowKit
open Evt Lnk

def sA : ByteArray := ⟨#[97]⟩
def sB : ByteArray := ⟨#[98]⟩
def sC : ByteArray := ⟨#[99]⟩
def sX : ByteArray := ⟨#[120]⟩
def fitE : Ev := ⟨2, 0, ⟨#[97]⟩, ⟨#[]⟩, ⟨#[99]⟩, ⟨#[115]⟩, ⟨#[]⟩, ⟨#[]⟩, 0, 0, 0, 0, 0, 0⟩
def headL : List Rp := [⟨[mkEv sA], false⟩, ⟨[mkEv sB], false⟩, ⟨[fitE], true⟩, ⟨[mkEv sC], false⟩]
namespace Lnk
theorem evEq_self (e : Ev) : evEq e e = true := evEq_iff.2 rfl
theorem valid_mk {p : ByteArray} (h : nm p = true) : valid (mkEv p) = true := by
  unfold valid
  rw [show restOf (mkEv p) = zero from rfl, evEq_self, show (mkEv p).part = p from rfl, h, show okE (mkEv p) = true from by kernel_rfl]
  rfl
theorem valid_fit : valid fitE = true := by
  unfold valid
  rw [show restOf fitE = zero from rfl, evEq_self, show nm fitE.part = true from by kernel_rfl, show okE fitE = true from by kernel_rfl]
  rfl
theorem valid_one {e : Ev} {d : Bool} (h : valid e = true) : validR ⟨[e], d⟩ = true := by
  unfold validR okUp
  simp [okAt, h]
theorem srt_sorted {ss : List (List UInt8)} (h : ss.Pairwise (fun x y => decide (x ≤ y) = true)) : srt ss = ss := List.mergeSort_of_pairwise h
theorem names_mk {p : ByteArray} (h : nm p = true) (d : Bool) : namesR ⟨[mkEv p], d⟩ = [bts p] := by
  unfold namesR
  rw [if_pos (valid_one (valid_mk h))]
  have : namesL [mkEv p] = [bts p] := by
    unfold namesL
    simp only [List.flatMap_cons, List.flatMap_nil, List.append_nil, namesE, valid_mk h, if_true]
    rfl
  rw [show (⟨[mkEv p], d⟩ : Rp).opts = [mkEv p] from rfl, this, srt_sorted (by simp)]
  rfl
theorem names_fit (d : Bool) : namesR ⟨[fitE], d⟩ = [[97], [99]] := by
  have hs : ([[97], [99]] : List (List UInt8)).Pairwise (fun x y => decide (x ≤ y) = true) := by decide
  unfold namesR
  rw [if_pos (valid_one valid_fit)]
  have : namesL [fitE] = [[97], [99]] := by
    unfold namesL
    simp only [List.flatMap_cons, List.flatMap_nil, List.append_nil, namesE, valid_fit, if_true, show fitE.op = 2 from rfl]
    exact srt_sorted hs
  rw [show (⟨[fitE], d⟩ : Rp).opts = [fitE] from rfl, this, srt_sorted hs]
  rfl
def hN (i : Nat) : List (List UInt8) := if i = 0 then [[97]] else if i = 1 then [[98]] else if i = 2 then [[97], [99]] else if i = 3 then [[99]] else []
theorem headN : namesAt headL = hN := by
  funext i
  match i with
  | 0 => exact names_mk (p := sA) (by kernel_rfl) false
  | 1 => exact names_mk (p := sB) (by kernel_rfl) false
  | 2 => exact names_fit true
  | 3 => exact names_mk (p := sC) (by kernel_rfl) false
  | n + 4 => unfold namesAt headL hN; simp
def hR (i : Nat) : Nat := if i = 1 then 1 else 0
theorem hR_step {j k : Nat} {x : List UInt8} (hj : j < 4) (hk : k < 4) (h1 : x ∈ hN j) (h2 : x ∈ hN k) : hR j = hR k := by
  have c : ∀ j, j < 4 → j = 0 ∨ j = 1 ∨ j = 2 ∨ j = 3 := fun j h => by omega
  rcases c j hj with rfl | rfl | rfl | rfl <;> rcases c k hk with rfl | rfl | rfl | rfl <;> simp [hN] at h1 h2 <;> first | rfl | (subst h1; simp at h2) | (rcases h1 with rfl | rfl <;> simp at h2)
theorem headConn (a b : Nat) (ha : a < 4) (hb : b < 4) : hR a = hR b ↔ Conn 4 hN a b := by
  have c02 : Conn 4 hN 0 2 := .step (j := 0) (x := [97]) (by decide) (by decide) (.refl _) (by simp [hN]) (by simp [hN])
  have c23 : Conn 4 hN 2 3 := .step (j := 2) (x := [99]) (by decide) (by decide) (.refl _) (by simp [hN]) (by simp [hN])
  have c03 := c02.trans c23
  constructor
  · intro h
    have c : ∀ j, j < 4 → j = 0 ∨ j = 1 ∨ j = 2 ∨ j = 3 := fun j h => by omega
    rcases c a ha with rfl | rfl | rfl | rfl <;> rcases c b hb with rfl | rfl | rfl | rfl <;> first | exact .refl _ | exact c02 | exact c23 | exact c03 | exact c02.symm | exact c23.symm | exact c03.symm | (simp [hR] at h)
  · intro h
    clear hb
    induction h with
    | refl => rfl
    | step hj hk _ h1 h2 ih => rw [ih]; exact hR_step hj hk h1 h2
theorem headG {r : Nat → Nat} (h : ∀ a b, a < 4 → b < 4 → (r a = r b ↔ Conn 4 (namesAt headL) a b)) : groups r 4 = [[0, 2, 3], [1]] := by
  rw [groups_congr (r' := hR) (fun a b ha hb => by rw [h a b ha hb, headN]; exact (headConn a b ha hb).symm)]
  decide
theorem headOfC {r : Nat → Nat} (h : ∀ a b, a < 4 → b < 4 → (r a = r b ↔ Conn 4 (namesAt headL) a b)) : ofA headL sC r = [0, 2, 3] := by
  unfold ofA
  rw [show headL.length = 4 from rfl, headG h]
  have : (([0, 2, 3] : List Nat).any (hasP headL sC)) = true := by
    simp [hasP, headN, hN, bts, sC]
  simp [List.find?, this]
theorem headOfX {r : Nat → Nat} (h : ∀ a b, a < 4 → b < 4 → (r a = r b ↔ Conn 4 (namesAt headL) a b)) : ofA headL sX r = [] := by
  unfold ofA
  rw [show headL.length = 4 from rfl, headG h]
  have h1 : (([0, 2, 3] : List Nat).any (hasP headL sX)) = false := by
    simp [hasP, headN, hN, bts, sX]
  have h2 : (([1] : List Nat).any (hasP headL sX)) = false := by
    simp [hasP, headN, hN, bts, sX]
  simp [List.find?, h1, h2]
theorem choices_one {e : Ev} {d : Bool} (h : valid e = true) : choices ⟨[e], d⟩ = if d then 2 else 1 := by
  unfold choices
  rw [if_pos (valid_one h)]
  rfl
theorem headD : doubts headL = 1 := by
  unfold doubts headL dbt
  simp [List.countP_cons, choices_one (valid_mk (p := sA) (by kernel_rfl)), choices_one (valid_mk (p := sB) (by kernel_rfl)), choices_one (valid_mk (p := sC) (by kernel_rfl)), choices_one valid_fit]
theorem i64_lit (z : Int) (h : (Lit.int .i64 z).wf = true) : I64 z := h
theorem sz_mk {p : ByteArray} (h : St p) : Sz (mkEv p) := ⟨show I64 1 by unfold I64; decide, i64_zero, h, show St ⟨#[107]⟩ by unfold St; decide, st_emp, st_emp, st_emp, st_emp, i64_zero, i64_zero, i64_zero, i64_zero, i64_zero, i64_zero⟩
theorem sz_fit : Sz fitE := ⟨by unfold I64; decide, i64_zero, by unfold St; decide, st_emp, by unfold St; decide, by unfold St; decide, st_emp, st_emp, i64_zero, i64_zero, i64_zero, i64_zero, i64_zero, i64_zero⟩
end Lnk
end Go.Proofs.Ytolnpimnoajcaaa
