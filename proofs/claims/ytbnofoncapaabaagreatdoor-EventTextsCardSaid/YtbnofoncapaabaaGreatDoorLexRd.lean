/- The reader of a text in memory; the closures that its methods hand on. -/
import Derived.Test.YtbnofoncapaabaaGreatDoorLexMath
import Derived.Test.YtbnofoncapaabaaGreatDoorTwo
import Derived.Test.YtbnofoncapaabaaGreatDoorOnly
namespace Go.Proofs.YtbnofoncapaabaaGreatDoor
open Go.RowKit

namespace Lex
/-- The class of a byte. -/
def clsN (c : UInt8) : Nat := if isLetter c then 1 else if isDigit c then 2 else if c.toNat = 95 then 4 else if isBlank c then 8 else if isSym c then 16 else 0
def clsL : List Value := (List.range 256).map fun c => .int .i64 (clsN (UInt8.ofNat c))
theorem clsL_len : clsL.length = 256 := by unfold clsL; simp
theorem clsL_at (c : UInt8) : clsL[c.toNat]? = some (.int .i64 (clsN c)) := by
  have h : c.toNat < 256 := c.toNat_lt
  unfold clsL
  rw [List.getElem?_map, List.getElem?_range h]
  simp
end Lex

/-- Block b is a reader of the text T that stands at p. -/
def Rd (w : World) (b : Nat) (T : ByteArray) (p : Nat) : Prop := Whole w b 77 (#[.string T, .int .i64 p] ++ Lex.clsL.toArray)
section
variable {w w' : World} {b p : Nat} {T : ByteArray}
theorem Rd.lt (h : Rd w b T p) : b < w.heap.size := Whole.lt h
theorem Rd.text (h : Rd w b T p) : w.cell? ⟨b, 0, none⟩ = some (.string T) := by rw [Whole.cell h]; simp
theorem Rd.pos (h : Rd w b T p) : w.cell? ⟨b, 1, none⟩ = some (.int .i64 p) := by rw [Whole.cell h]; simp
theorem Rd.cls (h : Rd w b T p) (c : UInt8) : w.cell? ⟨b, 2 + c.toNat, none⟩ = some (.int .i64 (Lex.clsN c)) := by
  rw [Whole.cell h, Array.getElem?_append_right (by simp)]
  have e : 2 + c.toNat - (#[Value.string T, Value.int IntKind.i64 ↑p] : Array Value).size = c.toNat := by simp
  rw [e, List.getElem?_toArray]
  exact Lex.clsL_at c
theorem Rd.frozen (h : Rd w b T p) (i : Nat) : w.frozen? ⟨b, i, none⟩ = false := Whole.frozen h i
theorem Rd.set (h : Rd w b T p) (q : Nat) : Rd (w.setCell ⟨b, 1, none⟩ (.int .i64 q)) b T q := by
  have := Whole.set h 1 (.int .i64 q)
  unfold Rd
  have e : (#[Value.string T, Value.int IntKind.i64 ↑p] ++ Lex.clsL.toArray).setIfInBounds 1 (.int .i64 q) = #[Value.string T, Value.int IntKind.i64 ↑q] ++ Lex.clsL.toArray := by
    simp
  rw [← e]
  exact this
theorem Rd.below (h : Rd w b T p) (hb : Below w.heap.size w w') : Rd w' b T p := (hb.block _ (Whole.lt h)).trans h
theorem Rd.drew (h : Rd w b T p) : Rd w.drew b T p := h
end
/-- What is kept below B, seen from a world that has more. -/
theorem Only.of_low {B : Nat} {w w' : World} (h : Below B w w') (_ : B ≤ w.heap.size) : Only (fun x => B ≤ x) w w' := ⟨h.os, h.tape, h.output, h.size, fun k _ hk => h.block k (by omega)⟩
/-- Only block b differs, and what is new. -/
abbrev Mv (b : Nat) (w w' : World) : Prop := Only (fun x => x = b) w w'

set_option maxHeartbeats 1000000 in
theorem skip1_any (c : UInt8) (w : World) : Calls Tryz.prog 69 #[.int .u8 c.toNat] w fun e w' => e = .returned (.bool (decide (c.toNat ≠ 10))) ∧ w = w' := by
  go_enter Tryz.func69, Tryz.ntmps69
  by_cases h : c.toNat = 10
  · have h1 : (c.toNat : Int) = 10 := by omega
    go_wp2
    go_ret
    exact ⟨ret_bool (by rw [h]; rfl), rfl⟩
  · have h1 : ¬ (c.toNat : Int) = 10 := by omega
    go_wp2
    go_ret
    exact ⟨ret_bool (by simp [h, h1]), rfl⟩

end Go.Proofs.YtbnofoncapaabaaGreatDoor
