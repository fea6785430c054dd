/- Small lemmas that all walks of this seat share: what a new block holds, what a call leaves alone. -/
import Derived.Test.YtfkejnnbfneieaaGreatDoorRows
import Derived.WalkKit
import Derived.WalkSpells
import Derived.WalkLawsBesides
import Derived.Lib.Hide
import Derived.StillTailTactics
namespace Go.Proofs.YtfkejnnbfneieaaGreatDoor
open Go.RowKit

theorem ret_int {k : IntKind} {a b : Int} (h : a = b) : Ending.returned (.int k a) = .returned (.int k b) := by rw [h]
theorem ret_bool {a b : Bool} (h : a = b) : Ending.returned (.bool a) = .returned (.bool b) := by rw [h]
theorem ret_str {a b : ByteArray} (h : a = b) : Ending.returned (.string a) = .returned (.string b) := by rw [h]
theorem bcell {W w1 : World} (hb : Below W.heap.size W w1) : (∀ b o, b < W.heap.size → w1.cell? ⟨b, o, none⟩ = W.cell? ⟨b, o, none⟩) ∧ (∀ b o, b < W.heap.size → w1.frozen? ⟨b, o, none⟩ = W.frozen? ⟨b, o, none⟩) :=
  ⟨fun b o h => hb.cell (p := ⟨b, o, none⟩) h, fun b o h => hb.frozen (p := ⟨b, o, none⟩) h⟩
/-- A cell behind a new block. -/
theorem cell_alloc (w : World) (c : Array Value) (t : TypeId) (b i : Nat) :
    (w.alloc (.cells c t)).cell? ⟨b, i, none⟩ = if b = w.heap.size then c[i]? else w.cell? ⟨b, i, none⟩ := by
  have e : (w.alloc (.cells c t)).heap[b]? = if b = w.heap.size then some (.cells c t) else w.heap[b]? := Array.getElem?_push
  unfold World.cell?
  rw [e]
  by_cases h : b = w.heap.size <;> simp [h]
theorem frozen_alloc (w : World) (c : Array Value) (t : TypeId) (b i : Nat) :
    (w.alloc (.cells c t)).frozen? ⟨b, i, none⟩ = if b = w.heap.size then false else w.frozen? ⟨b, i, none⟩ := by
  have e : (w.alloc (.cells c t)).heap[b]? = if b = w.heap.size then some (.cells c t) else w.heap[b]? := Array.getElem?_push
  unfold World.frozen?
  rw [e]
  by_cases h : b = w.heap.size <;> simp [h]
theorem size_alloc (w : World) (o : Obj) : (w.alloc o).heap.size = w.heap.size + 1 := Array.size_push _
/-- A call that leaves the world alone, as a region wants it. -/
theorem still_of {P : Program} {f : FuncId} {args : Array Value} {w : World} {v : Value} (h : Calls P f args w fun e w' => e = .returned v ∧ w = w') :
    Calls P f args w fun e w' => e = .returned v ∧ w' = w := h.mono fun _ _ ⟨he, hw⟩ => ⟨he, hw.symm⟩

end Go.Proofs.YtfkejnnbfneieaaGreatDoor
