/- A region that draws its order, whose own operations only read, and whose calls may make memory: one walk of the text's order, in the class of the worlds that have grown out of the one at hand. -/
import Derived.Test.YtfkejnnbfneieaaGreatDoorBase
import Derived.BigQuiet
namespace Go.Proofs.YtfkejnnbfneieaaGreatDoor
open Go.RowKit

/-- The worlds that have grown out of W: what was there is there still. -/
def Grown (W : World) : Type := { x : World // Below W.heap.size W x }
def Grown.w {W : World} (x : Grown W) : World := x.1
theorem Grown.below {W : World} (x : Grown W) : Below W.heap.size W x.w := x.2
instance {W : World} : Nonempty (Grown W) := ⟨⟨W, Below.refl _ _⟩⟩
theorem Grown.cell {W : World} (x : Grown W) {b o : Nat} (h : b < W.heap.size) : x.w.cell? ⟨b, o, none⟩ = W.cell? ⟨b, o, none⟩ := x.below.cell (p := ⟨b, o, none⟩) h
theorem Grown.frozen {W : World} (x : Grown W) {b o : Nat} (h : b < W.heap.size) : x.w.frozen? ⟨b, o, none⟩ = W.frozen? ⟨b, o, none⟩ := x.below.frozen (p := ⟨b, o, none⟩) h

theorem wp_region_grown {P : Program} {id : Nat} {Q : Exit → Act → World → Prop} {a : Act} {w : World} {l : List Oper} (hm : P.follows .mixedOrders = true) (hB : Region.lexB .any l.toArray = true)
    (h : wpQuiet P l.toArray (fun w' => ∃ x : Grown w, w' = x.w) (fun a' => ∀ w', (∃ x : Grown w, w' = x.w) → Q .normal a' w') l a) : (Code.region id l.toArray true).wp P Q a w :=
  wp_region_quiet (C := fun w' => ∃ x : Grown w, w' = x.w) hm hB ⟨⟨_, (Below.refl _ _).drew⟩, rfl⟩ (by simpa using h)

/-- A callee's contract, met in a world that has grown. -/
theorem grown_of {P : Program} {f : FuncId} {args : Array Value} {W : World} {x : Grown W} {v : Value}
    (h : Calls P f args x.w fun e w' => e = .returned v ∧ Below x.w.heap.size x.w w') : Calls P f args x.w fun e w'' => e = .returned v ∧ ∃ y : Grown W, w'' = y.w :=
  h.mono fun _ w2 ⟨he, hb⟩ => ⟨he, ⟨w2, x.below.trans (hb.mono x.below.size)⟩, rfl⟩
theorem grown_of_same {P : Program} {f : FuncId} {args : Array Value} {W : World} {x : Grown W} {v : Value}
    (h : Calls P f args x.w fun e w' => e = .returned v ∧ x.w = w') : Calls P f args x.w fun e w'' => e = .returned v ∧ ∃ y : Grown W, w'' = y.w :=
  h.mono fun _ _ ⟨he, hw⟩ => ⟨he, x, hw.symm⟩

end Go.Proofs.YtfkejnnbfneieaaGreatDoor
