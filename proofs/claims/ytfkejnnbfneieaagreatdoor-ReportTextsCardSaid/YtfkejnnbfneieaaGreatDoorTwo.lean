/- A block of two numbers, kept along a walk. -/
import Derived.Test.YtfkejnnbfneieaaGreatDoorGrown
import Derived.Test.YtfkejnnbfneieaaGreatDoorOpenSl
namespace Go.Proofs.YtfkejnnbfneieaaGreatDoor
open Go.RowKit

/-- The block b begins with these two numbers. -/
def Two (W : World) (b : Nat) (x y : Int) : Prop := W.cell? ⟨b, 0, none⟩ = some (.int .i64 x) ∧ W.cell? ⟨b, 1, none⟩ = some (.int .i64 y)
theorem Two.new (w : World) (x y : Int) (t : TypeId) {b : Nat} (hb : b = w.heap.size) : Two (w.alloc (.cells #[.int .i64 x, .int .i64 y] t)) b x y := by
  subst hb
  exact ⟨by rw [cell_alloc, if_pos rfl]; rfl, by rw [cell_alloc, if_pos rfl]; rfl⟩
theorem Two.lt {W : World} {b : Nat} {x y : Int} (h : Two W b x y) : b < W.heap.size := lt_of_cell h.1
theorem Two.below {W W' : World} {b : Nat} {x y : Int} (h : Two W b x y) (hb : Below W.heap.size W W') : Two W' b x y :=
  ⟨(hb.cell (p := ⟨b, 0, none⟩) h.lt).trans h.1, (hb.cell (p := ⟨b, 1, none⟩) h.lt).trans h.2⟩
theorem Two.alloc {W : World} {b : Nat} {x y : Int} (h : Two W b x y) (o : Obj) : Two (W.alloc o) b x y := h.below ((Below.refl _ _).alloc (Nat.le_refl _) o)
theorem Two.grown {W : World} {b : Nat} {x y : Int} (h : Two W b x y) : (∀ X : Grown W, X.w.cell? ⟨b, 0, none⟩ = some (.int .i64 x)) ∧ (∀ X : Grown W, X.w.cell? ⟨b, 1, none⟩ = some (.int .i64 y)) :=
  ⟨fun X => (X.cell h.lt).trans h.1, fun X => (X.cell h.lt).trans h.2⟩
/-- What lies behind a call, seen from where the walk began. -/
theorem below_step {W W1 W2 : World} (h : Below W.heap.size W W1) (k : Below W1.heap.size W1 W2) : Below W.heap.size W W2 := h.trans (k.mono h.size)
theorem below_alloc {W W1 : World} (h : Below W.heap.size W W1) (o : Obj) : Below W.heap.size W (W1.alloc o) := h.alloc h.size o

end Go.Proofs.YtfkejnnbfneieaaGreatDoor
