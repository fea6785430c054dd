/- Lists of lists of indices: as values, and of the call's own. -/
import Derived.Test.YtolnpimnoajcaaaLnkRoot
namespace Go.Proofs.Ytolnpimnoajcaaa
open Go.RowKit
open Lnk

namespace Lnk
/-- The first ones of the sets, and the sets. -/
def reps (r : Nat → Nat) (k : Nat) : List Nat := (List.range k).filter fun i => (List.range i).all fun j => r j != r i
def groups (r : Nat → Nat) (k : Nat) : List (List Nat) := (reps r k).map fun i => (List.range k).filter fun j => r j == r i
end Lnk
def natC (l : List Nat) : List Value := l.map fun (i : Nat) => Value.int .i64 (i : Nat)
/-- The slice v holds slices that hold these indices, in blocks of their own. -/
structure Sets (B : Nat) (w : World) (v : Value) (gs : List (List Nat)) : Prop where
  ex : ∃ vs : List Value, w.ownsRow B 29 1 v gs.length vs ∧ (∀ k (h : k < gs.length), ∃ u, vs[k]? = some u ∧ w.ownsRow B 3 1 u gs[k].length (natC gs[k])) ∧
    ∀ (j k : Nat) (u u' : Value) (b : Nat), j ≠ k → vs[j]? = some u → vs[k]? = some u' → u.ownBlock = some b → u'.ownBlock ≠ some b
/-- What collected is to answer. -/
def CollSpec : Prop := ∀ (n pb cap : Nat) (p r d : Nat → Nat), n ≤ 1000000 → n ≤ cap → UF n p r d → ∀ W, IsP W pb n p →
  Calls Try.prog 27 #[.int .i64 n, .func (.func 28) #[.slice (some ⟨pb, 0, none⟩) n cap] #[]] W fun e w' => ∃ sv, e = .returned sv ∧ Sets W.heap.size w' sv (groups r n) ∧ W.grownBy w' (some pb)
end Go.Proofs.Ytolnpimnoajcaaa
