/- A disk along a walk: what has been kept since an earlier world. -/
import Derived.Test.YtenddmcepfkbaaaDskLists
namespace Go.Proofs.Ytenddmcepfkbaaa
open Go.RowKit

/-- Since the world W1, in which the blocks of F were the disk's, only they and new ones have changed; the disk D lies in such blocks. -/
def St (n : Nat) (W1 : World) (F : Nat → Prop) (W : World) (b bs : Nat) (D : Dsk.Dk) : Prop :=
  Only F W1 W ∧ ∃ pv, IsDisk n W b bs pv D ∧ ∀ k, foot b bs pv k → F k ∨ W1.heap.size ≤ k
section
variable {n : Nat} {W1 W W' : World} {F : Nat → Prop} {b bs : Nat} {D D' : Dsk.Dk}
theorem St.left (h : St n W1 F W b bs D) {pv : Value} (hf : ∀ k, foot b bs pv k → F k ∨ W1.heap.size ≤ k) (hl : Left n W b bs pv D' W') : St n W1 F W' b bs D' := by
  obtain ⟨p2, o2, i2, q2⟩ := hl
  refine ⟨h.1.next o2 hf, p2, i2, fun k hk => ?_⟩
  rcases hk with hk | hk | hk
  · exact hf k (Or.inl hk)
  · exact hf k (Or.inr (Or.inl hk))
  · rcases q2 k hk with h3 | h3
    · exact hf k (Or.inr (Or.inr h3))
    · exact Or.inr (Nat.le_trans h.1.size h3)
theorem St.below (h : St n W1 F W b bs D) (hb : Below W.heap.size W W') : St n W1 F W' b bs D := by
  obtain ⟨pv, hi, hf⟩ := h.2
  exact h.left hf (Left.same hi hb)
theorem St.run (h : St n W1 F W b bs D) {P : Program} {f : FuncId} {args : Array Value} {v : Value} (hc : ∀ pv, IsDisk n W b bs pv D → Calls P f args W fun e w' => e = .returned v ∧ Left n W b bs pv D' w') :
    Calls P f args W fun e w' => e = .returned v ∧ St n W1 F w' b bs D' := by
  obtain ⟨pv, hi, hf⟩ := h.2
  exact (hc pv hi).mono fun e w' ⟨h1, h2⟩ => ⟨h1, h.left hf h2⟩
theorem St.look (h : St n W1 F W b bs D) {P : Program} {f : FuncId} {args : Array Value} {v : Value} (hc : ∀ pv, IsDisk n W b bs pv D → Calls P f args W fun e w' => e = .returned v ∧ Below W.heap.size W w') :
    Calls P f args W fun e w' => e = .returned v ∧ St n W1 F w' b bs D := by
  obtain ⟨pv, hi, hf⟩ := h.2
  exact (hc pv hi).mono fun e w' ⟨h1, h2⟩ => ⟨h1, h.below h2⟩
theorem St.still (h : St n W1 F W b bs D) {P : Program} {f : FuncId} {args : Array Value} {v : Value} (hc : ∀ pv, IsDisk n W b bs pv D → Calls P f args W fun e w' => e = .returned v ∧ W = w') :
    Calls P f args W fun e w' => e = .returned v ∧ St n W1 F w' b bs D := by
  obtain ⟨pv, hi, hf⟩ := h.2
  exact (hc pv hi).mono fun e w' ⟨h1, h2⟩ => ⟨h1, h2 ▸ h⟩
theorem St.ok (h : St n W1 F W b bs D) : Dsk.ok n D := by
  obtain ⟨pv, hi, _⟩ := h.2
  exact hi.ok
/-- From a world on in which the disk is new. -/
theorem St.new {w0 : World} (hb : Below w0.heap.size w0 W) {pv : Value} (hi : IsDisk n W b bs pv D) (hf : ∀ k, foot b bs pv k → w0.heap.size ≤ k) : St n w0 (fun _ => False) W b bs D :=
  ⟨Only.of_below _ hb, pv, hi, fun k hk => Or.inr (hf k hk)⟩
theorem St.toBelow {w0 : World} (h : St n w0 (fun _ => False) W b bs D) : Below w0.heap.size w0 W := h.1.below (Nat.le_refl _) (fun _ hh => hh.elim)
end

end Go.Proofs.Ytenddmcepfkbaaa
