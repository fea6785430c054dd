/- What calls that only make memory leave of some cells. -/
import Derived.Test.YtijnnfioggjaeaaBase
import Derived.Deep.RegionHeld3
namespace Go.Proofs.Ytijnnfioggjaeaa
open Go.RowKit

/-- What a call that only makes memory leaves of six cells. -/
theorem keep6 {W0 w1 w2 : World} {a b c d e f : Addr} {x1 x2 x3 x4 x5 x6 : Value} (hb : Below w1.heap.size w1 w2)
    (h : w1.cell? a = some x1 ∧ w1.cell? b = some x2 ∧ w1.cell? c = some x3 ∧ w1.cell? d = some x4 ∧ w1.cell? e = some x5 ∧ w1.cell? f = some x6 ∧ Below W0.heap.size W0 w1)
    (ha : a.block < W0.heap.size) (hb1 : b.block < W0.heap.size) (hc : c.block < W0.heap.size) (hd : d.block < W0.heap.size) (he : e.block < W0.heap.size) (hf : f.block < W0.heap.size) :
    w2.cell? a = some x1 ∧ w2.cell? b = some x2 ∧ w2.cell? c = some x3 ∧ w2.cell? d = some x4 ∧ w2.cell? e = some x5 ∧ w2.cell? f = some x6 ∧ Below W0.heap.size W0 w2 := by
  obtain ⟨h1, h2, h3, h4, h5, h6, h7⟩ := h
  have z := h7.size
  refine ⟨?_, ?_, ?_, ?_, ?_, ?_, h7.trans (hb.mono z)⟩
  · rw [hb.cell (Nat.lt_of_lt_of_le ha z)]; exact h1
  · rw [hb.cell (Nat.lt_of_lt_of_le hb1 z)]; exact h2
  · rw [hb.cell (Nat.lt_of_lt_of_le hc z)]; exact h3
  · rw [hb.cell (Nat.lt_of_lt_of_le hd z)]; exact h4
  · rw [hb.cell (Nat.lt_of_lt_of_le he z)]; exact h5
  · rw [hb.cell (Nat.lt_of_lt_of_le hf z)]; exact h6
theorem three {w w2 : World} {o1 o2 o3 : Obj} (h : Below (((w.alloc o1).alloc o2).alloc o3).heap.size (((w.alloc o1).alloc o2).alloc o3) w2) : Below w.heap.size w w2 :=
  ((((Below.refl _ _).alloc (Nat.le_refl _) _).alloc (by rw [size_alloc]; omega) _).alloc (by rw [size_alloc, size_alloc]; omega) _).trans (h.mono (by rw [size_alloc, size_alloc, size_alloc]; omega))

theorem six_end {w w2 : World} {o1 o2 o3 : Obj} {a b c d e f : Prop} (h : a ∧ b ∧ c ∧ d ∧ e ∧ f ∧ Below (((w.alloc o1).alloc o2).alloc o3).heap.size (((w.alloc o1).alloc o2).alloc o3) w2) : Below w.heap.size w w2 :=
  three h.2.2.2.2.2.2

end Go.Proofs.Ytijnnfioggjaeaa
