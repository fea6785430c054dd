/- Stores of intervals into new cells, as a region's operations. -/
import Derived.Test.YtijnnfioggjaeaaFresh
namespace Go.Proofs.Ytijnnfioggjaeaa
open Go.RowKit

theorem run_alloc_ivl (d : Option Tmp) (t : TypeId) (pos : String) (af : Array Edge) (g : Option (Nat × Bool)) (ρ : Operand → Value) (w : World) :
    (execOp ρ ⟨d, .alloc 23, t, pos, af, g⟩).run Try.prog w = .ok (.value (.pointer (some ⟨w.heap.size, 0, none⟩))) (w.alloc (.cells #[.int .i64 0, .int .i64 0] 23)) := by
  simp [go_sem]

theorem run_store_ivl (d : Option Tmp) (t : TypeId) (pos : String) (af : Array Edge) (g : Option (Nat × Bool)) (x y : Tmp) (A : Act) (b : Nat) (u0 u1 : Int) (z0 z1 : Value) (w : World)
    (hx : A.eval (.tmp x) = .pointer (some ⟨b, 0, none⟩)) (hy : A.eval (.tmp y) = .agg #[.int .i64 u0, .int .i64 u1]) (h0 : w.cell? ⟨b, 0, none⟩ = some z0) (h1 : w.cell? ⟨b, 1, none⟩ = some z1) (f0 : w.frozen? ⟨b, 0, none⟩ = false) (f1 : w.frozen? ⟨b, 1, none⟩ = false) :
    (execOp A.eval ⟨d, .store 23 (.tmp x) (.tmp y), t, pos, af, g⟩).run Try.prog w = .ok .skip ((w.setCell ⟨b, 0, none⟩ (.int .i64 u0)).setCell ⟨b, 1, none⟩ (.int .i64 u1)) := by
  unfold execOp
  simp only [hx, hy]
  go_simp

/-- What two stores into a cell of one's own leave. -/
theorem two_stores {W w : World} {b : Nat} {u0 u1 z0 z1 : Value} (hle : W.heap.size ≤ b) (h0 : w.cell? ⟨b, 0, none⟩ = some z0) (h1 : w.cell? ⟨b, 1, none⟩ = some z1) (f0 : w.frozen? ⟨b, 0, none⟩ = false) (f1 : w.frozen? ⟨b, 1, none⟩ = false) :
    ((w.setCell ⟨b, 0, none⟩ u0).setCell ⟨b, 1, none⟩ u1).heap.size = w.heap.size ∧ Below W.heap.size w ((w.setCell ⟨b, 0, none⟩ u0).setCell ⟨b, 1, none⟩ u1) ∧
    (((w.setCell ⟨b, 0, none⟩ u0).setCell ⟨b, 1, none⟩ u1).cell? ⟨b, 0, none⟩ = some u0 ∧ ((w.setCell ⟨b, 0, none⟩ u0).setCell ⟨b, 1, none⟩ u1).frozen? ⟨b, 0, none⟩ = false) ∧
    (((w.setCell ⟨b, 0, none⟩ u0).setCell ⟨b, 1, none⟩ u1).cell? ⟨b, 1, none⟩ = some u1 ∧ ((w.setCell ⟨b, 0, none⟩ u0).setCell ⟨b, 1, none⟩ u1).frozen? ⟨b, 1, none⟩ = false) ∧
    (∀ c i, c ≠ b → ((w.setCell ⟨b, 0, none⟩ u0).setCell ⟨b, 1, none⟩ u1).cell? ⟨c, i, none⟩ = w.cell? ⟨c, i, none⟩ ∧ ((w.setCell ⟨b, 0, none⟩ u0).setCell ⟨b, 1, none⟩ u1).frozen? ⟨c, i, none⟩ = w.frozen? ⟨c, i, none⟩) := by
  have e1 : (w.setCell ⟨b, 0, none⟩ u0).cell? ⟨b, 1, none⟩ = some z1 := by rw [World.cell?_setCell_other _ _ _ _ (by simp), h1]
  refine ⟨by simp, ((Below.refl _ _).setCell hle _).setCell hle _, ⟨?_, ?_⟩, ⟨?_, ?_⟩, fun c i hc => ⟨?_, ?_⟩⟩
  · rw [World.cell?_setCell_other _ _ _ _ (by simp), World.cell?_setCell_same _ _ _ h0]
  · rw [World.frozen?_setCell, World.frozen?_setCell, f0]
  · rw [World.cell?_setCell_same _ _ _ e1]
  · rw [World.frozen?_setCell, World.frozen?_setCell, f1]
  · rw [World.cell?_setCell_other _ _ _ _ (by simp [hc]), World.cell?_setCell_other _ _ _ _ (by simp [hc])]
  · rw [World.frozen?_setCell, World.frozen?_setCell]

theorem stores_done {W w : World} {b : Nat} {u0 u1 z0 z1 : Value} {c : Array Value} (hc : c = #[u0, u1]) (hle : W.heap.size ≤ b) (h0 : w.cell? ⟨b, 0, none⟩ = some z0) (h1 : w.cell? ⟨b, 1, none⟩ = some z1) (f0 : w.frozen? ⟨b, 0, none⟩ = false) (f1 : w.frozen? ⟨b, 1, none⟩ = false) :
    ((w.setCell ⟨b, 0, none⟩ u0).setCell ⟨b, 1, none⟩ u1).heap.size = w.heap.size ∧ Below W.heap.size w ((w.setCell ⟨b, 0, none⟩ u0).setCell ⟨b, 1, none⟩ u1) ∧
    (∀ i, i < 2 → ((w.setCell ⟨b, 0, none⟩ u0).setCell ⟨b, 1, none⟩ u1).cell? ⟨b, i, none⟩ = c[i]? ∧ ((w.setCell ⟨b, 0, none⟩ u0).setCell ⟨b, 1, none⟩ u1).frozen? ⟨b, i, none⟩ = false) ∧
    (∀ c i, c ≠ b → ((w.setCell ⟨b, 0, none⟩ u0).setCell ⟨b, 1, none⟩ u1).cell? ⟨c, i, none⟩ = w.cell? ⟨c, i, none⟩ ∧ ((w.setCell ⟨b, 0, none⟩ u0).setCell ⟨b, 1, none⟩ u1).frozen? ⟨c, i, none⟩ = w.frozen? ⟨c, i, none⟩) := by
  subst hc
  obtain ⟨s1, s2, s3, s4, s5⟩ := two_stores (u0 := u0) (u1 := u1) hle h0 h1 f0 f1
  refine ⟨s1, s2, fun i hi => ?_, s5⟩
  have hc : i = 0 ∨ i = 1 := by omega
  rcases hc with rfl | rfl
  · exact ⟨s3.1, s3.2⟩
  · exact ⟨s4.1, s4.2⟩

end Go.Proofs.Ytijnnfioggjaeaa
