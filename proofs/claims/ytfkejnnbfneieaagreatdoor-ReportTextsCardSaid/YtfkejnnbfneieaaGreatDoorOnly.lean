/- Blocks that are known whole, and what a call leaves of all blocks but some. -/
import Derived.Test.YtfkejnnbfneieaaGreatDoorBase
import Derived.Laws.OwnMore
import Derived.Laws.Rows
import Derived.OwnWalk
namespace Go.Proofs.YtfkejnnbfneieaaGreatDoor
open Go.RowKit

/-- Block g is just these cells. -/
def Whole (W : World) (g : Nat) (t : TypeId) (cs : Array Value) : Prop := W.heap[g]? = some (.cells cs t (0, 0))
section
variable {W W' : World} {g g' : Nat} {t t' : TypeId} {cs cs' : Array Value}
theorem Whole.lt (h : Whole W g t cs) : g < W.heap.size := (Array.getElem?_eq_some_iff.1 h).1
theorem Whole.cell (h : Whole W g t cs) (i : Nat) : W.cell? ⟨g, i, none⟩ = cs[i]? := by
  have h' : W.heap[g]? = some (.cells cs t (0, 0)) := h
  simp [World.cell?, h']
theorem Whole.frozen (h : Whole W g t cs) (i : Nat) : W.frozen? ⟨g, i, none⟩ = false := by
  have h' : W.heap[g]? = some (.cells cs t (0, 0)) := h
  simp [World.frozen?, h']
theorem Whole.new (W : World) (t : TypeId) (cs : Array Value) : Whole (W.alloc (.cells cs t)) W.heap.size t cs := heap_alloc_new W _
theorem Whole.drew (h : Whole W g t cs) : Whole W.drew g t cs := h
theorem Whole.alloc (h : Whole W g t cs) (o : Obj) : Whole (W.alloc o) g t cs := (Below.heap_alloc W o g h.lt).trans h
theorem Whole.set (h : Whole W g t cs) (i : Nat) (u : Value) : Whole (W.setCell ⟨g, i, none⟩ u) g t (cs.setIfInBounds i u) := by
  unfold Whole at h ⊢
  simp [World.setCell, Array.getElem?_modify, h]
theorem Whole.far (h : Whole W g t cs) {p : Addr} (hp : g ≠ p.block) (u : Value) : Whole (W.setCell p u) g t cs := (Below.heap_setCell W p u g hp).trans h
theorem Whole.apart (h : Whole W g t cs) (h' : Whole W g' t' cs') (hne : t ≠ t') : g ≠ g' := by
  intro e
  subst e
  have h1 := Option.some.inj (h.symm.trans h')
  injection h1 with _ h2
  exact hne h2
end

/-- Only the blocks of F, and new ones, may differ. -/
structure Only (F : Nat → Prop) (W W' : World) : Prop where
  os : W'.os = W.os
  tape : W'.tape = W.tape
  output : W'.output = W.output
  size : W.heap.size ≤ W'.heap.size
  block : ∀ k, k < W.heap.size → ¬ F k → W'.heap[k]? = W.heap[k]?
section
variable {F G : Nat → Prop} {W W' W'' : World}
theorem Only.refl (F : Nat → Prop) (W : World) : Only F W W := ⟨rfl, rfl, rfl, Nat.le_refl _, fun _ _ _ => rfl⟩
theorem Only.trans (h : Only F W W') (k : Only F W' W'') : Only F W W'' :=
  ⟨k.os.trans h.os, k.tape.trans h.tape, k.output.trans h.output, Nat.le_trans h.size k.size, fun b hb hf => (k.block b (Nat.lt_of_lt_of_le hb h.size) hf).trans (h.block b hb hf)⟩
/-- A second step whose blocks are those of the first one, or new since. -/
theorem Only.next (h : Only F W W') (k : Only G W' W'') (hg : ∀ b, G b → F b ∨ W.heap.size ≤ b) : Only F W W'' :=
  ⟨k.os.trans h.os, k.tape.trans h.tape, k.output.trans h.output, Nat.le_trans h.size k.size, fun b hb hf => (k.block b (Nat.lt_of_lt_of_le hb h.size) (fun hgb => (hg b hgb).elim hf (by omega))).trans (h.block b hb hf)⟩
theorem Only.mono (h : Only F W W') (hf : ∀ b, F b → G b) : Only G W W' := ⟨h.os, h.tape, h.output, h.size, fun b hb hn => h.block b hb fun hh => hn (hf b hh)⟩
theorem Only.of_below (F : Nat → Prop) (h : Below W.heap.size W W') : Only F W W' := ⟨h.os, h.tape, h.output, h.size, fun b hb _ => h.block b hb⟩
theorem Only.of_grown {row : Option Nat} (h : W.grownBy W' row) (hr : ∀ k, row = some k → F k) : Only F W W' := ⟨h.os, h.tape, h.output, h.size, fun b hb hn => h.block b hb fun e => hn (hr b e.symm)⟩
theorem Only.alloc (h : Only F W W') (o : Obj) : Only F W (W'.alloc o) :=
  h.trans ⟨rfl, rfl, rfl, by rw [size_alloc]; omega, fun b hb _ => Below.heap_alloc _ o b hb⟩
theorem Only.drew (h : Only F W W') : Only F W W'.drew := h.trans ⟨rfl, rfl, rfl, Nat.le_refl _, fun _ _ _ => rfl⟩
theorem Only.setCell (h : Only F W W') {p : Addr} (hp : F p.block ∨ W.heap.size ≤ p.block) (u : Value) : Only F W (W'.setCell p u) :=
  h.next (G := fun b => b = p.block) ⟨rfl, rfl, rfl, by simp, fun b _ hb => Below.heap_setCell _ p u b hb⟩ (by rintro b rfl; exact hp)
theorem Only.below (h : Only F W W') {B : Nat} (hB : B ≤ W.heap.size) (hf : ∀ b, F b → B ≤ b) : Below B W W' :=
  ⟨h.os, h.tape, h.output, h.size, fun b hb => h.block b (by omega) fun hh => by have := hf b hh; omega⟩
theorem Only.whole (h : Only F W W') {g : Nat} {t : TypeId} {cs : Array Value} (hw : Whole W g t cs) (hf : ¬ F g) : Whole W' g t cs := (h.block g hw.lt hf).trans hw
theorem Only.cell (h : Only F W W') {b o : Nat} {v : Value} (hc : W.cell? ⟨b, o, none⟩ = some v) (hf : ¬ F b) : W'.cell? ⟨b, o, none⟩ = some v := by
  have hb : b < W.heap.size := World.block_lt_of_cell? W ⟨b, o, none⟩ hc
  rw [World.cell?_of_block (h.block b hb hf)]; exact hc
end

end Go.Proofs.YtfkejnnbfneieaaGreatDoor
