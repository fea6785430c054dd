/- The walk over the copy of a list of tasks; such lists as arguments, with what an empty one is. -/
import Derived.Test.YtejgbfaampllaaaTskCopy
import Derived.Laws.AppendOwnNone
namespace Go.Proofs.Ytejgbfaampllaaa
open Go.ChangeShapes Go.WideShapes Go.ChangeAt Go.RowKit Go.Deep

theorem wpList_copy {w : World} {ops : Array Oper} {rest : List Oper} {o : Oper} {a : Act} {Q : Exit → Act → World → Prop} (hgd : o.guard = none) (s x : Operand)
    (ho : o.op = .call { callee := .builtin .append, args := #[s, x], argTypes := #[22, 22] }) (g0 : Nat) (hs : a.eval s = .slice (some ⟨g0, 0, none⟩) 0 0) (hg0 : Whole w g0 41 #[])
    (W : World) (hb : Below W.heap.size W w) (hW : W.heap.size ≤ g0) (l : List Tk) (ao : Option Addr) (n cap : Nat) (hnl : n = l.length) (hx : a.eval x = .slice ao n cap) (hcap : (ao = none ∧ cap = 0) ∨ ∃ ad, ao = some ad) (hl : IsTasks W ao l) (hn : n ≤ 1000000)
    (h : ∀ vo vc w', Below W.heap.size W w' → (n = 0 ∨ ∃ g, vo = some ⟨g, 0, none⟩ ∧ W.heap.size ≤ g ∧ RowT w' g n (tkAt l)) → wpList Try.prog ops Q rest (a.put o.dst (.slice vo n vc)) w') : wpList Try.prog ops Q (o :: rest) a w := by
  subst hnl
  obtain ⟨i0, hi, hz0, hz1, hz2⟩ := info_parts info_task
  have hown : w.ownsRow W.heap.size 41 4 (.slice (some ⟨g0, 0, none⟩) 0 0) 0 [] := ⟨by simp, .inr ⟨g0, 0, #[], rfl, hW, hg0, Nat.le_refl _, Nat.zero_le _, by simp, by simp⟩⟩
  rcases hcap with ⟨rfl, rfl⟩ | ⟨ad, rfl⟩
  · have h0 : l = [] := by
      rcases hl with h | ⟨bk, off, he, _⟩
      · exact h
      · cases he
    subst h0
    refine wpList_append_own_none hgd s x 22 ho W.heap.size 41 i0 4 Try.underlying22 hi _ 0 [] hs hown hx ?_
    exact h _ _ w hb (Or.inl rfl)
  · obtain ⟨A, C, hA, hC⟩ := cells_of_tasks (hl.below hb)
    have hA' : ∀ i, i < l.length → IsInts w (A i) (tkAt l i).after ∧ ((tkAt l i).after = [] ∨ ∀ a, A i = some a → a.block < w.heap.size) := hA
    refine wpList_append_own w hgd s x 22 ho W.heap.size 41 i0 (.agg #[.int .i64 0, .int .i64 0, .bool false, .slice none 0 0]) 4 48 Try.underlying22 hi hz0 hz1 hz2 rfl (by decide) _ 0 [] hs hown ad l.length cap (cellsT l.length (tkAt l) A C) hx (cellsT_len _ _ _ _) hC (cellsT_one _ _ _ _) (by unfold maxLen; omega) (by omega) hb.size ?_
    intro v' w' r1 r2 _
    rw [Nat.zero_add, List.nil_append] at r1
    have hbl : Below W.heap.size W w' := hb.grown r2 hb.size (fun j e => (hown.lt j e).1)
    rcases r1.2 with ⟨rfl, h0⟩ | ⟨g, cp, cur, rfl, hBg, hc, _⟩
    · have h0' : l.length = 0 := h0
      rw [h0'] at h
      exact h none 0 w' hbl (Or.inl rfl)
    · refine h (some ⟨g, 0, none⟩) cp w' hbl (Or.inr ⟨g, rfl, hBg, ?_⟩)
      by_cases hlen : l.length = 0
      · refine ⟨⟨cur, hc⟩, fun k hk => by omega⟩
      · -- the lists of the tasks lie below
        obtain ⟨A0, C0, hA0, hC0⟩ := cells_of_tasks hl
        have hcells : ∀ k, k < l.length → IsInts W (A k) (tkAt l k).after ∧ ((tkAt l k).after = [] ∨ ∀ a, A k = some a → a.block < W.heap.size) := fun k hk => by
          have e1 := hC (k * 4 + 3) _ (by unfold cellsT; rw [List.getElem?_map, List.getElem?_range (by omega)]; rfl)
          have e2 := hC0 (k * 4 + 3) _ (by unfold cellsT; rw [List.getElem?_map, List.getElem?_range (by omega)]; rfl)
          rw [(cellT_at (tkAt l) A C k).2.2.2] at e1
          rw [(cellT_at (tkAt l) A0 C0 k).2.2.2] at e2
          have e3 := hb.cell (p := ad.add (k * 4 + 3)) (World.block_lt_of_cell? W _ e2)
          rw [e1, e2] at e3
          simp only [Option.some.injEq, Value.slice.injEq] at e3
          rw [e3.1]
          exact hA0 k hk
        exact copy_row hcells hbl (Nat.le_refl _) r1

section
variable {H : Type} {enc : TypeId × Value → H} {W : World} {spare : Nat → Bool} {held : Bool} {v : Value} {d : DataW H} {p : List MemPlace}
theorem open_tasks_cap (hval : ∃ a len cap, v = .slice a len cap) (h : DataW.Trod enc Try.prog W 0 spare held 22 v d p) :
    ∃ ao l cap, v = .slice ao l.length cap ∧ IsTasks W ao l ∧ l.length ≤ 9223372036854775807 ∧ (∀ t ∈ l, tkFine t) ∧ ((ao = none ∧ cap = 0) ∨ ∃ ad, ao = some ad) := by
  obtain ⟨ao, l, cap, hv, h1, h2, h3⟩ := open_tasks hval h
  refine ⟨ao, l, cap, hv, h1, h2, h3, ?_⟩
  subst hv
  obtain ⟨fuel, hf⟩ := h
  rcases open_slice Try.underlying22 hf with ⟨hcs, _⟩ | ⟨a, len, cap2, m, n, D, Pl, hcs, _⟩
  · have : Value.slice ao l.length cap = .slice none 0 0 := by simpa [Value.cells] using hcs
    simp only [Value.slice.injEq] at this
    exact Or.inl ⟨this.1, this.2.2⟩
  · have e : Value.slice ao l.length cap = .slice (some a) len cap2 := by simpa [Value.cells] using hcs
    simp only [Value.slice.injEq] at e
    exact Or.inr ⟨a, e.1⟩
end

end Go.Proofs.Ytejgbfaampllaaa
