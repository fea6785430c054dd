/- Rows of records and names of the law's own. -/
import Derived.Test.YtfokbcakbbdlaaaHldBuild
namespace Go.Proofs.Ytfokbcakbbdlaaa
open Go.RowKit
open Hld (Rc Hd)

theorem info_rec : (Try.prog.info? 54).map (fun i => (i.zero, i.size, i.bytes)) = some (some (.agg (mkC 0 0 ⟨#[]⟩ ⟨#[]⟩ (.slice none 0 0)).toArray), 36, 480) := by kernel_rfl
theorem wpList_slice1 {P : Program} {ops : Array Oper} {rest : List Oper} {op : Oper} {a : Act} {w w' : World} {v u : Value} {Q : Exit → Act → World → Prop} (hgd : op.guard = none) (t : TypeId) (n : Nat) (x : Operand) (ho : op.op = .buildSlice t n #[(0, x)])
    (hx : a.eval x = u) (hrun : (Instr.buildSlice t n #[(0, u)]).run P w = .ok v w') (h : wpList P ops Q rest (a.put op.dst v) w') : wpList P ops Q (op :: rest) a w :=
  wpList_slice hgd t n _ ho #[(0, u)] (by simp [hx]) hrun h
theorem recs_of_row {w : World} {B : Nat} {ao : Option Addr} {l : List Rc} {c : Nat} (h : w.ownsRow B 54 36 (.slice ao l.length c) l.length (recsC l)) (hl : ∀ r ∈ l, RcOk r ∧ IsInts w r.mo r.members) : IsRecs w ao l := by
  refine ⟨hl, ?_⟩
  rcases h.2 with ⟨h1, h0⟩ | ⟨g, cap, cur, hv, hB, hc, _, _, _, htk⟩
  · exact Or.inl (List.eq_nil_of_length_eq_zero h0)
  · injection hv with hv
    subst hv
    have hw : Whole w g 54 cur := hc
    refine Or.inr ⟨g, 0, rfl, hw.lt, fun k hk j v hv => ?_⟩
    have hj : j < 36 := by rw [← (hl _ (List.getElem_mem hk)).1.len]; exact (List.getElem?_eq_some_iff.1 hv).1
    rw [Nat.zero_add, hw.cell, ← Array.getElem?_toList]
    have h3 := recsC_at l (fun r hr => (hl r hr).1) k hk j v hv
    rw [← htk, List.getElem?_take_of_lt (by omega)] at h3
    exact h3
/-- Names and records, each a row of the law's own. -/
structure Pairs (W w : World) (nv rv : Value) (X : List (ByteArray × Rc)) : Prop where
  low : Below W.heap.size W w
  names : w.ownsRow W.heap.size 9 1 nv X.length (strC (X.map (·.1)))
  recs : w.ownsRow W.heap.size 54 36 rv X.length (recsC (X.map (·.2)))
theorem Pairs.start (W : World) : Pairs W W (.slice none 0 0) (.slice none 0 0) [] := ⟨Below.refl _ _, World.ownsRow_nil _ _ _ _, World.ownsRow_nil _ _ _ _⟩
theorem Pairs.below {W w w' : World} {nv rv : Value} {X : List (ByteArray × Rc)} (h : Pairs W w nv rv X) (hb : Below w.heap.size w w') : Pairs W w' nv rv X := ⟨below_step h.low hb, owns_below h.names hb, owns_below h.recs hb⟩
theorem Pairs.shape {W w : World} {nv rv : Value} {X : List (ByteArray × Rc)} (h : Pairs W w nv rv X) : ∃ ao ac bo bc, nv = .slice ao X.length ac ∧ rv = .slice bo X.length bc := by
  obtain ⟨ao, ac, h1⟩ := owns_shape h.names
  obtain ⟨bo, bc, h2⟩ := owns_shape h.recs
  exact ⟨ao, ac, bo, bc, h1, h2⟩
theorem Pairs.lists {W w : World} {ao bo : Option Addr} {ac bc : Nat} {X : List (ByteArray × Rc)} (h : Pairs W w (.slice ao X.length ac) (.slice bo X.length bc) X) (hX : ∀ x ∈ X, RcOk x.2 ∧ IsInts W x.2.mo x.2.members) : IsStrs w ao (X.map (·.1)) ∧ IsRecs w bo (X.map (·.2)) := by
  have h1 := h.names
  have h2 := h.recs
  refine ⟨?_, ?_⟩
  · apply strs_of_row (B := W.heap.size) (c := ac)
    rw [List.length_map]
    exact h1
  · apply recs_of_row (B := W.heap.size) (c := bc)
    · rw [List.length_map]; exact h2
    · intro r hr
      obtain ⟨x, hx, rfl⟩ := List.mem_map.1 hr
      exact ⟨(hX x hx).1, (hX x hx).2.below h.low⟩
theorem recsC_snoc (l : List Rc) (r : Rc) : recsC (l ++ [r]) = recsC l ++ r.cells := by
  unfold recsC
  rw [List.flatMap_append]
  simp
theorem strC_snoc (l : List ByteArray) (s : ByteArray) : strC (l ++ [s]) = strC l ++ [.string s] := by
  unfold strC
  rw [List.map_append]
  rfl
/-- A record more. -/
theorem Pairs.rec1 {W w w1 w2 : World} {nv rv rv' : Value} {X : List (ByteArray × Rc)} (h : Pairs W w nv rv X) (hb : Below w.heap.size w w1) (hg : w1.grownBy w2 rv.ownBlock) {n : Nat} {cs : List Value} (ho : w2.ownsRow W.heap.size 54 36 rv' n cs) : Below W.heap.size W w2 ∧ w2.ownsRow W.heap.size 9 1 nv X.length (strC (X.map (·.1))) ∧ w2.ownsRow W.heap.size 54 36 rv' n cs := by
  have h1 := h.below hb
  exact ⟨h1.low.grown hg h1.low.size (fun j e => (h1.recs.lt j e).1), Apart.kept (owns_apart h1.recs h1.names (by decide)) h1.names hg, ho⟩
/-- And its name. -/
theorem Pairs.snoc {W w w1 w2 : World} {nv rv nv' : Value} {X : List (ByteArray × Rc)} {x : ByteArray × Rc} (hl : Below W.heap.size W w) (hn : w.ownsRow W.heap.size 9 1 nv X.length (strC (X.map (·.1)))) (hr : w.ownsRow W.heap.size 54 36 rv (X.length + 1) (recsC (X.map (·.2)) ++ x.2.cells)) (hb : Below w.heap.size w w1) (hg : w1.grownBy w2 nv.ownBlock) (ho : w2.ownsRow W.heap.size 9 1 nv' (X.length + 1) (strC (X.map (·.1)) ++ [.string x.1])) : Pairs W w2 nv' rv (X ++ [x]) := by
  have h1 := owns_below hn hb
  have h2 := owns_below hr hb
  have h3 := below_step hl hb
  refine ⟨h3.grown hg h3.size (fun j e => (h1.lt j e).1), ?_, ?_⟩
  · rw [List.length_append, List.map_append, List.map_cons, List.map_nil, strC_snoc]; exact ho
  · rw [List.length_append, List.map_append, List.map_cons, List.map_nil, recsC_snoc]; exact Apart.kept (owns_apart h1 h2 (by decide)) h2 hg
end Go.Proofs.Ytfokbcakbbdlaaa
