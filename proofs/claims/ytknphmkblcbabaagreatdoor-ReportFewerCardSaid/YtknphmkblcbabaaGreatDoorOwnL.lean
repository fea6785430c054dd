/- Lists of any structs that the call itself lays: append(append([]T{}, l...), m...), where the elements lie in an earlier world. -/
import Derived.Test.YtknphmkblcbabaaGreatDoorMemMoreG
namespace Go.Proofs.YtknphmkblcbabaaGreatDoor
open Go.RowKit

/-- The elements as they are in one world. -/
def ElAt {α : Type} (El : World → List Value → α → Prop) (W0 : World) : World → List Value → α → Prop := fun _ cs a => El W0 cs a
structure ElTy {α : Type} (t te : TypeId) (size bytes : Nat) (El : World → List Value → α → Prop) : Prop where
  ex : ∃ i z, Tryz.prog.underlying t = some (.slice te) ∧ Tryz.prog.info? te = some i ∧ i.zero = some z ∧ i.size = size ∧ i.bytes = bytes ∧ z.cells.size = size
  pos : 0 < size
  st : ElStable El
  len : ∀ W cs a, El W cs a → cs.length = size
  one : ∀ W cs a, El W cs a → ∀ u ∈ cs, u.oneCell' = true
theorem elTy_mk {α : Type} {t te : TypeId} {size bytes : Nat} {El : World → List Value → α → Prop} {z : Value} (hu : Tryz.prog.underlying t = some (.slice te)) (hi : (Tryz.prog.info? te).map (fun i => (i.zero, i.size, i.bytes)) = some (some z, size, bytes)) (hz : z.cells.size = size) (hp : 0 < size)
    (hS : ElStable El) (hl : ∀ W cs a, El W cs a → cs.length = size) (h1 : ∀ W cs a, El W cs a → ∀ u ∈ cs, u.oneCell' = true) : ElTy t te size bytes El := by
  obtain ⟨i, h2, h3, h4, h5⟩ := infoP hi
  exact ⟨⟨i, z, hu, h2, h3, h4, h5, hz⟩, hp, hS, hl, h1⟩
section
variable {α : Type} {size bytes : Nat} {El : World → List Value → α → Prop} {t te : TypeId} {B : Nat} {W0 w w' : World} {v : Value} {l m : List α} {ao : Option Addr}
theorem IsL.freezeL (h : IsL size El W0 ao l) (hb : Below W0.heap.size W0 w) : IsL size (ElAt El W0) w ao l := by
  rcases h with h | ⟨bk, off, h1, h2, h3⟩
  · exact Or.inl h
  · refine Or.inr ⟨bk, off, h1, Nat.lt_of_lt_of_le h2 hb.size, fun k hk => ?_⟩
    obtain ⟨cs, h4, h5⟩ := h3 k hk
    exact ⟨cs, rangeB h4 h2 hb, h5⟩
theorem IsL.thawL (hS : ElStable El) (h : IsL size (ElAt El W0) w ao l) (hb : Below W0.heap.size W0 w) : IsL size El w ao l := by
  rcases h with h | ⟨bk, off, h1, h2, h3⟩
  · exact Or.inl h
  · refine Or.inr ⟨bk, off, h1, h2, fun k hk => ?_⟩
    obtain ⟨cs, h4, h5⟩ := h3 k hk
    exact ⟨cs, h4, hS _ _ _ _ h5 hb⟩
/-- A row of the call's own that says a list whose elements lie in the world W0. -/
structure OwnL (te : TypeId) (size : Nat) (El : World → List Value → α → Prop) (B : Nat) (W0 w : World) (v : Value) (l : List α) : Prop where
  ex : ∃ css, Says size (ElAt El W0) w css l ∧ w.ownsRow B te size v l.length css.flatten
theorem OwnL.below (h : OwnL te size El B W0 w v l) (hb : Below w.heap.size w w') : OwnL te size El B W0 w' v l := by
  obtain ⟨css, h1, h2⟩ := h.ex
  exact ⟨css, ⟨h1.len, h1.size, h1.el⟩, owns_belowM h2 hb⟩
theorem OwnL.shape (h : OwnL te size El B W0 w v l) : ∃ ao c, v = .slice ao l.length c := by
  obtain ⟨css, h1, h2⟩ := h.ex
  exact owns_shapeM h2
theorem OwnL.isL (hS : ElStable El) (h : OwnL te size El B W0 w v l) (hb : Below W0.heap.size W0 w) : ∃ ao c, v = .slice ao l.length c ∧ IsL size El w ao l := by
  obtain ⟨css, h1, h2⟩ := h.ex
  obtain ⟨ao, c, rfl⟩ := owns_shapeM h2
  exact ⟨ao, c, rfl, (h1.row h2 rfl).thawL hS hb⟩
theorem OwnL.kept {row : Option Nat} (h : OwnL te size El B W0 w v l) (hg : w.grownBy w' row) (hne : v.ownBlock = none ∨ v.ownBlock ≠ row) : OwnL te size El B W0 w' v l := by
  obtain ⟨css, h1, h2⟩ := h.ex
  exact ⟨css, ⟨h1.len, h1.size, h1.el⟩, h2.kept hg hne⟩
/-- Rows of two types lie in different blocks. -/
theorem owns_apart {w : World} {b b2 : Nat} {e e2 : TypeId} {s s2 n n2 : Nat} {v v2 : Value} {xs xs2 : List Value} (h : w.ownsRow b e s v n xs) (h2 : w.ownsRow b2 e2 s2 v2 n2 xs2) (hne : e ≠ e2) : v.ownBlock = none ∨ v.ownBlock ≠ v2.ownBlock := by
  rcases h2.2 with ⟨rfl, _⟩ | ⟨g, cap, cur, rfl, _, hh, _⟩
  · rcases h.2 with ⟨rfl, _⟩ | ⟨g, cap, cur, rfl, _⟩
    · exact Or.inl rfl
    · exact Or.inr (by simp [Value.ownBlock])
  · have hg : Whole w g e2 cur := hh
    exact Or.inr (owns_wholeM h hg hne)
theorem OwnL.other {α2 : Type} {te2 : TypeId} {size2 B2 : Nat} {El2 : World → List Value → α2 → Prop} {W2 : World} {v2 : Value} {l2 : List α2} (h : OwnL te size El B W0 w v l) (h2 : OwnL te2 size2 El2 B2 W2 w v2 l2) (hne : te ≠ te2) (hg : w.grownBy w' v2.ownBlock) : OwnL te size El B W0 w' v l := by
  obtain ⟨css, h3, h4⟩ := h.ex
  obtain ⟨dss, h5, h6⟩ := h2.ex
  exact h.kept hg (owns_apart h4 h6 hne)
theorem OwnL.grownLow (h : OwnL te size El B W0 w v l) (hB : B ≤ w.heap.size) (hg : w.grownBy w' v.ownBlock) : Below B w w' := by
  obtain ⟨css, h1, h2⟩ := h.ex
  exact (Below.refl _ _).grown hg hB (fun k e => by
    rcases h2.2 with ⟨rfl, _⟩ | ⟨g, cap, cur, rfl, hb, _⟩
    · cases e
    · cases e; exact hb)
theorem run_copyL (T : ElTy t te size bytes El) (ty : TypeId) {g0 c : Nat} (hW : Below W0.heap.size W0 w) (hg0 : Whole w g0 te #[]) (hb : B ≤ g0) (hm : l.length ≤ maxLen) (h1 : l.length * bytes ≤ 140737488355328) (hl : IsL size El W0 ao l) :
    ∃ v w', (Builtin.append_ #[t, t] ty #[.slice (some ⟨g0, 0, none⟩) 0 0, .slice ao l.length c]).run Tryz.prog w = .ok v w' ∧ OwnL te size El B W0 w' v l ∧ Below w.heap.size w w' := by
  obtain ⟨i, z, a1, a2, a3, a4, a5, a6⟩ := T.ex
  obtain ⟨v, w', css, hr, r1, r2, r3⟩ := run_copy_list (El := ElAt El W0) ty a1 a2 a3 a4 a5 a6 T.pos (fun _ _ _ _ h _ => h) (fun _ _ _ h => T.len _ _ _ h) g0 hg0 B hb l l.length rfl hm h1 ao c (hl.freezeL hW)
  exact ⟨v, w', hr, ⟨css, r2, r1⟩, r3⟩
theorem run_moreL (T : ElTy t te size bytes El) (ty : TypeId) {c : Nat} (hW : Below W0.heap.size W0 w) (hB : B ≤ w.heap.size) (h : OwnL te size El B W0 w v l) (hm : l.length + m.length ≤ maxLen) (h1 : (l.length + m.length) * bytes ≤ 140737488355328) (hl : IsL size El W0 ao m) :
    ∃ v' w', (Builtin.append_ #[t, t] ty #[v, .slice ao m.length c]).run Tryz.prog w = .ok v' w' ∧ OwnL te size El B W0 w' v' (l ++ m) ∧ w.grownBy w' v.ownBlock := by
  obtain ⟨i, z, a1, a2, a3, a4, a5, a6⟩ := T.ex
  obtain ⟨css, q1, q2⟩ := h.ex
  by_cases h0 : m = []
  · subst h0
    refine ⟨v, w, ?_, ⟨css, by rw [List.append_nil]; exact q1, by rw [List.append_nil]; exact q2⟩, ⟨rfl, rfl, rfl, Nat.le_refl _, fun _ _ _ => rfl⟩⟩
    rw [List.length_nil]
    rcases q2.2 with ⟨rfl, hn⟩ | ⟨g, cap, cur, rfl, hg, hc, hn, hmx, hsz, htk⟩
    · cases ao <;> simp [Builtin.append_, run_underlying a1, sizeOf, typeInfo, a2, Builtin.lenOf, Builtin.firstCells, storeCells, loadCells, loadCellsFrom]
    · cases ao <;> simp [Builtin.append_, run_underlying a1, sizeOf, typeInfo, a2, Builtin.lenOf, Builtin.firstCells, storeCells, loadCells, loadCellsFrom, hn]
  · obtain ⟨bk, off, dss, rfl, hbk, hd, hc⟩ := (hl.freezeL hW).says (fun _ _ _ h => T.len _ _ _ h) h0
    obtain ⟨v', w', hr, r1, r2, _⟩ := run_append_own (P := Tryz.prog) w B t ty te i z size bytes a1 a2 a3 a4 a5 a6 T.pos v l.length css.flatten q2 ⟨bk, off, none⟩ m.length c dss.flatten (by rw [flat_len hd.size, hd.len]) (fun j u hu => by
      have e : (⟨bk, off, none⟩ : Addr).add j = ⟨bk, off + j, none⟩ := by simp [Addr.add]
      rw [e]; exact hc j u hu) (fun u hu => by
        obtain ⟨cs, hcs, hu⟩ := List.mem_flatten.1 hu
        obtain ⟨j, hj, rfl⟩ := List.getElem_of_mem hcs
        exact T.one _ _ _ (hd.el j (by rw [← hd.len]; exact hj) hj) u hu) hm h1 hB
    rw [← List.flatten_append] at r1
    have hs := q1.append hd
    exact ⟨v', w', hr, ⟨css ++ dss, ⟨hs.len, hs.size, hs.el⟩, by rw [List.length_append]; exact r1⟩, r2⟩
theorem wpList_copyL {ops : Array Oper} {rest : List Oper} {o : Oper} {a : Act} {Q : Exit → Act → World → Prop} (hw : Region.wanted o (yielded ops a.tmps) = true) (T : ElTy t te size bytes El) (s x : Operand) (ho : o.op = .call { callee := .builtin .append, args := #[s, x], argTypes := #[t, t] })
    (g0 c : Nat) (hs : a.eval s = .slice (some ⟨g0, 0, none⟩) 0 0) (n : Nat) (hx : a.eval x = .slice ao n c) (hn : n = l.length) (hW : Below W0.heap.size W0 w) (hg0 : Whole w g0 te #[]) (hb : B ≤ g0) (hm : l.length ≤ maxLen) (h1 : l.length * bytes ≤ 140737488355328) (hl : IsL size El W0 ao l)
    (h : ∀ v w', OwnL te size El B W0 w' v l → Below w.heap.size w w' → wpList Tryz.prog ops Q rest (a.put o.dst v) w') : wpList Tryz.prog ops Q (o :: rest) a w := by
  subst hn
  obtain ⟨v, w', hr, r1, r2⟩ := run_copyL (B := B) T o.type (c := c) hW hg0 hb hm h1 hl
  refine wpList_of_step hw ?_
  rw [if_pos hw]
  unfold Oper.wp
  simp [execOp, ho, resolve, invoke, builtin, hs, hx, hr, Result.andThen]
  exact h v w' r1 r2
theorem wpList_moreL {ops : Array Oper} {rest : List Oper} {o : Oper} {a : Act} {Q : Exit → Act → World → Prop} (hw : Region.wanted o (yielded ops a.tmps) = true) (T : ElTy t te size bytes El) (s x : Operand) (ho : o.op = .call { callee := .builtin .append, args := #[s, x], argTypes := #[t, t] })
    (c : Nat) (hs : a.eval s = v) (n : Nat) (hx : a.eval x = .slice ao n c) (hn : n = m.length) (hW : Below W0.heap.size W0 w) (hB : B ≤ w.heap.size) (ho2 : OwnL te size El B W0 w v l) (hm : l.length + m.length ≤ maxLen) (h1 : (l.length + m.length) * bytes ≤ 140737488355328) (hl : IsL size El W0 ao m)
    (h : ∀ v' w', OwnL te size El B W0 w' v' (l ++ m) → w.grownBy w' v.ownBlock → wpList Tryz.prog ops Q rest (a.put o.dst v') w') : wpList Tryz.prog ops Q (o :: rest) a w := by
  subst hn
  obtain ⟨v', w', hr, r1, r2⟩ := run_moreL T o.type (c := c) hW hB ho2 hm h1 hl
  refine wpList_of_step hw ?_
  rw [if_pos hw]
  unfold Oper.wp
  simp [execOp, ho, resolve, invoke, builtin, hs, hx, hr, Result.andThen]
  exact h v' w' r1 r2
end
end Go.Proofs.YtknphmkblcbabaaGreatDoor
