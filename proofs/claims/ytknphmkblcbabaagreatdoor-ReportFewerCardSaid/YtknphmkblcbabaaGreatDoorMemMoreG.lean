/- A list of structs laid behind another one: append(append([]T{}, l...), m...). -/
import Derived.Test.YtknphmkblcbabaaGreatDoorMemCopy
import Derived.Laws.AppendOwn
namespace Go.Proofs.YtknphmkblcbabaaGreatDoor
open Go.RowKit

/-- What no memory is behind. -/
def ElPlain {α : Type} (El : World → List Value → α → Prop) : Prop := ∀ (W W' : World) (cs : List Value) (a : α), El W cs a → El W' cs a ∧ ∀ u ∈ cs, u.oneCell' = true
theorem Says.any {α : Type} {size : Nat} {El : World → List Value → α → Prop} {W : World} {css : List (List Value)} {l : List α} (hS : ElPlain El) (h : Says size El W css l) (W' : World) : Says size El W' css l := ⟨h.len, h.size, fun k h1 h2 => (hS _ W' _ _ (h.el k h1 h2)).1⟩
section
variable {α : Type} {size bytes : Nat} {El : World → List Value → α → Prop} {t te : TypeId} {i : TypeInfo} {z : Value}
theorem run_more_list {w : World} (ty : TypeId) (ht : Tryz.prog.underlying t = some (.slice te)) (hi : Tryz.prog.info? te = some i) (h3 : i.zero = some z) (h4 : i.size = size) (h5 : i.bytes = bytes) (h6 : z.cells.size = size) (h7 : 0 < size)
    (hP : ElPlain El) (hz : ∀ W cs a, El W cs a → cs.length = size) (base : Nat) (hb : base ≤ w.heap.size) (l m : List α) (n k : Nat) (hk : k = m.length) (v : Value) (css : List (List Value)) (hown : w.ownsRow base te size v n css.flatten) (hs : Says size El w css l) (hm : n + k ≤ maxLen) (h1 : (n + k) * bytes ≤ 140737488355328) (ao : Option Addr) (c : Nat) (hl : IsL size El w ao m) :
    ∃ v' w' dss, (Builtin.append_ #[t, t] ty #[v, .slice ao k c]).run Tryz.prog w = .ok v' w' ∧ w'.ownsRow base te size v' (n + k) dss.flatten ∧ Says size El w' dss (l ++ m) ∧ Below base w w' := by
  by_cases h0 : m = []
  · subst h0
    simp only [List.length_nil] at hk
    subst hk
    refine ⟨v, w, css, ?_, hown, by rw [List.append_nil]; exact hs, Below.refl _ _⟩
    rcases hown.2 with ⟨rfl, rfl⟩ | ⟨g, cap, cur, rfl, hg, hc, hn, hmx, hsz, htk⟩
    · cases ao <;> simp [Builtin.append_, run_underlying ht, sizeOf, typeInfo, hi, Builtin.lenOf, Builtin.firstCells, storeCells, loadCells, loadCellsFrom]
    · cases ao <;> simp [Builtin.append_, run_underlying ht, sizeOf, typeInfo, hi, Builtin.lenOf, Builtin.firstCells, storeCells, loadCells, loadCellsFrom, hn]
  · obtain ⟨bk, off, dss, rfl, hbk, hd, hc⟩ := hl.says hz h0
    obtain ⟨v', w', hr, r1, r2, _⟩ := run_append_own (P := Tryz.prog) w base t ty te i z size bytes ht hi h3 h4 h5 h6 h7 v n css.flatten hown ⟨bk, off, none⟩ k c dss.flatten (by rw [flat_len hd.size, hd.len, hk]) (fun j u hu => by
      have e : (⟨bk, off, none⟩ : Addr).add j = ⟨bk, off + j, none⟩ := by simp [Addr.add]
      rw [e]; exact hc j u hu) (fun u hu => by
        obtain ⟨cs, hcs, hu⟩ := List.mem_flatten.1 hu
        obtain ⟨j, hj, rfl⟩ := List.getElem_of_mem hcs
        exact (hP _ w _ _ (hd.el j (by rw [← hd.len]; exact hj) hj)).2 u hu) hm h1 hb
    rw [← List.flatten_append] at r1
    refine ⟨v', w', css ++ dss, hr, r1, (hs.append hd).any hP w', (Below.refl _ _).grown r2 hb (fun y e => ?_)⟩
    rcases hown.2 with ⟨rfl, _⟩ | ⟨g, cap, cur, rfl, hg, _⟩
    · cases e
    · cases e; exact hg
end
/-- Values of operations that a walk of facts meets. -/
theorem run_append_two (d : Option Tmp) (t : TypeId) (pos : String) (af : Array Edge) (g : Option (Nat × Bool)) (A : Act) (w w' : World) (x y : Tmp) (T : TypeId) (v1 v2 v : Value) (hx : A.eval (.tmp x) = v1) (hy : A.eval (.tmp y) = v2)
    (hr : (Builtin.append_ #[T, T] t #[v1, v2]).run Tryz.prog w = .ok v w') :
    (execOp A.eval ⟨d, .call { callee := .builtin .append, args := #[.tmp x, .tmp y], argTypes := #[T, T] }, t, pos, af, g⟩).run Tryz.prog w = .ok (.value v) w' := by
  subst hx; subst hy
  unfold execOp
  simp [resolve, invoke, builtin, hr, Result.andThen]
/-! ### In the text's order, behind a guard or not -/
section
variable {α : Type} {size bytes : Nat} {El : World → List Value → α → Prop} {t te : TypeId} {i : TypeInfo} {z : Value}
theorem step_copy_list {w : World} {ops : Array Oper} {o : Oper} {a : Act} {K : Act → World → Prop} {Q : Exit → Act → World → Prop} {E : Prop} (hw : Region.wanted o (yielded ops a.tmps) = true) (s x : Operand)
    (ho : o.op = .call { callee := .builtin .append, args := #[s, x], argTypes := #[t, t] }) (ht : Tryz.prog.underlying t = some (.slice te)) (hi : Tryz.prog.info? te = some i) (h3 : i.zero = some z) (h4 : i.size = size) (h5 : i.bytes = bytes) (h6 : z.cells.size = size) (h7 : 0 < size)
    (hS : ElStable El) (hz : ∀ W cs a, El W cs a → cs.length = size) (g0 : Nat) (hs : a.eval s = .slice (some ⟨g0, 0, none⟩) 0 0) (hg0 : Whole w g0 te #[]) (base : Nat) (hb : base ≤ g0) (l : List α) (n : Nat) (hn : n = l.length) (hm : n ≤ maxLen) (h1 : n * bytes ≤ 140737488355328) (ao : Option Addr) (c : Nat) (hx : a.eval x = .slice ao n c) (hl : IsL size El w ao l)
    (h : ∀ v' w' css, w'.ownsRow base te size v' n css.flatten → Says size El w' css l → Below w.heap.size w w' → K (a.put o.dst v') w') : if Region.wanted o (yielded ops a.tmps) = true then Oper.wp Tryz.prog o a w K Q else E := by
  obtain ⟨v, w', css, hr, r1, r2, r3⟩ := run_copy_list o.type ht hi h3 h4 h5 h6 h7 hS hz g0 hg0 base hb l n hn hm h1 ao c hl
  rw [if_pos hw]
  unfold Oper.wp
  simp [execOp, ho, resolve, invoke, builtin, hs, hx, hr, Result.andThen]
  exact h v w' css r1 r2 r3
theorem step_more_list {w : World} {ops : Array Oper} {o : Oper} {a : Act} {K : Act → World → Prop} {Q : Exit → Act → World → Prop} {E : Prop} (hw : Region.wanted o (yielded ops a.tmps) = true) (s x : Operand)
    (ho : o.op = .call { callee := .builtin .append, args := #[s, x], argTypes := #[t, t] }) (ht : Tryz.prog.underlying t = some (.slice te)) (hi : Tryz.prog.info? te = some i) (h3 : i.zero = some z) (h4 : i.size = size) (h5 : i.bytes = bytes) (h6 : z.cells.size = size) (h7 : 0 < size)
    (hP : ElPlain El) (hz : ∀ W cs a, El W cs a → cs.length = size) (base : Nat) (hb : base ≤ w.heap.size) (l m : List α) (n k : Nat) (hk : k = m.length) (v : Value) (css : List (List Value)) (hv : a.eval s = v) (hown : w.ownsRow base te size v n css.flatten) (hs : Says size El w css l) (hm : n + k ≤ maxLen) (h1 : (n + k) * bytes ≤ 140737488355328) (ao : Option Addr) (c : Nat) (hx : a.eval x = .slice ao k c) (hl : IsL size El w ao m) (hn : n + k = (l ++ m).length)
    (h : ∀ ro rc w', IsL size El w' ro (l ++ m) → Below base w w' → K (a.put o.dst (.slice ro (n + k) rc)) w') : if Region.wanted o (yielded ops a.tmps) = true then Oper.wp Tryz.prog o a w K Q else E := by
  obtain ⟨v', w', dss, hr, r1, r2, r3⟩ := run_more_list o.type ht hi h3 h4 h5 h6 h7 hP hz base hb l m n k hk v css hown hs hm h1 ao c hl
  obtain ⟨ro, rc, rfl⟩ := owns_shapeM r1
  rw [if_pos hw]
  unfold Oper.wp
  simp [execOp, ho, resolve, invoke, builtin, hv, hx, hr, Result.andThen]
  exact h ro rc w' (r2.row r1 hn) r3
theorem wpList_of_step {P : Program} {w : World} {ops : Array Oper} {rest : List Oper} {o : Oper} {a : Act} {Q : Exit → Act → World → Prop} (hw : Region.wanted o (yielded ops a.tmps) = true) (h : if Region.wanted o (yielded ops a.tmps) = true then Oper.wp P o a w (wpList P ops Q rest) Q else False) : wpList P ops Q (o :: rest) a w := by
  rw [if_pos hw] at h
  unfold wpList
  rw [if_pos hw]
  exact Or.inl h
end
end Go.Proofs.YtknphmkblcbabaaGreatDoor
