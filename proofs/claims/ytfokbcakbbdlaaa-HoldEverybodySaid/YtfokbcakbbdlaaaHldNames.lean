/- A list of names copied; a record that makes a hold at the end. -/
import Derived.Test.YtfokbcakbbdlaaaHldCopy
namespace Go.Proofs.Ytfokbcakbbdlaaa
open Go.RowKit
open Hld (Rc Hd)

set_option maxRecDepth 100000 in
theorem run_copy_names {w : World} (ty : TypeId) (g0 : Nat) (hg0 : Whole w g0 9 #[]) (base : Nat) (hb : base ≤ g0) (l : List ByteArray) (n : Nat) (hn : n = l.length) (h1 : n * 16 ≤ 140737488351232) (ao : Option Addr) (c : Nat) (hl : IsStrs w ao l) :
    ∃ v w', (Builtin.append_ #[22, 22] ty #[.slice (some ⟨g0, 0, none⟩) 0 0, .slice ao n c]).run Try.prog w = .ok v w' ∧
      w'.ownsRow base 9 1 v n (strC l) ∧ Below w.heap.size w w' := by
  obtain ⟨i1, hi1, hy0, hy1, hy2⟩ := info_parts info_str
  have hlt := hg0.lt
  have hown : w.ownsRow base 9 1 (.slice (some ⟨g0, 0, none⟩) 0 0) 0 [] := ⟨by simp, .inr ⟨g0, 0, #[], rfl, hb, hg0, Nat.le_refl _, Nat.zero_le _, by simp, by simp⟩⟩
  by_cases h0 : l = []
  · subst h0
    simp only [List.length_nil] at hn
    subst hn
    refine ⟨.slice (some ⟨g0, 0, none⟩) 0 0, w, ?_, hown, Below.refl _ _⟩
    cases ao <;> simp [Builtin.append_, run_underlying Try.underlying22, sizeOf, typeInfo, hi1, Builtin.lenOf, Builtin.firstCells, storeCells, loadCells, loadCellsFrom]
  · rcases hl with h | ⟨bk, off, rfl, _, hk⟩
    · exact absurd h h0
    have hpos : 0 < n := by rw [hn]; exact List.length_pos_iff.2 h0
    have hcell : ∀ j u, (strC l)[j]? = some u → w.cell? ((⟨bk, off, none⟩ : Addr).add j) = some u := fun j u hu => by
      have e : (⟨bk, off, none⟩ : Addr).add j = ⟨bk, off + j, none⟩ := by simp [Addr.add]
      have hj : j < l.length := by rw [← strC_len l]; exact (List.getElem?_eq_some_iff.1 hu).1
      rw [e, hk j hj, ← hu]
      unfold strC
      rw [List.getElem?_map, List.getElem?_eq_getElem hj]
      rfl
    obtain ⟨v', w', hr, r1, r2⟩ := run_append_arg_grows (P := Try.prog) w 22 ty 9 i1 _ 1 16 Try.underlying22 hi1 hy0 hy1 hy2 rfl (by decide) ⟨g0, 0, none⟩ 0 0 [] (by simp) (fun j u hu => by simp at hu) ⟨bk, off, none⟩ n c (strC l) (by rw [hn, strC_len, Nat.mul_one]) hcell (by omega) (by unfold maxLen; omega) (by omega)
    rw [Nat.zero_add, List.nil_append] at r1
    exact ⟨v', w', hr, owns_base r1 (by omega), (Below.refl _ _).grown r2 (Nat.le_refl _) (fun k e => by cases e)⟩
theorem wpList_copy_names {w : World} {ops : Array Oper} {rest : List Oper} {o : Oper} {a : Act} {Q : Exit → Act → World → Prop} (hgd : o.guard = none) (s x : Operand)
    (ho : o.op = .call { callee := .builtin .append, args := #[s, x], argTypes := #[22, 22] }) (g0 : Nat) (hs : a.eval s = .slice (some ⟨g0, 0, none⟩) 0 0) (hg0 : Whole w g0 9 #[]) (base : Nat) (hb : base ≤ g0) (l : List ByteArray) (n : Nat) (hn : n = l.length) (h1 : n * 16 ≤ 140737488351232)
    (ao : Option Addr) (c : Nat) (hx : a.eval x = .slice ao n c) (hl : IsStrs w ao l)
    (h : ∀ v' w', w'.ownsRow base 9 1 v' n (strC l) → Below w.heap.size w w' → wpList Try.prog ops Q rest (a.put o.dst v') w') : wpList Try.prog ops Q (o :: rest) a w := by
  obtain ⟨v, w', hr, r1, r2⟩ := run_copy_names o.type g0 hg0 base hb l n hn h1 ao c hl
  refine wpList_plain hgd fun K hK => ?_
  unfold Oper.wp
  simp [execOp, ho, resolve, invoke, builtin, hs, hx, hr, Result.andThen]
  exact hK _ _ (h v w' r1 r2)

namespace Hld
theorem known_false {P : List (ByteArray × Rc)} {id : ByteArray} (h : ∀ x ∈ P, x.1 ≠ id) : known (allF P) id = false := by
  unfold known
  rw [List.any_eq_false]
  intro y hy
  obtain ⟨⟨x, hx, e, _⟩, _⟩ := all_mem hy
  rw [e]
  simpa using h x hx
theorem all_new {P : List (ByteArray × Rc)} {id : ByteArray} {r : Rc} (h : ∀ x ∈ P, x.1 ≠ id) (h5 : r.kind = 5) (hm : r.members ≠ []) : allF (P ++ [(id, r)]) = allF P ++ [⟨id, r.name, r.members, []⟩] := by
  rw [allF_snoc]
  unfold step makes
  dsimp only
  rw [decide_eq_true h5, decide_eq_true hm, Bool.true_and, if_pos rfl, known_false h]
  rfl
end Hld

end Go.Proofs.Ytfokbcakbbdlaaa
