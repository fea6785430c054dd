/- One number more in a hold's list of those who gave it back: a copy, the number, and the store, in whatever order the operations come. -/
import Derived.Test.YtfokbcakbbdlaaaHldRowsH
namespace Go.Proofs.Ytfokbcakbbdlaaa
open Go.RowKit
open Hld (Rc Hd)

theorem ints_at {w : World} {bk off : Nat} {zs : List Int} (h : ∀ k, (hk : k < zs.length) → w.cell? ⟨bk, off + k, none⟩ = some (.int .i64 zs[k])) : ∀ j u, (intsC zs)[j]? = some u → w.cell? ((⟨bk, off, none⟩ : Addr).add j) = some u := fun j u hu => by
  have e : (⟨bk, off, none⟩ : Addr).add j = ⟨bk, off + j, none⟩ := by simp [Addr.add]
  have hl : (intsC zs).length = zs.length := by simp [intsC]
  have hj : j < zs.length := by rw [← hl]; exact (List.getElem?_eq_some_iff.1 hu).1
  rw [e, h j hj, ← hu]
  unfold intsC
  rw [List.getElem?_map, List.getElem?_eq_getElem hj]
  rfl
theorem run_copy_ints {w : World} (ty : TypeId) (g0 : Nat) (hg0 : Whole w g0 3 #[]) (base : Nat) (hb : base ≤ g0) (l : List Int) (n : Nat) (hn : n = l.length) (h1 : n * 8 ≤ 140737488351232) (ao : Option Addr) (c : Nat) (hl : IsInts w ao l) :
    ∃ v w', (Builtin.append_ #[29, 29] ty #[.slice (some ⟨g0, 0, none⟩) 0 0, .slice ao n c]).run Try.prog w = .ok v w' ∧
      w'.ownsRow base 3 1 v n (intsC l) ∧ Below w.heap.size w w' := by
  obtain ⟨i1, hi1, hy0, hy1, hy2⟩ := info_parts info_num
  have hlt := hg0.lt
  have hown : w.ownsRow base 3 1 (.slice (some ⟨g0, 0, none⟩) 0 0) 0 [] := ⟨by simp, .inr ⟨g0, 0, #[], rfl, hb, hg0, Nat.le_refl _, Nat.zero_le _, by simp, by simp⟩⟩
  by_cases h0 : l = []
  · subst h0
    simp only [List.length_nil] at hn
    subst hn
    refine ⟨.slice (some ⟨g0, 0, none⟩) 0 0, w, ?_, hown, Below.refl _ _⟩
    cases ao <;> simp [Builtin.append_, run_underlying Try.underlying29, sizeOf, typeInfo, hi1, Builtin.lenOf, Builtin.firstCells, storeCells, loadCells, loadCellsFrom]
  · rcases hl with h | ⟨bk, off, rfl, _, hk⟩
    · exact absurd h h0
    have hpos : 0 < n := by rw [hn]; exact List.length_pos_iff.2 h0
    obtain ⟨v', w', hr, r1, r2⟩ := run_append_arg_grows (P := Try.prog) w 29 ty 3 i1 _ 1 8 Try.underlying29 hi1 hy0 hy1 hy2 rfl (by decide) ⟨g0, 0, none⟩ 0 0 [] (by simp) (fun j u hu => by simp at hu) ⟨bk, off, none⟩ n c (intsC l) (by rw [hn]; simp [intsC]) (ints_at hk) (by omega) (by unfold maxLen; omega) (by omega)
    rw [Nat.zero_add, List.nil_append] at r1
    exact ⟨v', w', hr, owns_base r1 (by omega), (Below.refl _ _).grown r2 (Nat.le_refl _) (fun k e => by cases e)⟩

section
variable (d : Option Tmp) (t : TypeId) (pos : String) (af : Array Edge) (g : Option (Nat × Bool)) (A : Act) (w : World)
theorem run_empty_ints : (execOp A.eval ⟨d, .buildSlice 29 0 #[], t, pos, af, g⟩).run Try.prog w = .ok (.value (.slice (some ⟨w.heap.size, 0, none⟩) 0 0)) (w.alloc (.cells #[] 3)) := by
  simp [go_sem]
theorem run_field_back (x : Tmp) (b : Nat) (hx : A.eval (.tmp x) = .pointer (some ⟨b, 0, none⟩)) :
    (execOp A.eval ⟨d, .fieldAddr 31 (.tmp x) 3, t, pos, af, g⟩).run Try.prog w = .ok (.value (.pointer (some ⟨b, 3, none⟩))) w := by
  unfold execOp
  simp only [hx]
  go_simp
theorem run_load_one (T : TypeId) (hT : T = 3 ∨ T = 29) (x : Tmp) (p : Addr) (v : Value) (hx : A.eval (.tmp x) = .pointer (some p)) (hc : w.cell? p = some v) :
    (execOp A.eval ⟨d, .load T (.tmp x), t, pos, af, g⟩).run Try.prog w = .ok (.value v) w := by
  unfold execOp
  rcases hT with rfl | rfl <;> simp only [hx] <;> go_simp
theorem run_one_int (x : Tmp) (z : Int) (hx : A.eval (.tmp x) = .int .i64 z) :
    (execOp A.eval ⟨d, .buildSlice 29 1 #[(0, .tmp x)], t, pos, af, g⟩).run Try.prog w = .ok (.value (.slice (some ⟨w.heap.size, 0, none⟩) 1 1)) (w.alloc (.cells #[.int .i64 z] 3)) := by
  unfold execOp
  simp only [hx, List.map_toArray, List.map_cons, List.map_nil]
  go_simp
theorem run_append_int (w' : World) (x y : Tmp) (v1 v2 v : Value) (hx : A.eval (.tmp x) = v1) (hy : A.eval (.tmp y) = v2)
    (hr : (Builtin.append_ #[29, 29] t #[v1, v2]).run Try.prog w = .ok v w') :
    (execOp A.eval ⟨d, .call { callee := .builtin .append, args := #[.tmp x, .tmp y], argTypes := #[29, 29] }, t, pos, af, g⟩).run Try.prog w = .ok (.value v) w' := by
  unfold execOp
  simp only [resolve, invoke, builtin, Sem.run_bind, Sem.run_pure, Result.andThen_ok, List.map_toArray, List.map_cons, List.map_nil, hx, hy, hr]
theorem run_store_back (x y : Tmp) (b n c : Nat) (ao : Option Addr) (T : TypeId) (cs : Array Value) (hw : Whole w b T cs) (h3 : 3 < cs.size) (hx : A.eval (.tmp x) = .pointer (some ⟨b, 3, none⟩)) (hy : A.eval (.tmp y) = .slice ao n c) :
    (execOp A.eval ⟨d, .store 29 (.tmp x) (.tmp y), t, pos, af, g⟩).run Try.prog w = .ok .skip (w.setCell ⟨b, 3, none⟩ (.slice ao n c)) := by
  have h0 : w.cell? ⟨b, 3, none⟩ = some cs[3] := by rw [hw.cell, Array.getElem?_eq_getElem h3]
  have f0 := hw.frozen 3
  unfold execOp
  simp only [hx, hy]
  go_simp
theorem wp_of_skip {P : Program} {o : Oper} {a : Act} {w w' : World} {K : Act → World → Prop} {Q : Exit → Act → World → Prop} (hr : (execOp a.eval o).run P w = .ok .skip w') (h : K (a.put o.dst undef) w') : o.wp P a w K Q := by
  unfold Oper.wp; rw [hr]; exact h
end

end Go.Proofs.Ytfokbcakbbdlaaa
