/- Lists of records that are laid. -/
import Derived.Test.YtfokbcakbbdlaaaHldOn
namespace Go.Proofs.Ytfokbcakbbdlaaa
open Go.RowKit
open Hld (Rc Hd)

theorem wpList_slice {P : Program} {ops : Array Oper} {rest : List Oper} {op : Oper} {a : Act} {w w' : World} {v : Value} {Q : Exit → Act → World → Prop} (hgd : op.guard = none) (t : TypeId) (n : Nat) (parts : Array (Nat × Operand)) (ho : op.op = .buildSlice t n parts)
    (vs : Array (Nat × Value)) (hv : parts.map (fun x => (x.1, a.eval x.2)) = vs) (hrun : (Instr.buildSlice t n vs).run P w = .ok v w')
    (h : wpList P ops Q rest (a.put op.dst v) w') : wpList P ops Q (op :: rest) a w :=
  wpList_plain hgd fun _ hK => by
    have e : (parts.map fun (x : Nat × Operand) => match x with | (i, y) => (i, a.eval y)) = vs := hv
    unfold Oper.wp execOp
    simp only [ho, e, Sem.run_bind, hrun, Result.andThen, Sem.run_pure]
    exact hK _ _ h

set_option maxRecDepth 100000 in
theorem slice_two (k1 a1 k2 a2 : Int) (t1 n1 t2 n2 : ByteArray) (m1 m2 : Value) (w : World) :
    (Instr.buildSlice 23 2 #[(0, .agg (mkC k1 a1 t1 n1 m1).toArray), (1, .agg (mkC k2 a2 t2 n2 m2).toArray)]).run Try.prog w = .ok (.slice (some ⟨w.heap.size, 0, none⟩) 2 2) (w.alloc (.cells (mkC k1 a1 t1 n1 m1 ++ mkC k2 a2 t2 n2 m2).toArray 54)) := by kernel_rfl
set_option maxRecDepth 100000 in
theorem slice_four (k1 a1 k2 a2 k3 a3 k4 a4 : Int) (t1 n1 t2 n2 t3 n3 t4 n4 : ByteArray) (m1 m2 m3 m4 : Value) (w : World) :
    (Instr.buildSlice 23 4 #[(0, .agg (mkC k1 a1 t1 n1 m1).toArray), (1, .agg (mkC k2 a2 t2 n2 m2).toArray), (2, .agg (mkC k3 a3 t3 n3 m3).toArray), (3, .agg (mkC k4 a4 t4 n4 m4).toArray)]).run Try.prog w = .ok (.slice (some ⟨w.heap.size, 0, none⟩) 4 4) (w.alloc (.cells (mkC k1 a1 t1 n1 m1 ++ (mkC k2 a2 t2 n2 m2 ++ (mkC k3 a3 t3 n3 m3 ++ mkC k4 a4 t4 n4 m4))).toArray 54)) := by kernel_rfl

/-! ### One record, whatever its cells -/
theorem fold_set : ∀ (C : List Value) (n off : Nat) (X : Array Value), off + n + C.length ≤ X.size →
    ((C.zipIdx n).foldl (fun cs x => cs.setIfInBounds (off + x.2) x.1) X).size = X.size ∧ ∀ i, ((C.zipIdx n).foldl (fun cs x => cs.setIfInBounds (off + x.2) x.1) X)[i]? = if off + n ≤ i ∧ i < off + n + C.length then C[i - (off + n)]? else X[i]?
  | [], n, off, X, _ => ⟨rfl, fun i => by rw [if_neg (by simp)]; rfl⟩
  | c :: C, n, off, X, h => by
    rw [List.length_cons] at h
    obtain ⟨h1, h2⟩ := fold_set C (n + 1) off (X.setIfInBounds (off + n) c) (by rw [Array.size_setIfInBounds]; omega)
    rw [List.zipIdx_cons, List.foldl_cons]
    refine ⟨by rw [h1, Array.size_setIfInBounds], fun i => ?_⟩
    rw [h2 i, List.length_cons]
    by_cases q1 : off + (n + 1) ≤ i ∧ i < off + (n + 1) + C.length
    · rw [if_pos q1, if_pos (by omega), show i - (off + n) = (i - (off + (n + 1))) + 1 by omega, List.getElem?_cons_succ]
    · rw [if_neg q1]
      by_cases q2 : i = off + n
      · subst q2
        rw [if_pos (by omega), Nat.sub_self, Array.getElem?_setIfInBounds_self_of_lt (by omega)]
        rfl
      · rw [Array.getElem?_setIfInBounds_ne (by omega), if_neg (by omega)]
theorem slice_one (cs : List Value) (hl : cs.length = 36) (w : World) :
    (Instr.buildSlice 23 1 #[(0, .agg cs.toArray)]).run Try.prog w = .ok (.slice (some ⟨w.heap.size, 0, none⟩) 1 1) (w.alloc (.cells cs.toArray 54)) := by
  have hu : (underlying 23).run Try.prog w = .ok (.slice 54) w := run_underlying Try.underlying23 w
  have hs : (sizeOf 54).run Try.prog w = .ok 36 w := by kernel_rfl
  have hz : (zeroValue 54).run Try.prog w = .ok (.agg (mkC 0 0 ⟨#[]⟩ ⟨#[]⟩ (.slice none 0 0)).toArray) w := by kernel_rfl
  have hf : ∀ X : Array Value, X.size = 36 → Instr.fill (fun i => some (i * 36, 36)) X [(0, .agg cs.toArray)] = some cs.toArray := fun X hX => by
    unfold Instr.fill
    have e1 : (Value.agg cs.toArray).cells = cs.toArray := rfl
    simp only [e1, List.size_toArray, hl, hX]
    simp only [Nat.zero_mul, ne_eq, not_true_eq_false, decide_false, Bool.false_or]
    obtain ⟨h1, h2⟩ := fold_set cs 0 0 X (by omega)
    have e2 : cs.toArray.zipIdx.foldl (fun cs x => cs.setIfInBounds (0 + x.2) x.1) X = cs.toArray := by
      rw [← Array.foldl_toList]
      apply Array.ext_getElem?
      intro i
      have e3 : cs.toArray.zipIdx.toList = cs.zipIdx 0 := by simp
      rw [e3, h2 i]
      by_cases q : 0 + 0 ≤ i ∧ i < 0 + 0 + cs.length
      · rw [if_pos q]; simp
      · rw [if_neg q, Array.getElem?_eq_none (by omega), Array.getElem?_eq_none (by simp; omega)]
    rw [if_neg (by simp)]
    unfold Instr.fill
    exact congrArg some e2
  unfold Instr.buildSlice
  simp only [Sem.run_bind, hu, hs, Result.andThen]
  rw [if_neg (by decide), if_neg (by decide)]
  simp only [Sem.run_bind, hz, Sem.run_pure, Result.andThen]
  rw [hf _ (by simp)]
  rfl

end Go.Proofs.Ytfokbcakbbdlaaa
