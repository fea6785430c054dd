/- A list of records copied, and one record more, in whatever order the operations come. -/
import Derived.Test.YtfokbcakbbdlaaaHldRows
import Derived.Test.YtfokbcakbbdlaaaEnt
import Derived.ArgAppend
namespace Go.Proofs.Ytfokbcakbbdlaaa
open Go.RowKit
open Hld (Rc Hd)

theorem wp_of_run {P : Program} {o : Oper} {a : Act} {w w' : World} {v : Value} {K : Act → World → Prop} {Q : Exit → Act → World → Prop} (hr : (execOp a.eval o).run P w = .ok (.value v) w') (h : K (a.put o.dst v) w') : o.wp P a w K Q := by
  unfold Oper.wp; rw [hr]; exact h
theorem owns_base {w : World} {b b' : Nat} {e : TypeId} {size n : Nat} {v : Value} {xs : List Value} (h : w.ownsRow b e size v n xs) (hb : b' ≤ b) : w.ownsRow b' e size v n xs := by
  refine ⟨h.1, ?_⟩
  rcases h.2 with h | ⟨g, cap, cur, hv, hB, rest⟩
  · exact Or.inl h
  · exact Or.inr ⟨g, cap, cur, hv, Nat.le_trans hb hB, rest⟩
theorem recsC_cell {w : World} {bk off : Nat} {l : List Rc} (hl : ∀ r ∈ l, RcOk r) (h : ∀ k, (hk : k < l.length) → w.rangeAt bk (off + k * 36) l[k].cells) : ∀ j u, (recsC l)[j]? = some u → w.cell? ((⟨bk, off, none⟩ : Addr).add j) = some u := fun j u hu => by
  have hlen := recsC_len l hl
  have hj : j < l.length * 36 := by rw [← hlen]; exact (List.getElem?_eq_some_iff.1 hu).1
  have hk : j / 36 < l.length := by omega
  have hc := hl _ (List.getElem_mem hk)
  have hi : j % 36 < l[j / 36].cells.length := by rw [hc.len]; exact Nat.mod_lt _ (by decide)
  have h1 := recsC_at l hl (j / 36) hk (j % 36) _ (List.getElem?_eq_getElem hi)
  rw [show j / 36 * 36 + j % 36 = j by omega, hu] at h1
  have h2 := h (j / 36) hk (j % 36) _ (List.getElem?_eq_getElem hi)
  rw [show off + j / 36 * 36 + j % 36 = off + j by omega] at h2
  rw [Option.some.inj h1, ← h2]
  have e : (⟨bk, off, none⟩ : Addr).add j = ⟨bk, off + j, none⟩ := by simp [Addr.add]
  rw [e]
theorem recsC_one (l : List Rc) (hl : ∀ r ∈ l, RcOk r) : ∀ u ∈ recsC l, u.oneCell' = true := fun u hu => by
  obtain ⟨r, hr, h⟩ := List.mem_flatMap.1 hu
  exact (hl r hr).one u h
set_option maxRecDepth 100000 in
theorem run_copy_recs {w : World} (ty : TypeId) (g0 : Nat) (hg0 : Whole w g0 54 #[]) (base : Nat) (hb : base ≤ g0) (l : List Rc) (n : Nat) (hn : n = l.length) (h1 : n * 480 ≤ 140737488351232) (ao : Option Addr) (c : Nat) (hl : IsRecs w ao l) :
    ∃ v w', (Builtin.append_ #[23, 23] ty #[.slice (some ⟨g0, 0, none⟩) 0 0, .slice ao n c]).run Try.prog w = .ok v w' ∧
      w'.ownsRow base 54 36 v n (recsC l) ∧ Below w.heap.size w w' := by
  obtain ⟨i1, hi1, hy0, hy1, hy2⟩ := info_parts info_rec
  have hlt := hg0.lt
  have hown : w.ownsRow base 54 36 (.slice (some ⟨g0, 0, none⟩) 0 0) 0 [] := ⟨by simp, .inr ⟨g0, 0, #[], rfl, hb, hg0, Nat.le_refl _, Nat.zero_le _, by simp, by simp⟩⟩
  by_cases h0 : l = []
  · subst h0
    simp only [List.length_nil] at hn
    subst hn
    refine ⟨.slice (some ⟨g0, 0, none⟩) 0 0, w, ?_, hown, Below.refl _ _⟩
    cases ao <;> simp [Builtin.append_, run_underlying Try.underlying23, sizeOf, typeInfo, hi1, Builtin.lenOf, Builtin.firstCells, storeCells, loadCells, loadCellsFrom]
  · rcases hl.2 with h | ⟨bk, off, rfl, _, hk⟩
    · exact absurd h h0
    have hpos : 0 < n := by rw [hn]; exact List.length_pos_iff.2 h0
    have hok : ∀ r ∈ l, RcOk r := fun r hr => (hl.1 r hr).1
    obtain ⟨v', w', hr, r1, r2⟩ := run_append_arg_grows (P := Try.prog) w 23 ty 54 i1 _ 36 480 Try.underlying23 hi1 hy0 hy1 hy2 rfl (by decide) ⟨g0, 0, none⟩ 0 0 [] (by simp) (fun j u hu => by simp at hu) ⟨bk, off, none⟩ n c (recsC l) (by rw [hn, recsC_len l hok]) (recsC_cell hok hk) (by omega) (by unfold maxLen; omega) (by omega)
    rw [Nat.zero_add, List.nil_append] at r1
    exact ⟨v', w', hr, owns_base r1 (by omega), (Below.refl _ _).grown r2 (Nat.le_refl _) (fun k e => by cases e)⟩

section
variable (d : Option Tmp) (t : TypeId) (pos : String) (af : Array Edge) (g : Option (Nat × Bool)) (A : Act) (w : World)
theorem run_empty_recs : (execOp A.eval ⟨d, .buildSlice 23 0 #[], t, pos, af, g⟩).run Try.prog w = .ok (.value (.slice (some ⟨w.heap.size, 0, none⟩) 0 0)) (w.alloc (.cells #[] 54)) := by kernel_rfl
theorem run_move (x : Tmp) (v : Value) (hx : A.eval (.tmp x) = v) : (execOp A.eval ⟨d, .move (.tmp x), t, pos, af, g⟩).run Try.prog w = .ok (.value v) w := by
  subst hx; rfl
theorem run_assign (x : Tmp) (v : Value) (hx : A.eval (.tmp x) = v) : (execOp A.eval ⟨d, .assign (.tmp x), t, pos, af, g⟩).run Try.prog w = .ok (.value v) w := by
  subst hx; rfl
theorem run_load_rec (x : Tmp) (b : Nat) (r : Rc) (h : RcOk r) (hx : A.eval (.tmp x) = .pointer (some ⟨b, 0, none⟩)) (hw : Whole w b 54 r.cells.toArray) :
    (execOp A.eval ⟨d, .load 54 (.tmp x), t, pos, af, g⟩).run Try.prog w = .ok (.value (.agg r.cells.toArray)) w := by
  have hr : w.rangeAt b 0 r.cells := fun j v hv => by rw [Nat.zero_add, hw.cell]; simpa using hv
  have hld := run_loadVar_mid (P := Try.prog) w b 0 54 r.cells _ hr Try.underlying54 rfl (rec_size r h)
  unfold execOp
  simp only [hx, Instr.loadAt, Instr.sureAddr, Sem.run_bind, Sem.run_pure, Result.andThen_ok, hld]
theorem run_one_rec (x : Tmp) (cs : List Value) (hl : cs.length = 36) (hx : A.eval (.tmp x) = .agg cs.toArray) :
    (execOp A.eval ⟨d, .buildSlice 23 1 #[(0, .tmp x)], t, pos, af, g⟩).run Try.prog w = .ok (.value (.slice (some ⟨w.heap.size, 0, none⟩) 1 1)) (w.alloc (.cells cs.toArray 54)) := by
  unfold execOp
  simp only [hx, List.map_toArray, List.map_cons, List.map_nil, Sem.run_bind, slice_one cs hl, Result.andThen_ok, Sem.run_pure]
theorem run_append_rec (w' : World) (x y : Tmp) (v1 v2 v : Value) (hx : A.eval (.tmp x) = v1) (hy : A.eval (.tmp y) = v2)
    (hr : (Builtin.append_ #[23, 23] t #[v1, v2]).run Try.prog w = .ok v w') :
    (execOp A.eval ⟨d, .call { callee := .builtin .append, args := #[.tmp x, .tmp y], argTypes := #[23, 23] }, t, pos, af, g⟩).run Try.prog w = .ok (.value v) w' := by
  unfold execOp
  simp only [resolve, invoke, builtin, Sem.run_bind, Sem.run_pure, Result.andThen_ok, List.map_toArray, List.map_cons, List.map_nil, hx, hy, hr]
end

section
variable (W : World) (x : Rc) (l : List Rc) (n : Nat) (ro : Option Addr) (rc : Nat)
def CpF : Nat → Value → World → Prop
  | 0, v, w => ∃ g, v = .slice (some ⟨g, 0, none⟩) 0 0 ∧ W.heap.size ≤ g ∧ Whole w g 54 #[]
  | 1, v, _ => v = .slice ro n rc
  | 2, v, w => w.ownsRow W.heap.size 54 36 v n (recsC l)
  | 3, v, _ => v = .agg x.cells.toArray
  | 4, v, w => ∃ g, v = .slice (some ⟨g, 0, none⟩) 1 1 ∧ Whole w g 54 x.cells.toArray
  | _, _, _ => True
structure CpT (e : Ent) (w : World) : Prop where
  below : Below W.heap.size W w
  each : e 5 = none → ∀ j v, e j = some v → CpF W x l n ro rc j v w
  five : ∀ v, e 5 = some v → w.ownsRow W.heap.size 54 36 v (n + 1) (recsC l ++ x.cells)
  six : ∀ v, e 6 = some v → e 5 = some v
  two : e 5 ≠ none → e 2 ≠ none ∧ e 4 ≠ none
end
section
variable {W : World} {x : Rc} {l : List Rc} {n : Nat} {ro : Option Addr} {rc : Nat} {w w' : World} {e : Ent}
theorem CpF.below {j : Nat} {v : Value} (h : CpF W x l n ro rc j v w) (hb : Below w.heap.size w w') : CpF W x l n ro rc j v w' := by
  unfold CpF at h ⊢
  split <;> simp only at h ⊢ <;> first
    | exact h
    | (obtain ⟨g, h1, h2, h3⟩ := h; exact ⟨g, h1, h2, whole_below h3 hb⟩)
    | (obtain ⟨g, h1, h2⟩ := h; exact ⟨g, h1, whole_below h2 hb⟩)
    | exact owns_below h hb
theorem CpT.start : CpT W x l n ro rc (fun _ => none) W.drew := by
  refine ⟨(Below.refl _ _).drew, fun _ j v hj => ?_, fun v hv => ?_, fun v hv => ?_, fun h => absurd rfl h⟩
  · cases hj
  · cases hv
  · cases hv
theorem CpT.step (hT : CpT W x l n ro rc e w) {j : Nat} (hj : j < 5) {v : Value} (hw : Below w.heap.size w w') (hv : CpF W x l n ro rc j v w') : CpT W x l n ro rc (entUpd e j v) w' := by
  refine ⟨below_step hT.below hw, fun h5 k u hu => ?_, fun u hu => ?_, fun u hu => ?_, fun h5 => ?_⟩
  · rw [entUpd_other e v (by omega)] at h5
    by_cases hkj : k = j
    · subst hkj
      rw [entUpd_same] at hu
      obtain rfl := Option.some.inj hu
      exact hv
    · rw [entUpd_other e v hkj] at hu
      exact (hT.each h5 k u hu).below hw
  · rw [entUpd_other e v (by omega)] at hu
    exact owns_below (hT.five u hu) hw
  · rw [entUpd_other e v (by omega)] at hu ⊢
    exact hT.six u hu
  · rw [entUpd_other e v (by omega)] at h5
    have := hT.two h5
    refine ⟨?_, ?_⟩
    · by_cases h : 2 = j
      · subst h; rw [entUpd_same]; simp
      · rw [entUpd_other e v h]; exact this.1
    · by_cases h : 4 = j
      · subst h; rw [entUpd_same]; simp
      · rw [entUpd_other e v h]; exact this.2
theorem CpT.grow (hT : CpT W x l n ro rc e w) (h5 : e 5 = none) (h2 : e 2 ≠ none) (h4 : e 4 ≠ none) {v : Value} (hb : Below W.heap.size W w') (hv : w'.ownsRow W.heap.size 54 36 v (n + 1) (recsC l ++ x.cells)) : CpT W x l n ro rc (entUpd e 5 v) w' := by
  refine ⟨hb, fun h _ _ _ => ?_, fun u hu => ?_, fun u hu => ?_, fun _ => ⟨by rw [entUpd_other e v (by decide)]; exact h2, by rw [entUpd_other e v (by decide)]; exact h4⟩⟩
  · rw [entUpd_same] at h; cases h
  · rw [entUpd_same] at hu
    obtain rfl := Option.some.inj hu
    exact hv
  · rw [entUpd_other e v (by decide)] at hu
    have := hT.six u hu
    rw [h5] at this
    cases this
theorem CpT.last (hT : CpT W x l n ro rc e w) {v : Value} (h5 : e 5 = some v) : CpT W x l n ro rc (entUpd e 6 v) w := by
  refine ⟨hT.below, fun h _ _ _ => ?_, fun u hu => ?_, fun u hu => ?_, fun h => by rw [entUpd_other e v (by decide)] at h; rw [entUpd_other e v (by decide), entUpd_other e v (by decide)]; exact hT.two h⟩
  · rw [entUpd_other e v (by decide), h5] at h; cases h
  · rw [entUpd_other e v (by decide)] at hu
    exact hT.five u hu
  · rw [entUpd_same] at hu
    obtain rfl := Option.some.inj hu
    rw [entUpd_other e v (by decide)]
    exact h5
set_option maxRecDepth 100000 in
/-- The last append. -/
theorem cp_append (ty : TypeId) (hx : RcOk x) (h1 : n * 480 ≤ 140737488351232) (hb : Below W.heap.size W w) {v2 : Value} (h2 : w.ownsRow W.heap.size 54 36 v2 n (recsC l)) {g : Nat} (hg : Whole w g 54 x.cells.toArray) :
    ∃ v w', (Builtin.append_ #[23, 23] ty #[v2, .slice (some ⟨g, 0, none⟩) 1 1]).run Try.prog w = .ok v w' ∧ w'.ownsRow W.heap.size 54 36 v (n + 1) (recsC l ++ x.cells) ∧ Below W.heap.size W w' := by
  obtain ⟨i1, hi1, hy0, hy1, hy2⟩ := info_parts info_rec
  obtain ⟨v', w', hr, r1, r2, _⟩ := run_append_own (P := Try.prog) w W.heap.size 23 ty 54 i1 _ 36 480 Try.underlying23 hi1 hy0 hy1 hy2 rfl (by decide) v2 n (recsC l) h2 ⟨g, 0, none⟩ 1 1 x.cells (by rw [hx.len]) (fun j u hu => by
    have e : (⟨g, 0, none⟩ : Addr).add j = ⟨g, j, none⟩ := by unfold Addr.add; split <;> simp_all
    rw [e, hg.cell]
    simpa using hu) hx.one (by unfold maxLen; omega) (by omega) hb.size
  exact ⟨v', w', hr, r1, hb.grown r2 hb.size (fun j e => (h2.lt j e).1)⟩
end

end Go.Proofs.Ytfokbcakbbdlaaa
