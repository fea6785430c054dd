/- Names and records of one's own, each with one more, and All of them, in whatever order the operations come. -/
import Derived.Test.YtfokbcakbbdlaaaHldNames
import Derived.Test.YtfokbcakbbdlaaaHldAllRows
namespace Go.Proofs.Ytfokbcakbbdlaaa
open Go.RowKit
open Hld (Rc Hd)

/-- Rows of holds and of numbers that are kept. -/
structure Kp (B : Nat) (V w : World) : Prop where
  low : Below B V w
  holds : ∀ b v n xs, V.ownsRow b 31 4 v n xs → w.ownsRow b 31 4 v n xs
  nums : ∀ b v n xs, V.ownsRow b 3 1 v n xs → w.ownsRow b 3 1 v n xs
section
variable {B : Nat} {V w w' : World}
theorem Kp.below (h : Kp B V w) (hB : B ≤ w.heap.size) (hb : Below w.heap.size w w') : Kp B V w' :=
  ⟨h.low.trans (hb.mono hB), fun b v n xs hv => owns_below (h.holds b v n xs hv) hb, fun b v n xs hv => owns_below (h.nums b v n xs hv) hb⟩
theorem Kp.grown (h : Kp B V w) (hB : B ≤ w.heap.size) {t : TypeId} (h1 : t ≠ 31) (h2 : t ≠ 3) {size n : Nat} {v : Value} {xs : List Value} (hr : w.ownsRow B t size v n xs) (hg : w.grownBy w' v.ownBlock) : Kp B V w' :=
  ⟨h.low.grown hg hB (fun j e => (hr.lt j e).1), fun b u n xs hv => Apart.kept (owns_apart hr (h.holds b u n xs hv) h1) (h.holds b u n xs hv) hg, fun b u n xs hv => Apart.kept (owns_apart hr (h.nums b u n xs hv) h2) (h.nums b u n xs hv) hg⟩
end
section
variable (B : Nat) (V : World) (N : List ByteArray) (L : List Rc) (id : ByteArray) (x : Rc) (n : Nat) (nv rv : Value) (post : Value → World → Prop)
structure AgT (e : Ent) (w : World) : Prop where
  keep : Kp B V w
  size : B ≤ w.heap.size
  names : e 3 = none → w.ownsRow B 9 1 nv n (strC N)
  name : e 3 = none → ∀ v, e 2 = some v → ∃ g, v = .slice (some ⟨g, 0, none⟩) 1 1 ∧ Whole w g 9 #[.string id]
  names' : ∀ v, e 3 = some v → w.ownsRow B 9 1 v (n + 1) (strC (N ++ [id]))
  recs : e 7 = none → w.ownsRow B 54 36 rv n (recsC L)
  one : e 7 = none → ∀ v, e 6 = some v → ∃ g, v = .slice (some ⟨g, 0, none⟩) 1 1 ∧ Whole w g 54 x.cells.toArray
  recs' : ∀ v, e 7 = some v → w.ownsRow B 54 36 v (n + 1) (recsC (L ++ [x]))
  all : ∀ v, e 8 = some v → post v w ∧ e 3 ≠ none ∧ e 7 ≠ none
  last : ∀ v, e 9 = some v → e 8 = some v
  p0 : ∀ v, e 0 = some v → v = nv
  p1 : ∀ v, e 1 = some v → v = .string id
  p4 : ∀ v, e 4 = some v → v = rv
  p5 : ∀ v, e 5 = some v → v = .agg x.cells.toArray
end
section
variable {B : Nat} {V : World} {N : List ByteArray} {L : List Rc} {id : ByteArray} {x : Rc} {n : Nat} {nv rv : Value} {post : Value → World → Prop} {e : Ent} {w w' : World}
theorem AgT.start (hB : B ≤ V.heap.size) (h1 : V.ownsRow B 9 1 nv n (strC N)) (h2 : V.ownsRow B 54 36 rv n (recsC L)) : AgT B V N L id x n nv rv post (fun _ => none) V.drew := by
  have hb : Below V.heap.size V V.drew := (Below.refl _ _).drew
  refine ⟨⟨(Below.refl _ _).drew, fun b v n xs hv => owns_below hv hb, fun b v n xs hv => owns_below hv hb⟩, hB, fun _ => owns_below h1 hb, fun _ v hv => ?_, fun v hv => ?_, fun _ => owns_below h2 hb, fun _ v hv => ?_, fun v hv => ?_, fun v hv => ?_, fun v hv => ?_, fun v hv => ?_, fun v hv => ?_, fun v hv => ?_, fun v hv => ?_⟩ <;> cases hv
/-- One operation later that makes at most new memory. -/
theorem AgT.step (hT : AgT B V N L id x n nv rv post e w) (hp : ∀ v w w', post v w → Below w.heap.size w w' → post v w') {j : Nat} (h3 : 3 ≠ j) (h7 : 7 ≠ j) (h8 : 8 ≠ j) (h9 : 9 ≠ j) {v : Value} (hw : Below w.heap.size w w')
    (q2 : j = 2 → ∃ g, v = .slice (some ⟨g, 0, none⟩) 1 1 ∧ Whole w' g 9 #[.string id]) (q6 : j = 6 → ∃ g, v = .slice (some ⟨g, 0, none⟩) 1 1 ∧ Whole w' g 54 x.cells.toArray)
    (q0 : j = 0 → v = nv) (q1 : j = 1 → v = .string id) (q4 : j = 4 → v = rv) (q5 : j = 5 → v = .agg x.cells.toArray) : AgT B V N L id x n nv rv post (entUpd e j v) w' := by
  have pick : ∀ (k : Nat) (u : Value), entUpd e j v k = some u → (k = j ∧ u = v) ∨ e k = some u := fun k u hu => by
    by_cases hk : k = j
    · subst hk
      rw [entUpd_same] at hu
      exact Or.inl ⟨rfl, (Option.some.inj hu).symm⟩
    · rw [entUpd_other e v hk] at hu
      exact Or.inr hu
  refine ⟨hT.keep.below hT.size hw, Nat.le_trans hT.size hw.size, fun h => ?_, fun h u hu => ?_, fun u hu => ?_, fun h => ?_, fun h u hu => ?_, fun u hu => ?_, fun u hu => ?_, fun u hu => ?_, fun u hu => ?_, fun u hu => ?_, fun u hu => ?_, fun u hu => ?_⟩
  · rw [entUpd_other e v h3] at h
    exact owns_below (hT.names h) hw
  · rw [entUpd_other e v h3] at h
    rcases pick 2 u hu with ⟨hj, rfl⟩ | hu
    · exact q2 hj.symm
    · obtain ⟨g, a1, a2⟩ := hT.name h u hu
      exact ⟨g, a1, whole_below a2 hw⟩
  · rw [entUpd_other e v h3] at hu
    exact owns_below (hT.names' u hu) hw
  · rw [entUpd_other e v h7] at h
    exact owns_below (hT.recs h) hw
  · rw [entUpd_other e v h7] at h
    rcases pick 6 u hu with ⟨hj, rfl⟩ | hu
    · exact q6 hj.symm
    · obtain ⟨g, a1, a2⟩ := hT.one h u hu
      exact ⟨g, a1, whole_below a2 hw⟩
  · rw [entUpd_other e v h7] at hu
    exact owns_below (hT.recs' u hu) hw
  · rw [entUpd_other e v h8] at hu
    obtain ⟨a1, a2, a3⟩ := hT.all u hu
    exact ⟨hp _ _ _ a1 hw, by rw [entUpd_other e v h3]; exact a2, by rw [entUpd_other e v h7]; exact a3⟩
  · rw [entUpd_other e v h9] at hu
    rw [entUpd_other e v h8]
    exact hT.last u hu
  · rcases pick 0 u hu with ⟨hj, rfl⟩ | hu
    · exact q0 hj.symm
    · exact hT.p0 u hu
  · rcases pick 1 u hu with ⟨hj, rfl⟩ | hu
    · exact q1 hj.symm
    · exact hT.p1 u hu
  · rcases pick 4 u hu with ⟨hj, rfl⟩ | hu
    · exact q4 hj.symm
    · exact hT.p4 u hu
  · rcases pick 5 u hu with ⟨hj, rfl⟩ | hu
    · exact q5 hj.symm
    · exact hT.p5 u hu
theorem AgT.grow3 (hT : AgT B V N L id x n nv rv post e w) (h3 : e 3 = none) {v : Value} (hg : w.grownBy w' nv.ownBlock) (hv : w'.ownsRow B 9 1 v (n + 1) (strC (N ++ [id]))) : AgT B V N L id x n nv rv post (entUpd e 3 v) w' := by
  have hr := hT.names h3
  have h8 : e 8 = none := by
    cases hx : e 8 with
    | none => rfl
    | some u => exact absurd h3 (hT.all u hx).2.1
  refine ⟨hT.keep.grown hT.size (by decide) (by decide) hr hg, Nat.le_trans hT.size hg.size, fun h => ?_, fun h => ?_, fun u hu => ?_, fun h => ?_, fun h u hu => ?_, fun u hu => ?_, fun u hu => ?_, fun u hu => ?_, fun u hu => ?_, fun u hu => ?_, fun u hu => ?_, fun u hu => ?_⟩
  · rw [entUpd_same] at h; cases h
  · rw [entUpd_same] at h; cases h
  · rw [entUpd_same] at hu
    obtain rfl := Option.some.inj hu
    exact hv
  · rw [entUpd_other e v (by decide)] at h
    exact Apart.kept (owns_apart hr (hT.recs h) (by decide)) (hT.recs h) hg
  · rw [entUpd_other e v (by decide)] at h hu
    obtain ⟨g, a1, a2⟩ := hT.one h u hu
    exact ⟨g, a1, whole_grown a2 hg (owns_whole hr a2 (by decide))⟩
  · rw [entUpd_other e v (by decide)] at hu
    exact Apart.kept (owns_apart hr (hT.recs' u hu) (by decide)) (hT.recs' u hu) hg
  · rw [entUpd_other e v (by decide), h8] at hu; cases hu
  · rw [entUpd_other e v (by decide)] at hu ⊢; exact hT.last u hu
  · rw [entUpd_other e v (by decide)] at hu; exact hT.p0 u hu
  · rw [entUpd_other e v (by decide)] at hu; exact hT.p1 u hu
  · rw [entUpd_other e v (by decide)] at hu; exact hT.p4 u hu
  · rw [entUpd_other e v (by decide)] at hu; exact hT.p5 u hu
theorem AgT.grow7 (hT : AgT B V N L id x n nv rv post e w) (h7 : e 7 = none) {v : Value} (hg : w.grownBy w' rv.ownBlock) (hv : w'.ownsRow B 54 36 v (n + 1) (recsC (L ++ [x]))) : AgT B V N L id x n nv rv post (entUpd e 7 v) w' := by
  have hr := hT.recs h7
  have h8 : e 8 = none := by
    cases hx : e 8 with
    | none => rfl
    | some u => exact absurd h7 (hT.all u hx).2.2
  refine ⟨hT.keep.grown hT.size (by decide) (by decide) hr hg, Nat.le_trans hT.size hg.size, fun h => ?_, fun h u hu => ?_, fun u hu => ?_, fun h => ?_, fun h => ?_, fun u hu => ?_, fun u hu => ?_, fun u hu => ?_, fun u hu => ?_, fun u hu => ?_, fun u hu => ?_, fun u hu => ?_⟩
  · rw [entUpd_other e v (by decide)] at h
    exact Apart.kept (owns_apart hr (hT.names h) (by decide)) (hT.names h) hg
  · rw [entUpd_other e v (by decide)] at h hu
    obtain ⟨g, a1, a2⟩ := hT.name h u hu
    exact ⟨g, a1, whole_grown a2 hg (owns_whole hr a2 (by decide))⟩
  · rw [entUpd_other e v (by decide)] at hu
    exact Apart.kept (owns_apart hr (hT.names' u hu) (by decide)) (hT.names' u hu) hg
  · rw [entUpd_same] at h; cases h
  · rw [entUpd_same] at h; cases h
  · rw [entUpd_same] at hu
    obtain rfl := Option.some.inj hu
    exact hv
  · rw [entUpd_other e v (by decide), h8] at hu; cases hu
  · rw [entUpd_other e v (by decide)] at hu ⊢; exact hT.last u hu
  · rw [entUpd_other e v (by decide)] at hu; exact hT.p0 u hu
  · rw [entUpd_other e v (by decide)] at hu; exact hT.p1 u hu
  · rw [entUpd_other e v (by decide)] at hu; exact hT.p4 u hu
  · rw [entUpd_other e v (by decide)] at hu; exact hT.p5 u hu
theorem AgT.call (hT : AgT B V N L id x n nv rv post e w) (h3 : e 3 ≠ none) (h7 : e 7 ≠ none) (h8 : e 8 = none) {v : Value} (hw : Below w.heap.size w w') (hv : post v w') : AgT B V N L id x n nv rv post (entUpd e 8 v) w' := by
  refine ⟨hT.keep.below hT.size hw, Nat.le_trans hT.size hw.size, fun h => ?_, fun h => ?_, fun u hu => ?_, fun h => ?_, fun h => ?_, fun u hu => ?_, fun u hu => ?_, fun u hu => ?_, fun u hu => ?_, fun u hu => ?_, fun u hu => ?_, fun u hu => ?_⟩
  · rw [entUpd_other e v (by decide)] at h; exact absurd h h3
  · rw [entUpd_other e v (by decide)] at h; exact absurd h h3
  · rw [entUpd_other e v (by decide)] at hu; exact owns_below (hT.names' u hu) hw
  · rw [entUpd_other e v (by decide)] at h; exact absurd h h7
  · rw [entUpd_other e v (by decide)] at h; exact absurd h h7
  · rw [entUpd_other e v (by decide)] at hu; exact owns_below (hT.recs' u hu) hw
  · rw [entUpd_same] at hu
    obtain rfl := Option.some.inj hu
    exact ⟨hv, by rw [entUpd_other e v (by decide)]; exact h3, by rw [entUpd_other e v (by decide)]; exact h7⟩
  · rw [entUpd_other e v (by decide)] at hu
    have := hT.last u hu
    rw [h8] at this
    cases this
  · rw [entUpd_other e v (by decide)] at hu; exact hT.p0 u hu
  · rw [entUpd_other e v (by decide)] at hu; exact hT.p1 u hu
  · rw [entUpd_other e v (by decide)] at hu; exact hT.p4 u hu
  · rw [entUpd_other e v (by decide)] at hu; exact hT.p5 u hu
theorem AgT.fin (hT : AgT B V N L id x n nv rv post e w) {v : Value} (h8 : e 8 = some v) : AgT B V N L id x n nv rv post (entUpd e 9 v) w := by
  have far : ∀ k, k ≠ 9 → entUpd e 9 v k = e k := fun k hk => entUpd_other e v hk
  refine ⟨hT.keep, hT.size, fun h => ?_, fun h u hu => ?_, fun u hu => ?_, fun h => ?_, fun h u hu => ?_, fun u hu => ?_, fun u hu => ?_, fun u hu => ?_, fun u hu => ?_, fun u hu => ?_, fun u hu => ?_, fun u hu => ?_⟩
  · rw [far 3 (by decide)] at h; exact hT.names h
  · rw [far 3 (by decide)] at h; rw [far 2 (by decide)] at hu; exact hT.name h u hu
  · rw [far 3 (by decide)] at hu; exact hT.names' u hu
  · rw [far 7 (by decide)] at h; exact hT.recs h
  · rw [far 7 (by decide)] at h; rw [far 6 (by decide)] at hu; exact hT.one h u hu
  · rw [far 7 (by decide)] at hu; exact hT.recs' u hu
  · rw [far 8 (by decide)] at hu; rw [far 3 (by decide), far 7 (by decide)]; exact hT.all u hu
  · rw [entUpd_same] at hu
    obtain rfl := Option.some.inj hu
    rw [far 8 (by decide)]
    exact h8
  · rw [far 0 (by decide)] at hu; exact hT.p0 u hu
  · rw [far 1 (by decide)] at hu; exact hT.p1 u hu
  · rw [far 4 (by decide)] at hu; exact hT.p4 u hu
  · rw [far 5 (by decide)] at hu; exact hT.p5 u hu
end

section
variable (d : Option Tmp) (t : TypeId) (pos : String) (af : Array Edge) (g : Option (Nat × Bool)) (A : Act) (w : World)
theorem run_one_str (x : Tmp) (z : ByteArray) (hx : A.eval (.tmp x) = .string z) :
    (execOp A.eval ⟨d, .buildSlice 22 1 #[(0, .tmp x)], t, pos, af, g⟩).run Try.prog w = .ok (.value (.slice (some ⟨w.heap.size, 0, none⟩) 1 1)) (w.alloc (.cells #[.string z] 9)) := by
  unfold execOp
  simp only [hx, List.map_toArray, List.map_cons, List.map_nil]
  go_simp
theorem run_append_str (w' : World) (x y : Tmp) (v1 v2 v : Value) (hx : A.eval (.tmp x) = v1) (hy : A.eval (.tmp y) = v2)
    (hr : (Builtin.append_ #[22, 22] t #[v1, v2]).run Try.prog w = .ok v w') :
    (execOp A.eval ⟨d, .call { callee := .builtin .append, args := #[.tmp x, .tmp y], argTypes := #[22, 22] }, t, pos, af, g⟩).run Try.prog w = .ok (.value v) w' := by
  unfold execOp
  simp only [resolve, invoke, builtin, Sem.run_bind, Sem.run_pure, Result.andThen_ok, List.map_toArray, List.map_cons, List.map_nil, hx, hy, hr]
theorem wp_of_call2 {K : Act → World → Prop} {Q : Exit → Act → World → Prop} (f : FuncId) (ats : Array TypeId) (x y : Tmp) (v1 v2 : Value) (hx : A.eval (.tmp x) = v1) (hy : A.eval (.tmp y) = v2)
    (hcf : (callFunc f #[v1, v2]).run Try.prog w = .ok (.enter f #[v1, v2]) w) (h : Calls Try.prog f #[v1, v2] w fun e w' => ∃ v, e = .returned v ∧ K (A.put d v) w') : Oper.wp Try.prog ⟨d, .call { callee := .value (.func f), args := #[.tmp x, .tmp y], argTypes := ats }, t, pos, af, g⟩ A w K Q := by
  have e : (execOp A.eval ⟨d, .call { callee := .value (.func f), args := #[.tmp x, .tmp y], argTypes := ats }, t, pos, af, g⟩).run Try.prog w = .ok (.enter f #[v1, v2]) w := by
    have e0 : execOp A.eval ⟨d, .call { callee := .value (.func f), args := #[.tmp x, .tmp y], argTypes := ats }, t, pos, af, g⟩ = callFunc f (#[] ++ (#[Operand.tmp x, Operand.tmp y].map A.eval) ++ #[]) := rfl
    have e1 : (#[] ++ (#[Operand.tmp x, Operand.tmp y].map A.eval) ++ #[] : Array Value) = #[v1, v2] := by rw [← hx, ← hy]; simp
    rw [e0, e1]
    exact hcf
  unfold Oper.wp
  rw [e]
  refine h.mono ?_
  rintro e w' ⟨v, rfl, hk⟩
  exact hk
end
theorem ag_names {w : World} {B : Nat} (ty : TypeId) {n : Nat} (h1 : n ≤ 100000) (hb : B ≤ w.heap.size) {v : Value} {N : List ByteArray} {id : ByteArray} (h : w.ownsRow B 9 1 v n (strC N)) {g : Nat} (hg : Whole w g 9 #[.string id]) :
    ∃ v' w', (Builtin.append_ #[22, 22] ty #[v, .slice (some ⟨g, 0, none⟩) 1 1]).run Try.prog w = .ok v' w' ∧ w'.ownsRow B 9 1 v' (n + 1) (strC (N ++ [id])) ∧ w.grownBy w' v.ownBlock := by
  obtain ⟨i1, hi1, hy0, hy1, hy2⟩ := info_parts info_str
  obtain ⟨v', w', hr, r1, r2, _⟩ := run_append_own (P := Try.prog) w B 22 ty 9 i1 _ 1 16 Try.underlying22 hi1 hy0 hy1 hy2 rfl (by decide) v n (strC N) h ⟨g, 0, none⟩ 1 1 [.string id] rfl (fun j u hu => by
    have e : (⟨g, 0, none⟩ : Addr).add j = ⟨g, j, none⟩ := by unfold Addr.add; split <;> simp_all
    rw [e, hg.cell]
    simpa using hu) (by simp [Value.oneCell']) (by unfold maxLen; omega) (by omega) hb
  exact ⟨v', w', hr, by rw [strC_snoc]; exact r1, r2⟩
set_option maxRecDepth 100000 in
theorem ag_recs {w : World} {B : Nat} (ty : TypeId) {n : Nat} (h1 : n ≤ 100000) (hb : B ≤ w.heap.size) {v : Value} {L : List Rc} {x : Rc} (hx : RcOk x) (h : w.ownsRow B 54 36 v n (recsC L)) {g : Nat} (hg : Whole w g 54 x.cells.toArray) :
    ∃ v' w', (Builtin.append_ #[23, 23] ty #[v, .slice (some ⟨g, 0, none⟩) 1 1]).run Try.prog w = .ok v' w' ∧ w'.ownsRow B 54 36 v' (n + 1) (recsC (L ++ [x])) ∧ w.grownBy w' v.ownBlock := by
  obtain ⟨i1, hi1, hy0, hy1, hy2⟩ := info_parts info_rec
  obtain ⟨v', w', hr, r1, r2, _⟩ := run_append_own (P := Try.prog) w B 23 ty 54 i1 _ 36 480 Try.underlying23 hi1 hy0 hy1 hy2 rfl (by decide) v n (recsC L) h ⟨g, 0, none⟩ 1 1 x.cells (by rw [hx.len]) (fun j u hu => by
    have e : (⟨g, 0, none⟩ : Addr).add j = ⟨g, j, none⟩ := by unfold Addr.add; split <;> simp_all
    rw [e, hg.cell]
    simpa using hu) hx.one (by unfold maxLen; omega) (by omega) hb
  exact ⟨v', w', hr, by rw [recsC_snoc]; exact r1, r2⟩

end Go.Proofs.Ytfokbcakbbdlaaa
