/- append(append([]api.Report{}, l...), x), in whatever order its operations come. -/
import Derived.Test.YtolnpimnoajcaaaLnkHead
import Derived.Laws.AppendOwn
namespace Go.Proofs.Ytolnpimnoajcaaa
open Go.RowKit
open Evt Lnk

/-- The elements as they are in one world. -/
def ElRpAt (W : World) : World → List Value → Rp → Prop := fun _ cs r => ElRp W cs r
theorem ElRp.len {W : World} {cs : List Value} {r : Rp} (h : ElRp W cs r) : cs.length = 2 := by
  obtain ⟨oo, oc, rfl, _⟩ := h; rfl
theorem IsL.freeze {W w : World} {ao : Option Addr} {l : List Rp} (h : IsL 2 ElRp W ao l) (hb : Below W.heap.size W w) : IsL 2 (ElRpAt W) w ao l := by
  rcases h with h | ⟨bk, off, h1, h2, h3⟩
  · exact Or.inl h
  · refine Or.inr ⟨bk, off, h1, Nat.lt_of_lt_of_le h2 hb.size, fun k hk => ?_⟩
    obtain ⟨cs, h4, h5⟩ := h3 k hk
    exact ⟨cs, rangeB h4 h2 hb, h5⟩
theorem OwnRp.below {W w w' : World} {v : Value} {rs : List Rp} (h : OwnRp W w v rs) (hb : Below w.heap.size w w') : OwnRp W w' v rs := by
  obtain ⟨css, h1, h2, h3, h4⟩ := h.ex
  exact ⟨css, h1, h2, h3, owns_belowM h4 hb⟩
theorem run_copy_rp {W w : World} (ty : TypeId) (hW : Below W.heap.size W w) {g : Nat} (hg : Whole w g 40 #[]) (hgW : W.heap.size ≤ g) {ao : Option Addr} {l : List Rp} {n c : Nat} (hn : n = l.length) (h1 : n * 32 ≤ 140737488351232) (hl : IsL 2 ElRp W ao l) :
    ∃ v w', (Builtin.append_ #[22, 22] ty #[.slice (some ⟨g, 0, none⟩) 0 0, .slice ao n c]).run Try.prog w = .ok v w' ∧ OwnRp W w' v l ∧ Below w.heap.size w w' := by
  obtain ⟨i1, hi1, hy0, hy1, hy2⟩ := infoP info_rpL
  obtain ⟨v, w', css, hr, r1, r2, r3⟩ := run_copy_list (El := ElRpAt W) ty Try.underlying22 hi1 hy0 hy1 hy2 rfl (by decide) (fun _ _ _ _ h _ => h) (fun _ _ _ h => ElRp.len h) g hg W.heap.size hgW l n hn (by unfold maxLen; omega) (by omega) ao c (hl.freeze hW)
  exact ⟨v, w', hr, ⟨css, r2.len, r2.size, fun k h h' => r2.el k h h', by rw [← hn]; exact r1⟩, r3⟩
theorem run_more_rp {W w : World} (ty : TypeId) (hW : Below W.heap.size W w) {v : Value} {l : List Rp} (h : OwnRp W w v l) (h1 : l.length * 32 ≤ 140737488351232) {g : Nat} {oo : Option Addr} {on oc : Nat} {d : Bool} {x : Rp} (hg : Whole w g 40 #[.slice oo on oc, .bool d]) (hel : ElRp W [.slice oo on oc, .bool d] x) :
    ∃ v' w', (Builtin.append_ #[22, 22] ty #[v, .slice (some ⟨g, 0, none⟩) 1 1]).run Try.prog w = .ok v' w' ∧ OwnRp W w' v' (l ++ [x]) ∧ Below W.heap.size W w' := by
  obtain ⟨i1, hi1, hy0, hy1, hy2⟩ := infoP info_rpL
  obtain ⟨css, q1, q2, q3, q4⟩ := h.ex
  obtain ⟨v', w', hr, r1, r2, _⟩ := run_append_own (P := Try.prog) w W.heap.size 22 ty 40 i1 _ 2 32 Try.underlying22 hi1 hy0 hy1 hy2 rfl (by decide) v l.length css.flatten q4 ⟨g, 0, none⟩ 1 1 [.slice oo on oc, .bool d] rfl (fun j u hu => by
    rw [ptr_add0, hg.cell]
    simpa using hu) (by simp [Value.oneCell']) (by unfold maxLen; omega) (by omega) hW.size
  refine ⟨v', w', hr, ⟨css ++ [[.slice oo on oc, .bool d]], by rw [List.length_append, List.length_append, q1]; rfl, fun cs hcs => ?_, fun j hj hj' => ?_, ?_⟩, hW.grown r2 hW.size (fun y e => (q4.lt y e).1)⟩
  · rw [List.mem_append, List.mem_singleton] at hcs
    rcases hcs with hcs | hcs
    · exact q2 cs hcs
    · rw [hcs]; rfl
  · by_cases hjl : j < l.length
    · rw [List.getElem_append_left hjl, List.getElem_append_left (by rw [q1]; exact hjl)]
      exact q3 j hjl _
    · have : j = l.length := by rw [List.length_append, List.length_singleton] at hj; omega
      subst this
      rw [List.getElem_append_right (Nat.le_refl _), List.getElem_append_right (by rw [q1]; exact Nat.le_refl _)]
      simp only [q1, Nat.sub_self, List.getElem_cons_zero]
      exact hel
  · rw [List.length_append, List.flatten_append]
    simpa using r1

def moK : List FactKey := [(some 5, some 0), (some 5, some 2), (some 5, some 4), (none, some 5), (none, none), (none, some 6)]
def moP (W : World) (l : List Rp) (x : Rp) (oo : Option Addr) (on oc : Nat) (d : Bool) : Nat → Value → World → Prop
  | 0, v, w => ∃ g, v = .slice (some ⟨g, 0, none⟩) 0 0 ∧ W.heap.size ≤ g ∧ Whole w g 40 #[]
  | 1, v, w => OwnRp W w v l
  | 2, v, w => ∃ g, v = .slice (some ⟨g, 0, none⟩) 1 1 ∧ Whole w g 40 #[.slice oo on oc, .bool d]
  | 3, v, w => OwnRp W w v (l ++ [x])
  | 4, _, w => Below W.heap.size W w
  | 5, v, w => OwnRp W w v (l ++ [x])
  | _, _, _ => True
theorem moP_below {W : World} {l : List Rp} {x : Rp} {oo : Option Addr} {on oc : Nat} {d : Bool} : ∀ k u w w', moP W l x oo on oc d k u w → Below w.heap.size w w' → moP W l x oo on oc d k u w'
  | 0, _, _, _, ⟨g, h1, h2, h3⟩, hb => ⟨g, h1, h2, whole_belowM h3 hb⟩
  | 1, _, _, _, h, hb => h.below hb
  | 2, _, _, _, ⟨g, h1, h2⟩, hb => ⟨g, h1, whole_belowM h2 hb⟩
  | 3, _, _, _, h, hb => h.below hb
  | 4, _, _, _, h, hb => below_step h hb
  | 5, _, _, _, h, hb => h.below hb
  | _ + 6, _, _, _, _, _ => trivial
def moV (ao : Option Addr) (n cap : Nat) (oo : Option Addr) (on oc : Nat) (d : Bool) : Nat → Value → Prop
  | 1, v => v = .slice ao n cap
  | 3, v => v = .agg #[.slice oo on oc, .bool d]
  | _, _ => True
section
variable (d : Option Tmp) (t : TypeId) (pos : String) (af : Array Edge) (g : Option (Nat × Bool)) (A : Act) (w : World)
theorem run_emptyRp : (execOp A.eval ⟨d, .buildSlice 22 0 #[], t, pos, af, g⟩).run Try.prog w = .ok (.value (.slice (some ⟨w.heap.size, 0, none⟩) 0 0)) (w.alloc (.cells #[] 40)) := by kernel_rfl
theorem run_oneRp (x : Tmp) (a0 a1 : Value) (hx : A.eval (.tmp x) = .agg #[a0, a1]) :
    (execOp A.eval ⟨d, .buildSlice 22 1 #[(0, .tmp x)], t, pos, af, g⟩).run Try.prog w = .ok (.value (.slice (some ⟨w.heap.size, 0, none⟩) 1 1)) (w.alloc (.cells #[a0, a1] 40)) := by
  unfold execOp
  simp only [hx, List.map_toArray, List.map_cons, List.map_nil]
  go_simp
theorem run_appendRp (w' : World) (x y : Tmp) (v1 v2 v : Value) (hx : A.eval (.tmp x) = v1) (hy : A.eval (.tmp y) = v2)
    (hr : (Builtin.append_ #[22, 22] t #[v1, v2]).run Try.prog w = .ok v w') :
    (execOp A.eval ⟨d, .call { callee := .builtin .append, args := #[.tmp x, .tmp y], argTypes := #[22, 22] }, t, pos, af, g⟩).run Try.prog w = .ok (.value v) w' := by
  unfold execOp
  simp only [resolve, invoke, builtin, Sem.run_bind, Sem.run_pure, Result.andThen_ok, List.map_toArray, List.map_cons, List.map_nil, hx, hy, hr]
end
end Go.Proofs.Ytolnpimnoajcaaa
