/- ReportFewer: values; what its drawn region leaves. -/
import Derived.Test.YtknphmkblcbabaaGreatDoorRepLJoins
import Derived.Test.YtknphmkblcbabaaGreatDoorRepLPicks
import Derived.Test.YtknphmkblcbabaaGreatDoorRepLNames
import Derived.Test.YtknphmkblcbabaaGreatDoorRunW
namespace Go.Proofs.YtknphmkblcbabaaGreatDoor
open Go.RowKit Go.Sort
open Evt

namespace Evt
theorem okUp_iff {l : List Ev} : okUp l l.length = true ↔ (∀ e ∈ l, valid e = true) ∧ l.Nodup := by
  constructor
  · intro h
    refine ⟨okUp_valid h, ?_⟩
    rw [List.Nodup, List.pairwise_iff_getElem]
    intro i j hi hj hij e
    unfold okUp at h
    have := List.all_eq_true.1 h j (List.mem_range.2 hj)
    rw [List.getElem?_eq_getElem hj] at this
    dsimp only at this
    unfold okAt at this
    rw [Bool.and_eq_true, Bool.not_eq_true', List.any_eq_false] at this
    exact this.2 l[i] (by rw [List.mem_take_iff_getElem]; exact ⟨i, by omega, rfl⟩) (evEq_iff.2 e.symm)
  · rintro ⟨h1, h2⟩
    unfold okUp
    rw [List.all_eq_true]
    intro j hj
    have hj := List.mem_range.1 hj
    rw [List.getElem?_eq_getElem hj]
    dsimp only
    unfold okAt
    rw [Bool.and_eq_true, Bool.not_eq_true', List.any_eq_false]
    refine ⟨h1 _ (List.getElem_mem hj), fun y hy hq => ?_⟩
    rw [List.mem_take_iff_getElem] at hy
    obtain ⟨i, hi, rfl⟩ := hy
    have hij : i < j := by omega
    exact List.pairwise_iff_getElem.1 h2 i j (by omega) hj hij (evEq_iff.1 hq).symm
theorem validR_iff {r : Rp} : validR r = true ↔ 1 ≤ r.opts.length ∧ r.opts.length ≤ 4 ∧ (∀ e ∈ r.opts, valid e = true) ∧ r.opts.Nodup := by
  unfold validR
  rw [Bool.and_eq_true, Bool.and_eq_true, okUp_iff]
  simp only [Bool.not_eq_true', decide_eq_false_iff_not]
  constructor
  · rintro ⟨h1, h2, h3⟩; exact ⟨by omega, by omega, h3⟩
  · rintro ⟨h1, h2, h3⟩; exact ⟨by omega, by omega, h3⟩
def lessR (r : Rp) (k : Nat) : Rp := ⟨r.opts.take k ++ r.opts.drop (k + 1), r.doubt⟩
theorem less_erase (l : List Ev) (k : Nat) : l.take k ++ l.drop (k + 1) = l.eraseIdx k := (List.eraseIdx_eq_take_drop_succ l k).symm
theorem less_len {r : Rp} {k : Nat} (hk : k < r.opts.length) : (lessR r k).opts.length = r.opts.length - 1 := by
  unfold lessR
  rw [less_erase, List.length_eraseIdx, if_pos hk]
theorem less_valid {r : Rp} {k : Nat} (h : validR r = true) (h2 : 2 ≤ r.opts.length) (hk : k < r.opts.length) : validR (lessR r k) = true := by
  obtain ⟨a, b, c, d⟩ := validR_iff.1 h
  have hs : (lessR r k).opts.Sublist r.opts := by unfold lessR; rw [less_erase]; exact List.eraseIdx_sublist _ _
  exact validR_iff.2 ⟨by rw [less_len hk]; omega, by rw [less_len hk]; omega, fun e he => c e (hs.subset he), d.sublist hs⟩
theorem less_choices {r : Rp} {k : Nat} (h : validR r = true) (h2 : 2 ≤ r.opts.length) (hk : k < r.opts.length) : choices (lessR r k) = choices r - 1 := by
  rw [choices_yes h, choices_yes (less_valid h h2 hk), less_len hk]
  show ((r.opts.length - 1 : Nat) : Int) + (if r.doubt then 1 else 0) = _
  omega
theorem less_names {r : Rp} {k : Nat} (h : validR r = true) (s : List UInt8) (hs : s ∈ namesR (lessR r k)) : s ∈ namesR r := by
  obtain ⟨h1, e, he, hse⟩ := mem_namesR.1 hs
  have hsub : (lessR r k).opts.Sublist r.opts := by unfold lessR; rw [less_erase]; exact List.eraseIdx_sublist _ _
  exact mem_namesR.2 ⟨h, e, hsub.subset he, hse⟩
theorem pickB_one (r : Rp) (c : Int) : pickB [r] [c] = pkOk r c := by
  unfold pickB pkAll
  simp
theorem pickF_one {r : Rp} {c : Int} (h : pkOk r c = true) : pickF [r] [c] = pk r c := by
  unfold pickF pkd
  rw [pickB_one, h, if_pos rfl]
  simp
theorem pickE_one {r : Rp} {c : Int} (h : pkOk r c = true) : pickE [r] [c] = 0 := by rw [pickE_eq, pickB_one, h]; rfl
theorem pk_less {r : Rp} {k i j : Nat} (hij : (i < k ∧ j = i) ∨ (k < i ∧ j = i - 1)) : pk (lessR r k) (j : Int) = pk r (i : Int) := by
  unfold pk lessR
  rw [Int.toNat_natCast, Int.toNat_natCast, less_erase, List.getElem?_eraseIdx]
  rcases hij with ⟨h, rfl⟩ | ⟨h, rfl⟩
  · rw [if_pos h]
  · rw [if_neg (by omega)]
    have : i - 1 + 1 = i := by omega
    rw [this]
end Evt

section
variable (d : Option Tmp) (t : TypeId) (pos : String) (af : Array Edge) (g : Option (Nat × Bool)) (A : Act) (w : World)
theorem run_emptyEv : (execOp A.eval ⟨d, .buildSlice 26 0 #[], t, pos, af, g⟩).run Tryz.prog w = .ok (.value (.slice (some ⟨w.heap.size, 0, none⟩) 0 0)) (w.alloc (.cells #[] 51)) := by
  unfold execOp
  simp only [List.map_toArray, List.map_nil]
  go_simp
theorem run_allocRp : (execOp A.eval ⟨d, .alloc 31, t, pos, af, g⟩).run Tryz.prog w = .ok (.value (.pointer (some ⟨w.heap.size, 0, none⟩))) (w.alloc (.cells #[.slice none 0 0, .bool false] 31)) := by
  simp [go_sem]
theorem run_buildRp (x y : Tmp) (b : Bool) (po : Option Addr) (n c : Nat) (hx : A.eval (.tmp x) = .bool b) (hy : A.eval (.tmp y) = .slice po n c) : (execOp A.eval ⟨d, .build 31 #[(1, .tmp x), (0, .tmp y)], t, pos, af, g⟩).run Tryz.prog w = .ok (.value (.agg #[.slice po n c, .bool b])) w := by
  unfold execOp
  simp only [hx, hy, List.map_toArray, List.map_cons, List.map_nil]
  go_simp
end
def fwK : List EKey := [([], []), ([7], [2]), ([13], [7]), ([], [13]), ([16], [15]), ([], [13, 15, 16]), ([], [13, 14])]
def fwP (W : World) (opts : List Ev) (k : Nat) (d : Bool) : Nat → (Nat → Value) → World → Prop
  | 0, _, w => Below W.heap.size W w
  | 1, x, w => ∃ g0, x 2 = .slice (some ⟨g0, 0, none⟩) 0 0 ∧ W.heap.size ≤ g0 ∧ Whole w g0 51 #[]
  | 2, x, w => OwnL 51 14 ElEv W.heap.size W w (x 7) (opts.take k)
  | 3, x, w => OwnL 51 14 ElEv W.heap.size W w (x 13) (opts.take k ++ opts.drop (k + 1))
  | 4, x, w => ∃ g, x 15 = .pointer (some ⟨g, 0, none⟩) ∧ W.heap.size ≤ g ∧ Whole w g 31 #[.slice none 0 0, .bool false]
  | 5, x, w => ∃ g, x 15 = .pointer (some ⟨g, 0, none⟩) ∧ W.heap.size ≤ g ∧ Whole w g 31 #[x 13, .bool d]
  | 6, x, _ => x 14 = .agg #[x 13, .bool d]
  | _, _, _ => True
section
variable {W w w' : World} {opts : List Ev} {k n c : Nat} {d : Bool} {e : Ent} {v : Value} {ops : Array Oper} {po : Option Addr} {z : Array Value}
theorem fwP_below : ∀ j x w w', fwP W opts k d j x w → Below w.heap.size w w' → fwP W opts k d j x w'
  | 0, _, _, _, h, hb => below_step h hb
  | 1, _, _, _, h, hb => by obtain ⟨g, h1, h2, h3⟩ := h; exact ⟨g, h1, h2, whole_belowM h3 hb⟩
  | 2, _, _, _, h, hb => OwnL.below h hb
  | 3, _, _, _, h, hb => OwnL.below h hb
  | 4, _, _, _, h, hb => by obtain ⟨g, h1, h2, h3⟩ := h; exact ⟨g, h1, h2, whole_belowM h3 hb⟩
  | 5, _, _, _, h, hb => by obtain ⟨g, h1, h2, h3⟩ := h; exact ⟨g, h1, h2, whole_belowM h3 hb⟩
  | 6, _, _, _, h, _ => h
  | _ + 7, _, _, _, _, _ => trivial
theorem fwP_cg (j : Nat) (kl nd : List Nat) (hk : fwK[j]? = some (kl, nd)) (x y : Nat → Value) (w : World) (h : ∀ i ∈ nd, x i = y i) (h1 : fwP W opts k d j x w) : fwP W opts k d j y w := by
  have hj : j < 7 := (List.getElem?_eq_some_iff.1 hk).1
  have hj : j = 0 ∨ j = 1 ∨ j = 2 ∨ j = 3 ∨ j = 4 ∨ j = 5 ∨ j = 6 := by omega
  rcases hj with rfl | rfl | rfl | rfl | rfl | rfl | rfl <;> cases hk
  · exact h1
  · have e2 := h 2 (by simp); simpa only [fwP, e2] using h1
  · have e7 := h 7 (by simp); simpa only [fwP, e7] using h1
  · have e13 := h 13 (by simp); simpa only [fwP, e13] using h1
  · have e15 := h 15 (by simp); simpa only [fwP, e15] using h1
  · have e13 := h 13 (by simp); have e15 := h 15 (by simp); simpa only [fwP, e13, e15] using h1
  · have e13 := h 13 (by simp); have e14 := h 14 (by simp); simpa only [fwP, e13, e14] using h1
theorem fwP_zero (j : Nat) (kl : List Nat) (hk : fwK[j]? = some (kl, [])) : fwP W opts k d j (fun _ => undef) W.drew := by
  have hj : j < 7 := (List.getElem?_eq_some_iff.1 hk).1
  have hj : j = 0 ∨ j = 1 ∨ j = 2 ∨ j = 3 ∨ j = 4 ∨ j = 5 ∨ j = 6 := by omega
  rcases hj with rfl | rfl | rfl | rfl | rfl | rfl | rfl <;> cases hk
  exact (Below.refl _ _).drew
theorem upd_val {e : Ent} {i : Nat} {v : Value} : valOf (entUpd e i v) i = v := valOf_some (entUpd_same ..)
theorem fw_new2 (hB : Below W.heap.size W w) : ∀ (j : Nat) (kl nd : List Nat), fwK[j]? = some (kl, nd) → 2 ∈ nd → 2 ∉ kl → (∀ i ∈ kl, e i = none) → (∀ i ∈ nd, i ≠ 2 → e i ≠ none ∧ Want ops e i) → fwP W opts k d j (valOf (entUpd e 2 (.slice (some ⟨w.heap.size, 0, none⟩) 0 0))) (w.alloc (.cells #[] 51)) := by
  intro j kl nd hk hi _ _ _
  have hj := only_fact [1] (by decide) hk hi
  obtain rfl := List.mem_singleton.1 hj
  exact ⟨w.heap.size, upd_val, hB.size, Whole.new _ _ _⟩
theorem fw_new7 (ho : OwnL 51 14 ElEv W.heap.size W w' v (opts.take k)) : ∀ (j : Nat) (kl nd : List Nat), fwK[j]? = some (kl, nd) → 7 ∈ nd → 7 ∉ kl → (∀ i ∈ kl, e i = none) → (∀ i ∈ nd, i ≠ 7 → e i ≠ none ∧ Want ops e i) → fwP W opts k d j (valOf (entUpd e 7 v)) w' := by
  intro j kl nd hk hi _ _ _
  have hj := only_fact [2] (by decide) hk hi
  obtain rfl := List.mem_singleton.1 hj
  show OwnL _ _ _ _ _ _ (valOf (entUpd e 7 v) 7) _
  rw [upd_val]; exact ho
theorem fw_leaves13 (hB : Below W.heap.size W w) (h7 : e 7 ≠ none) (h14 : e 14 = none) (h16 : e 16 = none) {v1 : Value} (h1 : OwnL 51 14 ElEv W.heap.size W w v1 (opts.take k)) (ho : OwnL 51 14 ElEv W.heap.size W w' v (opts.take k ++ opts.drop (k + 1))) (hg : w.grownBy w' v1.ownBlock) : LeavesE ops fwK (fwP W opts k d) e 13 w v w' := by
  refine ⟨fun j kl nd hk hi _ _ hd => ?_, fun j kl nd hk hi hi2 hkl hnd hu => ?_⟩
  · have hj := only_fact [3, 5, 6] (by decide) hk hi
    simp only [List.mem_cons, List.not_mem_nil, or_false] at hj
    rcases hj with rfl | rfl | rfl <;> cases hk
    · show OwnL _ _ _ _ _ _ (valOf (entUpd e 13 v) 13) _
      rw [upd_val]; exact ho
    · exact absurd h16 (hd 16 (by simp) (by decide)).1
    · exact absurd h14 (hd 14 (by simp) (by decide)).1
  · have hj : j < 7 := (List.getElem?_eq_some_iff.1 hk).1
    have hj : j = 0 ∨ j = 1 ∨ j = 2 ∨ j = 3 ∨ j = 4 ∨ j = 5 ∨ j = 6 := by omega
    rcases hj with rfl | rfl | rfl | rfl | rfl | rfl | rfl <;> cases hk
    · have hu : Below W.heap.size W w := hu
      exact hu.trans (h1.grownLow hu.size hg)
    · exact absurd (hkl 7 (by simp)) h7
    · exact absurd (by simp) hi2
    · exact absurd (by simp) hi
    · obtain ⟨g, q1, q2, q3⟩ := hu
      obtain ⟨css, _, q5⟩ := h1.ex
      exact ⟨g, q1, q2, whole_grownM q3 hg (owns_wholeM q5 q3 (by decide))⟩
    · exact absurd (by simp) hi
    · exact absurd (by simp) hi
theorem fw_new14 {v13 : Value} (f13 : e 13 = some v13) (hv : v13 = .slice po n c) : ∀ (j : Nat) (kl nd : List Nat), fwK[j]? = some (kl, nd) → 14 ∈ nd → 14 ∉ kl → (∀ i ∈ kl, e i = none) → (∀ i ∈ nd, i ≠ 14 → e i ≠ none ∧ Want ops e i) → fwP W opts k d j (valOf (entUpd e 14 (.agg #[.slice po n c, .bool d]))) w := by
  intro j kl nd hk hi _ _ _
  have hj := only_fact [6] (by decide) hk hi
  obtain rfl := List.mem_singleton.1 hj
  show valOf (entUpd e 14 _) 14 = .agg #[valOf (entUpd e 14 _) 13, .bool d]
  rw [upd_val]
  unfold valOf
  rw [entUpd_other e _ (by decide), f13, hv]
  rfl
theorem fw_new15 (h16 : e 16 = none) (hB : Below W.heap.size W w) : ∀ (j : Nat) (kl nd : List Nat), fwK[j]? = some (kl, nd) → 15 ∈ nd → 15 ∉ kl → (∀ i ∈ kl, e i = none) → (∀ i ∈ nd, i ≠ 15 → e i ≠ none ∧ Want ops e i) → fwP W opts k d j (valOf (entUpd e 15 (.pointer (some ⟨w.heap.size, 0, none⟩)))) (w.alloc (.cells #[.slice none 0 0, .bool false] 31)) := by
  intro j kl nd hk hi _ _ hd
  have hj := only_fact [4, 5] (by decide) hk hi
  simp only [List.mem_cons, List.not_mem_nil, or_false] at hj
  rcases hj with rfl | rfl <;> cases hk
  · exact ⟨w.heap.size, upd_val, hB.size, Whole.new _ _ _⟩
  · exact absurd h16 (hd 16 (by simp) (by decide)).1
theorem fw_leaves16 (hB : Below W.heap.size W w) {g : Nat} {v13 v15 : Value} (f13 : e 13 = some v13) (f15 : e 15 = some v15) (h7 : e 7 ≠ none) (h2 : e 2 ≠ none) (hg0 : W.heap.size ≤ g) (h15 : v15 = .pointer (some ⟨g, 0, none⟩)) (h1 : OwnL 51 14 ElEv W.heap.size W w v13 (opts.take k ++ opts.drop (k + 1))) (hz : Whole w g 31 z) (hg : w.grownBy w' (some g)) (hw : Whole w' g 31 #[v13, .bool d]) : LeavesE ops fwK (fwP W opts k d) e 16 w v w' := by
  refine ⟨fun j kl nd hk hi _ _ hd => ?_, fun j kl nd hk hi hi2 hkl hnd hu => ?_⟩
  · have hj := only_fact [5] (by decide) hk hi
    obtain rfl := List.mem_singleton.1 hj
    show ∃ g, valOf (entUpd e 16 v) 15 = .pointer (some ⟨g, 0, none⟩) ∧ W.heap.size ≤ g ∧ Whole w' g 31 #[valOf (entUpd e 16 v) 13, .bool d]
    refine ⟨g, ?_, hg0, ?_⟩
    · unfold valOf; rw [entUpd_other e v (by decide), f15, h15]; rfl
    · unfold valOf; rw [entUpd_other e v (by decide), f13]; exact hw
  · have hj : j < 7 := (List.getElem?_eq_some_iff.1 hk).1
    have hj : j = 0 ∨ j = 1 ∨ j = 2 ∨ j = 3 ∨ j = 4 ∨ j = 5 ∨ j = 6 := by omega
    rcases hj with rfl | rfl | rfl | rfl | rfl | rfl | rfl <;> cases hk
    · exact (hB.grown hg hB.size (fun y e => by cases e; exact hg0))
    · exact absurd (hkl 7 (by simp)) h7
    · exact absurd (hkl 13 (by simp)) (by rw [f13]; simp)
    · have hu : OwnL _ _ _ _ _ _ (valOf e 13) _ := hu
      rw [valOf_some f13] at hu
      show OwnL _ _ _ _ _ _ (valOf e 13) _
      rw [valOf_some f13]
      obtain ⟨css, _, q5⟩ := h1.ex
      exact hu.kept hg (Or.inr (owns_wholeM q5 hz (by decide)))
    · exact absurd (by simp) hi2
    · exact absurd (by simp) hi
    · exact hu
end
end Go.Proofs.YtknphmkblcbabaaGreatDoor
