/- The reference's states of work: their mathematics. -/
import Derived.Test.YtejgbfaampllaaaTskDone
namespace Go.Proofs.Ytejgbfaampllaaa.Tsk

def doneOf (n : Nat) (ord : List Nat) : List Bool := (List.range n).map fun i => decide (i ∈ ord)
theorem doneOf_len (n : Nat) (ord : List Nat) : (doneOf n ord).length = n := by simp [doneOf]
theorem dn_doneOf {n : Nat} {ord : List Nat} {i : Nat} (h : i < n) : dn (doneOf n ord) i = decide (i ∈ ord) := by
  rw [dn_get (by rw [doneOf_len]; exact h)]
  simp [doneOf]
theorem doneOf_nil (n : Nat) : doneOf n [] = List.replicate n false := by
  apply List.ext_getElem
  · simp [doneOf]
  · intro i h1 h2
    simp [doneOf]
theorem doneOf_set {n : Nat} {ord : List Nat} {k : Nat} : (doneOf n ord).set k true = doneOf n (ord ++ [k]) := by
  apply List.ext_getElem
  · simp [doneOf]
  · intro i h1 h2
    simp only [doneOf, List.getElem_set, List.getElem_map, List.getElem_range]
    by_cases e : k = i
    · subst e; simp
    · rw [if_neg e]
      have : (i ∈ ord ++ [k]) ↔ i ∈ ord := by
        simp only [List.mem_append, List.mem_singleton]
        exact ⟨fun h => h.elim id (fun hh => absurd hh.symm e), Or.inl⟩
      simp only [this]
theorem needsAt_lt {l : List Tk} (hv : validB l = true) {i : Nat} : ∀ j ∈ needsAt l i, j < l.length := by
  unfold needsAt
  cases h : l[i]? with
  | none => intro j hj; cases hj
  | some t => exact needs_lt ((validB_iff.1 hv).2 t (List.mem_of_getElem? h))
theorem rd_doneOf {l : List Tk} (hv : validB l = true) {ord : List Nat} {i : Nat} (hi : i < l.length) : rdB l (doneOf l.length ord) i = readyB l ord i := by
  unfold rdB readyB needsDone
  rw [dn_doneOf hi]
  have e : (needsAt l i).all (dn (doneOf l.length ord)) = (needsAt l i).all fun j => ord.contains j := by
    rw [Bool.eq_iff_iff, List.all_eq_true, List.all_eq_true]
    constructor
    · intro h j hj
      have := h j hj
      rw [dn_doneOf (needsAt_lt hv j hj)] at this
      simpa using this
    · intro h j hj
      rw [dn_doneOf (needsAt_lt hv j hj)]
      simpa using h j hj
  rw [e]
  congr 1
  by_cases h : i ∈ ord <;> simp [h]
/-- The least that is ready, of those that were looked at. -/
def NextP (l : List Tk) (ord : List Nat) (n k : Nat) (z : Int) : Prop :=
  (z = -1 ∧ ∀ q, k ≤ q → q < n → readyB l ord q = false) ∨ (∃ x : Nat, z = x ∧ k ≤ x ∧ x < n ∧ readyB l ord x = true ∧ ∀ q, k ≤ q → q < x → readyB l ord q = false)
theorem NextP.start (l : List Tk) (ord : List Nat) (n : Nat) : NextP l ord n n (-1) := Or.inl ⟨rfl, fun q h1 h2 => by omega⟩
theorem NextP.no {l : List Tk} {ord : List Nat} {n k : Nat} {z : Int} (h : NextP l ord n (k + 1) z) (hr : readyB l ord k = false) : NextP l ord n k z := by
  rcases h with ⟨h1, h2⟩ | ⟨x, h1, h2, h3, h4, h5⟩
  · refine Or.inl ⟨h1, fun q h3 h4 => ?_⟩
    by_cases e : q = k
    · subst e; exact hr
    · exact h2 q (by omega) h4
  · refine Or.inr ⟨x, h1, by omega, h3, h4, fun q h6 h7 => ?_⟩
    by_cases e : q = k
    · subst e; exact hr
    · exact h5 q (by omega) h7
theorem NextP.yes {l : List Tk} {ord : List Nat} {n k : Nat} (hk : k < n) (hr : readyB l ord k = true) : NextP l ord n k k :=
  Or.inr ⟨k, rfl, Nat.le_refl _, hk, hr, fun q h1 h2 => by omega⟩
theorem NextP.ends {l : List Tk} {ord : List Nat} {z : Int} (h : NextP l ord l.length 0 z) : (z = -1 ∧ nextT l ord = none) ∨ ∃ x : Nat, z = x ∧ x < l.length ∧ nextT l ord = some x := by
  rcases h with ⟨h1, h2⟩ | ⟨x, h1, _, h3, h4, h5⟩
  · exact Or.inl ⟨h1, nextT_none fun q hq => h2 q (by omega) hq⟩
  · exact Or.inr ⟨x, h1, h3, nextT_some h3 h4 fun q hq => h5 q (by omega) hq⟩

end Go.Proofs.Ytejgbfaampllaaa.Tsk
