/- The sets of the indices with one root: one index more. -/
import Derived.Test.YtolnpimnoajcaaaLnkSets
namespace Go.Proofs.Ytolnpimnoajcaaa
open Go.RowKit
namespace Lnk
variable {r : Nat → Nat} {k : Nat}
/-- At which place is the set with a root. -/
def at? (r : Nat → Nat) (k x : Nat) : Option Nat := (reps r k).findIdx? fun i => r i == x
def isNew (r : Nat → Nat) (k : Nat) : Bool := (List.range k).all fun j => r j != r k
theorem reps_succ (r : Nat → Nat) (k : Nat) : reps r (k + 1) = reps r k ++ (if isNew r k then [k] else []) := by
  unfold reps isNew
  rw [List.range_succ, List.filter_append]
  congr 1
  by_cases h : ((List.range k).all fun j => r j != r k) = true
  · rw [if_pos h, List.filter_cons, if_pos h]; rfl
  · rw [if_neg h, List.filter_cons, if_neg h]; rfl
theorem reps_lt {i : Nat} (h : i ∈ reps r k) : i < k := by
  unfold reps at h
  simpa using (List.mem_filter.1 h).1
theorem reps_mem {i : Nat} : i ∈ reps r k ↔ i < k ∧ ∀ j, j < i → r j ≠ r i := by
  unfold reps
  rw [List.mem_filter]
  simp
/-- Each index has a first one with its root. -/
theorem reps_ex (r : Nat → Nat) (k : Nat) : ∀ i, i < k → ∃ j, j ∈ reps r k ∧ j ≤ i ∧ r j = r i := by
  intro i
  induction i using Nat.strongRecOn with
  | ind i ih =>
    intro hi
    by_cases h : ∀ j, j < i → r j ≠ r i
    · exact ⟨i, reps_mem.2 ⟨hi, h⟩, Nat.le_refl _, rfl⟩
    · have : ∃ j, j < i ∧ r j = r i := by
        apply Classical.byContradiction
        intro hc
        exact h fun j hj e => hc ⟨j, hj, e⟩
      obtain ⟨j, hj, e⟩ := this
      obtain ⟨m, h1, h2, h3⟩ := ih j hj (by omega)
      exact ⟨m, h1, by omega, h3.trans e⟩
theorem reps_inj {i j : Nat} (hi : i ∈ reps r k) (hj : j ∈ reps r k) (e : r i = r j) : i = j := by
  have h1 := (reps_mem.1 hi).2
  have h2 := (reps_mem.1 hj).2
  rcases Nat.lt_trichotomy i j with h | h | h
  · exact absurd e (h2 i h)
  · exact h
  · exact absurd e.symm (h1 j h)
theorem reps_nodup (r : Nat → Nat) (k : Nat) : (reps r k).Nodup := List.Nodup.sublist List.filter_sublist List.nodup_range
theorem isNew_iff : isNew r k = true ↔ ∀ j, j < k → r j ≠ r k := by unfold isNew; simp
theorem at_none {x : Nat} : at? r k x = none ↔ ∀ j, j < k → r j ≠ x := by
  unfold at?
  rw [List.findIdx?_eq_none_iff]
  constructor
  · intro h j hj e
    obtain ⟨m, h1, _, h3⟩ := reps_ex r k j hj
    have := h m h1
    simp at this
    exact this (h3.trans e)
  · intro h i hi
    have := h i (reps_lt hi)
    simpa using this
theorem at_some {x t : Nat} (h : at? r k x = some t) : ∃ h : t < (reps r k).length, r (reps r k)[t] = x := by
  unfold at? at h
  rw [List.findIdx?_eq_some_iff_getElem] at h
  obtain ⟨h1, h2, _⟩ := h
  exact ⟨h1, by simpa using h2⟩
theorem new_of_none (h : at? r k (r k) = none) : isNew r k = true := isNew_iff.2 (at_none.1 h)
theorem old_of_some {t : Nat} (h : at? r k (r k) = some t) : isNew r k = false := by
  cases hx : isNew r k with
  | false => rfl
  | true => rw [at_none.2 (isNew_iff.1 hx)] at h; cases h
/-- Where the roots' places go on. -/
theorem at_next_old {t : Nat} (h : at? r k (r k) = some t) (x : Nat) : at? r (k + 1) x = at? r k x := by
  unfold at?
  rw [reps_succ, old_of_some h]; simp
theorem at_next_new (h : at? r k (r k) = none) (x : Nat) : at? r (k + 1) x = if x = r k then some (reps r k).length else at? r k x := by
  by_cases e : x = r k
  · subst e
    rw [if_pos rfl]
    have h' := h
    unfold at? at h ⊢
    rw [reps_succ, new_of_none h', if_pos rfl, List.findIdx?_append, h]
    simp
  · rw [if_neg e]
    have h' := h
    unfold at?
    rw [reps_succ, new_of_none h', if_pos rfl, List.findIdx?_append]
    have : ([k] : List Nat).findIdx? (fun i => r i == x) = none := by
      have : (r k == x) = false := by simpa using fun e2 => e e2.symm
      simp [this]
    rw [this]
    cases List.findIdx? (fun i => r i == x) (reps r k) <;> rfl
theorem groups_len (r : Nat → Nat) (k : Nat) : (groups r k).length = (reps r k).length := by unfold groups; simp
theorem groups_get {t : Nat} (h : t < (reps r k).length) : (groups r k)[t]'(by rw [groups_len]; exact h) = (List.range k).filter fun j => r j == r (reps r k)[t] := by
  unfold groups; simp
theorem reps_len (r : Nat → Nat) (k : Nat) : (reps r k).length ≤ k := by
  unfold reps
  exact Nat.le_trans (List.length_filter_le _ _) (by simp)
theorem group_len {g : List Nat} (h : g ∈ groups r k) : g.length ≤ k := by
  unfold groups at h
  obtain ⟨i, _, rfl⟩ := List.mem_map.1 h
  exact Nat.le_trans (List.length_filter_le _ _) (by simp)
/-- A set more. -/
theorem groups_new (h : at? r k (r k) = none) : groups r (k + 1) = groups r k ++ [[k]] := by
  have hn := at_none.1 h
  unfold groups
  rw [reps_succ, new_of_none h, if_pos rfl, List.map_append]
  congr 1
  · refine List.map_congr_left fun i hi => ?_
    rw [List.range_succ, List.filter_append]
    have : (r k == r i) = false := by have := hn i (reps_lt hi); simpa using fun e => this e.symm
    simp [this]
  · simp only [List.map_cons, List.map_nil, List.range_succ, List.filter_append]
    have : (List.range k).filter (fun j => r j == r k) = [] := by
      rw [List.filter_eq_nil_iff]
      intro j hj
      have := hn j (by simpa using hj)
      simpa using this
    rw [this]; simp
/-- An index more in a set. -/
theorem groups_old {t : Nat} (h : at? r k (r k) = some t) (hl : t < (groups r k).length) : groups r (k + 1) = (groups r k).set t ((groups r k)[t] ++ [k]) := by
  obtain ⟨h1, h2⟩ := at_some h
  apply List.ext_getElem
  · rw [List.length_set, groups_len, groups_len, reps_succ, old_of_some h]; simp
  · intro j hj hj2
    have hj3 : j < (reps r k).length := by rw [List.length_set, groups_len] at hj2; exact hj2
    have hj4 : j < (reps r (k + 1)).length := by rw [groups_len] at hj; exact hj
    have e : (reps r (k + 1))[j] = (reps r k)[j] := by
      have : reps r (k + 1) = reps r k := by rw [reps_succ, old_of_some h]; simp
      simp [this]
    rw [groups_get hj4, e, List.getElem_set, List.range_succ, List.filter_append]
    by_cases et : t = j
    · subst et
      rw [if_pos rfl, groups_get h1, h2]; simp
    · rw [if_neg et, groups_get hj3]
      have : (r k == r (reps r k)[j]) = false := by
        have : r k ≠ r (reps r k)[j] := fun e2 => by
          have := reps_inj (List.getElem_mem h1) (List.getElem_mem hj3) (h2.trans e2)
          have hp := List.pairwise_iff_getElem.1 (reps_nodup r k)
          rcases Nat.lt_or_gt_of_ne et with h | h
          · exact hp t j h1 hj3 h this
          · exact hp j t hj3 h1 h this.symm
        simpa using this
      simp [this]
end Lnk
end Go.Proofs.Ytolnpimnoajcaaa
