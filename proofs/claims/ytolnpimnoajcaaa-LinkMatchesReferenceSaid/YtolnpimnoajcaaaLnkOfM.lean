/- The sets as the laws see them: in order, each index once. -/
import Derived.Test.YtolnpimnoajcaaaLnkGrp
namespace Go.Proofs.Ytolnpimnoajcaaa
open Go.RowKit
namespace Lnk
variable {r : Nat → Nat} {n : Nat}
/-- The number of an index's set, from 1. -/
def num (r : Nat → Nat) (n x : Nat) : Nat := match at? r n (r x) with | some t => t + 1 | none => 0
theorem num_ex {x : Nat} (hx : x < n) : ∃ t, at? r n (r x) = some t ∧ t < (groups r n).length ∧ num r n x = t + 1 := by
  cases h : at? r n (r x) with
  | none => exact absurd rfl (at_none.1 h x hx)
  | some t =>
    obtain ⟨h1, _⟩ := at_some h
    exact ⟨t, rfl, by rw [groups_len]; exact h1, by unfold num; rw [h]⟩
theorem at_of {x t : Nat} (ht : t < (reps r n).length) (h : r (reps r n)[t] = r x) (hx : x < n) : at? r n (r x) = some t := by
  obtain ⟨s, h1, h2, _⟩ := num_ex (r := r) hx
  obtain ⟨h3, h4⟩ := at_some h1
  have : (reps r n)[s] = (reps r n)[t] := reps_inj (List.getElem_mem h3) (List.getElem_mem ht) (h4.trans h.symm)
  have hst : s = t := by
    have hp := List.pairwise_iff_getElem.1 (reps_nodup r n)
    rcases Nat.lt_trichotomy s t with hh | hh | hh
    · exact absurd this (hp s t h3 ht hh)
    · exact hh
    · exact absurd this.symm (hp t s ht h3 hh)
  rw [h1, hst]
theorem group_mem {t x : Nat} (ht : t < (groups r n).length) : x ∈ (groups r n)[t] ↔ x < n ∧ at? r n (r x) = some t := by
  have ht' : t < (reps r n).length := by rw [← groups_len]; exact ht
  rw [groups_get ht', List.mem_filter, List.mem_range]
  constructor
  · rintro ⟨h1, h2⟩
    exact ⟨h1, at_of ht' (by simpa using (by simpa using h2 : r x = r (reps r n)[t]).symm) h1⟩
  · rintro ⟨h1, h2⟩
    obtain ⟨h3, h4⟩ := at_some h2
    exact ⟨h1, by simp [h4]⟩
theorem range_sorted (n : Nat) : (List.range n).Pairwise (· < ·) := List.pairwise_lt_range
theorem group_sorted {t : Nat} (ht : t < (groups r n).length) : (groups r n)[t].Pairwise (· < ·) := by
  rw [groups_get (by rw [← groups_len]; exact ht)]
  exact (range_sorted n).sublist List.filter_sublist
theorem reps_sorted (r : Nat → Nat) (n : Nat) : (reps r n).Pairwise (· < ·) := (range_sorted n).sublist List.filter_sublist
theorem rep_mem {t : Nat} (ht : t < (groups r n).length) : (reps r n)[t]'(by rw [← groups_len]; exact ht) ∈ (groups r n)[t] := by
  have ht' : t < (reps r n).length := by rw [← groups_len]; exact ht
  rw [groups_get ht', List.mem_filter, List.mem_range]
  exact ⟨reps_lt (List.getElem_mem ht'), by simp⟩
theorem group_pos {t : Nat} (ht : t < (groups r n).length) : 0 < (groups r n)[t].length := List.length_pos_of_mem (rep_mem ht)
theorem group_head {t : Nat} (ht : t < (groups r n).length) : (groups r n)[t][0]'(group_pos ht) = (reps r n)[t]'(by rw [← groups_len]; exact ht) := by
  have ht' : t < (reps r n).length := by rw [← groups_len]; exact ht
  have h1 := rep_mem ht
  obtain ⟨j, hj, e⟩ := List.getElem_of_mem h1
  have hs := List.pairwise_iff_getElem.1 (group_sorted ht)
  have h0 : (groups r n)[t][0]'(group_pos ht) ∈ (groups r n)[t] := List.getElem_mem _
  rcases Nat.eq_zero_or_pos j with rfl | hj0
  · exact e
  · have h2 := hs 0 j (group_pos ht) hj hj0
    rw [e] at h2
    have h3 := (group_mem ht).1 h0
    obtain ⟨h4, h5⟩ := at_some h3.2
    exact absurd h5.symm ((reps_mem.1 (List.getElem_mem ht')).2 _ h2)
theorem head_lt {s t : Nat} (h : s < t) (ht : t < (groups r n).length) : (groups r n)[s][0]'(group_pos (by omega)) < (groups r n)[t][0]'(group_pos ht) := by
  have hs : s < (groups r n).length := by omega
  rw [group_head hs, group_head ht]
  exact List.pairwise_iff_getElem.1 (reps_sorted r n) s t _ _ h
theorem sum_set (k : Nat) : ∀ (l : List (List Nat)) (t : Nat) (h : t < l.length), ((l.set t (l[t] ++ [k])).map List.length).sum = (l.map List.length).sum + 1
  | [], t, h => by simp at h
  | g :: l, 0, _ => by simp; omega
  | g :: l, t + 1, h => by
    have := sum_set k l t (by simpa using h)
    simp only [List.set_cons_succ, List.map_cons, List.sum_cons, List.getElem_cons_succ]
    omega
/-- Each index is in one set. -/
theorem groups_sum (r : Nat → Nat) : ∀ n, ((groups r n).map List.length).sum = n
  | 0 => by simp [groups, reps]
  | n + 1 => by
    have ih := groups_sum r n
    cases h : at? r n (r n) with
    | none => rw [groups_new h, List.map_append, List.sum_append, ih]; simp
    | some t =>
      obtain ⟨h1, _⟩ := at_some h
      have h2 : t < (groups r n).length := by rw [groups_len]; exact h1
      rw [groups_old h h2, sum_set n _ t h2, ih]
/-- What has been written down of the numbers when some sets are done, and of the next one some indices. -/
def seenF (r : Nat → Nat) (n i k x : Nat) : Nat := match at? r n (r x) with
  | some t => if t < i then t + 1 else if t = i then (if x ∈ ((groups r n)[i]?.getD []).take k then t + 1 else 0) else 0
  | none => 0
theorem seen_start (x : Nat) : seenF r n 0 0 x = 0 := by
  unfold seenF
  cases at? r n (r x) with
  | none => rfl
  | some t => simp
theorem seen_next {i x : Nat} (hi : i < (groups r n).length) (hx : x < n) : seenF r n (i + 1) 0 x = seenF r n i (groups r n)[i].length x := by
  obtain ⟨t, h1, _, _⟩ := num_ex (r := r) hx
  unfold seenF
  rw [h1]
  rw [List.getElem?_eq_getElem hi]
  simp only [Option.getD_some, List.take_length, List.take_zero]
  by_cases h2 : t < i
  · rw [if_pos (by omega), if_pos h2]
  · by_cases h3 : t = i
    · subst h3
      rw [if_pos (by omega), if_neg h2, if_pos rfl, if_pos ((group_mem hi).2 ⟨hx, h1⟩)]
    · rw [if_neg (by omega), if_neg h2, if_neg h3]
      split <;> simp
theorem seen_end {x : Nat} (hx : x < n) : seenF r n (groups r n).length 0 x = num r n x := by
  obtain ⟨t, h1, h2, h3⟩ := num_ex (r := r) hx
  unfold seenF
  rw [h1, h3]
  dsimp only
  rw [if_pos h2]
/-- The next index of a set was not yet written down. -/
theorem seen_new {i k : Nat} (hi : i < (groups r n).length) (hk : k < (groups r n)[i].length) : seenF r n i k (groups r n)[i][k] = 0 := by
  have hm := (group_mem hi).1 (List.getElem_mem hk)
  unfold seenF
  rw [hm.2]
  dsimp only
  rw [if_neg (by omega), if_pos rfl, List.getElem?_eq_getElem hi, Option.getD_some, if_neg]
  intro h
  obtain ⟨j, hj, e⟩ := List.getElem_of_mem h
  have hj' : j < k := by rw [List.length_take] at hj; omega
  rw [List.getElem_take] at e
  have := List.pairwise_iff_getElem.1 (group_sorted hi) j k (by omega) hk hj'
  omega
theorem seen_more {i k : Nat} (hi : i < (groups r n).length) (hk : k < (groups r n)[i].length) (x : Nat) : seenF r n i (k + 1) x = if x = (groups r n)[i][k] then i + 1 else seenF r n i k x := by
  have hm := (group_mem hi).1 (List.getElem_mem hk)
  by_cases e : x = (groups r n)[i][k]
  · rw [if_pos e]
    unfold seenF
    rw [e, hm.2]
    dsimp only
    rw [if_neg (by omega), if_pos rfl, List.getElem?_eq_getElem hi, Option.getD_some, if_pos]
    rw [List.mem_take_iff_getElem]
    exact ⟨k, by omega, rfl⟩
  · rw [if_neg e]
    unfold seenF
    cases at? r n (r x) with
    | none => rfl
    | some t =>
      dsimp only
      rw [List.getElem?_eq_getElem hi, Option.getD_some, List.take_add_one, List.getElem?_eq_getElem hk]
      have : (x ∈ (groups r n)[i].take k ++ (some (groups r n)[i][k]).toList) ↔ x ∈ (groups r n)[i].take k := by rw [List.mem_append]; simp only [Option.toList_some, List.mem_singleton, e, or_false]
      simp only [this]
end Lnk
end Go.Proofs.Ytolnpimnoajcaaa
