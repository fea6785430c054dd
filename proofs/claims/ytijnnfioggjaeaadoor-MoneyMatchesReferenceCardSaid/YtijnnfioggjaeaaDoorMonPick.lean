/- The reference's picks of the greatest rest are the ranks of the parts. -/
import Derived.Test.YtijnnfioggjaeaaDoorMonSplitsMath
namespace Go.Proofs.YtijnnfioggjaeaaDoor
open Go.RowKit

def rk (n s : Int) (zs : List Int) (j : Nat) : Nat := Mon.rank (partsTo n s zs zs.length) (partAt n s zs j)
theorem rk_list (n s : Int) (zs : List Int) : ∃ L : List Mon.Part, L.Pairwise Mon.ord ∧ L.length = zs.length ∧ (∀ t, (h : t < L.length) → ∃ j, j < zs.length ∧ L[t] = partAt n s zs j ∧ rk n s zs j = t) ∧ (∀ j, j < zs.length → ∃ t, ∃ h : t < L.length, L[t] = partAt n s zs j ∧ rk n s zs j = t) := by
  obtain ⟨L, hp, hs⟩ := sorted_ex (partsTo n s zs zs.length) (partsTo_idx n s zs zs.length)
  refine ⟨L, hs, by rw [hp.length_eq, partsTo_len], ?_, ?_⟩
  · intro t h
    obtain ⟨j, hj, e⟩ := List.mem_map.1 (hp.subset (List.getElem_mem h))
    refine ⟨j, List.mem_range.1 hj, e.symm, ?_⟩
    unfold rk
    rw [← Mon.rank_perm hp, e]
    exact Mon.rank_at hs t h
  · intro j hj
    have hm : partAt n s zs j ∈ L := hp.symm.subset (List.mem_map.2 ⟨j, List.mem_range.2 hj, rfl⟩)
    obtain ⟨t, h, e⟩ := List.getElem_of_mem hm
    refine ⟨t, h, e, ?_⟩
    unfold rk
    rw [← Mon.rank_perm hp, ← e]
    exact Mon.rank_at hs t h
theorem rk_inj {n s : Int} {zs : List Int} {j k : Nat} (hj : j < zs.length) (hk : k < zs.length) (h : rk n s zs j = rk n s zs k) : j = k := by
  obtain ⟨L, _, _, _, h2⟩ := rk_list n s zs
  obtain ⟨t, ht, e1, e2⟩ := h2 j hj
  obtain ⟨u, hu, e3, e4⟩ := h2 k hk
  have htu : t = u := by omega
  subst htu
  have e5 : partAt n s zs j = partAt n s zs k := e1.symm.trans e3
  have e6 : (partAt n s zs j).i = (partAt n s zs k).i := by rw [e5]
  have e7 : (j : Int) = (k : Int) := e6
  omega
/-- What the reference has left of each rest after t picks, and what it has made of each share. -/
def leftAt (n s : Int) (zs : List Int) (t j : Nat) : Int := if rk n s zs j < t then -1 else (partAt n s zs j).r
def outAt (n s : Int) (zs : List Int) (t j : Nat) : Int := (partAt n s zs j).q + if rk n s zs j < t then 1 else 0
def leftL (n s : Int) (zs : List Int) (t : Nat) : List Int := (List.range zs.length).map (leftAt n s zs t)
def outL (n s : Int) (zs : List Int) (t : Nat) : List Int := (List.range zs.length).map (outAt n s zs t)
theorem leftL_len (n s : Int) (zs : List Int) (t : Nat) : (leftL n s zs t).length = zs.length := by simp [leftL]
theorem outL_len (n s : Int) (zs : List Int) (t : Nat) : (outL n s zs t).length = zs.length := by simp [outL]
theorem leftL_get (n s : Int) (zs : List Int) (t j : Nat) (h : j < (leftL n s zs t).length) : (leftL n s zs t)[j] = leftAt n s zs t j := by simp [leftL]
theorem outL_get (n s : Int) (zs : List Int) (t j : Nat) (h : j < (outL n s zs t).length) : (outL n s zs t)[j] = outAt n s zs t j := by simp [outL]
theorem part_r0 {n s : Int} {zs : List Int} (hs : 0 < s) (j : Nat) : 0 ≤ (partAt n s zs j).r := Int.emod_nonneg _ (by omega)
/-- The first greatest of what is left has the next rank. -/
theorem pick {n s : Int} {zs : List Int} (hs : 0 < s) {t : Nat} (ht : t < zs.length) {b : Nat} (hb : b < zs.length) (hmax : ∀ i, i < zs.length → leftAt n s zs t i ≤ leftAt n s zs t b) (hfirst : ∀ i, i < b → leftAt n s zs t i < leftAt n s zs t b) : rk n s zs b = t := by
  obtain ⟨L, h1, h2, h3, h4⟩ := rk_list n s zs
  obtain ⟨j, hj, e1, e2⟩ := h3 t (by omega)
  obtain ⟨u, hu, e3, e4⟩ := h4 b hb
  have hm := hmax j hj
  have hlj : leftAt n s zs t j = (partAt n s zs j).r := by unfold leftAt; rw [if_neg (by omega)]
  have hr0 := part_r0 (n := n) (zs := zs) hs j
  rw [hlj] at hm
  rcases Nat.lt_trichotomy u t with h | h | h
  · have : leftAt n s zs t b = -1 := by unfold leftAt; rw [if_pos (by omega)]
    omega
  · omega
  · have hlb : leftAt n s zs t b = (partAt n s zs b).r := by unfold leftAt; rw [if_neg (by omega)]
    rw [hlb] at hm
    have ho := List.pairwise_iff_getElem.1 h1 t u (by omega) hu h
    rw [e1, e3] at ho
    rcases ho with ho | ⟨ho, hi⟩
    · omega
    · have hi' : (j : Int) < (b : Int) := hi
      have := hfirst j (by omega)
      rw [hlj, hlb] at this
      omega
theorem leftAt_set {n s : Int} {zs : List Int} {t b : Nat} (hb : b < zs.length) (hr : rk n s zs b = t) : (leftL n s zs t).set b (-1) = leftL n s zs (t + 1) := by
  apply List.ext_getElem (by rw [List.length_set, leftL_len, leftL_len])
  intro j h1 h2
  rw [List.length_set, leftL_len] at h1
  rw [leftL_get, List.getElem_set]
  unfold leftAt
  by_cases hj : b = j
  · subst hj
    rw [if_pos rfl, if_pos (by omega)]
  · rw [if_neg hj, leftL_get]
    unfold leftAt
    have hne : rk n s zs j ≠ t := fun h => hj (rk_inj (n := n) (s := s) hb h1 (by omega))
    by_cases hlt : rk n s zs j < t
    · rw [if_pos hlt, if_pos (by omega)]
    · rw [if_neg hlt, if_neg (by omega)]
theorem outAt_set {n s : Int} {zs : List Int} {t b : Nat} (hb : b < zs.length) (hr : rk n s zs b = t) : (outL n s zs t).set b (outAt n s zs t b + 1) = outL n s zs (t + 1) := by
  apply List.ext_getElem (by rw [List.length_set, outL_len, outL_len])
  intro j h1 h2
  rw [List.length_set, outL_len] at h1
  rw [outL_get, List.getElem_set]
  by_cases hj : b = j
  · subst hj
    rw [if_pos rfl]
    unfold outAt
    rw [if_neg (by omega), if_pos (by omega)]
    omega
  · rw [if_neg hj, outL_get]
    unfold outAt
    have hne : rk n s zs j ≠ t := fun h => hj (rk_inj (n := n) (s := s) hb h1 (by omega))
    by_cases hlt : rk n s zs j < t
    · rw [if_pos hlt, if_pos (by omega)]
    · rw [if_neg hlt, if_neg (by omega)]
theorem outL_done (n s : Int) (zs : List Int) (t : Nat) (ht : (t : Int) = left n s zs) : outL n s zs t = shares n s zs := by
  apply List.ext_getElem (by rw [outL_len, shares_len])
  intro j h1 h2
  rw [outL_len] at h1
  have e := shares_get (n := n) (s := s) h1
  rw [List.getElem?_eq_getElem h2] at e
  rw [outL_get, Option.some.inj e]
  unfold outAt shareAt Mon.fin
  congr 1
  have : (rk n s zs j < t) ↔ ((Mon.rank (partsTo n s zs zs.length) (partAt n s zs j) : Nat) : Int) < left n s zs := by
    unfold rk; omega
  by_cases h : rk n s zs j < t
  · rw [if_pos h, if_pos (this.1 h)]
  · rw [if_neg h, if_neg (fun hh => h (this.2 hh))]
theorem outL_zero (n s : Int) (zs : List Int) : outL n s zs 0 = (List.range zs.length).map fun j => (partAt n s zs j).q := by
  unfold outL
  refine List.map_congr_left fun j _ => ?_
  unfold outAt
  rw [if_neg (by omega), Int.add_zero]
theorem leftL_zero (n s : Int) (zs : List Int) : leftL n s zs 0 = (List.range zs.length).map fun j => (partAt n s zs j).r := by
  unfold leftL
  refine List.map_congr_left fun j _ => ?_
  unfold leftAt
  rw [if_neg (by omega)]
theorem left_len {n s : Int} {zs : List Int} (hs : s = zs.sum) (hpos : 0 < s) : 0 ≤ left n s zs ∧ left n s zs ≤ zs.length := by
  have h := left_bd (n := n) hs hpos
  have h2 : ((partsTo n s zs zs.length).countP fun p => decide (0 < p.r)) ≤ (partsTo n s zs zs.length).length := List.countP_le_length
  rw [partsTo_len] at h2
  omega

end Go.Proofs.YtijnnfioggjaeaaDoor
